import Derived.Test.YthdemjfllfhhpaaFnValueBesideLa
import Derived.Test.YthdemjfllfhhpaaRankV
import Derived.Test.YthdemjfllfhhpaaOrdDet
import Derived.Test.YthdemjfllfhhpaaBar
import Derived.Test.YthdemjfllfhhpaaTurnSpec
import Derived.Test.YthdemjfllfhhpaaSwapped
import Derived.Test.YthdemjfllfhhpaaL2Square
import Derived.Test.YthdemjfllfhhpaaDet
import Derived.Test.YthdemjfllfhhpaaSeek
import Derived.Test.YthdemjfllfhhpaaSig
import Derived.Test.YthdemjfllfhhpaaLSum
import Derived.RangeFuncFrom
import Derived.Test.YthdemjfllfhhpaaSquareV
import Derived.Maps.AppendAt
import Derived.Deep.RegionHeld3
import Derived.Test.YthdemjfllfhhpaaRows
import Derived.Test.YthdemjfllfhhpaaData
import Derived.ProofKit
import Derived.Deep.Matrix
import Derived.Test.YthdemjfllfhhpaaDraw0

section
namespace Go.Proofs.Ythdemjfllfhhpaa
open Go.RowKit Go.Deep Go.Shelf

attribute [local go_sem] Oper.semAt_some

def hasR (l : List (List Int)) (k M2 : Nat) (r : Nat) : Bool := (setsTo k M2).any fun c => decide (dt k (at2 (partL l r c)) ≠ 0)
def hasB (l : List (List Int)) (k M1 M2 : Nat) : Bool := (setsTo k M1).any (hasR l k M2)
theorem hasB_yes {l : List (List Int)} {k n m : Nat} {x : Nat × Nat} (hx : x ∈ partsK k n m) (h : mnP l x ≠ 0) : hasB l k (2 ^ n) (2 ^ m) = true := by
  obtain ⟨⟨g1, g2⟩, g3⟩ := partsK_mem.1 hx
  refine List.any_eq_true.2 ⟨x.1, (setsTo_mem k).2 ⟨g1, g2⟩, List.any_eq_true.2 ⟨x.2, (setsTo_mem k).2 g3, ?_⟩⟩
  unfold mnP at h
  rw [g2] at h
  simpa using h
theorem hasB_no {l : List (List Int)} {k n m : Nat} (h : ∀ x ∈ partsK k n m, mnP l x = 0) : hasB l k (2 ^ n) (2 ^ m) = false := by
  cases e : hasB l k (2 ^ n) (2 ^ m) with
  | false => rfl
  | true =>
    obtain ⟨r, hr, e2⟩ := List.any_eq_true.1 e
    obtain ⟨c, hc, e3⟩ := List.any_eq_true.1 e2
    have g1 := (setsTo_mem k).1 hr
    have g2 := (setsTo_mem k).1 hc
    have := h (r, c) (partsK_mem.2 ⟨g1, g2⟩)
    unfold mnP at this
    rw [show popcS (r, c).1 = k from g1.2] at this
    exact absurd this (of_decide_eq_true e3)

theorem oldT_since {w W : World} (h : w.Since w.heap.size W) : OldT w.heap.size w W := fun k hk => h.block k hk
theorem grownSH {w w' : World} (h : w.Since w.heap.size w') : w.grownBy w' none := ⟨h.os, h.tape, h.output, h.size, fun k hk _ => h.block k hk⟩
structure HS (w : World) (tv : Value) (W : World) : Prop where
  bt : Boxed W w.heap.size 48 tv
  br : Boxed W (w.heap.size + 1) 4 (.bool false)
  sn : w.Since w.heap.size W
theorem since_row {lo : Nat} {w W W' : World} {row : Option Nat} (h : w.Since lo W) (hlo : lo ≤ w.heap.size) (hg : W.grownBy W' row) (hr : ∀ r, row = some r → lo ≤ r) : w.Since lo W' :=
  ⟨hg.os.trans h.os, hg.tape.trans h.tape, hg.output.trans h.output, Nat.le_trans h.size hg.size, fun k hk => (hg.block k (by have := h.size; omega) (fun e => by have := hr k e.symm; omega)).trans (h.block k hk)⟩
theorem HS.kept {w W W' : World} {tv : Value} {row : Option Nat} (h : HS w tv W) (hg : W.grownBy W' row) (hr : ∀ r, row = some r → w.heap.size + 2 ≤ r) : HS w tv W' :=
  ⟨h.bt.kept hg (fun e => by have := hr _ e.symm; omega), h.br.kept hg (fun e => by have := hr _ e.symm; omega), since_row h.sn (Nat.le_refl _) hg (fun r e => by have := hr r e; omega)⟩

set_option maxRecDepth 100000 in
set_option maxHeartbeats 2000000 in
theorem hasMinor_any (a : Option Addr) (cap n m k : Nat) (l : List (List Int)) (w : World) (hn : l.length = n) (hmm : (l.getD 0 []).length = m) (hT : TabIn l) (hm : MatR w a l) :
    Calls Try.prog 105 #[.slice a n cap, .int .i64 k] w fun e w' => e = .returned (.bool (hasB l k (2 ^ n) (2 ^ m))) ∧ w.Since w.heap.size w' := by
  have HSEQ := Lib.hid (fun (g : Nat) (hg : 12 ≤ g) (Bt' Bk' : Nat) (V : World) => kth_seqE g hg Bt' Bk' n m cap k a l w V hn hT hmm hm)
  have EM := Lib.hid (fun (x : Nat × Nat) (hx : x ∈ partsK k n m) (V : World) (h : w.Since w.heap.size V) => minor_any a cap n m x.1 x.2 l V hn hmm hT (partsK_mem.1 hx).1.1 (partsK_mem.1 hx).2.1 ((partsK_mem.1 hx).1.2.trans (partsK_mem.1 hx).2.2.symm) (hm.since h))
  clear hn hmm hT hm
  refine (callsIn_wide (n := 20)).1 ?_
  refine callsIn_of_wp_marks Try.func105 rfl trivial ?_ rfl
  simp only [Try.ntmps105, List.size_toArray, List.length_cons, List.length_nil, Nat.reduceAdd, Nat.reduceSub, Array.replicate_succ, Array.replicate_zero, List.push_toArray, List.append_toArray, List.nil_append, List.cons_append]
  gi_wp2_with (refine ⟨trivial, ?_⟩; gi_at_call 119; refine (kthParts_in _ _ _ _ _ _).mono ?_; rintro e w' ⟨rfl, rfl⟩)
  have hb0 := Boxed.new w 48 (.slice a n cap)
  have hr0 := Boxed.new (w.alloc (.cells #[.slice a n cap] 48)) 4 (.bool false)
  rw [World.size_alloc] at hr0
  have hS0 : HS w (.slice a n cap) ((w.alloc (.cells #[.slice a n cap] 48)).alloc (.cells #[.bool false] 4)) := ⟨hb0.alloc _, hr0, ((World.Since.refl _ w).alloc (Nat.le_refl _) _).alloc (by simp) _⟩
  obtain ⟨w2, hw2⟩ : ∃ W, (w.alloc (.cells #[.slice a n cap] 48)).alloc (.cells #[.bool false] 4) = W := ⟨_, rfl⟩
  have z2 : w2.heap.size = w.heap.size + 1 + 1 := by rw [← hw2]; simp
  rw [hw2] at hS0 ⊢
  clear hw2 hb0 hr0
  have bt := cell_alloc_l (.cells #[.int .i64 (k : Int)] 3) (cell_new_l w2 (.slice a n cap) 48).1
  have bk := (cell_new_l (w2.alloc (.cells #[.slice a n cap] 48)) (.int .i64 (k : Int)) 3).1
  have hg := (World.grownBy_alloc w2 (.cells #[.slice a n cap] 48) none).trans (World.grownBy_alloc _ (.cells #[.int .i64 (k : Int)] 3) none)
  have hS1 := hS0.kept hg (fun r e => by cases e)
  have zV : ((w2.alloc (.cells #[.slice a n cap] 48)).alloc (.cells #[.int .i64 (k : Int)] 3)).heap.size = w.heap.size + 4 := by simp [z2]
  simp only [World.size_alloc] at bk
  rw [z2] at bt bk
  obtain ⟨V, hV⟩ : ∃ V, (w2.alloc (.cells #[.slice a n cap] 48)).alloc (.cells #[.int .i64 (k : Int)] 3) = V := ⟨_, rfl⟩
  rw [hV] at bt bk hS1 zV ⊢
  clear hV hS0 hg z2
  refine rangeF (F := Fence.wide) (n := 20) rfl (by omega) (gf := 129) (lb := #[.pointer (some ⟨w.heap.size + 1 + 1, 0, none⟩), .pointer (some ⟨w.heap.size + 1 + 1 + 1, 0, none⟩)]) rfl trivial (enters_of Try.func129 (by kernel_rfl) rfl)
    (HSEQ.out 19 (by omega) (w.heap.size + 1 + 1) (w.heap.size + 1 + 1 + 1) V (oldT_since hS1.sn) (by omega) (by omega) (by omega) bt bk) (fun _ => rfl) (fun q => q = w.heap.size + 1) (fun q hq => ⟨by omega, by omega⟩) (fun q hq => by omega)
    (fun (ps : List (Nat × Nat)) X => (HS w (.slice a n cap) X ∧ V.heap.size ≤ X.heap.size) ∧ ∀ x ∈ ps, mnP l x = 0)
    (fun c _ X => c = .ret ∧ Boxed X (w.heap.size + 1) 4 (.bool true) ∧ w.Since w.heap.size X ∧ hasB l k (2 ^ n) (2 ^ m) = true)
    (fun ps X Y row hs hg hr => ⟨⟨hs.1.1.kept hg (fun r e => by have := hr r e; omega), Nat.le_trans hs.1.2 hg.size⟩, hs.2⟩)
    (fun c ps X Y row hs hg hr => ⟨hs.1, hs.2.1.kept hg (fun e => by have := hr _ e.symm; omega), since_row hs.2.2.1 (Nat.le_refl _) hg (fun r e => by have := hr r e; omega), hs.2.2.2⟩)
    ⟨⟨hS1, Nat.le_refl _⟩, fun x hx => by cases hx⟩
    (fun x a'' _ => a'' = { tmps := #[.slice a n cap, .int .i64 k, .pointer (some ⟨w.heap.size, 0, none⟩), undef, .pointer (some ⟨w.heap.size + 1, 0, none⟩), .int .i64 (x.1 : Int), .int .i64 (x.2 : Int), .slice a n cap, .int .i64 k, .func (.func 129) #[] #[.pointer (some ⟨w.heap.size + 1 + 1, 0, none⟩), .pointer (some ⟨w.heap.size + 1 + 1 + 1, 0, none⟩)], .int .i64 (x.1 : Int), .int .i64 (x.2 : Int), undef, undef, undef, undef, undef], defers := [] })
    (fun _ _ _ _ _ _ hA _ _ => hA)
    ?assign ?body ?done ?stop
  case assign =>
    rintro lq ps x Y K _ hi _ hK
    simp only [encP]
    gi_wp2
    exact hK _ _ (Keeps.refl _ _) hi rfl
  case body =>
    rintro lq ps x a'' Y hlq hzY _ ⟨⟨hS, hz⟩, hp⟩ hpx rfl hlen
    have cT := hS.bt.cell
    have E := Lib.hid (EM.out x hpx Y hS.sn)
    have HSS := Lib.hid hS
    have HY := Lib.hid (show mnP l x ≠ 0 → hasB l k (2 ^ n) (2 ^ m) = true from fun h => hasB_yes hpx h)
    have HP := Lib.hid hp
    clear hS hp hpx
    obtain ⟨x1, x2⟩ := x
    simp only at E HY ⊢
    obtain ⟨v, hv⟩ : ∃ v, mnP l (x1, x2) = v := ⟨_, rfl⟩
    rw [hv] at E HY
    have HV := Lib.hid hv
    clear hv
    by_cases hv0 : v = 0
    · have hvb : (v != 0) = false := by simp [hv0]
      gi_wp2_with (refine ⟨trivial, ?_⟩; gi_at_call 60; refine (CallsIn.inRound lq (callsIn_wide.2 E.out)).mono ?_; rintro e Z ⟨rfl, hs2⟩; have HS2 := Lib.hid hs2; clear hs2)
      have hg := grownSH HS2.out
      exact ⟨Keeps.grown hg (fun r e => by cases e), ⟨HSS.out.kept hg (fun r e => by cases e), by have := hg.size; omega⟩, fun p hp => by
        rcases List.mem_append.1 hp with h | h
        · exact HP.out _ h
        · simp only [List.mem_singleton] at h
          rw [h, HV.out, hv0]⟩
    · have hvb : (v != 0) = true := by simp [hv0]
      gi_wp2_with (refine ⟨trivial, ?_⟩; gi_at_call 60; refine (CallsIn.inRound lq (callsIn_wide.2 E.out)).mono ?_; rintro e Z ⟨rfl, hs2⟩; have HS2 := Lib.hid hs2; have hrB := HSS.out.br.kept (grownSH HS2.out) (by simp); have cR := hrB.cell; have fR := hrB.frozen; clear hs2)
      have hg := grownSH HS2.out
      exact ⟨(Keeps.grown hg (fun r e => by cases e)).trans (Keeps.grown (grownBy_setCell' Z (w.heap.size + 1) _) (fun r e => by cases e; rfl)), rfl, hrB.set _, (HSS.out.kept hg (fun r e => by cases e)).sn.setCell (by simp) _, HY.out hv0⟩
  case done =>
    rintro D ps X hD rfl ⟨⟨hS, hz⟩, hp⟩ hK
    have cS := hS.br.cell
    have fS := hS.br.frozen
    have hb : hasB l k (2 ^ n) (2 ^ m) = false := hasB_no hp
    have hlt := (Array.getElem?_eq_some_iff.1 hK).1
    have hK2 : (X.setCell ⟨w.heap.size + 1, 0, none⟩ (.bool false)).heap[D]? = some (.deferred (some [])) := ((grownBy_setCell' X (w.heap.size + 1) (.bool false)).block D hlt (fun e => by injection e; omega)).trans hK
    have hB3 := (hS.br.set (.bool false)).kept (grownBy_putObj' (X.setCell ⟨w.heap.size + 1, 0, none⟩ (.bool false)) D (.deferred none)) (fun e => by injection e; omega)
    have cB := hB3.cell
    have hsn := since_row (hS.sn.setCell (a := ⟨w.heap.size + 1, 0, none⟩) (by simp) (.bool false)) (Nat.le_refl _) (grownBy_putObj' (X.setCell ⟨w.heap.size + 1, 0, none⟩ (.bool false)) D (.deferred none)) (fun r e => by cases e; omega)
    gi_wp2
    refine ⟨by simp, .inl ⟨_, _, rfl, run_takeDeferred hK2, ?_⟩⟩
    refine ⟨.bool false, ?_, by rw [hb], hsn⟩
    have cB' := cB
    simp [results, Try.f105, go_sem, cB']
  case stop =>
    rintro D c ps X hD _ ⟨rfl, bR, hs, hb⟩ hK
    have hB3 := bR.kept (grownBy_putObj' X D (.deferred none)) (fun e => by injection e; omega)
    have cB := hB3.cell
    have hsn := since_row hs (Nat.le_refl _) (grownBy_putObj' X D (.deferred none)) (fun r e => by cases e; omega)
    gi_wp2
    refine ⟨by simp, .inl ⟨_, _, rfl, run_takeDeferred hK, ?_⟩⟩
    refine ⟨.bool true, ?_, by rw [hb], hsn⟩
    have cB' := cB
    simp [results, Try.f105, go_sem, cB']

end Go.Proofs.Ythdemjfllfhhpaa
end

section
namespace Go.Proofs.Ythdemjfllfhhpaa
open Go.RowKit Go.Deep

def nzM (l : List (List Int)) (r c : Nat) : Prop := popcS r = popcS c ∧ ordF (partL l r c) (popcS r) (popcS r) 0 ≠ 0
theorem stepR_ge (l : List (List Int)) (r c b : Nat) : b ≤ stepR l r c b := by
  unfold stepR
  split
  · omega
  · omega
theorem stepR_yes {l : List (List Int)} {r c : Nat} (h : nzM l r c) (b : Nat) : popcS r ≤ stepR l r c b := by
  unfold stepR
  by_cases hb : b < popcS r
  · rw [if_pos ⟨h.1, hb, h.2⟩]; omega
  · have := stepR_ge l r c b
    unfold stepR at this
    omega
theorem stepR_ex (l : List (List Int)) (r c b : Nat) : stepR l r c b = b ∨ (stepR l r c b = popcS r ∧ nzM l r c) := by
  unfold stepR
  split
  · rename_i h; exact .inr ⟨rfl, h.1, h.2.2⟩
  · exact .inl rfl
theorem rkC_step (l : List (List Int)) (r b : Nat) : ∀ c, 1 ≤ c → b ≤ rkC l r b c ∧ (∀ c', 1 ≤ c' → c' < c → nzM l r c' → popcS r ≤ rkC l r b c) ∧ (rkC l r b c = b ∨ (rkC l r b c = popcS r ∧ ∃ c', c' < c ∧ nzM l r c'))
  | 0, h => by omega
  | 1, _ => by rw [rkC_one]; exact ⟨by omega, fun c' h1 h2 => by omega, .inl rfl⟩
  | c + 2, _ => by
    obtain ⟨i1, i2, i3⟩ := rkC_step l r b (c + 1) (by omega)
    rw [rkC_succ l r b (by omega)]
    have g := stepR_ge l r (c + 1) (rkC l r b (c + 1))
    refine ⟨by omega, fun c' h1 h2 hn => ?_, ?_⟩
    · by_cases e : c' = c + 1
      · subst e; exact stepR_yes hn _
      · have := i2 c' h1 (by omega) hn
        omega
    · rcases stepR_ex l r (c + 1) (rkC l r b (c + 1)) with e | ⟨e, hn⟩
      · rw [e]
        rcases i3 with e2 | ⟨e2, c', h1, h2⟩
        · exact .inl e2
        · exact .inr ⟨e2, c', by omega, h2⟩
      · exact .inr ⟨e, c + 1, by omega, hn⟩
theorem rkR_step (l : List (List Int)) (C : Nat) (hC : 1 ≤ C) : ∀ r, 1 ≤ r → (∀ r' c', 1 ≤ r' → r' < r → 1 ≤ c' → c' < C → nzM l r' c' → popcS r' ≤ rkR l C r) ∧ (rkR l C r = 0 ∨ ∃ r' c', r' < r ∧ c' < C ∧ nzM l r' c' ∧ rkR l C r = popcS r')
  | 0, h => by omega
  | 1, _ => by rw [rkR_one]; exact ⟨fun r' c' h1 h2 => by omega, .inl rfl⟩
  | r + 2, _ => by
    obtain ⟨i1, i2⟩ := rkR_step l C hC (r + 1) (by omega)
    rw [rkR_succ l C (by omega)]
    obtain ⟨j1, j2, j3⟩ := rkC_step l (r + 1) (rkR l C (r + 1)) C hC
    refine ⟨fun r' c' h1 h2 h3 h4 hn => ?_, ?_⟩
    · by_cases e : r' = r + 1
      · subst e; exact j2 c' h3 h4 hn
      · have := i1 r' c' h1 (by omega) h3 h4 hn
        omega
    · rcases j3 with e | ⟨e, c', h1, h2⟩
      · rw [e]
        rcases i2 with e2 | ⟨r', c', h1, h2, h3, h4⟩
        · exact .inl e2
        · exact .inr ⟨r', c', by omega, h2, h3, h4⟩
      · exact .inr ⟨r + 1, c', by omega, h1, h2, e⟩
theorem popc_le_n : ∀ n : Fin 7, ∀ s : Fin 64, s.val < 2 ^ n.val → popcS s.val ≤ n.val := by decide +kernel
theorem hasB_iff {l : List (List Int)} {k M1 M2 : Nat} : hasB l k M1 M2 = true ↔ ∃ r c, (r < M1 ∧ popcS r = k) ∧ (c < M2 ∧ popcS c = k) ∧ dt k (at2 (partL l r c)) ≠ 0 := by
  unfold hasB hasR
  rw [List.any_eq_true]
  constructor
  · rintro ⟨r, hr, h⟩
    obtain ⟨c, hc, h⟩ := List.any_eq_true.1 h
    exact ⟨r, c, (setsTo_mem k).1 hr, (setsTo_mem k).1 hc, by simpa using h⟩
  · rintro ⟨r, c, hr, hc, h⟩
    exact ⟨r, (setsTo_mem k).2 hr, List.any_eq_true.2 ⟨c, (setsTo_mem k).2 hc, by simpa using h⟩⟩
theorem rank_down {l : List (List Int)} {n m : Nat} (hn : n ≤ 6) (hm : m ≤ 6) :
    rkR l (2 ^ m) (2 ^ n) ≤ n ∧ rkR l (2 ^ m) (2 ^ n) ≤ m ∧ ∀ k, 1 ≤ k → (hasB l k (2 ^ n) (2 ^ m) = true → k ≤ rkR l (2 ^ m) (2 ^ n)) ∧ (hasB l k (2 ^ n) (2 ^ m) = false → rkR l (2 ^ m) (2 ^ n) ≠ k) := by
  have p1 : 2 ^ n ≤ 2 ^ 6 := Nat.pow_le_pow_right (by omega) hn
  have p2 : 2 ^ m ≤ 2 ^ 6 := Nat.pow_le_pow_right (by omega) hm
  have q1 : 1 ≤ 2 ^ n := Nat.pow_pos (by omega)
  have q2 : 1 ≤ 2 ^ m := Nat.pow_pos (by omega)
  obtain ⟨s1, s2⟩ := rkR_step l (2 ^ m) q2 (2 ^ n) q1
  have hle : rkR l (2 ^ m) (2 ^ n) ≤ n ∧ rkR l (2 ^ m) (2 ^ n) ≤ m := by
    rcases s2 with e | ⟨r, c, h1, h2, h3, h4⟩
    · omega
    · have e1 := popc_le_n ⟨n, by omega⟩ ⟨r, by omega⟩ h1
      have e2 := popc_le_n ⟨m, by omega⟩ ⟨c, by omega⟩ h2
      have := h3.1
      simp only at e1 e2
      omega
  refine ⟨hle.1, hle.2, fun k hk => ⟨fun h => ?_, fun h e => ?_⟩⟩
  · obtain ⟨r, c, ⟨r1, r2⟩, ⟨c1, c2⟩, hd⟩ := hasB_iff.1 h
    have g1 := popcS_pos ⟨r, by omega⟩ (by rw [r2]; exact hk)
    have g2 := popcS_pos ⟨c, by omega⟩ (by rw [c2]; exact hk)
    have hk6 : k ≤ 6 := by rw [← r2]; exact popcS_le r
    have := s1 r c g1 r1 g2 c1 ⟨by omega, by rw [r2, ordF_all _ hk6]; exact hd⟩
    omega
  · rcases s2 with e2 | ⟨r, c, h1, h2, h3, h4⟩
    · omega
    · have hk6 : k ≤ 6 := by rw [← e, h4]; exact popcS_le r
      have hr : popcS r = k := by omega
      have : hasB l k (2 ^ n) (2 ^ m) = true := hasB_iff.2 ⟨r, c, ⟨h1, hr⟩, ⟨h2, by rw [← h3.1]; exact hr⟩, by
        have := h3.2
        rw [hr, ordF_all _ hk6] at this
        exact this⟩
      rw [h] at this
      cases this

end Go.Proofs.Ythdemjfllfhhpaa
end

section
namespace Go.Proofs.Ythdemjfllfhhpaa
open Go.RowKit Go.Deep

theorem sumN_more (f : Nat → Int) (n : Nat) : ∀ m, (∀ j, n ≤ j → j < n + m → f j = 0) → sumN f (n + m) = sumN f n
  | 0, _ => rfl
  | m + 1, h => by
    show sumN f (n + m) + f (n + m) = _
    rw [sumN_more f n m (fun j h1 h2 => h j h1 (by omega)), h (n + m) (by omega) (by omega)]
    omega
theorem sumN_one (f : Nat → Int) (k : Nat) : ∀ n, k < n → (∀ j, j < n → j ≠ k → f j = 0) → sumN f n = f k
  | 0, h, _ => by omega
  | n + 1, h, hz => by
    unfold sumN
    by_cases e : k = n
    · subst e
      rw [sumN_none k (fun j hj => hz j (by omega) (by omega))]; omega
    · rw [sumN_one f k n (by omega) (fun j hj hk => hz j (by omega) hk), hz n (by omega) (fun h => e h.symm)]; omega
theorem sumN_mulR (c : Int) (f : Nat → Int) (n : Nat) : sumN (fun j => f j * c) n = sumN f n * c := by
  rw [sumN_congr n (g := fun j => c * f j) (fun j _ => Int.mul_comm _ _), sumN_mul, Int.mul_comm]

theorem dt_block (m : Nat) : ∀ (n : Nat) (f : Nat → Nat → Int), (∀ i j, i < n → n ≤ j → j < n + m → f i j = 0) → dt (n + m) f = dt n f * dt m (fun i j => f (n + i) (n + j))
  | 0, f, _ => by
    rw [dt_zero, Int.one_mul, Nat.zero_add]
    exact dt_congr m fun i j _ _ => by rw [Nat.zero_add, Nat.zero_add]
  | n + 1, f, h => by
    rw [show n + 1 + m = (n + m) + 1 by omega, dt_succ, show n + m + 1 = (n + 1) + m by omega, sumN_more _ (n + 1) m (fun j h1 h2 => by rw [h 0 j (by omega) h1 h2]; simp), dt_succ, ← sumN_mulR]
    refine sumN_congr _ fun k hk => ?_
    rw [dt_block m n (dr k f) (fun i j h1 h2 h3 => by
      show f (i + 1) (skip k j) = 0
      rw [skip_ge (by omega)]
      exact h _ _ (by omega) (by omega) (by omega))]
    have e : dt m (fun i j => dr k f (n + i) (n + j)) = dt m (fun i j => f (n + 1 + i) (n + 1 + j)) := dt_congr m fun i j _ _ => by
      show f (n + i + 1) (skip k (n + j)) = _
      rw [skip_ge (by omega), show n + i + 1 = n + 1 + i by omega, show n + j + 1 = n + 1 + j by omega]
    rw [e, Int.mul_assoc, Int.mul_assoc]

theorem dt_addS {n r : Nat} (f : Nat → Nat → Int) (c : Nat → Int) (s : Nat → Nat) (hr : r < n) : ∀ k, (∀ m, m < k → s m < n ∧ s m ≠ r) → dt n (setR f r (fun j => f r j + sumN (fun m => c m * f (s m) j) k)) = dt n f
  | 0, _ => by
    rw [dt_congr n (g := f) (fun i j _ _ => by
      unfold setR
      split
      · rename_i h; rw [h]; simp [sumN]
      · rfl)]
  | k + 1, h => by
    have e : ∀ i j, setR f r (fun j => f r j + sumN (fun m => c m * f (s m) j) (k + 1)) i j = setR f r (fun j => 1 * (f r j + sumN (fun m => c m * f (s m) j) k) + c k * f (s k) j) i j := fun i j => by
      unfold setR
      split
      · show f r j + (sumN (fun m => c m * f (s m) j) k + c k * f (s k) j) = 1 * (f r j + sumN (fun m => c m * f (s m) j) k) + c k * f (s k) j
        omega
      · rfl
    obtain ⟨h1, h2⟩ := h k (by omega)
    rw [dt_congr n (fun i j _ _ => e i j), dt_lin n r f 1 (c k) _ _ hr, dt_addS f c s hr k (fun m hm => h m (by omega)), dt_sameR (setR f r (fun j => f (s k) j)) (Ne.symm h2) hr h1 (fun j _ => by unfold setR; rw [if_pos rfl, if_neg h2])]
    omega

def mulF (n : Nat) (A B : Nat → Nat → Int) (i j : Nat) : Int := sumN (fun m => A i m * B m j) n
def oneF (i j : Nat) : Int := if i = j then 1 else 0
def blk (n : Nat) (A B : Nat → Nat → Int) (i j : Nat) : Int := if i < n then (if j < n then A i j else 0) else (if j < n then (if i - n = j then -1 else 0) else B (i - n) (j - n))
def blkT (n : Nat) (A B : Nat → Nat → Int) (t i j : Nat) : Int := if i < t then (if j < n then 0 else mulF n A B i (j - n)) else blk n A B i j
theorem dt_blkT (n : Nat) (A B : Nat → Nat → Int) : ∀ t, t ≤ n → dt (n + n) (blkT n A B t) = dt (n + n) (blk n A B)
  | 0, _ => dt_congr _ fun i j _ _ => by unfold blkT; rw [if_neg (by omega)]
  | t + 1, ht => by
    rw [← dt_blkT n A B t (by omega), ← dt_addS (blkT n A B t) (A t) (fun m => n + m) (show t < n + n by omega) n (fun m hm => ⟨by omega, by omega⟩)]
    refine dt_congr _ fun i j _ hj => ?_
    unfold setR
    by_cases hi : i = t
    · subst hi
      rw [if_pos rfl]
      have e1 : blkT n A B (i + 1) i j = if j < n then 0 else mulF n A B i (j - n) := if_pos (by omega)
      have e2 : blkT n A B i i j = if j < n then A i j else 0 := by unfold blkT blk; rw [if_neg (by omega), if_pos (by omega)]
      have e3 : ∀ m, blkT n A B i (n + m) j = if j < n then (if m = j then -1 else 0) else B m (j - n) := fun m => by unfold blkT blk; rw [if_neg (by omega), if_neg (by omega), Nat.add_sub_cancel_left]
      show _ = blkT n A B i i j + sumN (fun m => A i m * blkT n A B i (n + m) j) n
      rw [e1, e2]
      by_cases hjn : j < n
      · rw [if_pos hjn, if_pos hjn, sumN_one (fun m => A i m * blkT n A B i (n + m) j) j n hjn (fun m _ hmj => by rw [e3, if_pos hjn, if_neg hmj]; simp), e3, if_pos hjn, if_pos rfl]
        omega
      · rw [if_neg hjn, if_neg hjn, Int.zero_add]
        exact sumN_congr n fun m _ => by rw [e3, if_neg hjn]
    · rw [if_neg hi]
      unfold blkT
      by_cases h1 : i < t
      · rw [if_pos (by omega), if_pos h1]
      · rw [if_neg (by omega), if_neg h1]
def colT (n t j : Nat) : Nat := if j < t then n + j else if n ≤ j ∧ j < n + t then j - n else j
theorem dt_colT (n : Nat) (f : Nat → Nat → Int) : ∀ t, t ≤ n → dt (n + n) (fun i j => f i (colT n t j)) = sn t * dt (n + n) f
  | 0, _ => by
    rw [sn_zero, Int.one_mul]
    exact dt_congr _ fun i j _ _ => by
      congr 1
      unfold colT
      rw [if_neg (by omega), if_neg (by omega)]
  | t + 1, ht => by
    have h := dt_exC (fun i j => f i (colT n t j)) (show t ≠ n + t by omega) (show t < n + n by omega) (show n + t < n + n by omega)
    rw [dt_colT n f t (by omega)] at h
    rw [sn_succ]
    have e : dt (n + n) (fun i j => f i (colT n (t + 1) j)) = dt (n + n) (fun i j => f i (colT n t (ex t (n + t) j))) := dt_congr _ fun i j _ _ => by
      congr 1
      unfold colT ex
      repeat (first | split | omega)
    rw [e, h]
    grind
theorem dt_oneF : ∀ n, dt n oneF = 1
  | 0 => rfl
  | n + 1 => by
    rw [dt_corner oneF (fun i _ => if_neg (by omega)), show oneF 0 0 = 1 from rfl, Int.one_mul]
    rw [dt_congr n (g := oneF) (fun i j _ _ => by unfold oneF; by_cases h : i = j <;> simp [h])]
    exact dt_oneF n
theorem pw_neg : ∀ n, pw (-1) n = sn n
  | 0 => rfl
  | n + 1 => by rw [sn_succ, ← pw_neg n]; show -1 * pw (-1) n = _; omega
theorem dt_mul (n : Nat) (A B : Nat → Nat → Int) : dt n (mulF n A B) = dt n A * dt n B := by
  have h1 : dt (n + n) (blk n A B) = dt n A * dt n B := by
    rw [dt_block n n (blk n A B) (fun i j h1 h2 _ => by unfold blk; rw [if_pos h1, if_neg (by omega)])]
    congr 1
    · exact dt_congr n fun i j hi hj => by unfold blk; rw [if_pos hi, if_pos hj]
    · exact dt_congr n fun i j _ _ => by unfold blk; rw [if_neg (by omega), if_neg (by omega), Nat.add_sub_cancel_left, Nat.add_sub_cancel_left]
  have h2 := dt_colT n (blkT n A B n) n (Nat.le_refl _)
  rw [dt_blkT n A B n (Nat.le_refl _), h1] at h2
  have h3 : dt (n + n) (fun i j => blkT n A B n i (colT n n j)) = dt n (mulF n A B) * sn n := by
    rw [dt_block n n _ (fun i j h1 h2 h3 => by
      show blkT n A B n i (colT n n j) = 0
      have ec : colT n n j = j - n := by unfold colT; rw [if_neg (by omega), if_pos ⟨h2, h3⟩]
      rw [ec]
      unfold blkT
      rw [if_pos h1, if_pos (by omega)])]
    congr 1
    · refine dt_congr n fun i j hi hj => ?_
      show blkT n A B n i (colT n n j) = _
      have ec : colT n n j = n + j := by unfold colT; rw [if_pos hj]
      rw [ec]
      unfold blkT
      rw [if_pos hi, if_neg (by omega), Nat.add_sub_cancel_left]
    · rw [dt_congr n (g := fun i j => -1 * oneF i j) (fun i j hi hj => by
        show blkT n A B n (n + i) (colT n n (n + j)) = _
        have ec : colT n n (n + j) = j := by unfold colT; rw [if_neg (by omega), if_pos (by omega), Nat.add_sub_cancel_left]
        rw [ec]
        unfold blkT blk oneF
        rw [if_neg (show ¬ n + i < n by omega), if_neg (show ¬ n + i < n by omega), if_pos hj, Nat.add_sub_cancel_left]
        by_cases e : i = j <;> simp [e]), dt_scale (-1) n oneF, dt_oneF, pw_neg]
      omega
  rw [h3] at h2
  have h4 := sn_sq n
  have h5 : dt n (mulF n A B) * (sn n * sn n) = sn n * sn n * (dt n A * dt n B) := by grind
  rw [h4] at h5
  omega

def selN (s n i : Nat) : Nat := ((sel s n n).map (·.1)).getD i 0
theorem pickTo_at (c : Nat) (x : List Int) (m j : Nat) (hj : j < (sel c m m).length) : (pickTo c x m m).getD j 0 = x.getD (selN c m j) 0 := by
  unfold pickTo selN
  simp [List.getD, hj]
theorem partL_at (l : List (List Int)) (s c : Nat) {i j : Nat} (hi : i < (sel s l.length l.length).length) (hj : j < (sel c (l.getD 0 []).length (l.getD 0 []).length).length) :
    at2 (partL l s c) i j = at2 l (selN s l.length i) (selN c (l.getD 0 []).length j) := by
  have e1 : (partL l s c).getD i [] = pickTo c (l.getD (selN s l.length i) []) (l.getD 0 []).length (l.getD 0 []).length := by
    unfold partL partRows selN
    simp [List.getD, hi]
  unfold at2
  rw [e1, pickTo_at _ _ _ _ hj]
theorem selN_but : ∀ n : Fin 7, ∀ k : Fin 6, ∀ j : Fin 6, k.val < n.val → j.val + 1 < n.val → selN (2 ^ n.val - 1 - 2 ^ k.val) n.val j.val = skip k.val j.val := by decide +kernel
theorem sel_but_len : ∀ n : Fin 7, ∀ k : Fin 6, k.val < n.val → (sel (2 ^ n.val - 1 - 2 ^ k.val) n.val n.val).length + 1 = n.val := by decide +kernel
theorem partL_but {l : List (List Int)} {n r k i j : Nat} (hn : l.length = n) (hw : (l.getD 0 []).length = n) (h6 : n ≤ 6) (hr : r < n) (hk : k < n) (hi : i + 1 < n) (hj : j + 1 < n) :
    at2 (partL l (2 ^ n - 1 - 2 ^ r) (2 ^ n - 1 - 2 ^ k)) i j = at2 l (skip r i) (skip k j) := by
  have l1 := sel_but_len ⟨n, by omega⟩ ⟨r, by omega⟩ hr
  have l2 := sel_but_len ⟨n, by omega⟩ ⟨k, by omega⟩ hk
  simp only at l1 l2
  rw [partL_at l _ _ (by rw [hn]; omega) (by rw [hw]; omega), hn, hw]
  have e1 := selN_but ⟨n, by omega⟩ ⟨r, by omega⟩ ⟨i, by omega⟩ hr hi
  have e2 := selN_but ⟨n, by omega⟩ ⟨k, by omega⟩ ⟨j, by omega⟩ hk hj
  simp only at e1 e2
  rw [e1, e2]
theorem rowF_dt : ∀ (d : Nat) (l : List (List Int)), SqD d l → rowF d l = dt d (at2 l)
  | 0, _, _ => rfl
  | d + 1, l, h => by
    obtain ⟨hT, hw⟩ := h.2 (by omega)
    have h6 := hT.2.1
    have hn := h.1
    rw [rowF_succ, dt_succ]
    refine sumN_congr _ fun k hk => ?_
    rw [sg_sn, rowF_dt d _ (minor_sq h hk)]
    have e : dt d (at2 (minorL l (d + 1) k)) = dt d (dr k (at2 l)) := dt_congr d fun i j hi hj => by
      have := partL_but (r := 0) (k := k) (i := i) (j := j) hn hw (by omega) (by omega) hk (by omega) (by omega)
      exact this
    rw [e]

end Go.Proofs.Ythdemjfllfhhpaa
end

section
namespace Go.Proofs.Ythdemjfllfhhpaa
open Go.RowKit Go.Deep

theorem szL_of {l : List (List Int)} {n k : Nat} (h1 : l.length ≤ n) (h2 : ∀ j, j < l.length → (l.getD j []).length ≤ k) (hnk : n * k + n ≤ 1048576) : szL l ≤ 1048576 := by
  have h3 := sumTo_le_mul l k h2 l.length (Nat.le_refl _)
  have h4 : l.length * k ≤ n * k := Nat.mul_le_mul_right _ h1
  have h5 : k * l.length = l.length * k := Nat.mul_comm _ _
  unfold szL
  omega
theorem rows_le {l : List (List Int)} (h : szL l ≤ 1048576) : ∀ r, r < l.length → (l.getD r []).length ≤ 9223372036854775807 := fun r hr => by
  have := row_le l hr
  unfold szL at h
  omega

theorem tab_self {l : List (List Int)} {n m : Nat} (hn : l.length = n) (hm : ∀ r, r < n → (l.getD r []).length = m) : tabF n m (at2 l) = l := by
  refine List.ext_getElem (by rw [tabF_length, hn]) fun r h1 h2 => ?_
  have hr : r < n := by rw [tabF_length] at h1; exact h1
  have e1 : (tabF n m (at2 l))[r] = (tabF n m (at2 l)).getD r [] := by simp [List.getD, h1]
  have e2 : l[r] = l.getD r [] := by simp [List.getD, h2]
  rw [e1, e2, tabF_get _ _ _ _ hr]
  refine List.ext_getElem (by rw [List.length_map, List.length_range, hm r hr]) fun k h3 h4 => ?_
  rw [List.getElem_map, List.getElem_range]
  unfold at2
  obtain ⟨x, hx⟩ : ∃ x, x = l.getD r [] := ⟨_, rfl⟩
  subst hx
  generalize l.getD r [] = x at *
  simp [List.getD, h4]

theorem turnL_turnL {l : List (List Int)} (hT : TabIn l) : turnL (turnL l) = l := by
  have h1 := hT.1
  have hw := hT.width
  have e0 : ((turnL l).getD 0 []).length = l.length := tabF_len _ _ _ _ hw.1
  have e1 : turnL (turnL l) = tabF l.length (l.getD 0 []).length fun k i => at2 (turnL l) i k := by
    show tabF ((turnL l).getD 0 []).length (turnL l).length _ = _
    rw [e0, turnL_length]
  rw [e1]
  have e2 : tabF l.length (l.getD 0 []).length (fun k i => at2 (turnL l) i k) = tabF l.length (l.getD 0 []).length (at2 l) := by
    unfold tabF
    refine List.map_congr_left fun r hr => List.map_congr_left fun k hk => ?_
    exact tabF_at _ _ _ _ _ (List.mem_range.1 hk) (List.mem_range.1 hr)
  rw [e2]
  exact tab_self rfl (fun r hr => hT.row hr)

end Go.Proofs.Ythdemjfllfhhpaa
end

section
namespace Go.Proofs.Ythdemjfllfhhpaa
open Go.RowKit Go.Deep

theorem selN_lt {s n i : Nat} (h : i < (sel s n n).length) : selN s n i < n := by
  unfold selN
  have e : ((sel s n n).map (·.1)).getD i 0 = ((sel s n n)[i]).1 := by simp [List.getD, h]
  rw [e]
  exact ((sel s n n)[i]).2
theorem has_turn {l : List (List Int)} {n m k : Nat} (hT : TabIn l) (hn : l.length = n) (hmm : (l.getD 0 []).length = m) (h : hasB l k (2 ^ n) (2 ^ m) = true) : hasB (turnL l) k (2 ^ m) (2 ^ n) = true := by
  have h6 := hT.2.1
  have hw := hT.width
  have p1 : 2 ^ n ≤ 2 ^ 6 := Nat.pow_le_pow_right (by omega) (by omega)
  have p2 : 2 ^ m ≤ 2 ^ 6 := Nat.pow_le_pow_right (by omega) (by omega)
  obtain ⟨r, c, ⟨r1, r2⟩, ⟨c1, c2⟩, hd⟩ := hasB_iff.1 h
  refine hasB_iff.2 ⟨c, r, ⟨c1, c2⟩, ⟨r1, r2⟩, ?_⟩
  have e0 : ((turnL l).getD 0 []).length = n := (tabF_len _ _ _ _ (by omega)).trans hn
  have e1 : (turnL l).length = m := (turnL_length l).trans hmm
  have g1 := popcS_sel ⟨n, by omega⟩ ⟨r, by omega⟩ r1
  have g2 := popcS_sel ⟨m, by omega⟩ ⟨c, by omega⟩ c1
  simp only at g1 g2
  have e : dt k (at2 (partL (turnL l) c r)) = dt k (fun i j => at2 (partL l r c) j i) := dt_congr k fun i j hi hj => by
    rw [partL_at (turnL l) c r (by rw [e1]; omega) (by rw [e0]; omega), partL_at l r c (by rw [hn]; omega) (by rw [hmm]; omega), e0, e1, hn, hmm]
    exact tabF_at _ _ _ _ _ (by rw [hmm]; exact selN_lt (by omega)) (by rw [hn]; exact selN_lt (by omega))
  rw [e, dt_turn]
  exact hd
theorem turn_turn {l : List (List Int)} (hT : TabIn l) : TabIn (turnL l) ∧ (turnL l).length = (l.getD 0 []).length ∧ ((turnL l).getD 0 []).length = l.length :=
  ⟨tabIn_of (tabIn_turn hT), turnL_length l, tabF_len _ _ _ _ (by have := hT.width; omega)⟩
theorem turnL_back {l : List (List Int)} {n m k : Nat} (hT : TabIn l) (hn : l.length = n) (hmm : (l.getD 0 []).length = m) (h : hasB (turnL l) k (2 ^ m) (2 ^ n) = true) : hasB l k (2 ^ n) (2 ^ m) = true := by
  obtain ⟨h1, h2, h3⟩ := turn_turn hT
  have := has_turn h1 (h2.trans hmm) (h3.trans hn) h
  rw [turnL_turnL hT] at this
  exact this
theorem rank_turn {l : List (List Int)} {n m : Nat} (hT : TabIn l) (hn : l.length = n) (hmm : (l.getD 0 []).length = m) : rkR (turnL l) (2 ^ n) (2 ^ m) = rkR l (2 ^ m) (2 ^ n) := by
  have h6 := hT.2.1
  have hw := hT.width
  obtain ⟨_, _, a3⟩ := rank_down (l := l) (n := n) (m := m) (by omega) (by omega)
  obtain ⟨_, _, b3⟩ := rank_down (l := turnL l) (n := m) (m := n) (by omega) (by omega)
  have q1 : rkR l (2 ^ m) (2 ^ n) ≤ rkR (turnL l) (2 ^ n) (2 ^ m) := by
    by_cases h0 : 1 ≤ rkR l (2 ^ m) (2 ^ n)
    · cases hb : hasB l (rkR l (2 ^ m) (2 ^ n)) (2 ^ n) (2 ^ m) with
      | false => exact absurd rfl ((a3 _ h0).2 hb)
      | true => exact (b3 _ h0).1 (has_turn hT hn hmm hb)
    · omega
  have q2 : rkR (turnL l) (2 ^ n) (2 ^ m) ≤ rkR l (2 ^ m) (2 ^ n) := by
    by_cases h0 : 1 ≤ rkR (turnL l) (2 ^ n) (2 ^ m)
    · cases hb : hasB (turnL l) (rkR (turnL l) (2 ^ n) (2 ^ m)) (2 ^ m) (2 ^ n) with
      | false => exact absurd rfl ((b3 _ h0).2 hb)
      | true => exact (a3 _ h0).1 (turnL_back hT hn hmm hb)
    · omega
  omega
theorem popc_full : ∀ n : Fin 7, ∀ s : Fin 64, s.val < 2 ^ n.val → popcS s.val = n.val → s.val = 2 ^ n.val - 1 := by decide +kernel
theorem popc_all : ∀ n : Fin 7, popcS (2 ^ n.val - 1) = n.val := by decide +kernel
theorem rank_full {l : List (List Int)} {n : Nat} (h : sqB l = true) (hn : l.length = n) : rkR l (2 ^ n) (2 ^ n) = n ↔ ordF l n n 0 ≠ 0 := by
  obtain ⟨hT, hw⟩ := sqB_of h
  have h6 := hT.2.1
  have h1 := hT.1
  have p1 : 2 ^ n ≤ 2 ^ 6 := Nat.pow_le_pow_right (by omega) (by omega)
  have q1 : 1 ≤ 2 ^ n := Nat.pow_pos (by omega)
  obtain ⟨a1, _, a3⟩ := rank_down (l := l) (n := n) (m := n) (by omega) (by omega)
  obtain ⟨c1, c2⟩ := a3 n (by omega)
  have hf : partL l (2 ^ n - 1) (2 ^ n - 1) = l := by
    have := partL_full hT.rec
    rw [← hw, hn] at this
    exact this
  rw [ordF_all _ (by omega)]
  have e : hasB l n (2 ^ n) (2 ^ n) = true ↔ dt n (at2 l) ≠ 0 := by
    rw [hasB_iff]
    constructor
    · rintro ⟨r, c, ⟨r1, r2⟩, ⟨s1, s2⟩, hd⟩
      have e1 := popc_full ⟨n, by omega⟩ ⟨r, by omega⟩ r1 r2
      have e2 := popc_full ⟨n, by omega⟩ ⟨c, by omega⟩ s1 s2
      simp only at e1 e2
      rw [e1, e2, hf] at hd
      exact hd
    · intro hd
      have e3 := popc_all ⟨n, by omega⟩
      exact ⟨2 ^ n - 1, 2 ^ n - 1, ⟨by omega, e3⟩, ⟨by omega, e3⟩, by rw [hf]; exact hd⟩
  constructor
  · intro hr
    cases hb : hasB l n (2 ^ n) (2 ^ n) with
    | false => exact absurd hr (c2 hb)
    | true => exact e.1 hb
  · intro hd
    have := c1 (e.2 hd)
    omega

end Go.Proofs.Ythdemjfllfhhpaa
end

section
namespace Go.Proofs.Ythdemjfllfhhpaa
open Go.RowKit Go.Deep

theorem besideOk_ofR {l u : List (List Int)} (h : besideOk l u = true) : TabIn l ∧ TabIn u ∧ TabIn (besideL l u) := by
  unfold besideOk at h
  simp only [Bool.and_eq_true] at h
  exact ⟨tabIn_of h.1, tabIn_of h.2.1, tabIn_of h.2.2⟩
theorem besideL_widthR (l u : List (List Int)) (h : 1 ≤ l.length) : ((besideL l u).getD 0 []).length = (l.getD 0 []).length + (u.getD 0 []).length := tabF_len _ _ _ _ (by omega)

theorem dt_thin {N a b : Nat} (f : Nat → Nat → Int) (hab : b < a) (ha : a ≤ N) (h : ∀ i j, i < a → b ≤ j → j < N → f i j = 0) : dt N f = 0 := by
  obtain ⟨m, rfl⟩ : ∃ m, N = b + (m + 1) := ⟨N - b - 1, by omega⟩
  rw [dt_block (m + 1) b f (fun i j hi hj hN => h i j (by omega) hj hN), dt_succ, sumN_none _ (fun k hk => by rw [show f (b + 0) (b + k) = 0 from h _ _ (by omega) (by omega) (by omega)]; simp), Int.mul_zero]
theorem dt_thinT {N a b : Nat} (f : Nat → Nat → Int) (hab : a < b) (hb : b ≤ N) (h : ∀ i j, a ≤ i → i < N → j < b → f i j = 0) : dt N f = 0 := by
  rw [← dt_turn]
  exact dt_thin (fun i j => f j i) hab hb fun i j hi hj hN => h j i hj hN hi

theorem selN_two : ∀ n k : Fin 7, n.val + k.val ≤ 6 → ∀ r : Fin 64, r.val < 2 ^ (n.val + k.val) → popcS r.val = popcS (r.val % 2 ^ n.val) + popcS (r.val / 2 ^ n.val) ∧
    ∀ i : Fin 6, i.val < popcS r.val → selN r.val (n.val + k.val) i.val = if i.val < popcS (r.val % 2 ^ n.val) then selN (r.val % 2 ^ n.val) n.val i.val else n.val + selN (r.val / 2 ^ n.val) k.val (i.val - popcS (r.val % 2 ^ n.val)) := by decide +kernel

theorem at_beside {l u : List (List Int)} {i j : Nat} (hi : i < l.length + u.length) (hj : j < (l.getD 0 []).length + (u.getD 0 []).length) :
    at2 (besideL l u) i j = if i < l.length ∧ j < (l.getD 0 []).length then at2 l i j else if l.length ≤ i ∧ (l.getD 0 []).length ≤ j then at2 u (i - l.length) (j - (l.getD 0 []).length) else 0 := by
  unfold besideL
  exact tabF_at _ _ _ i j hi hj

theorem part_beside {l u : List (List Int)} {n m n2 m2 r c k i j : Nat} (hn : l.length = n) (hm : (l.getD 0 []).length = m) (hu : u.length = n2) (hmu : (u.getD 0 []).length = m2) (h1 : 1 ≤ n) (h6 : n + n2 ≤ 6) (m6 : m + m2 ≤ 6)
    (hr : r < 2 ^ (n + n2)) (hc : c < 2 ^ (m + m2)) (kr : popcS r = k) (kc : popcS c = k) (hi : i < k) (hj : j < k) :
    at2 (partL (besideL l u) r c) i j = if i < popcS (r % 2 ^ n) ∧ j < popcS (c % 2 ^ m) then at2 (partL l (r % 2 ^ n) (c % 2 ^ m)) i j else
      if popcS (r % 2 ^ n) ≤ i ∧ popcS (c % 2 ^ m) ≤ j then at2 (partL u (r / 2 ^ n) (c / 2 ^ m)) (i - popcS (r % 2 ^ n)) (j - popcS (c % 2 ^ m)) else 0 := by
  have p1 : 2 ^ (n + n2) ≤ 2 ^ 6 := Nat.pow_le_pow_right (by omega) h6
  have p2 : 2 ^ (m + m2) ≤ 2 ^ 6 := Nat.pow_le_pow_right (by omega) m6
  have e1 : (besideL l u).length = n + n2 := by unfold besideL; rw [tabF_length, hn, hu]
  have e2 : ((besideL l u).getD 0 []).length = m + m2 := by rw [besideL_widthR l u (by omega), hm, hmu]
  have a1 := popcS_sel ⟨n + n2, by omega⟩ ⟨r, by omega⟩ hr
  have a2 := popcS_sel ⟨m + m2, by omega⟩ ⟨c, by omega⟩ hc
  obtain ⟨b1, b2⟩ := selN_two ⟨n, by omega⟩ ⟨n2, by omega⟩ h6 ⟨r, by omega⟩ hr
  obtain ⟨d1, d2⟩ := selN_two ⟨m, by omega⟩ ⟨m2, by omega⟩ m6 ⟨c, by omega⟩ hc
  have hk6 := popcS_le r
  have q1 : r % 2 ^ n < 2 ^ n := Nat.mod_lt _ (Nat.pow_pos (by omega))
  have q2 : c % 2 ^ m < 2 ^ m := Nat.mod_lt _ (Nat.pow_pos (by omega))
  have q3 : r / 2 ^ n < 2 ^ n2 := Nat.div_lt_of_lt_mul (by rw [← Nat.pow_add]; exact hr)
  have q4 : c / 2 ^ m < 2 ^ m2 := Nat.div_lt_of_lt_mul (by rw [← Nat.pow_add]; exact hc)
  have g1 : 2 ^ n ≤ 2 ^ 6 := Nat.pow_le_pow_right (by omega) (by omega)
  have g2 : 2 ^ m ≤ 2 ^ 6 := Nat.pow_le_pow_right (by omega) (by omega)
  have g3 : 2 ^ n2 ≤ 2 ^ 6 := Nat.pow_le_pow_right (by omega) (by omega)
  have g4 : 2 ^ m2 ≤ 2 ^ 6 := Nat.pow_le_pow_right (by omega) (by omega)
  have t1 := popcS_sel ⟨n, by omega⟩ ⟨r % 2 ^ n, by omega⟩ q1
  have t2 := popcS_sel ⟨m, by omega⟩ ⟨c % 2 ^ m, by omega⟩ q2
  have t3 := popcS_sel ⟨n2, by omega⟩ ⟨r / 2 ^ n, by omega⟩ q3
  have t4 := popcS_sel ⟨m2, by omega⟩ ⟨c / 2 ^ m, by omega⟩ q4
  have f1 := b2 ⟨i, by omega⟩ (by show i < popcS r; omega)
  have f2 := d2 ⟨j, by omega⟩ (by show j < popcS c; omega)
  simp only at a1 a2 b1 d1 t1 t2 t3 t4 f1 f2
  rw [partL_at _ r c (by rw [e1, a1]; omega) (by rw [e2, a2]; omega), e1, e2, f1, f2]
  have s1 : ∀ x, x < popcS (r % 2 ^ n) → selN (r % 2 ^ n) n x < n := fun x hx => selN_lt (by omega)
  have s2 : ∀ x, x < popcS (c % 2 ^ m) → selN (c % 2 ^ m) m x < m := fun x hx => selN_lt (by omega)
  have s3 : ∀ x, x < popcS (r / 2 ^ n) → selN (r / 2 ^ n) n2 x < n2 := fun x hx => selN_lt (by omega)
  have s4 : ∀ x, x < popcS (c / 2 ^ m) → selN (c / 2 ^ m) m2 x < m2 := fun x hx => selN_lt (by omega)
  by_cases hi1 : i < popcS (r % 2 ^ n)
  · have := s1 i hi1
    by_cases hj1 : j < popcS (c % 2 ^ m)
    · have := s2 j hj1
      rw [if_pos hi1, if_pos hj1, if_pos ⟨hi1, hj1⟩, at_beside (by omega) (by omega), if_pos (by omega), partL_at l _ _ (by rw [hn, t1]; exact hi1) (by rw [hm, t2]; exact hj1), hn, hm]
    · rw [if_pos hi1, if_neg hj1, if_neg (by omega), if_neg (by omega)]
      have := s4 (j - popcS (c % 2 ^ m)) (by omega)
      rw [at_beside (by omega) (by omega), if_neg (by omega), if_neg (by omega)]
  · have := s3 (i - popcS (r % 2 ^ n)) (by omega)
    by_cases hj1 : j < popcS (c % 2 ^ m)
    · have := s2 j hj1
      rw [if_neg hi1, if_pos hj1, if_neg (by omega), if_neg (by omega), at_beside (by omega) (by omega), if_neg (by omega), if_neg (by omega)]
    · have := s4 (j - popcS (c % 2 ^ m)) (by omega)
      rw [if_neg hi1, if_neg hj1, if_neg (by omega), if_pos (by omega), at_beside (by omega) (by omega), if_neg (by omega), if_pos (by omega), partL_at u _ _ (by rw [hu, t3]; omega) (by rw [hmu, t4]; omega), hu, hmu, hn, hm,
        show n + selN (r / 2 ^ n) n2 (i - popcS (r % 2 ^ n)) - n = selN (r / 2 ^ n) n2 (i - popcS (r % 2 ^ n)) by omega, show m + selN (c / 2 ^ m) m2 (j - popcS (c % 2 ^ m)) - m = selN (c / 2 ^ m) m2 (j - popcS (c % 2 ^ m)) by omega]

theorem minor_beside {l u : List (List Int)} {n m n2 m2 r c k : Nat} (hn : l.length = n) (hm : (l.getD 0 []).length = m) (hu : u.length = n2) (hmu : (u.getD 0 []).length = m2) (h1 : 1 ≤ n) (h6 : n + n2 ≤ 6) (m6 : m + m2 ≤ 6)
    (hr : r < 2 ^ (n + n2)) (hc : c < 2 ^ (m + m2)) (kr : popcS r = k) (kc : popcS c = k) :
    (popcS (r % 2 ^ n) = popcS (c % 2 ^ m) → dt k (at2 (partL (besideL l u) r c)) = dt (popcS (r % 2 ^ n)) (at2 (partL l (r % 2 ^ n) (c % 2 ^ m))) * dt (popcS (r / 2 ^ n)) (at2 (partL u (r / 2 ^ n) (c / 2 ^ m)))) ∧
    (popcS (r % 2 ^ n) ≠ popcS (c % 2 ^ m) → dt k (at2 (partL (besideL l u) r c)) = 0) := by
  have p1 : 2 ^ (n + n2) ≤ 2 ^ 6 := Nat.pow_le_pow_right (by omega) h6
  have p2 : 2 ^ (m + m2) ≤ 2 ^ 6 := Nat.pow_le_pow_right (by omega) m6
  have hat := fun i j (hi : i < k) (hj : j < k) => part_beside (i := i) (j := j) hn hm hu hmu h1 h6 m6 hr hc kr kc hi hj
  have b1 := (selN_two ⟨n, by omega⟩ ⟨n2, by omega⟩ h6 ⟨r, by omega⟩ hr).1
  have d1 := (selN_two ⟨m, by omega⟩ ⟨m2, by omega⟩ m6 ⟨c, by omega⟩ hc).1
  simp only at b1 d1
  obtain ⟨x, hx⟩ : ∃ x, popcS (r % 2 ^ n) = x := ⟨_, rfl⟩
  obtain ⟨y, hy⟩ : ∃ y, popcS (c % 2 ^ m) = y := ⟨_, rfl⟩
  obtain ⟨x2, hx2⟩ : ∃ x, popcS (r / 2 ^ n) = x := ⟨_, rfl⟩
  rw [hx, hy] at hat ⊢
  rw [hx] at b1
  rw [hy] at d1
  rw [hx2] at b1 ⊢
  refine ⟨fun e => ?_, fun e => ?_⟩
  · subst e
    have hk : k = x + x2 := by omega
    subst hk
    rw [dt_block x2 x _ (fun i j hi hj hN => by rw [hat i j (by omega) hN, if_neg (by omega), if_neg (by omega)])]
    congr 1
    · exact dt_congr x fun i j hi hj => by rw [hat i j (by omega) (by omega), if_pos ⟨hi, hj⟩]
    · exact dt_congr x2 fun i j hi hj => by
        rw [hat _ _ (by omega) (by omega), if_neg (by omega), if_pos (by omega), show x + i - x = i by omega, show x + j - x = j by omega]
  · by_cases hlt : y < x
    · exact dt_thin _ hlt (by omega) fun i j hi hj hN => by rw [hat i j (by omega) hN, if_neg (by omega), if_neg (by omega)]
    · exact dt_thinT _ (show x < y by omega) (by omega) fun i j hi hN hj => by rw [hat i j hN (by omega), if_neg (by omega), if_neg (by omega)]

theorem two_sets : ∀ n k : Fin 7, n.val + k.val ≤ 6 → ∀ r s : Fin 64, r.val < 2 ^ n.val → s.val < 2 ^ k.val → r.val + 2 ^ n.val * s.val < 2 ^ (n.val + k.val) ∧ (r.val + 2 ^ n.val * s.val) % 2 ^ n.val = r.val ∧ (r.val + 2 ^ n.val * s.val) / 2 ^ n.val = s.val := by
  intro n k hnk r s hr hs
  refine ⟨?_, ?_, ?_⟩
  · rw [Nat.pow_add]
    have : 2 ^ n.val * s.val + 2 ^ n.val ≤ 2 ^ n.val * 2 ^ k.val := by
      rw [← Nat.mul_succ]; exact Nat.mul_le_mul_left _ hs
    omega
  · rw [Nat.add_mul_mod_self_left, Nat.mod_eq_of_lt hr]
  · rw [Nat.add_mul_div_left _ _ (Nat.pow_pos (by omega)), Nat.div_eq_of_lt hr, Nat.zero_add]

theorem rank_minor {l : List (List Int)} {n m : Nat} (hn : n ≤ 6) (hm : m ≤ 6) : ∃ r c, r < 2 ^ n ∧ c < 2 ^ m ∧ popcS r = rkR l (2 ^ m) (2 ^ n) ∧ popcS c = rkR l (2 ^ m) (2 ^ n) ∧ dt (rkR l (2 ^ m) (2 ^ n)) (at2 (partL l r c)) ≠ 0 := by
  by_cases h0 : 1 ≤ rkR l (2 ^ m) (2 ^ n)
  · obtain ⟨_, _, a3⟩ := rank_down (l := l) (n := n) (m := m) hn hm
    cases hb : hasB l (rkR l (2 ^ m) (2 ^ n)) (2 ^ n) (2 ^ m) with
    | false => exact absurd rfl ((a3 _ h0).2 hb)
    | true =>
      obtain ⟨r, c, ⟨r1, r2⟩, ⟨c1, c2⟩, hd⟩ := hasB_iff.1 hb
      exact ⟨r, c, r1, c1, r2, c2, hd⟩
  · have e : rkR l (2 ^ m) (2 ^ n) = 0 := by omega
    have p0 : popcS 0 = 0 := by decide
    rw [e]
    exact ⟨0, 0, Nat.pow_pos (by omega), Nat.pow_pos (by omega), p0, p0, by rw [dt_zero]; omega⟩
theorem rank_ge {l : List (List Int)} {n m r c k : Nat} (hn : n ≤ 6) (hm : m ≤ 6) (hr : r < 2 ^ n) (hc : c < 2 ^ m) (kr : popcS r = k) (kc : popcS c = k) (hd : dt k (at2 (partL l r c)) ≠ 0) : k ≤ rkR l (2 ^ m) (2 ^ n) := by
  by_cases h0 : 1 ≤ k
  · obtain ⟨_, _, a3⟩ := rank_down (l := l) (n := n) (m := m) hn hm
    exact (a3 k h0).1 (hasB_iff.2 ⟨r, c, ⟨hr, kr⟩, ⟨hc, kc⟩, hd⟩)
  · omega

theorem rank_beside {l u : List (List Int)} {n m n2 m2 : Nat} (hn : l.length = n) (hm : (l.getD 0 []).length = m) (hu : u.length = n2) (hmu : (u.getD 0 []).length = m2) (h1 : 1 ≤ n) (h6 : n + n2 ≤ 6) (m6 : m + m2 ≤ 6) :
    rkR (besideL l u) (2 ^ (m + m2)) (2 ^ (n + n2)) = rkR l (2 ^ m) (2 ^ n) + rkR u (2 ^ m2) (2 ^ n2) := by
  have g1 : 2 ^ n ≤ 2 ^ 6 := Nat.pow_le_pow_right (by omega) (by omega)
  have g2 : 2 ^ m ≤ 2 ^ 6 := Nat.pow_le_pow_right (by omega) (by omega)
  have g3 : 2 ^ n2 ≤ 2 ^ 6 := Nat.pow_le_pow_right (by omega) (by omega)
  have g4 : 2 ^ m2 ≤ 2 ^ 6 := Nat.pow_le_pow_right (by omega) (by omega)
  have p1 : 2 ^ (n + n2) ≤ 2 ^ 6 := Nat.pow_le_pow_right (by omega) h6
  have p2 : 2 ^ (m + m2) ≤ 2 ^ 6 := Nat.pow_le_pow_right (by omega) m6
  have q1 : rkR l (2 ^ m) (2 ^ n) + rkR u (2 ^ m2) (2 ^ n2) ≤ rkR (besideL l u) (2 ^ (m + m2)) (2 ^ (n + n2)) := by
    obtain ⟨r, c, a1, a2, a3, a4, a5⟩ := rank_minor (l := l) (n := n) (m := m) (by omega) (by omega)
    obtain ⟨s, d, b1, b2, b3, b4, b5⟩ := rank_minor (l := u) (n := n2) (m := m2) (by omega) (by omega)
    obtain ⟨t1, t2, t3⟩ := two_sets ⟨n, by omega⟩ ⟨n2, by omega⟩ h6 ⟨r, by omega⟩ ⟨s, by omega⟩ a1 b1
    obtain ⟨v1, v2, v3⟩ := two_sets ⟨m, by omega⟩ ⟨m2, by omega⟩ m6 ⟨c, by omega⟩ ⟨d, by omega⟩ a2 b2
    simp only at t1 t2 t3 v1 v2 v3
    have k1 := (selN_two ⟨n, by omega⟩ ⟨n2, by omega⟩ h6 ⟨r + 2 ^ n * s, by omega⟩ t1).1
    have k2 := (selN_two ⟨m, by omega⟩ ⟨m2, by omega⟩ m6 ⟨c + 2 ^ m * d, by omega⟩ v1).1
    simp only at k1 k2
    rw [t2, t3, a3, b3] at k1
    rw [v2, v3, a4, b4] at k2
    have e := (minor_beside hn hm hu hmu h1 h6 m6 t1 v1 k1 k2).1 (by rw [t2, v2, a3, a4])
    rw [t2, t3, v2, v3, a3, b3] at e
    exact rank_ge h6 m6 t1 v1 k1 k2 (by rw [e]; exact Int.mul_ne_zero a5 b5)
  have q2 : rkR (besideL l u) (2 ^ (m + m2)) (2 ^ (n + n2)) ≤ rkR l (2 ^ m) (2 ^ n) + rkR u (2 ^ m2) (2 ^ n2) := by
    obtain ⟨r, c, a1, a2, a3, a4, a5⟩ := rank_minor (l := besideL l u) (n := n + n2) (m := m + m2) h6 m6
    obtain ⟨e1, e2⟩ := minor_beside hn hm hu hmu h1 h6 m6 a1 a2 a3 a4
    by_cases hxy : popcS (r % 2 ^ n) = popcS (c % 2 ^ m)
    · rw [e1 hxy] at a5
      have k1 := (selN_two ⟨n, by omega⟩ ⟨n2, by omega⟩ h6 ⟨r, by omega⟩ a1).1
      have k2 := (selN_two ⟨m, by omega⟩ ⟨m2, by omega⟩ m6 ⟨c, by omega⟩ a2).1
      simp only at k1 k2
      have h1' : dt (popcS (r % 2 ^ n)) (at2 (partL l (r % 2 ^ n) (c % 2 ^ m))) ≠ 0 := fun h => a5 (by rw [h, Int.zero_mul])
      have h2' : dt (popcS (r / 2 ^ n)) (at2 (partL u (r / 2 ^ n) (c / 2 ^ m))) ≠ 0 := fun h => a5 (by rw [h, Int.mul_zero])
      have z1 := rank_ge (l := l) (n := n) (m := m) (by omega) (by omega) (Nat.mod_lt r (Nat.pow_pos (by omega))) (Nat.mod_lt c (Nat.pow_pos (by omega))) rfl hxy.symm h1'
      have z2 := rank_ge (l := u) (n := n2) (m := m2) (by omega) (by omega) (Nat.div_lt_of_lt_mul (by rw [← Nat.pow_add]; exact a1)) (Nat.div_lt_of_lt_mul (by rw [← Nat.pow_add]; exact a2)) rfl (show popcS (c / 2 ^ m) = popcS (r / 2 ^ n) by omega) h2'
      omega
    · exact absurd (e2 hxy) a5
  omega

theorem value_beside {l u : List (List Int)} {n n2 : Nat} (hn : l.length = n) (hm : (l.getD 0 []).length = n) (hu : u.length = n2) (hmu : (u.getD 0 []).length = n2) (h6 : n + n2 ≤ 6) : ordF (besideL l u) (n + n2) (n + n2) 0 = ordF l n n 0 * ordF u n2 n2 0 := by
  rw [ordF_all _ h6, ordF_all _ (by omega), ordF_all _ (by omega), dt_block n2 n _ (fun i j hi hj hN => by rw [at_beside (by omega) (by omega), if_neg (by omega), if_neg (by omega)])]
  congr 1
  · exact dt_congr n fun i j hi hj => by rw [at_beside (by omega) (by omega), if_pos (by omega)]
  · exact dt_congr n2 fun i j hi hj => by
      rw [at_beside (by omega) (by omega), if_neg (by omega), if_pos (by omega), hn, hm, show n + i - n = i by omega, show n + j - n = j by omega]

end Go.Proofs.Ythdemjfllfhhpaa
end

section
namespace Go.Proofs.Ythdemjfllfhhpaa
open Go.RowKit Go.Deep

set_option maxRecDepth 100000 in
set_option maxHeartbeats 2000000 in
theorem rank_any (a : Option Addr) (cap n m : Nat) (l : List (List Int)) (w : World) (hn : l.length = n) (hT : TabIn l) (hmm : (l.getD 0 []).length = m) (hm : MatR w a l) :
    Calls Try.prog 54 #[.slice a n cap] w fun e w' => e = .returned (.int .i64 (rkR l (2 ^ m) (2 ^ n) : Nat)) ∧ w.Since w.heap.size w' := by
  have h6 := hT.2.1
  have h1 := hT.1
  have hw := hT.width
  rw [hn] at h6 h1
  rw [hmm] at hw
  obtain ⟨r1, r2, r3⟩ := rank_down (l := l) h6 hw.2
  obtain ⟨b, hb⟩ : ∃ b, rkR l (2 ^ m) (2 ^ n) = b := ⟨_, rfl⟩
  rw [hb] at r1 r2 r3 ⊢
  have EW := width_any a cap n l w hn (by omega) (by omega) hm
  rw [hmm] at EW
  have EH := Lib.hid (fun (k : Nat) (W : World) (h : w.Since w.heap.size W) => hasMinor_any a cap n m k l W hn hmm hT (hm.since h))
  replace EW := Lib.hid EW
  have R3 := Lib.hid r3
  clear r3 hn hmm hm hT hb
  go_enter Try.func54, Try.ntmps54
  go_wp2_with fail
  refine (EW.out).mono ?_
  rintro e w1 ⟨rfl, rfl⟩
  go_wp2
  all_goals
    go_loopg [3] 6 (fun g v wr => ∃ c : Nat, b ≤ c ∧ c ≤ 6 ∧ c ≤ g ∧ v = .int .i64 c ∧ w.Since w.heap.size wr)
    case atStart => first | exact ⟨n, r1, h6, h6, rfl, World.Since.refl _ _⟩ | exact ⟨m, r2, hw.2, hw.2, rfl, World.Since.refl _ _⟩
    case round =>
      obtain ⟨c, hbc, hc6, hcg, rfl, hS⟩ := hrel
      by_cases hc0 : c = 0
      · have hb0 : b = 0 := by omega
        subst hc0 hb0
        have HS := Lib.hid hS
        clear hS
        go_wp2
        go_ret
        exact ⟨rfl, HS.out⟩
      · have hc1 : decide ((0 : Int) < (c : Int)) = true := by simp; omega
        have E := EH.out c wr hS
        obtain ⟨q1, q2⟩ := R3.out c (by omega)
        obtain ⟨h, hh⟩ : ∃ h, hasB l c (2 ^ n) (2 ^ m) = h := ⟨_, rfl⟩
        rw [hh] at E q1 q2
        replace E := Lib.hid E
        have HS := Lib.hid hS
        clear hS hh
        go_wp2_with fail
        refine (E.out).mono ?_
        rintro e w2 ⟨rfl, hs2⟩
        have HS2 := Lib.hid (HS.out.trans (since_mono hs2 HS.out.size))
        clear hs2
        cases h with
        | true =>
          have hcb : c = b := by have := q1 rfl; omega
          subst hcb
          go_wp2
          go_ret
          exact ⟨rfl, HS2.out⟩
        | false =>
          have hcb := q2 rfl
          go_wp2
          go_roundg (gk - 1)
          case measure => omega
          case rel => exact ⟨c - 1, by omega, by omega, by omega, by go_num, HS2.out⟩

set_option maxHeartbeats 1000000 in
theorem implValueRank_any (a : Option Addr) (cap n : Nat) (l : List (List Int)) (w : World) (hn : l.length = n) (hsz : szL l ≤ 1048576) (hm : MatR w a l) :
    Calls Try.prog 15 #[.slice a n cap] w (SpecW w (tabIn l) (rkR l (2 ^ (l.getD 0 []).length) (2 ^ n) : Nat)) := by
  have E := implTableIn_any a cap n l w hn hsz hm
  cases hT : tabIn l with
  | false =>
    rw [hT] at E
    replace E := Lib.hid E
    clear hT hm hn hsz
    go_enter Try.func15, Try.ntmps15
    go_wp2_with fail
    refine (E.out).mono ?_
    rintro e w1 ⟨rfl, hd⟩
    have HD := Lib.hid hd
    clear hd
    go_wp2
    go_ret2
    exact ⟨rfl, HD.out⟩
  | true =>
    rw [hT] at E
    replace E := Lib.hid E
    have E2 := Lib.hid (fun (W : World) (hd : w.Since w.heap.size W) => rank_any a cap n _ l W hn (tabIn_of hT) rfl (hm.since hd))
    clear hT hm hn hsz
    go_enter Try.func15, Try.ntmps15
    go_wp2_with fail
    refine (E.out).mono ?_
    rintro e w1 ⟨rfl, hd⟩
    have HD := Lib.hid hd
    clear hd
    go_wp2_with fail
    refine (E2.out w1 HD.out).mono ?_
    rintro e w2 ⟨rfl, hs2⟩
    have HS2 := Lib.hid (HD.out.trans (since_mono hs2 HD.out.size))
    clear hs2
    go_wp2
    go_ret2
    exact ⟨rfl, HS2.out⟩

end Go.Proofs.Ythdemjfllfhhpaa
end

section
namespace Go.Proofs.Ythdemjfllfhhpaa
open Go.RowKit Go.Deep

def cnt (y : Nat) : List Nat → Nat
  | [] => 0
  | x :: xs => (if y < x then 1 else 0) + cnt y xs
theorem cnt_snoc (y : Nat) : ∀ (xs : List Nat) (z : Nat), cnt y (xs ++ [z]) = cnt y xs + (if y < z then 1 else 0)
  | [], z => by simp [cnt]
  | x :: xs, z => by simp only [List.cons_append, cnt, cnt_snoc y xs z]; omega
theorem cnt_le (y : Nat) : ∀ xs : List Nat, cnt y xs ≤ xs.length
  | [] => by simp [cnt]
  | x :: xs => by have := cnt_le y xs; simp only [cnt, List.length_cons]; split <;> omega
def invTo (cs : List Nat) : Nat → Nat
  | 0 => 0
  | i + 1 => invTo cs i + cnt (cs.getD i 0) (cs.take i)
def inv (cs : List Nat) : Nat := invTo cs cs.length
theorem invTo_le (cs : List Nat) : ∀ i, i ≤ cs.length → invTo cs i ≤ i * cs.length
  | 0, _ => by simp [invTo]
  | i + 1, h => by
    have h1 := invTo_le cs i (by omega)
    have h2 := cnt_le (cs.getD i 0) (cs.take i)
    have h3 : (cs.take i).length ≤ cs.length := by simp; omega
    unfold invTo
    rw [Nat.add_mul]
    omega
theorem invTo_snoc (cs : List Nat) (k : Nat) : ∀ i, i ≤ cs.length → invTo (cs ++ [k]) i = invTo cs i
  | 0, _ => rfl
  | i + 1, h => by
    unfold invTo
    rw [invTo_snoc cs k i (by omega), List.take_append_of_le_length (by omega)]
    congr 2
    simp [List.getD, List.getElem?_append, show i < cs.length by omega]
theorem inv_snoc (cs : List Nat) (k : Nat) : inv (cs ++ [k]) = inv cs + cnt k cs := by
  unfold inv
  rw [List.length_append, List.length_singleton]
  show invTo (cs ++ [k]) cs.length + _ = _
  rw [invTo_snoc cs k _ (Nat.le_refl _)]
  congr 2
  · simp [List.getD]
  · simp
def prodN (s : Int) (f : Nat → Int) : Nat → Int
  | 0 => s
  | n + 1 => prodN s f n * f n
theorem prodN_congr {s : Int} {f g : Nat → Int} : ∀ n, (∀ j, j < n → f j = g j) → prodN s f n = prodN s g n
  | 0, _ => rfl
  | n + 1, h => by unfold prodN; rw [prodN_congr n (fun j hj => h j (by omega)), h n (by omega)]
theorem prodN_neg (s c : Int) (f : Nat → Int) : ∀ n, prodN (c * s) f n = c * prodN s f n
  | 0 => rfl
  | n + 1 => by unfold prodN; rw [prodN_neg s c f n, Int.mul_assoc]
def setOf (cs : List Nat) : Nat := cs.foldl (fun s c => s ||| 2 ^ c) 0
theorem setOf_snoc (cs : List Nat) (k : Nat) : setOf (cs ++ [k]) = setOf cs ||| 2 ^ k := by simp [setOf]

theorem popcS_or : ∀ s : Fin 64, ∀ c k : Fin 6, s.val.testBit c.val = false → popcS ((s.val ||| 2 ^ c.val) / 2 ^ k.val) = popcS (s.val / 2 ^ k.val) + (if k.val ≤ c.val then 1 else 0) := by decide +kernel
theorem setFrom_bit (k : Nat) : ∀ (cs : List Nat) (s : Nat), (cs.foldl (fun s c => s ||| 2 ^ c) s).testBit k = (s.testBit k || decide (k ∈ cs))
  | [], s => by simp
  | c :: cs, s => by
    rw [List.foldl_cons, setFrom_bit k cs, Nat.testBit_or, Nat.testBit_two_pow, Bool.or_assoc]
    congr 1
    by_cases h1 : c = k
    · subst h1; simp
    · have h2 : ¬ k = c := fun e => h1 e.symm
      simp [h1, h2]
theorem setOf_bit (cs : List Nat) (k : Nat) : (setOf cs).testBit k = decide (k ∈ cs) := by
  unfold setOf; rw [setFrom_bit]; simp
theorem setFrom_lt : ∀ (cs : List Nat) (s : Nat), s < 2 ^ 6 → (∀ c ∈ cs, c < 6) → cs.foldl (fun s c => s ||| 2 ^ c) s < 2 ^ 6
  | [], s, h, _ => h
  | c :: cs, s, h, hc => by
    rw [List.foldl_cons]
    exact setFrom_lt cs _ (Nat.or_lt_two_pow h (Nat.pow_lt_pow_right (by omega) (hc c (by simp)))) (fun x hx => hc x (by simp [hx]))
theorem setOf_lt {cs : List Nat} (h : ∀ c ∈ cs, c < 6) : setOf cs < 64 := setFrom_lt cs 0 (by decide) h
theorem setFrom_cnt (k : Nat) (hk : k < 6) : ∀ (cs : List Nat) (s : Nat), s < 2 ^ 6 → (∀ c ∈ cs, c < 6) → cs.Nodup → (∀ c ∈ cs, s.testBit c = false) → k ∉ cs → popcS (cs.foldl (fun s c => s ||| 2 ^ c) s / 2 ^ k) = popcS (s / 2 ^ k) + cnt k cs
  | [], s, _, _, _, _, _ => rfl
  | c :: cs, s, h, hc, hn, hb, hkn => by
    have hc6 := hc c (by simp)
    have hn' := List.nodup_cons.1 hn
    have e := popcS_or ⟨s, h⟩ ⟨c, hc6⟩ ⟨k, hk⟩ (hb c (by simp))
    simp only at e
    rw [List.foldl_cons, setFrom_cnt k hk cs _ (Nat.or_lt_two_pow h (Nat.pow_lt_pow_right (by omega) hc6)) (fun x hx => hc x (by simp [hx])) hn'.2 (fun x hx => by
      rw [Nat.testBit_or, hb x (by simp [hx]), Nat.testBit_two_pow]
      have : c ≠ x := fun e => hn'.1 (e ▸ hx)
      simp [this]) (fun hx => hkn (by simp [hx])), e]
    have hne : k ≠ c := fun e => hkn (by simp [e])
    simp only [cnt]
    by_cases h1 : k < c
    · rw [if_pos h1, if_pos (by omega)]; omega
    · rw [if_neg h1, if_neg (by omega)]; omega
theorem setOf_cnt {cs : List Nat} {k : Nat} (hk : k < 6) (hc : ∀ c ∈ cs, c < 6) (hn : cs.Nodup) (hkn : k ∉ cs) : popcS (setOf cs / 2 ^ k) = cnt k cs := by
  have e := setFrom_cnt k hk cs 0 (by decide) hc hn (by simp) hkn
  have e0 : popcS (0 / 2 ^ k) = 0 := by rw [Nat.zero_div]; decide
  unfold setOf
  rw [e, e0]; omega

def ordS (l : List (List Int)) (n : Nat) : Nat → List Nat → Int
  | 0, cs => prodN (sn (inv cs)) (fun i => at2 l i (cs.getD i 0)) cs.length
  | m + 1, cs => sumN (fun k => if k ∈ cs then 0 else ordS l n m (cs ++ [k])) n
theorem ordS_succ (l : List (List Int)) (n m : Nat) (cs : List Nat) : ordS l n (m + 1) cs = sumN (fun k => if k ∈ cs then 0 else ordS l n m (cs ++ [k])) n := rfl
theorem ordS_eq (l : List (List Int)) (n : Nat) (hn : n ≤ 6) : ∀ (m : Nat) (cs : List Nat), cs.length + m = n → cs.Nodup → (∀ c ∈ cs, c < n) → ordS l n m cs = prodN (sn (inv cs)) (fun i => at2 l i (cs.getD i 0)) cs.length * ordF l n m (setOf cs)
  | 0, cs, _, _, _ => by rw [ordF_zero, Int.mul_one]; rfl
  | m + 1, cs, hl, hd, hc => by
    rw [ordS_succ, ordF_succ, ← sumN_mul]
    refine sumN_congr _ fun k hk => ?_
    by_cases hm : k ∈ cs
    · rw [if_pos hm, ordT_yes _ (by rw [setOf_bit]; simpa using hm), Int.mul_zero]
    · rw [if_neg hm, ordT_no _ (by rw [setOf_bit]; simpa using hm), setOf_cnt (by omega) (fun c h => by have := hc c h; omega) hd hm,
        ordS_eq l n hn m (cs ++ [k]) (by simp; omega) (by rw [List.nodup_append]; exact ⟨hd, by simp, fun a ha b hb => by simp at hb; subst hb; exact fun e => hm (e ▸ ha)⟩) (fun c h => by
          rcases List.mem_append.1 h with h | h
          · exact hc c h
          · simp at h; omega), setOf_snoc, inv_snoc, List.length_append, List.length_singleton]
      show prodN _ _ cs.length * at2 l cs.length ((cs ++ [k]).getD cs.length 0) * _ = _
      rw [show (cs ++ [k]).getD cs.length 0 = k by simp [List.getD], sn_add, Int.mul_comm (sn (inv cs)) (sn (cnt k cs)), prodN_neg,
        prodN_congr (g := fun i => at2 l i (cs.getD i 0)) cs.length (fun j hj => by simp [List.getD, List.getElem?_append, hj]), show n - (m + 1) = cs.length by omega, sg_sn]
      grind
theorem ordS_all (l : List (List Int)) (n : Nat) (hn : n ≤ 6) : ordS l n n [] = ordF l n n 0 := by
  rw [ordS_eq l n hn n [] (by simp) (by simp) (by simp)]
  show 1 * ordF l n n 0 = _
  omega

theorem prodN_bd {f : Nat → Int} {s : Int} (hs : -1 ≤ s ∧ s ≤ 1) : ∀ i : Nat, (∀ j, j < i → -30 ≤ f j ∧ f j ≤ 30) → -(p180 i) ≤ prodN s f i ∧ prodN s f i ≤ p180 i
  | 0, _ => by simp only [prodN, p180]; omega
  | i + 1, h => by
    have h1 := prodN_bd hs i (fun j hj => h j (by omega))
    have h2 := h i (by omega)
    have h3 := mul_bdB h2.1 h2.2 h1.1 h1.2
    have := p180_pos i
    unfold prodN p180
    rw [Int.mul_comm (prodN s f i)]
    omega
theorem sn_bd (p : Nat) : -1 ≤ sn p ∧ sn p ≤ 1 := by unfold sn; split <;> omega
def b6 : Nat → Int
  | 0 => 34012224000000
  | m + 1 => 6 * b6 m
theorem b6_pos : ∀ m, 1 ≤ b6 m
  | 0 => by simp [b6]
  | m + 1 => by have := b6_pos m; unfold b6; omega
theorem b6_le (m : Nat) (h : m ≤ 6) : b6 m ≤ 1586874322944000000 := by
  have h : m = 0 ∨ m = 1 ∨ m = 2 ∨ m = 3 ∨ m = 4 ∨ m = 5 ∨ m = 6 := by omega
  rcases h with rfl | rfl | rfl | rfl | rfl | rfl | rfl <;> decide
theorem ordS_bd {l : List (List Int)} {n : Nat} (hn : n ≤ 6) (hA : ∀ i j, i < n → j < n → -30 ≤ at2 l i j ∧ at2 l i j ≤ 30) : ∀ (m : Nat) (cs : List Nat), cs.length + m = n → (∀ c ∈ cs, c < n) → -(b6 m) ≤ ordS l n m cs ∧ ordS l n m cs ≤ b6 m
  | 0, cs, hl, hc => by
    have h1 := prodN_bd (sn_bd (inv cs)) (f := fun i => at2 l i (cs.getD i 0)) cs.length (fun j hj => hA j _ (by omega) (by
      have : cs.getD j 0 = cs[j] := by simp [List.getD, hj]
      rw [this]; exact hc _ (List.getElem_mem _)))
    have h2 := p180_le cs.length (by omega)
    show -(34012224000000 : Int) ≤ prodN _ _ _ ∧ prodN _ _ _ ≤ 34012224000000
    omega
  | m + 1, cs, hl, hc => by
    have h1 := sumN_bdB (f := fun k => if k ∈ cs then 0 else ordS l n m (cs ++ [k])) (B := b6 m) n (fun k hk => by
      have := b6_pos m
      split
      · omega
      · exact ordS_bd hn hA m (cs ++ [k]) (by simp; omega) (fun c h => by
          rcases List.mem_append.1 h with h | h
          · exact hc c h
          · simp at h; omega))
    have hp := b6_pos m
    have h2 : (n : Int) * b6 m ≤ 6 * b6 m := Int.mul_le_mul_of_nonneg_right (by omega) (by omega)
    rw [ordS_succ]
    unfold b6
    omega
theorem ordP_bd {l : List (List Int)} {n m : Nat} {cs : List Nat} (hn : n ≤ 6) (hA : ∀ i j, i < n → j < n → -30 ≤ at2 l i j ∧ at2 l i j ≤ 30) (hl : cs.length + (m + 1) = n) (hc : ∀ c ∈ cs, c < n) {q : Nat} (hq : q ≤ n) :
    -(6 * b6 m) ≤ sumN (fun k => if k ∈ cs then 0 else ordS l n m (cs ++ [k])) q ∧ sumN (fun k => if k ∈ cs then 0 else ordS l n m (cs ++ [k])) q ≤ 6 * b6 m := by
  have h1 := sumN_bdB (f := fun k => if k ∈ cs then 0 else ordS l n m (cs ++ [k])) (B := b6 m) q (fun k hk => by
    have := b6_pos m
    split
    · omega
    · exact ordS_bd hn hA m (cs ++ [k]) (by simp; omega) (fun c h => by
        rcases List.mem_append.1 h with h | h
        · exact hc c h
        · simp at h; omega))
  have hp := b6_pos m
  have h2 : (q : Int) * b6 m ≤ 6 * b6 m := Int.mul_le_mul_of_nonneg_right (by omega) (by omega)
  omega

end Go.Proofs.Ythdemjfllfhhpaa
end

section
namespace Go.Proofs.Ythdemjfllfhhpaa
open Go.RowKit Go.Deep Go.Shelf
attribute [local go_sem] Oper.semAt_some

def ints (cs : List Nat) : List Int := cs.map fun c : Nat => (c : Int)
theorem ints_length (cs : List Nat) : (ints cs).length = cs.length := by simp [ints]
theorem ints_getD (cs : List Nat) (i : Nat) : (ints cs).getD i 0 = (cs.getD i 0 : Nat) := by
  simp only [ints, List.getD, List.getElem?_map]
  cases cs[i]? <;> rfl
theorem take_succ_getD (cs : List Nat) {i : Nat} (h : i < cs.length) : cs.take (i + 1) = cs.take i ++ [cs.getD i 0] := by
  rw [List.take_add_one]; simp [List.getD, h]

set_option maxRecDepth 100000 in
set_option maxHeartbeats 1000000 in
theorem pairsTurned_any (a : Option Addr) (cap m : Nat) (cs : List Nat) (w : World) (hx : cs.length = m) (hm : m ≤ 6) (hcap : m ≤ cap) (hc63 : cap ≤ 9223372036854775807) (ha : RowR w a (ints cs)) :
    Calls Try.prog 149 #[.slice a m cap] w fun e w' => e = .returned (.int .i64 (inv cs)) ∧ w = w' := by
  have HX := Lib.hid hx
  have hinv : inv cs = invTo cs m := by unfold inv; rw [hx]
  rw [hinv]
  have HB := Lib.hid (fun i (h : i ≤ m) => invTo_le cs i (by omega))
  clear hx hinv
  go_enter Try.func149, Try.ntmps149
  go_wp2
  go_loopg [3, 4, 5, 7, 10] m (fun g s _ _ _ i wr => ∃ k : Nat, k ≤ m ∧ g = m - k ∧ i = .int .i64 k ∧ s = .int .i64 (invTo cs k) ∧ w = wr)
  case atStart => exact ⟨0, Nat.zero_le _, rfl, rfl, rfl, rfl⟩
  case round =>
    obtain ⟨k, hk, rfl, rfl, rfl, rfl⟩ := hrel
    by_cases hlt : k < m
    · obtain ⟨b, o, rfl, hc⟩ := ha (by rw [ints_length, HX.out]; omega)
      have cj := hc k (by rw [ints_length, HX.out]; exact hlt)
      have HC := Lib.hid hc
      rw [ints_getD] at cj
      obtain ⟨y, hy⟩ : ∃ y, y = cs.getD k 0 := ⟨_, rfl⟩
      rw [← hy] at cj
      have HY := Lib.hid hy
      have hib := HB.out k (by omega)
      rw [HX.out] at hib
      obtain ⟨I, hI⟩ : ∃ I, I = invTo cs k := ⟨_, rfl⟩
      rw [← hI] at hib
      have hib2 : k * m ≤ 6 * 6 := Nat.mul_le_mul (by omega) hm
      have HI := Lib.hid hI
      clear hc hy
      rw [← hI]
      clear hI
      go_wp2
      go_loopg [3, 7, 19] k (fun g s _ i wi => ∃ j : Nat, j ≤ k ∧ g = k - j ∧ i = .int .i64 j ∧ s = .int .i64 ((I + cnt y (cs.take j) : Nat) : Int) ∧ w = wi)
      case atStart => exact ⟨0, Nat.zero_le _, rfl, rfl, by simp [cnt], rfl⟩
      case round =>
        obtain ⟨j, hj, rfl, rfl, rfl, rfl⟩ := hrel
        by_cases hjk : j < k
        · have cz := HC.out j (by rw [ints_length, HX.out]; omega)
          rw [ints_getD] at cz
          have hts := take_succ_getD cs (i := j) (by rw [HX.out]; omega)
          obtain ⟨z, hz⟩ : ∃ z, z = cs.getD j 0 := ⟨_, rfl⟩
          rw [← hz] at cz hts
          have hcn := cnt_snoc y (cs.take j) z
          rw [← hts] at hcn
          have hcl := cnt_le y (cs.take j)
          have hcl2 : (cs.take j).length ≤ j := by simp; omega
          obtain ⟨S, hS⟩ : ∃ S, S = I + cnt y (cs.take j) := ⟨_, rfl⟩
          rw [← hS]
          have HS : S ≤ 100 := by omega
          have HN : (I + cnt y (cs.take (j + 1)) : Nat) = S + (if y < z then 1 else 0) := by rw [hcn]; omega
          have HNN := Lib.hid HN
          clear hcn hcl hcl2 hS hts hz HN
          by_cases hyz : y < z
          · have hg : ((y : Int) < (z : Int)) := by omega
            go_wp2
            go_roundg (k - (j + 1))
            case measure => omega
            case rel => exact ⟨j + 1, by omega, rfl, by go_num, by rw [HNN.out, if_pos hyz]; go_num, rfl⟩
          · have hg : ¬ ((y : Int) < (z : Int)) := by omega
            go_wp2
            go_roundg (k - (j + 1))
            case measure => omega
            case rel => exact ⟨j + 1, by omega, rfl, by go_num, by rw [HNN.out, if_neg hyz]; go_num, rfl⟩
        · have : k = j := by omega
          subst this
          have e : I + cnt y (cs.take k) = invTo cs (k + 1) := by rw [HI.out, HY.out]; rfl
          rw [e]
          go_wp2
          go_roundg (m - (k + 1))
          case measure => omega
          case rel => exact ⟨k + 1, by omega, rfl, by go_num, rfl, rfl⟩
    · have : m = k := by omega
      subst this
      go_wp2
      go_ret
      exact ⟨rfl, rfl⟩

def lprod {n : Nat} (s : Int) (f : Nat → Int) (pre : List {i : Nat // i < n}) : Int := pre.foldl (fun s x => s * f x.1) s
theorem lprod_snoc {n : Nat} (s : Int) (f : Nat → Int) (pre : List {i : Nat // i < n}) (x : {i : Nat // i < n}) : lprod s f (pre ++ [x]) = lprod s f pre * f x.1 := by simp [lprod]
theorem lprod_sel (s0 : Int) (f : Nat → Int) (s n : Nat) (hs : ∀ i, i < n → s.testBit i = true) : ∀ k, k ≤ n → lprod s0 f (sel s n k) = prodN s0 f k
  | 0, _ => rfl
  | k + 1, hk => by
    rw [sel_yes s n k (by omega) (hs k (by omega)), lprod_snoc, lprod_sel s0 f s n hs k (by omega)]; rfl
theorem lprod_bd {n : Nat} {s : Int} (hs : -1 ≤ s ∧ s ≤ 1) (f : Nat → Int) (hf : ∀ j, j < n → -30 ≤ f j ∧ f j ≤ 30) (pre : List {i : Nat // i < n}) : -(p180 pre.length) ≤ lprod s f pre ∧ lprod s f pre ≤ p180 pre.length := by
  have H : ∀ (pre : List {i : Nat // i < n}) (s B : Int), -B ≤ s → s ≤ B → 1 ≤ B → -(B * p180 pre.length) ≤ pre.foldl (fun s x => s * f x.1) s ∧ pre.foldl (fun s x => s * f x.1) s ≤ B * p180 pre.length := by
    intro pre
    induction pre with
    | nil => intro s B h1 h2 h3; simp only [List.length_nil, p180, List.foldl_nil]; omega
    | cons x xs ih =>
      intro s B h1 h2 h3
      have h4 := hf x.1 x.2
      have h5 := mul_bdB h4.1 h4.2 h1 h2
      have hc := Int.mul_comm s (f x.1)
      have h6 := ih (s * f x.1) (180 * B) (by omega) (by omega) (by omega)
      simp only [List.foldl_cons, List.length_cons, p180]
      rw [show B * (180 * p180 xs.length) = 180 * B * p180 xs.length by rw [← Int.mul_assoc, Int.mul_comm B 180]]
      exact h6
  have := H pre s 1 (by omega) (by omega) (by omega)
  rw [Int.one_mul] at this
  exact this

theorem prodO_world (w : World) (v0 v1 v2 v3 : Value) (t t' : TypeId) (W0 : World) (h : W0 = ((((w.alloc (.cells #[v0] t')).alloc (.cells #[v1] 3)).alloc (.cells #[v2] t)).alloc (.cells #[v3] 3))) :
    W0.heap.size = w.heap.size + 1 + 1 + 1 + 1 ∧ Below w.heap.size w W0 ∧ W0.cell? ⟨w.heap.size, 0, none⟩ = some v0 ∧ W0.cell? ⟨w.heap.size + 1, 0, none⟩ = some v1 ∧ W0.frozen? ⟨w.heap.size + 1, 0, none⟩ = false ∧ W0.cell? ⟨w.heap.size + 1 + 1, 0, none⟩ = some v2 ∧ W0.cell? ⟨w.heap.size + 1 + 1 + 1, 0, none⟩ = some v3 := by
  have c0 := cell_new_l w v0 t'
  have c1 := cell_new_l (w.alloc (.cells #[v0] t')) v1 3
  have c2 := cell_new_l ((w.alloc (.cells #[v0] t')).alloc (.cells #[v1] 3)) v2 t
  have c3 := cell_new_l (((w.alloc (.cells #[v0] t')).alloc (.cells #[v1] 3)).alloc (.cells #[v2] t)) v3 3
  simp only [World.size_alloc] at c1 c2 c3
  refine ⟨by rw [h]; simp, ?_, ?_, ?_, ?_, ?_, ?_⟩
  · rw [h]; exact ((((Below.refl _ w).alloc (Nat.le_refl _) _).alloc (by simp) _).alloc (by simp; omega) _).alloc (by simp; omega) _
  · rw [h]; exact cell_alloc_l _ (cell_alloc_l _ (cell_alloc_l _ c0.1))
  · rw [h]; exact cell_alloc_l _ (cell_alloc_l _ c1.1)
  · rw [h]; exact frozen_alloc_l _ (cell_alloc_l _ c1.1) (frozen_alloc_l _ c1.1 c1.2)
  · rw [h]; exact cell_alloc_l _ c2.1
  · rw [h]; exact c3.1

set_option maxRecDepth 100000 in
set_option maxHeartbeats 2000000 in
theorem plainProduct_any (a : Option Addr) (cap n : Nat) (l : List (List Int)) (g ccap : Nat) (cs : List Nat) (w : World) (hn : l.length = n) (hT : TabIn l) (hw : (l.getD 0 []).length = n) (hm : MatR w a l) (hx : cs.length = n) (hcs : ∀ c ∈ cs, c < n) (hr : RowR w (some ⟨g, 0, none⟩) (ints cs)) :
    Calls Try.prog 150 #[.slice a n cap, .slice (some ⟨g, 0, none⟩) n ccap] w fun e w' => e = .returned (.int .i64 (prodN 1 (fun i => at2 l i (cs.getD i 0)) n)) ∧ w.Since w.heap.size w' := by
  have h6 := hT.2.1
  have h1 := hT.1
  rw [hn] at h6 h1
  obtain ⟨b, o, A, C, rfl, hlen, hcell⟩ := hm.grid hn hT hw
  have hbl : b < w.heap.size := World.block_lt_of_cell? _ _ (hlen 0 (by omega))
  have hpow : 2 ^ n - 1 ≤ 63 := by have : 2 ^ n ≤ 2 ^ 6 := Nat.pow_le_pow_right (by omega) h6; omega
  have hrow : ∀ j, j < n → w.cell? ⟨g, j, none⟩ = some (.int .i64 (cs.getD j 0 : Nat)) := fun j hj => by
    obtain ⟨b2, o2, e, hc⟩ := hr (by rw [ints_length]; omega)
    injection e with e
    injection e with e1 e2 _
    subst e1 e2
    have := hc j (by rw [ints_length]; omega)
    rw [ints_getD, Nat.zero_add] at this
    exact this
  have hgl : g < w.heap.size := World.block_lt_of_cell? _ _ (hrow 0 (by omega))
  have hcj : ∀ j, j < n → cs.getD j 0 < n := fun j hj => by
    have : cs.getD j 0 = cs[j]'(by omega) := by simp [List.getD, show j < cs.length by omega]
    rw [this]; exact hcs _ (List.getElem_mem _)
  have HC := Lib.hid hcell
  have HL := Lib.hid hlen
  have HROW := Lib.hid hrow
  have HCJ := Lib.hid hcj
  obtain ⟨f, hf⟩ : ∃ f : Nat → Int, f = fun i => at2 l i (cs.getD i 0) := ⟨_, rfl⟩
  rw [← hf]
  have hsb : -1 ≤ (1 : Int) ∧ (1 : Int) ≤ 1 := by omega
  have HSB := Lib.hid hsb
  have HF := Lib.hid hf
  have hmix : Try.prog.follows .mixedOrders = true := by kernel_rfl
  clear hm hn hT hw hlen hcell hf hsb hr hrow hcj hcs hx
  refine (callsIn_wide (n := 9)).1 ?_
  refine callsIn_of_wp_marks Try.func150 rfl trivial ?_ rfl
  simp only [Try.ntmps150, List.size_toArray, List.length_cons, List.length_nil, Nat.reduceAdd, Nat.reduceSub, Array.replicate_succ, Array.replicate_zero, List.push_toArray, List.append_toArray, List.nil_append, List.cons_append]
  gi_wp2_with (first
    | (refine ⟨trivial, ?_⟩; gi_at_call 103; refine (callsIn_wide.2 (allRows_any _ _ _ _ h6)).mono ?_; rintro e w' ⟨rfl, rfl⟩)
    | (refine ⟨trivial, ?_⟩; gi_at_call 102; refine (callsIn_wide.2 (rows_any _ _ _ _ _)).mono ?_; rintro e w' ⟨rfl, rfl⟩))
  obtain ⟨W0, hW0⟩ : ∃ W0, W0 = ((((w.alloc (.cells #[.slice (some ⟨g, 0, none⟩) n ccap] 37)).alloc (.cells #[.int .i64 1] 3)).alloc (.cells #[.slice (some ⟨b, o, none⟩) n cap] 48)).alloc (.cells #[.int .i64 (2 ^ n - 1 : Nat)] 3)) := ⟨_, rfl⟩
  rw [← hW0]
  obtain ⟨hsz0, hB0, d0, d1, d1f, d2, d3⟩ := prodO_world w (.slice (some ⟨g, 0, none⟩) n ccap) (.int .i64 1) (.slice (some ⟨b, o, none⟩) n cap) (.int .i64 (2 ^ n - 1 : Nat)) 48 37 W0 hW0
  have hc0' : ∀ j, j < n → W0.cell? ⟨b, o + j, none⟩ = some (.slice (A j) n (C j)) := fun j hj => (hB0.cell (p := ⟨b, o + j, none⟩) hbl).trans (HL.out j hj)
  have hstops := rows_stopsB 8 (by omega) (w.heap.size + 1) W0.heap.size (w.heap.size + 1 + 1) (w.heap.size + 1 + 1 + 1) b o n cap (2 ^ n - 1) (by omega) hpow A (fun _ => n) C W0 (Nat.le_refl _) (by omega) (by omega) (by omega) (by omega) (by omega) d2 d3 hc0'
  clear hc0' d2 d3 hW0
  refine wpIn_rangeFunc_ownF (F := Fence.wide) (n := 9) rfl (by omega) (gf := 117) (lb := #[.pointer (some ⟨w.heap.size + 1 + 1, 0, none⟩), .pointer (some ⟨w.heap.size + 1 + 1 + 1, 0, none⟩)]) rfl trivial (enters_of Try.func117 (by kernel_rfl) rfl)
    hstops kpB_t (kpB_b (Nat.le_refl _)) (Below.refl _ _) (fun _ => rfl)
    (fun pre W => (W.cell? ⟨w.heap.size, 0, none⟩ = some (.slice (some ⟨g, 0, none⟩) n ccap) ∧ W.cell? ⟨w.heap.size + 1, 0, none⟩ = some (.int .i64 (lprod 1 f pre)) ∧ W.frozen? ⟨w.heap.size + 1, 0, none⟩ = false) ∧ Below w.heap.size w W)
    (fun _ _ _ => False)
    (OwnFrom.and (Own.from (fun s A B row hs hg hr => ⟨cell_kept hs.1 hg hr, cell_kept hs.2.1 hg hr, (frozen_kept hs.2.1 hg hr).trans hs.2.2⟩) _) (ownFrom_below (Nat.le_refl _) (by omega)))
    (fun c => fun s A B row hs hg hr => hs)
    ⟨⟨d0, d1, d1f⟩, hB0⟩
    (fun x => { tmps := #[.slice (some ⟨b, o, none⟩) n cap, .slice (some ⟨g, 0, none⟩) n ccap, undef, .pointer (some ⟨w.heap.size, 0, none⟩), .int .i64 0, .pointer (some ⟨w.heap.size + 1, 0, none⟩), .int .i64 x.1, .slice (A x.1) n (C x.1),
        .slice (some ⟨b, o, none⟩) n cap, .slice (some ⟨b, o, none⟩) n cap, .int .i64 (2 ^ n - 1 : Nat),
        .func (.func 117) #[] #[.pointer (some ⟨w.heap.size + 1 + 1, 0, none⟩), .pointer (some ⟨w.heap.size + 1 + 1 + 1, 0, none⟩)],
        .int .i64 x.1, .slice (A x.1) n (C x.1), undef, undef, undef, undef, undef, undef, undef, undef, undef, undef], defers := [] }) ?assign ?body ?done ?stop
  case assign =>
    intro lp x W K hK
    gi_wp2
    exact hK
  case body =>
    rintro lp pre x W ⟨⟨q0, q1, q1f⟩, gB⟩ hlen
    have hx2 := x.2
    obtain ⟨j, hj⟩ : ∃ j, x.1 = j := ⟨_, rfl⟩
    rw [hj] at hx2 ⊢
    have hcj := HCJ.out j hx2
    have hgj := HROW.out j hx2
    obtain ⟨c, hc⟩ : ∃ c, cs.getD j 0 = c := ⟨_, rfl⟩
    obtain ⟨bj, oj, e1, e2, e3⟩ := HC.out j (cs.getD j 0) hx2 hcj
    have hA : A j = some ⟨bj, oj, none⟩ := by
      have := (HL.out j hx2).symm.trans e1
      simp at this
      exact this
    rw [hA]
    have hsn := lprod_snoc 1 f pre x
    rw [hj] at hsn
    have hfj : f j = at2 l j (cs.getD j 0) := by rw [HF.out]
    have hlb := lprod_bd HSB.out f (fun j hj => by
      obtain ⟨_, _, _, _, b1⟩ := HC.out j (cs.getD j 0) hj (HCJ.out j hj)
      rw [HF.out]; exact b1) pre
    have hp6 := p180_le pre.length (by omega)
    obtain ⟨p, hp⟩ : ∃ p, at2 l j (cs.getD j 0) = p := ⟨_, rfl⟩
    obtain ⟨s, hs⟩ : ∃ s, lprod 1 f pre = s := ⟨_, rfl⟩
    rw [hp] at e2 e3 hfj
    rw [hs] at q1 hsn hlb
    rw [hc] at e2 hcj hgj
    have hmb := mul_bdB e3.1 e3.2 hlb.1 hlb.2
    have hcm := Int.mul_comm p s
    have hw2 : IntKind.i64.wrap (s * p) = s * p := IntWalk.i64_in _ ⟨by omega, by omega⟩
    rw [hfj] at hsn
    have HSN := Lib.hid hsn
    have hbj : bj < w.heap.size := World.block_lt_of_cell? _ _ e2
    have E2 := (gB.cell (p := ⟨bj, oj + c, none⟩) hbj).trans e2
    have E3 := (gB.cell (p := ⟨g, j, none⟩) hgl).trans hgj
    clear hj hp hs hsn hlb hfj e1 e2 hA hmb hcm hc hgj
    gi_wp2
    refine round_still_tail 9 hmix (by kernel_rfl) (by kernel_rfl) ?hno ?_
    case hno =>
      rintro ⟨a, w, h⟩
      exact h
    simp only [List.take_succ_cons, List.take_zero, List.drop_succ_cons, List.drop_zero]
    repeat still_step
    refine wpStill_nil ?_
    go_wp2
    rw [← HSN.out] at hw2 ⊢
    refine ⟨(KeepsOthers.setCell _ _ _).trans (KeepsOthers.drew _), ⟨?_, fun b h1 _ => ?_⟩, ⟨?_, ?_, ?_⟩, (gB.setCell (p := ⟨w.heap.size + 1, 0, none⟩) (by simp) _).drew⟩
    · simp
    · exact Below.heap_setCell _ _ _ _ h1
    · exact (World.cell?_setCell_other _ _ _ _ (fun e => by injection e with e1; omega)).trans q0
    · exact World.cell?_setCell_same' _ _ _ (by rw [q1]; rfl)
    · exact (World.frozen?_setCell _ _ _ _).trans q1f
  case done =>
    rintro D ys W hD rfl ⟨⟨q0, q1, q1f⟩, gB⟩ hK
    gi_wp2
    refine ⟨by simp, .inl ⟨_, _, rfl, run_takeDeferred hK, ?_⟩⟩
    have hls := lprod_sel 1 f (2 ^ n - 1) n (fun i hi => by rw [Nat.testBit_two_pow_sub_one]; simpa using hi) n (Nat.le_refl _)
    refine ⟨.int .i64 (prodN 1 f n), ?_, rfl, below_since (gB.trans (belowK_b (w := w) (Nat.le_refl _) W D _ _ (by omega) hK rfl rfl))⟩
    simp [results, Try.f150, go_sem, hls]
  case stop =>
    rintro D c pre W hD hpre hF hK
    exact hF.elim

theorem ordS_plain (l : List (List Int)) (n : Nat) {cs : List Nat} (hx : cs.length = n) : ordS l n 0 cs = sn (inv cs) * prodN 1 (fun i => at2 l i (cs.getD i 0)) n := by
  show prodN (sn (inv cs)) _ cs.length = _
  rw [hx, ← prodN_neg, Int.mul_one]

set_option maxRecDepth 100000 in
set_option maxHeartbeats 2000000 in
theorem orderedProduct_any (a : Option Addr) (cap n : Nat) (l : List (List Int)) (g ccap : Nat) (cs : List Nat) (w : World) (hn : l.length = n) (hT : TabIn l) (hw : (l.getD 0 []).length = n) (hm : MatR w a l) (hx : cs.length = n) (hcs : ∀ c ∈ cs, c < n) (hcap : n ≤ ccap) (hc63 : ccap ≤ 9223372036854775807) (hr : RowR w (some ⟨g, 0, none⟩) (ints cs)) :
    Calls Try.prog 141 #[.slice a n cap, .slice (some ⟨g, 0, none⟩) n ccap] w fun e w' => e = .returned (.int .i64 (ordS l n 0 cs)) ∧ w.Since w.heap.size w' := by
  have h6 := hT.2.1
  rw [hn] at h6
  have hib := invTo_le cs n (by omega)
  rw [hx] at hib
  have hib2 : n * n ≤ 6 * 6 := Nat.mul_le_mul h6 h6
  have hi64 : inv cs < 64 := by unfold inv; rw [hx]; omega
  have EP := Lib.hid (pairsTurned_any (some ⟨g, 0, none⟩) ccap n cs w hx h6 hcap hc63 hr)
  have ES := fun (W : World) => signOf_any (inv cs) hi64 W
  have EQ := plainProduct_any a cap n l g ccap cs w hn hT hw hm hx hcs hr
  have hsb := sn_bd (inv cs)
  have hob := ordS_bd (l := l) (n := n) h6 (fun i j hi hj => hT.at (by omega) (by omega)) 0 cs (by omega) hcs
  have hb0 : b6 0 = 34012224000000 := rfl
  rw [ordS_plain l n hx] at hob ⊢
  obtain ⟨s0, hs0⟩ : ∃ s, s = sn (inv cs) := ⟨_, rfl⟩
  obtain ⟨p, hp⟩ : ∃ p, p = prodN 1 (fun i => at2 l i (cs.getD i 0)) n := ⟨_, rfl⟩
  rw [← hs0, ← hp] at hob ⊢
  rw [← hp] at EQ
  simp only [← hs0] at ES
  replace ES := Lib.hid ES
  replace EQ := Lib.hid EQ
  have hwr : IntKind.i64.wrap (s0 * p) = s0 * p := IntWalk.i64_in _ ⟨by omega, by omega⟩
  obtain ⟨I, hI⟩ : ∃ I, I = inv cs := ⟨_, rfl⟩
  simp only [← hI] at EP ES
  clear hm hn hT hw hr hcs hx hib hib2 hi64 hI hs0 hp hob hsb
  go_enter Try.func141, Try.ntmps141
  go_wp2_with (first
    | (go_at_call 149; refine (EP.out).mono ?_; rintro e w' ⟨rfl, rfl⟩)
    | (go_at_call 81; refine (ES.out _).mono ?_; rintro e w' ⟨rfl, rfl⟩)
    | (go_at_call 150; refine (EQ.out).mono ?_; rintro e w' ⟨rfl, hs⟩; have HS := Lib.hid hs; clear hs))
  go_ret
  exact ⟨rfl, HS.out⟩

end Go.Proofs.Ythdemjfllfhhpaa
end

section
namespace Go.Proofs.Ythdemjfllfhhpaa
open Go.RowKit Go.Deep

def ColsAt (w : World) (g n : Nat) (cs : List Nat) : Prop := w.ownsRow 0 3 1 (.slice (some ⟨g, 0, none⟩) cs.length n) cs.length ((ints cs).map (Value.int .i64))
theorem ColsAt.init {w : World} {g n : Nat} {cs : List Nat} {k : Nat} (h : ColsAt w g n (cs ++ [k])) : ColsAt w g n cs := by
  unfold ColsAt at h ⊢
  rw [show (cs ++ [k]).length = cs.length + 1 by simp] at h
  refine ⟨by simp [ints], ?_⟩
  rcases h.2 with ⟨h', _⟩ | ⟨g', cap', cur, h', hb, hg, hle, hm, hs, ht⟩
  · simp at h'
  · simp only [Value.slice.injEq, Option.some.injEq, Addr.mk.injEq, and_true, true_and] at h'
    obtain ⟨rfl, rfl⟩ := h'
    refine .inr ⟨g, n, cur, rfl, hb, hg, by omega, hm, hs, ?_⟩
    have e := congrArg (List.take cs.length) ht
    rw [List.take_take, Nat.min_eq_left (by omega)] at e
    rw [Nat.mul_one, e]
    simp [ints]
theorem ColsAt.row {w : World} {g n : Nat} {cs : List Nat} (h : ColsAt w g n cs) : RowR w (some ⟨g, 0, none⟩) (ints cs) := fun _ =>
  ⟨g, 0, rfl, fun i hi => by
    have e := World.ownsRow.cellAt h i (by rw [ints_length] at hi; omega)
    rw [Nat.zero_add, e, List.getElem?_map]
    simp [List.getD, hi]⟩
theorem ColsAt.kept {w w' : World} {g n : Nat} {cs : List Nat} (h : ColsAt w g n cs) (hs : w.Since w.heap.size w') : ColsAt w' g n cs := World.ownsRow.kept h (grown_of_since (row := none) hs) (by simp [Value.ownBlock])
theorem ints_snoc (cs : List Nat) (k : Nat) : (ints (cs ++ [k])).map (Value.int .i64) = (ints cs).map (Value.int .i64) ++ [.int .i64 (k : Int)] := by simp [ints]

set_option maxRecDepth 100000 in
set_option maxHeartbeats 4000000 in
theorem sumOfOrders_any (a : Option Addr) (cap n : Nat) (l : List (List Int)) (g : Nat) (hn : l.length = n) (hT : TabIn l) (hw : (l.getD 0 []).length = n) : ∀ (m : Nat) (cs : List Nat) (W : World), cs.length + m = n → (∀ c ∈ cs, c < n) → ColsAt W g n cs → (∀ W', W.grownBy W' (some g) → MatR W' a l) →
    Calls Try.prog 132 #[.slice a n cap, .slice (some ⟨g, 0, none⟩) cs.length n] W fun e w' => e = .returned (.int .i64 (ordS l n m cs)) ∧ W.grownBy w' (some g) ∧ ColsAt w' g n cs := by
  have h6 := hT.2.1
  rw [hn] at h6
  intro m
  induction m with
  | zero =>
    intro cs W hl hc hcols hmat
    have hx : cs.length = n := by omega
    have E := orderedProduct_any a cap n l g n cs W hn hT hw (hmat W (World.grownBy.refl _ _)) hx hc (Nat.le_refl _) (by omega) hcols.row
    rw [hx]
    replace E := Lib.hid E
    have HC := Lib.hid hcols
    clear hmat hcols hl hc hx
    go_enter Try.func132, Try.ntmps132
    go_wp2_with fail
    refine (E.out).mono ?_
    rintro e w1 ⟨rfl, hs⟩
    have HK := HC.out.kept hs
    go_wp2
    go_ret
    exact ⟨rfl, grown_of_since hs, HK⟩
  | succ m ih =>
    intro cs W hl hc hcols hmat
    obtain ⟨i3, hi3⟩ := info3_parts
    have HJ := Lib.hid hi3
    have hbd := fun q (hq : q ≤ n) => ordP_bd (l := l) (n := n) (m := m) (cs := cs) h6 (fun i j hi hj => hT.at (by omega) (by omega)) hl hc hq
    have hb6 := b6_le (m + 1) (by omega)
    have hb6' : b6 (m + 1) = 6 * b6 m := rfl
    rw [ordS_succ]
    obtain ⟨F, hF⟩ : ∃ F : Nat → Int, F = fun k => if k ∈ cs then 0 else ordS l n m (cs ++ [k]) := ⟨_, rfl⟩
    simp only [← hF] at hbd ⊢
    have hd : cs.length < n := by omega
    have hne : ((cs.length : Int) == (n : Int)) = false := by simp; omega
    have HIH := Lib.hid (fun (k : Nat) (hk : k < n) (V : World) (h1 : ColsAt V g n (cs ++ [k])) (h2 : ∀ W', V.grownBy W' (some g) → MatR W' a l) => ih (cs ++ [k]) V (by simp; omega) (fun c h => by
      rcases List.mem_append.1 h with h | h
      · exact hc c h
      · simp at h; omega) h1 h2)
    have HIN := Lib.hid (fun (k : Nat) (V : World) (h1 : ColsAt V g n cs) => contains_any (some ⟨g, 0, none⟩) n cs.length (ints cs) k V (ints_length cs) (by omega) h1.row)
    have HM := Lib.hid hmat
    have HC := Lib.hid hcols
    have HF := Lib.hid hF
    have HB := Lib.hid hbd
    have HMEM : ∀ k : Nat, ((k : Int) ∈ ints cs) ↔ k ∈ cs := fun k => by
      simp only [ints, List.mem_map]
      constructor
      · rintro ⟨c, h1, h2⟩
        have : c = k := by omega
        exact this ▸ h1
      · exact fun h => ⟨k, h, rfl⟩
    have HME := Lib.hid HMEM
    obtain ⟨d, hdd⟩ : ∃ d, d = cs.length := ⟨_, rfl⟩
    have HD := Lib.hid hdd
    rw [← hdd] at hd hne ⊢
    simp only [← hdd] at HIN
    clear ih hmat hcols hF hbd hc hi3 HMEM hdd hT hw hn
    go_enter Try.func132, Try.ntmps132
    go_wp2
    go_loopg [5, 6, 17] n (fun q s _ i wr => ∃ k : Nat, k ≤ n ∧ q = n - k ∧ i = .int .i64 k ∧ s = .int .i64 (sumN F k) ∧ W.grownBy wr (some g) ∧ ColsAt wr g n cs)
    case atStart => exact ⟨0, Nat.zero_le _, rfl, rfl, rfl, World.grownBy.refl _ _, HC.out⟩
    case round =>
      obtain ⟨k, hk, rfl, rfl, rfl, hG, hCo⟩ := hrel
      obtain ⟨s0, hs0⟩ : ∃ s, s = sumN F k := ⟨_, rfl⟩
      have e : sumN F (k + 1) = s0 + F k := by rw [hs0]; rfl
      rw [← hs0]
      by_cases hlt : k < n
      · have hsb := HB.out (k + 1) (by omega)
        rw [e] at hsb
        have E1 := HIN.out k wr hCo
        have HE := Lib.hid e
        have HG := Lib.hid hG
        have HCo := Lib.hid hCo
        clear e hs0 hG
        by_cases hmem : k ∈ cs
        · rw [decide_eq_true ((HME.out k).2 hmem)] at E1
          replace E1 := Lib.hid E1
          have hF0 : F k = 0 := by rw [HF.out]; exact if_pos hmem
          clear hCo
          go_wp2_with fail
          refine (E1.out).mono ?_
          rintro e w' ⟨rfl, rfl⟩
          go_wp2
          go_roundg (n - (k + 1))
          case measure => omega
          case rel => exact ⟨k + 1, by omega, rfl, by go_num, by rw [HE.out, hF0]; simp, HG.out, HCo.out⟩
        · rw [decide_eq_false (fun h => hmem ((HME.out k).1 h))] at E1
          replace E1 := Lib.hid E1
          obtain ⟨f2, hf2⟩ : ∃ f, f = F k := ⟨_, rfl⟩
          rw [← hf2] at hsb
          have hF0 : f2 = ordS l n m (cs ++ [k]) := by rw [hf2, HF.out]; exact if_neg hmem
          have hws : IntKind.i64.wrap (s0 + f2) = s0 + f2 := IntWalk.i64_in _ ⟨by omega, by omega⟩
          have HH := Lib.hid hf2
          have EI := fun (V : World) (h1 : ColsAt V g n (cs ++ [k])) (h2 : V.heap.size ≥ 0 ∧ W.grownBy V (some g)) => HIH.out k hlt V h1 (fun W' hW' => HM.out W' (h2.2.trans hW'))
          rw [show (cs ++ [k]).length = d + 1 by rw [HD.out]; simp, ← hF0] at EI
          replace EI := Lib.hid EI
          have hown : wr.ownsRow 0 3 1 (.slice (some ⟨g, 0, none⟩) d n) d ((ints cs).map (Value.int .i64)) := by rw [HD.out]; exact hCo
          have HOWN := Lib.hid hown
          clear hf2 hsb hF0 hCo hown
          go_wp2_with (first
            | (go_at_call 142; refine (E1.out).mono ?_; rintro e w' ⟨rfl, rfl⟩)
            | (at_builtin; (refine wpList_append_fits _ rfl _ _ 37 rfl 0 3 i3 1 Try.underlying37 HJ.out.1 HJ.out.2.2.1 g d n ((ints cs).map (Value.int .i64)) rfl (HOWN.out.alloc _) ⟨wr.heap.size, 0, none⟩ 1 1 [.int .i64 k] rfl rfl (cell_one_at _ _ _ rfl) (fun x hx => by simp at hx; subst hx; rfl) (by omega) ?_); intro w1 hown' hgrow; have hc1 : ColsAt w1 g n (cs ++ [k]) := (by unfold ColsAt; rw [ints_snoc, show (cs ++ [k]).length = d + 1 by rw [HD.out]; simp]; exact hown'); have hg1 : W.grownBy w1 (some g) := HG.out.trans ((World.grownBy_alloc wr _ _).trans hgrow); clear hown' hgrow; have HC1 := Lib.hid hc1; have HG1 := Lib.hid hg1; clear hc1 hg1)
            | (go_at_call 132; refine (EI.out w1 HC1.out ⟨Nat.zero_le _, HG1.out⟩).mono ?_; rintro e w2 ⟨rfl, hg2, hc2⟩; have HG2 := Lib.hid (HG1.out.trans hg2); have HC2 := Lib.hid hc2.init; clear hg2 hc2))
          go_roundg (n - (k + 1))
          case measure => omega
          case rel => exact ⟨k + 1, by omega, rfl, by go_num, by rw [HE.out, ← HH.out], HG2.out, HC2.out⟩
      · have hqn : n = k := by omega
        subst hqn
        go_wp2
        go_ret
        exact ⟨by rw [hs0]; rfl, hG, hCo⟩

theorem since_fresh {W w1 w2 : World} (h : W.grownBy w1 none) (h2 : w1.grownBy w2 (some W.heap.size)) : W.Since W.heap.size w2 :=
  ⟨h2.os.trans h.os, h2.tape.trans h.tape, h2.output.trans h.output, Nat.le_trans h.size h2.size, fun k hk => (h2.block k (by have := h.size; omega) (by intro e; injection e with e; omega)).trans (h.block k hk (by simp))⟩

set_option maxRecDepth 100000 in
set_option maxHeartbeats 1000000 in
theorem byOrders_any (a : Option Addr) (cap n : Nat) (l : List (List Int)) (w : World) (hn : l.length = n) (hT : TabIn l) (hw : (l.getD 0 []).length = n) (hm : MatR w a l) :
    Calls Try.prog 123 #[.slice a n cap] w fun e w' => e = .returned (.int .i64 (ordF l n n 0)) ∧ w.Since w.heap.size w' := by
  have h6 := hT.2.1
  rw [hn] at h6
  obtain ⟨i3, hi3⟩ := info3_parts
  have HJ := Lib.hid hi3
  have E := fun (V : World) (hc : ColsAt V w.heap.size n []) (hg : w.grownBy V none) => sumOfOrders_any a cap n l w.heap.size hn hT hw n [] V (by simp) (by simp) hc (fun W' hW' => hm.since (since_fresh hg hW'))
  rw [ordS_all l n h6] at E
  replace E := Lib.hid E
  clear hi3 hn hT hw hm
  go_enter Try.func123, Try.ntmps123
  go_wp2_with (first
    | (at_make; (refine wpList_make_own _ rfl _ _ 37 rfl 0 3 i3 (.int .i64 0) 1 Try.underlying37 HJ.out.1 HJ.out.2.1 HJ.out.2.2.1 .i64 .i64 n n rfl rfl rfl (by rw [HJ.out.2.2.2]; omega) (by unfold maxLen; omega) (Nat.zero_le _) ?_); intro w1 hown hgrow; have HO := Lib.hid (show ColsAt w1 w.heap.size n [] from hown); have HG := Lib.hid hgrow; clear hown hgrow)
    | (go_at_call 132; refine (E.out w1 HO.out HG.out).mono ?_; rintro e w2 ⟨rfl, hg2, hc2⟩; have HS := Lib.hid (since_fresh HG.out hg2); clear hg2 hc2))
  go_ret
  exact ⟨rfl, HS.out⟩

theorem implValueOrders_any (a : Option Addr) (cap n : Nat) (l : List (List Int)) (w : World) (hn : l.length = n) (hsz : szL l ≤ 1048576) (hm : MatR w a l) :
    Calls Try.prog 20 #[.slice a n cap] w (SpecW w (sqB l) (ordF l n n 0)) :=
  implValueOrders_of a cap n l (ordF l n n 0) w hn hsz hm fun hs W' hm' => by
    obtain ⟨hT, hw⟩ := sqB_of hs
    exact byOrders_any a cap n l W' hn hT (by rw [← hw, hn]) hm'

end Go.Proofs.Ythdemjfllfhhpaa
end

section
namespace Go.Proofs.Ythdemjfllfhhpaa
open Go.RowKit Go.Deep

set_option maxRecDepth 100000 in
set_option maxHeartbeats 4000000 in
theorem fnValueBeside (a : Option Addr) (cap n : Nat) (w : World) (hc : n ≤ cap) (h63 : cap ≤ 9223372036854775807) (hb : BytR w a n) :
    Calls Try.prog 7 #[.slice a n cap] w fun e w' => e = .returned (.bool true) ∧ w.Since w.heap.size w' := by
  by_cases hlen : 1048576 < n
  · have hl' : decide ((1048576 : Int) < (n : Int)) = true := by simp; omega
    clear hb
    go_enter Try.func7, Try.ntmps7
    go_wp2
    go_ret
    exact ⟨rfl, World.Since.refl _ _⟩
  · have hl' : decide ((1048576 : Int) < (n : Int)) = false := by simp; omega
    have ED := Lib.hid (drawBeside_any a n cap w hc h63 hb)
    clear hb
    go_enter Try.func7, Try.ntmps7
    go_wp2_with fail
    refine (ED.out).mono ?_
    rintro e w1 ⟨a1, c1, l, a6, c6, u, rfl, hs1, ⟨h1, h5, hlens, hit⟩, ⟨g1, g5, glens, git⟩⟩
    have hsz : szL l ≤ 1048576 := szL_of h5 (fun j hj => (hlens j hj).2) (by decide)
    obtain ⟨nn, hn⟩ : ∃ nn, l.length = nn := ⟨_, rfl⟩
    rw [hn]
    have HN := Lib.hid hn
    have HSZ := Lib.hid hsz
    have HM := Lib.hid (fun (W : World) (h : w1.Since w1.heap.size W) => hit.matR.since h)
    have hszu : szL u ≤ 1048576 := szL_of g5 (fun j hj => (glens j hj).2) (by decide)
    obtain ⟨nu, hu⟩ : ∃ nu, u.length = nu := ⟨_, rfl⟩
    rw [hu]
    have HU := Lib.hid hu
    have HSZU := Lib.hid hszu
    have HMU := Lib.hid (fun (W : World) (h : w1.Since w1.heap.size W) => git.matR.since h)
    have HS1 := Lib.hid hs1
    obtain ⟨ok, hok⟩ : ∃ ok, besideOk l u = ok := ⟨_, rfl⟩
    obtain ⟨M, hM⟩ : ∃ M, resT ok (besideL l u) = M := ⟨_, rfl⟩
    have E1 := implTableBeside_any a1 a6 c1 c6 nn nu l u w1 hn hu hsz hszu (hit.matR) (git.matR)
    have E2 := fun (W : World) (h : w1.Since w1.heap.size W) => specTableBeside_any a1 a6 c1 c6 nn nu l u W hn hu hsz hszu (hit.matR.since h) (git.matR.since h)
    have hMsz : szL M ≤ 1048576 := by
      rw [← hM]
      cases hok' : ok with
      | false => simp [resT, szL, sumTo]
      | true => rw [hok'] at hok; exact szL_besideOk l u hok
    unfold ImplT at E1
    unfold SpecT at E2
    rw [hok, hM] at E1
    simp only [hok, hM] at E2
    obtain ⟨q, hq⟩ : ∃ q, M.length = q := ⟨_, rfl⟩
    rw [hq] at E1
    simp only [hq] at E2
    have hq63 : q ≤ 9223372036854775807 := by unfold szL at hMsz; omega
    replace E1 := Lib.hid E1
    replace E2 := Lib.hid E2
    have HQ := Lib.hid hq
    have HMS := Lib.hid hMsz
    have HOK := Lib.hid hok
    have HMM := Lib.hid hM
    clear hn hsz hit hs1 h1 h5 hlens hq hMsz hok hM hu hszu git g1 g5 glens
    go_wp2_with fail
    refine (E1.out).mono ?_
    rintro e w2 ⟨a2, c2, rfl, hs2, ho2⟩
    have HO := Lib.hid (fun (W : World) (h : w2.Since w2.heap.size W) => ho2.matR.since h)
    have HS2 := Lib.hid hs2
    clear ho2 hs2
    go_wp2_with fail
    refine (E2.out w2 HS2.out).mono ?_
    rintro e w3 ⟨a3, c3, rfl, hs3, hi3⟩
    have ES := Lib.hid (fun (W : World) (h : w3.Since w3.heap.size W) => sameRows_same a2 a3 c2 c3 q M W HQ.out hq63 (rows_le HMS.out) (HO.out W (hs3.trans (since_mono h hs3.size))) (hi3.matR.since h))
    have HS3 := Lib.hid hs3
    clear hi3 hs3
    go_wp2_with fail
    refine (ES.out w3 (World.Since.refl _ _)).mono ?_
    rintro e w4 ⟨rfl, hd4⟩
    have hs4 := hd4.since w3.heap.size
    have hs14 : w1.Since w1.heap.size w4 := (HS2.out.trans (since_mono HS3.out HS2.out.size)).trans (since_mono hs4 (by have := HS2.out.size; have := HS3.out.size; omega))
    have HS4 := Lib.hid hs14
    have hs24 : w2.Since w2.heap.size w4 := HS3.out.trans (since_mono hs4 HS3.out.size)
    have HS24 := Lib.hid hs24
    cases ok with
    | false =>
      clear hs14 hs24 hd4
      go_wp2_with fail
      refine (ES.out w4 hs4).mono ?_
      rintro e w5 ⟨rfl, hd5⟩
      have HS5 := Lib.hid (hd5.since w4.heap.size)
      clear hd5
      go_wp2
      go_ret
      exact ⟨rfl, HS1.out.trans (since_mono (HS4.out.trans (since_mono HS5.out HS4.out.size)) HS1.out.size)⟩
    | true =>
      have hMl : M = besideL l u := HMM.out.symm
      clear hs4 hd4
      obtain ⟨hT, hTu, hMT⟩ := besideOk_ofR HOK.out
      obtain ⟨m, hmm⟩ : ∃ m, (l.getD 0 []).length = m := ⟨_, rfl⟩
      obtain ⟨mu, hmu⟩ : ∃ m, (u.getD 0 []).length = m := ⟨_, rfl⟩
      have h1 := hT.1
      have g1 := hTu.1
      have hw := hT.width
      have gw := hTu.width
      have hM6 := hMT.2.1
      have hMw := hMT.width.2
      rw [besideL_length, HN.out, HU.out] at hM6
      rw [besideL_widthR l u h1, hmm, hmu] at hMw
      rw [HN.out] at h1
      rw [HU.out] at g1
      have hqn : q = nn + nu := by rw [← HQ.out, hMl, besideL_length, HN.out, HU.out]
      have hrk := rank_beside HN.out hmm HU.out hmu h1 hM6 hMw
      rw [← hMl, ← hqn] at hrk
      have hMwid : (M.getD 0 []).length = m + mu := by rw [hMl, besideL_widthR l u (by rw [HN.out]; exact h1), hmm, hmu]
      have hMsq : ∀ (h1 : sqB l = true) (h2 : sqB u = true), sqB M = true ∧ ordF M q q 0 = ordF l nn nn 0 * ordF u nu nu 0 := fun x1 x2 => by
        have y1 := (sqB_of x1).2
        have y2 := (sqB_of x2).2
        rw [HN.out, hmm] at y1
        rw [HU.out, hmu] at y2
        refine ⟨?_, ?_⟩
        · unfold sqB
          rw [hMl, tabIn_true hMT, besideL_length, besideL_widthR l u (by rw [HN.out]; exact h1), HN.out, HU.out, hmm, hmu, y1, y2]; simp
        · rw [hqn, hMl]
          exact value_beside HN.out (by rw [hmm, y1]) HU.out (by rw [hmu, y2]) hM6
      have hMb : ∀ h : sqB M = true, -349920000000 ≤ ordF M q q 0 ∧ ordF M q q 0 ≤ 349920000000 := fun h => by
        obtain ⟨z1, z2⟩ := sqB_of h
        have z3 := z1.2.1
        rw [HQ.out] at z2 z3
        rw [ordF_all _ z3]
        have zb := dt_bd q (at2 M) z3 (fun i j hi hj => z1.at (by rw [HQ.out]; exact hi) (by omega))
        have : bdN q ≤ 349920000000 := by
          have h : q = 0 ∨ q = 1 ∨ q = 2 ∨ q = 3 ∨ q = 4 ∨ q = 5 ∨ q = 6 := by omega
          rcases h with h | h | h | h | h | h | h <;> (subst h; decide)
        omega
      have E5 := fun (W : World) (h : w1.Since w1.heap.size W) => implValueOrders_any a1 c1 nn l W HN.out HSZ.out (HM.out W h)
      have E6 := fun (W : World) (h : w1.Since w1.heap.size W) => implValueOrders_any a6 c6 nu u W HU.out HSZU.out (HMU.out W h)
      have E7 := fun (W : World) (h : w2.Since w2.heap.size W) => implValueOrders_any a2 c2 q M W HQ.out HMS.out (HO.out W h)
      have E8 := fun (W : World) (h : w1.Since w1.heap.size W) => implValueRank_any a1 c1 nn l W HN.out HSZ.out (HM.out W h)
      have E9 := fun (W : World) (h : w1.Since w1.heap.size W) => implValueRank_any a6 c6 nu u W HU.out HSZU.out (HMU.out W h)
      have E10 := fun (W : World) (h : w2.Since w2.heap.size W) => implValueRank_any a2 c2 q M W HQ.out HMS.out (HO.out W h)
      unfold SpecW at E5 E6 E7 E8 E9 E10
      have hTM : tabIn M = true := by rw [hMl]; exact tabIn_true hMT
      simp only [tabIn_true hT, hmm, if_true] at E8
      simp only [tabIn_true hTu, hmu, if_true] at E9
      simp only [hTM, hMwid, if_true] at E10
      have hr1 := (rank_down (l := l) (n := nn) (m := m) (by omega) (by omega)).1
      have hr2 := (rank_down (l := u) (n := nu) (m := mu) (by omega) (by omega)).1
      obtain ⟨d, hd⟩ : ∃ d, rkR l (2 ^ m) (2 ^ nn) = d := ⟨_, rfl⟩
      obtain ⟨e', he⟩ : ∃ d, rkR u (2 ^ mu) (2 ^ nu) = d := ⟨_, rfl⟩
      obtain ⟨f, hf⟩ : ∃ d, rkR M (2 ^ (m + mu)) (2 ^ q) = d := ⟨_, rfl⟩
      rw [hd, he, hf] at hrk
      rw [hd] at hr1
      rw [he] at hr2
      simp only [hd] at E8
      simp only [he] at E9
      simp only [hf] at E10
      obtain ⟨p, hp⟩ : ∃ b, sqB l = b := ⟨_, rfl⟩
      obtain ⟨pu, hpu⟩ : ∃ b, sqB u = b := ⟨_, rfl⟩
      obtain ⟨pm, hpm⟩ : ∃ b, sqB M = b := ⟨_, rfl⟩
      obtain ⟨x, hx⟩ : ∃ x, ordF l nn nn 0 = x := ⟨_, rfl⟩
      obtain ⟨y, hy⟩ : ∃ x, ordF u nu nu 0 = x := ⟨_, rfl⟩
      obtain ⟨z, hz⟩ : ∃ x, ordF M q q 0 = x := ⟨_, rfl⟩
      rw [hp, hpu, hpm, hx, hy, hz] at hMsq
      rw [hpm, hz] at hMb
      simp only [hp, hx] at E5
      simp only [hpu, hy] at E6
      simp only [hpm, hz] at E7
      obtain ⟨x', hx'⟩ : ∃ v, (if p = true then x else 0) = v := ⟨_, rfl⟩
      obtain ⟨y', hy'⟩ : ∃ v, (if pu = true then y else 0) = v := ⟨_, rfl⟩
      obtain ⟨z', hz'⟩ : ∃ v, (if pm = true then z else 0) = v := ⟨_, rfl⟩
      simp only [hx'] at E5
      simp only [hy'] at E6
      simp only [hz'] at E7
      have hfin : p = true → pu = true → pm = true ∧ IntKind.i64.wrap (x' * y') = z' := fun h1 h2 => by
        obtain ⟨k1, k2⟩ := hMsq h1 h2
        have kb := hMb k1
        rw [h1, if_pos rfl] at hx'
        rw [h2, if_pos rfl] at hy'
        rw [k1, if_pos rfl] at hz'
        rw [← hx', ← hy', ← hz', ← k2]
        exact ⟨k1, IntWalk.i64_in _ ⟨by omega, by omega⟩⟩
      have hwf : IntKind.i64.wrap ((d : Int) + (e' : Int)) = (f : Int) := (IntWalk.i64_in _ ⟨by omega, by omega⟩).trans (by omega)
      replace E5 := Lib.hid E5
      replace E6 := Lib.hid E6
      replace E7 := Lib.hid E7
      replace E8 := Lib.hid E8
      replace E9 := Lib.hid E9
      replace E10 := Lib.hid E10
      have HF := Lib.hid hfin
      clear hMl hs14 hs24 hT hTu hMT hmm hmu hM6 hMw hqn hrk hMwid hMsq hMb hTM hd he hf hp hpu hpm hx hy hz hx' hy' hz' hfin hr1 hr2
      go_wp2_with fail
      refine (E5.out w4 HS4.out).mono ?_
      rintro e w5 ⟨rfl, hs5⟩
      have HS5 := Lib.hid (HS4.out.trans (since_mono hs5 HS4.out.size))
      have HT5 := Lib.hid (HS24.out.trans (since_mono hs5 HS24.out.size))
      clear hs5
      go_wp2_with fail
      refine (E6.out w5 HS5.out).mono ?_
      rintro e w6 ⟨rfl, hs6⟩
      have HS6 := Lib.hid (HS5.out.trans (since_mono hs6 HS5.out.size))
      have HT6 := Lib.hid (HT5.out.trans (since_mono hs6 HT5.out.size))
      clear hs6
      go_wp2_with fail
      refine (E7.out w6 HT6.out).mono ?_
      rintro e w7 ⟨rfl, hs7⟩
      have HS7 := Lib.hid (HS6.out.trans (since_mono hs7 HS6.out.size))
      have HT7 := Lib.hid (HT6.out.trans (since_mono hs7 HT6.out.size))
      clear hs7
      go_wp2_with fail
      refine (E8.out w7 HS7.out).mono ?_
      rintro e w8 ⟨rfl, hs8⟩
      have HS8 := Lib.hid (HS7.out.trans (since_mono hs8 HS7.out.size))
      have HT8 := Lib.hid (HT7.out.trans (since_mono hs8 HT7.out.size))
      clear hs8
      go_wp2_with fail
      refine (E9.out w8 HS8.out).mono ?_
      rintro e w9 ⟨rfl, hs9⟩
      have HS9 := Lib.hid (HS8.out.trans (since_mono hs9 HS8.out.size))
      have HT9 := Lib.hid (HT8.out.trans (since_mono hs9 HT8.out.size))
      clear hs9
      go_wp2_with fail
      refine (E10.out w9 HT9.out).mono ?_
      rintro e w10 ⟨rfl, hs10⟩
      have HS10 := Lib.hid (HS9.out.trans (since_mono hs10 HS9.out.size))
      clear hs10
      cases p with
      | false =>
        go_wp2
        go_ret
        exact ⟨rfl, HS1.out.trans (since_mono HS10.out HS1.out.size)⟩
      | true =>
        cases pu with
        | false =>
          go_wp2
          go_ret
          exact ⟨rfl, HS1.out.trans (since_mono HS10.out HS1.out.size)⟩
        | true =>
          obtain ⟨rfl, hwz⟩ := HF.out rfl rfl
          go_wp2
          go_ret
          exact ⟨rfl, HS1.out.trans (since_mono HS10.out HS1.out.size)⟩

end Go.Proofs.Ythdemjfllfhhpaa
end

section
namespace Go.Proofs.Ythdemjfllfhhpaa
open Go.ChangeShapes Go.WideShapes Go.ChangeAt Go.RowKit Go.Deep

theorem below_since' {B : Nat} {w w' : World} (h : Below B w w') : w.Since B w' := ⟨h.os, h.tape, h.output, h.size, h.block⟩
theorem since_below' {B : Nat} {w w' : World} (h : w.Since B w') : Below B w w' := ⟨h.os, h.tape, h.output, h.size, h.block⟩

section
variable {H : Type} {enc : TypeId × Value → H} {P : Program}
theorem post_of_below {f : Func} {s : ChangeSpec} {apart fresh handsOn again : Bool} {W W' : World} {args : Array Value} {v : Value} {ds gs : List (DataW H)} {before pa pv : List MemPlace}
    (hW : DataW.Whole enc P f.params.toList s.vars apart W args.toList ds gs before)
    (hres : ∀ (b : Nat) (sp : Nat → Bool) (hd : Bool), DataW.TrodAll enc P W' b sp hd f.resultTypes.toList (v.resultList f.resultTypes.size) (s.fn H (ds ++ gs)).results [])
    (hargs : ∀ sp : Nat → Bool, (∀ p ∈ before, sp p.block = true) → DataW.TrodAll enc P W' 0 sp true f.params.toList args.toList (s.fn H (ds ++ gs)).args pa)
    (hvars : ∀ sp : Nat → Bool, (∀ p ∈ before, sp p.block = true) → DataW.TrodVars enc P W' sp s.vars (s.fn H (ds ++ gs)).vars pv)
    (hps : before = pa ++ pv) (hb : Below W.heap.size W W') (hag : again = false) :
    s.post enc P f apart fresh handsOn again W args v W' := by
  have hlt : ∀ p ∈ before, p.block < W.heap.size := fun p hp => hW.lt p hp
  have hold : ∀ p ∈ before, (fun b => decide (b < W.heap.size)) p.block = true := fun p hp => by simpa using hlt p hp
  refine ⟨ds, gs, before, [], pa, pv, hW, hres _ _ _, hargs _ hold, hvars _ hold, World.keptBut_mono (fun p hp => ⟨hp, ?_⟩) (hb.frame (· ∈ before)), fun h => ?_⟩
  · rw [hps, List.mem_append] at hp
    exact Or.inr hp
  · rw [hag] at h; cases h

theorem open_mat {W : World} {t e q : TypeId} {a : Option Addr} {n cap : Nat} {d : DataW H} {p : List MemPlace} (ht : P.underlying t = some (.slice e)) (he : P.underlying e = some (.slice q)) (hq : P.underlying q = some (.int .i64))
    (ce : P.cellsOf e = 1) (cq : P.cellsOf q = 1) (h : DataW.Trod enc P W 0 (fun _ => true) true t (.slice a n cap) d p) :
    ∃ l : List (List Int), l.length = n ∧ MatR W a l ∧ n ≤ 9223372036854775807 ∧ ∀ r, r < l.length → (l.getD r []).length ≤ 9223372036854775807 := by
  obtain ⟨fuel, hf⟩ := h
  rcases open_int_rows ht he hq ce cq hf with ⟨hcs, _⟩ | ⟨a', len', cap', A, L, C, Z, hcs, _, hl, hm, _, hrows⟩
  · simp [Value.cells] at hcs
    obtain ⟨rfl, rfl, rfl⟩ := hcs
    exact ⟨[], rfl, (fun h => by simp at h), by omega, fun r hr => by simp at hr⟩
  · simp [Value.cells] at hcs
    obtain ⟨rfl, rfl, rfl⟩ := hcs
    have hmx : maxLen = 9223372036854775807 := rfl
    have hlen : ∀ r, r < n → ((Z r).take (L r)).length = L r := fun r hr => by
      obtain ⟨_, h1, _, h2, _⟩ := hrows r (by omega)
      rw [List.length_take]; omega
    have hget : ∀ r, r < n → ((List.range n).map fun r => (Z r).take (L r)).getD r [] = (Z r).take (L r) := fun r hr => by simp [List.getD, hr]
    refine ⟨(List.range n).map fun r => (Z r).take (L r), by simp, fun h => ?_, by omega, fun r hr => ?_⟩
    · obtain ⟨b, o, spot⟩ := a'
      simp at h
      have hspot : spot = none := by simpa [Addr.add] using World.cell?_spot (hrows 0 (by omega)).1
      subst hspot
      refine ⟨b, o, A, C, rfl, fun r hr => ?_⟩
      simp at hr
      rw [hget r hr, hlen r hr]
      obtain ⟨g1, g2, g3, g4, g5, g6, g7⟩ := hrows r (by omega)
      refine ⟨by rw [← add_plain]; exact g1, fun h0 => ?_⟩
      rw [hlen r hr] at h0
      cases hA : A r with
      | none => have := g6 hA; omega
      | some a'' =>
        obtain ⟨_, hcell⟩ := g7 a'' hA
        obtain ⟨b', o', sp⟩ := a''
        have hs : sp = none := by simpa [Addr.add] using World.cell?_spot (hcell 0 (by omega))
        subst hs
        refine ⟨b', o', rfl, fun i hi => ?_⟩
        rw [hlen r hr] at hi
        rw [← add_plain, hcell i (by omega)]
        congr 2
        simp [List.getD, hi]
    · simp at hr
      rw [hget r hr, hlen r hr]
      obtain ⟨_, h1, h2, _⟩ := hrows r (by omega)
      omega
end

theorem Try.own : ownKnob Try.prog.godebug = none := by kernel_rfl
theorem Try.laidOut : laidOutB Try.prog = true := by kernel_rfl
theorem Try.cellsR : Try.prog.cellsOf 37 = 1 := by kernel_rfl
theorem Try.cellsI : Try.prog.cellsOf 3 = 1 := by kernel_rfl

end Go.Proofs.Ythdemjfllfhhpaa
end

section
namespace Go.Proofs.Ythdemjfllfhhpaa
open Go.ChangeShapes Go.WideShapes Go.ChangeAt Go.RowKit Go.Deep

theorem wf_u8_of {n : Int} (h : (Lit.int .u8 n).wf = true) : 0 ≤ n ∧ n ≤ 255 := by
  have h2 : (0 : Int) ≤ n ∧ n ≤ 255 := by simpa [Lit.wf, IntKind.min, IntKind.max, IntKind.signed, IntKind.bits] using h
  exact h2

theorem open_bytes {H : Type} {enc : TypeId × Value → H} {P : Program} {W : World} {t e : TypeId} {a : Option Addr} {n cap : Nat} {d : DataW H} {p : List MemPlace} (ht : P.underlying t = some (.slice e)) (he : P.underlying e = some (.int .u8)) (ce : P.cellsOf e = 1)
    (h : DataW.Trod enc P W 0 (fun _ => true) true t (.slice a n cap) d p) : BytR W a n ∧ n ≤ cap ∧ cap ≤ 9223372036854775807 := by
  obtain ⟨fuel, hf⟩ := h
  rcases open_ints ht he ce hf with ⟨hcs, _⟩ | ⟨a', len, cap', zs, hcs, _, hl, hm, hlen, _, hcell, hwf⟩
  · simp [Value.cells] at hcs
    obtain ⟨rfl, rfl, rfl⟩ := hcs
    exact ⟨fun h => absurd h (by omega), by omega, by omega⟩
  · simp [Value.cells] at hcs
    obtain ⟨rfl, rfl, rfl⟩ := hcs
    have hmx : maxLen = 9223372036854775807 := rfl
    have hzl : zs.length = cap := by simpa using hlen
    refine ⟨fun h0 => ?_, by omega, by omega⟩
    obtain ⟨b, o, spot⟩ := a'
    have hspot : spot = none := by simpa [Addr.add] using World.cell?_spot (hcell 0 (by omega))
    subst hspot
    refine ⟨b, o, rfl, fun i hi => ?_⟩
    have hi' : i < zs.length := by omega
    have hw := wf_u8_of (hwf (zs.getD i 0) (by simp [List.getD, hi']))
    obtain ⟨z, hz⟩ := Int.eq_ofNat_of_zero_le hw.1
    refine ⟨z, by omega, ?_⟩
    rw [← add_plain, hcell i hi', hz]

theorem Try.cellsB : Try.prog.cellsOf 5 = 1 := by kernel_rfl

end Go.Proofs.Ythdemjfllfhhpaa
end

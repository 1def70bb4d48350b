import Derived.Test.YtbclpbgomkfabaaFnNetMostLb
import Derived.Test.YtbclpbgomkfabaaRankV
import Derived.Test.YtbclpbgomkfabaaOrdDet
import Derived.Test.YtbclpbgomkfabaaHarn2
import Derived.Test.YtbclpbgomkfabaaFnNetMostLa
import Derived.Test.YtbclpbgomkfabaaTurnSpec
import Derived.Test.YtbclpbgomkfabaaSwapped
import Derived.Test.YtbclpbgomkfabaaDetMul
import Derived.Test.YtbclpbgomkfabaaL2Square
import Derived.Test.YtbclpbgomkfabaaMinorV
import Derived.Test.YtbclpbgomkfabaaBar
import Derived.Test.YtbclpbgomkfabaaOrdF
import Derived.Test.YtbclpbgomkfabaaPartImpl
import Derived.Test.YtbclpbgomkfabaaNetG
import Derived.Test.YtbclpbgomkfabaaMembers
import Derived.Test.YtbclpbgomkfabaaMakeEntry
import Derived.Deep.DeepCutAuto
import Derived.Test.YtbclpbgomkfabaaRows
import Derived.Test.YtbclpbgomkfabaaData
import Derived.ProofKit
import Derived.Deep.Matrix

section
namespace Go.Proofs.Ytbclpbgomkfabaa
open Go.RowKit Go.Deep Go.Shelf

attribute [local go_sem] Oper.semAt_some

def hasR (l : List (List Int)) (k M2 : Nat) (r : Nat) : Bool := (setsTo k M2).any fun c => decide (dt k (at2 (partL l r c)) ≠ 0)
def hasB (l : List (List Int)) (k M1 M2 : Nat) : Bool := (setsTo k M1).any (hasR l k M2)
theorem hasB_yes {l : List (List Int)} {k n m : Nat} {x : Nat × Nat} (hx : x ∈ partsK k n m) (h : mnP l x ≠ 0) : hasB l k (2 ^ n) (2 ^ m) = true := by
  obtain ⟨⟨g1, g2⟩, g3⟩ := partsK_mem.1 hx
  refine List.any_eq_true.2 ⟨x.1, (setsTo_mem k).2 ⟨g1, g2⟩, List.any_eq_true.2 ⟨x.2, (setsTo_mem k).2 g3, ?_⟩⟩
  unfold mnP at h
  rw [g2] at h
  simpa using h
theorem hasB_no {l : List (List Int)} {k n m : Nat} (h : ∀ x ∈ partsK k n m, mnP l x = 0) : hasB l k (2 ^ n) (2 ^ m) = false := by
  cases e : hasB l k (2 ^ n) (2 ^ m) with
  | false => rfl
  | true =>
    obtain ⟨r, hr, e2⟩ := List.any_eq_true.1 e
    obtain ⟨c, hc, e3⟩ := List.any_eq_true.1 e2
    have g1 := (setsTo_mem k).1 hr
    have g2 := (setsTo_mem k).1 hc
    have := h (r, c) (partsK_mem.2 ⟨g1, g2⟩)
    unfold mnP at this
    rw [show popcS (r, c).1 = k from g1.2] at this
    exact absurd this (of_decide_eq_true e3)

theorem oldT_since {w W : World} (h : w.Since w.heap.size W) : OldT w.heap.size w W := fun k hk => h.block k hk
theorem grownSH {w w' : World} (h : w.Since w.heap.size w') : w.grownBy w' none := ⟨h.os, h.tape, h.output, h.size, fun k hk _ => h.block k hk⟩
structure HS (w : World) (tv : Value) (W : World) : Prop where
  bt : Boxed W w.heap.size 66 tv
  br : Boxed W (w.heap.size + 1) 4 (.bool false)
  sn : w.Since w.heap.size W
theorem since_row {lo : Nat} {w W W' : World} {row : Option Nat} (h : w.Since lo W) (hlo : lo ≤ w.heap.size) (hg : W.grownBy W' row) (hr : ∀ r, row = some r → lo ≤ r) : w.Since lo W' :=
  ⟨hg.os.trans h.os, hg.tape.trans h.tape, hg.output.trans h.output, Nat.le_trans h.size hg.size, fun k hk => (hg.block k (by have := h.size; omega) (fun e => by have := hr k e.symm; omega)).trans (h.block k hk)⟩
theorem HS.kept {w W W' : World} {tv : Value} {row : Option Nat} (h : HS w tv W) (hg : W.grownBy W' row) (hr : ∀ r, row = some r → w.heap.size + 2 ≤ r) : HS w tv W' :=
  ⟨h.bt.kept hg (fun e => by have := hr _ e.symm; omega), h.br.kept hg (fun e => by have := hr _ e.symm; omega), since_row h.sn (Nat.le_refl _) hg (fun r e => by have := hr r e; omega)⟩

set_option maxRecDepth 100000 in
set_option maxHeartbeats 2000000 in
theorem hasMinor_any (a : Option Addr) (cap n m k : Nat) (l : List (List Int)) (w : World) (hn : l.length = n) (hmm : (l.getD 0 []).length = m) (hT : TabIn l) (hm : MatR w a l) :
    Calls Try.prog 118 #[.slice a n cap, .int .i64 k] w fun e w' => e = .returned (.bool (hasB l k (2 ^ n) (2 ^ m))) ∧ w.Since w.heap.size w' := by
  have HSEQ := Lib.hid (fun (g : Nat) (hg : 12 ≤ g) (Bt' Bk' : Nat) (V : World) => kth_seqE g hg Bt' Bk' n m cap k a l w V hn hT hmm hm)
  have EM := Lib.hid (fun (x : Nat × Nat) (hx : x ∈ partsK k n m) (V : World) (h : w.Since w.heap.size V) => minor_any a cap n m x.1 x.2 l V hn hmm hT (partsK_mem.1 hx).1.1 (partsK_mem.1 hx).2.1 ((partsK_mem.1 hx).1.2.trans (partsK_mem.1 hx).2.2.symm) (hm.since h))
  clear hn hmm hT hm
  refine (callsIn_wide (n := 20)).1 ?_
  refine callsIn_of_wp_marks Try.func118 rfl trivial ?_ rfl
  simp only [Try.ntmps118, List.size_toArray, List.length_cons, List.length_nil, Nat.reduceAdd, Nat.reduceSub, Array.replicate_succ, Array.replicate_zero, List.push_toArray, List.append_toArray, List.nil_append, List.cons_append]
  gi_wp2_with (refine ⟨trivial, ?_⟩; gi_at_call 135; refine (kthParts_in _ _ _ _ _ _).mono ?_; rintro e w' ⟨rfl, rfl⟩)
  have hb0 := Boxed.new w 66 (.slice a n cap)
  have hr0 := Boxed.new (w.alloc (.cells #[.slice a n cap] 66)) 4 (.bool false)
  rw [World.size_alloc] at hr0
  have hS0 : HS w (.slice a n cap) ((w.alloc (.cells #[.slice a n cap] 66)).alloc (.cells #[.bool false] 4)) := ⟨hb0.alloc _, hr0, ((World.Since.refl _ w).alloc (Nat.le_refl _) _).alloc (by simp) _⟩
  obtain ⟨w2, hw2⟩ : ∃ W, (w.alloc (.cells #[.slice a n cap] 66)).alloc (.cells #[.bool false] 4) = W := ⟨_, rfl⟩
  have z2 : w2.heap.size = w.heap.size + 1 + 1 := by rw [← hw2]; simp
  rw [hw2] at hS0 ⊢
  clear hw2 hb0 hr0
  have bt := cell_alloc_l (.cells #[.int .i64 (k : Int)] 3) (cell_new_l w2 (.slice a n cap) 66).1
  have bk := (cell_new_l (w2.alloc (.cells #[.slice a n cap] 66)) (.int .i64 (k : Int)) 3).1
  have hg := (World.grownBy_alloc w2 (.cells #[.slice a n cap] 66) none).trans (World.grownBy_alloc _ (.cells #[.int .i64 (k : Int)] 3) none)
  have hS1 := hS0.kept hg (fun r e => by cases e)
  have zV : ((w2.alloc (.cells #[.slice a n cap] 66)).alloc (.cells #[.int .i64 (k : Int)] 3)).heap.size = w.heap.size + 4 := by simp [z2]
  simp only [World.size_alloc] at bk
  rw [z2] at bt bk
  obtain ⟨V, hV⟩ : ∃ V, (w2.alloc (.cells #[.slice a n cap] 66)).alloc (.cells #[.int .i64 (k : Int)] 3) = V := ⟨_, rfl⟩
  rw [hV] at bt bk hS1 zV ⊢
  clear hV hS0 hg z2
  refine rangeF (F := Fence.wide) (n := 20) rfl (by omega) (gf := 148) (lb := #[.pointer (some ⟨w.heap.size + 1 + 1, 0, none⟩), .pointer (some ⟨w.heap.size + 1 + 1 + 1, 0, none⟩)]) rfl trivial (enters_of Try.func148 (by kernel_rfl) rfl)
    (HSEQ.out 19 (by omega) (w.heap.size + 1 + 1) (w.heap.size + 1 + 1 + 1) V (oldT_since hS1.sn) (by omega) (by omega) (by omega) bt bk) (fun _ => rfl) (fun q => q = w.heap.size + 1) (fun q hq => ⟨by omega, by omega⟩) (fun q hq => by omega)
    (fun (ps : List (Nat × Nat)) X => (HS w (.slice a n cap) X ∧ V.heap.size ≤ X.heap.size) ∧ ∀ x ∈ ps, mnP l x = 0)
    (fun c _ X => c = .ret ∧ Boxed X (w.heap.size + 1) 4 (.bool true) ∧ w.Since w.heap.size X ∧ hasB l k (2 ^ n) (2 ^ m) = true)
    (fun ps X Y row hs hg hr => ⟨⟨hs.1.1.kept hg (fun r e => by have := hr r e; omega), Nat.le_trans hs.1.2 hg.size⟩, hs.2⟩)
    (fun c ps X Y row hs hg hr => ⟨hs.1, hs.2.1.kept hg (fun e => by have := hr _ e.symm; omega), since_row hs.2.2.1 (Nat.le_refl _) hg (fun r e => by have := hr r e; omega), hs.2.2.2⟩)
    ⟨⟨hS1, Nat.le_refl _⟩, fun x hx => by cases hx⟩
    (fun x a'' _ => a'' = { tmps := #[.slice a n cap, .int .i64 k, .pointer (some ⟨w.heap.size, 0, none⟩), undef, .pointer (some ⟨w.heap.size + 1, 0, none⟩), .int .i64 (x.1 : Int), .int .i64 (x.2 : Int), .slice a n cap, .int .i64 k, .func (.func 148) #[] #[.pointer (some ⟨w.heap.size + 1 + 1, 0, none⟩), .pointer (some ⟨w.heap.size + 1 + 1 + 1, 0, none⟩)], .int .i64 (x.1 : Int), .int .i64 (x.2 : Int), undef, undef, undef, undef, undef], defers := [] })
    (fun _ _ _ _ _ _ hA _ _ => hA)
    ?assign ?body ?done ?stop
  case assign =>
    rintro lq ps x Y K _ hi _ hK
    simp only [encP]
    gi_wp2
    exact hK _ _ (Keeps.refl _ _) hi rfl
  case body =>
    rintro lq ps x a'' Y hlq hzY _ ⟨⟨hS, hz⟩, hp⟩ hpx rfl hlen
    have cT := hS.bt.cell
    have E := Lib.hid (EM.out x hpx Y hS.sn)
    have HSS := Lib.hid hS
    have HY := Lib.hid (show mnP l x ≠ 0 → hasB l k (2 ^ n) (2 ^ m) = true from fun h => hasB_yes hpx h)
    have HP := Lib.hid hp
    clear hS hp hpx
    obtain ⟨x1, x2⟩ := x
    simp only at E HY ⊢
    obtain ⟨v, hv⟩ : ∃ v, mnP l (x1, x2) = v := ⟨_, rfl⟩
    rw [hv] at E HY
    have HV := Lib.hid hv
    clear hv
    by_cases hv0 : v = 0
    · have hvb : (v != 0) = false := by simp [hv0]
      gi_wp2_with (refine ⟨trivial, ?_⟩; gi_at_call 69; refine (CallsIn.inRound lq (callsIn_wide.2 E.out)).mono ?_; rintro e Z ⟨rfl, hs2⟩; have HS2 := Lib.hid hs2; clear hs2)
      have hg := grownSH HS2.out
      exact ⟨Keeps.grown hg (fun r e => by cases e), ⟨HSS.out.kept hg (fun r e => by cases e), by have := hg.size; omega⟩, fun p hp => by
        rcases List.mem_append.1 hp with h | h
        · exact HP.out _ h
        · simp only [List.mem_singleton] at h
          rw [h, HV.out, hv0]⟩
    · have hvb : (v != 0) = true := by simp [hv0]
      gi_wp2_with (refine ⟨trivial, ?_⟩; gi_at_call 69; refine (CallsIn.inRound lq (callsIn_wide.2 E.out)).mono ?_; rintro e Z ⟨rfl, hs2⟩; have HS2 := Lib.hid hs2; have hrB := HSS.out.br.kept (grownSH HS2.out) (by simp); have cR := hrB.cell; have fR := hrB.frozen; clear hs2)
      have hg := grownSH HS2.out
      exact ⟨(Keeps.grown hg (fun r e => by cases e)).trans (Keeps.grown (grownBy_setCell' Z (w.heap.size + 1) _) (fun r e => by cases e; rfl)), rfl, hrB.set _, (HSS.out.kept hg (fun r e => by cases e)).sn.setCell (by simp) _, HY.out hv0⟩
  case done =>
    rintro D ps X hD rfl ⟨⟨hS, hz⟩, hp⟩ hK
    have cS := hS.br.cell
    have fS := hS.br.frozen
    have hb : hasB l k (2 ^ n) (2 ^ m) = false := hasB_no hp
    have hlt := (Array.getElem?_eq_some_iff.1 hK).1
    have hK2 : (X.setCell ⟨w.heap.size + 1, 0, none⟩ (.bool false)).heap[D]? = some (.deferred (some [])) := ((grownBy_setCell' X (w.heap.size + 1) (.bool false)).block D hlt (fun e => by injection e; omega)).trans hK
    have hB3 := (hS.br.set (.bool false)).kept (grownBy_putObj' (X.setCell ⟨w.heap.size + 1, 0, none⟩ (.bool false)) D (.deferred none)) (fun e => by injection e; omega)
    have cB := hB3.cell
    have hsn := since_row (hS.sn.setCell (a := ⟨w.heap.size + 1, 0, none⟩) (by simp) (.bool false)) (Nat.le_refl _) (grownBy_putObj' (X.setCell ⟨w.heap.size + 1, 0, none⟩ (.bool false)) D (.deferred none)) (fun r e => by cases e; omega)
    gi_wp2
    refine ⟨by simp, .inl ⟨_, _, rfl, run_takeDeferred hK2, ?_⟩⟩
    refine ⟨.bool false, ?_, by rw [hb], hsn⟩
    have cB' := cB
    simp [results, Try.f118, go_sem, cB']
  case stop =>
    rintro D c ps X hD _ ⟨rfl, bR, hs, hb⟩ hK
    have hB3 := bR.kept (grownBy_putObj' X D (.deferred none)) (fun e => by injection e; omega)
    have cB := hB3.cell
    have hsn := since_row hs (Nat.le_refl _) (grownBy_putObj' X D (.deferred none)) (fun r e => by cases e; omega)
    gi_wp2
    refine ⟨by simp, .inl ⟨_, _, rfl, run_takeDeferred hK, ?_⟩⟩
    refine ⟨.bool true, ?_, by rw [hb], hsn⟩
    have cB' := cB
    simp [results, Try.f118, go_sem, cB']

end Go.Proofs.Ytbclpbgomkfabaa
end

section
namespace Go.Proofs.Ytbclpbgomkfabaa
open Go.RowKit Go.Deep

def nzM (l : List (List Int)) (r c : Nat) : Prop := popcS r = popcS c ∧ ordF (partL l r c) (popcS r) (popcS r) 0 ≠ 0
theorem stepR_ge (l : List (List Int)) (r c b : Nat) : b ≤ stepR l r c b := by
  unfold stepR
  split
  · omega
  · omega
theorem stepR_yes {l : List (List Int)} {r c : Nat} (h : nzM l r c) (b : Nat) : popcS r ≤ stepR l r c b := by
  unfold stepR
  by_cases hb : b < popcS r
  · rw [if_pos ⟨h.1, hb, h.2⟩]; omega
  · have := stepR_ge l r c b
    unfold stepR at this
    omega
theorem stepR_ex (l : List (List Int)) (r c b : Nat) : stepR l r c b = b ∨ (stepR l r c b = popcS r ∧ nzM l r c) := by
  unfold stepR
  split
  · rename_i h; exact .inr ⟨rfl, h.1, h.2.2⟩
  · exact .inl rfl
theorem rkC_step (l : List (List Int)) (r b : Nat) : ∀ c, 1 ≤ c → b ≤ rkC l r b c ∧ (∀ c', 1 ≤ c' → c' < c → nzM l r c' → popcS r ≤ rkC l r b c) ∧ (rkC l r b c = b ∨ (rkC l r b c = popcS r ∧ ∃ c', c' < c ∧ nzM l r c'))
  | 0, h => by omega
  | 1, _ => by rw [rkC_one]; exact ⟨by omega, fun c' h1 h2 => by omega, .inl rfl⟩
  | c + 2, _ => by
    obtain ⟨i1, i2, i3⟩ := rkC_step l r b (c + 1) (by omega)
    rw [rkC_succ l r b (by omega)]
    have g := stepR_ge l r (c + 1) (rkC l r b (c + 1))
    refine ⟨by omega, fun c' h1 h2 hn => ?_, ?_⟩
    · by_cases e : c' = c + 1
      · subst e; exact stepR_yes hn _
      · have := i2 c' h1 (by omega) hn
        omega
    · rcases stepR_ex l r (c + 1) (rkC l r b (c + 1)) with e | ⟨e, hn⟩
      · rw [e]
        rcases i3 with e2 | ⟨e2, c', h1, h2⟩
        · exact .inl e2
        · exact .inr ⟨e2, c', by omega, h2⟩
      · exact .inr ⟨e, c + 1, by omega, hn⟩
theorem rkR_step (l : List (List Int)) (C : Nat) (hC : 1 ≤ C) : ∀ r, 1 ≤ r → (∀ r' c', 1 ≤ r' → r' < r → 1 ≤ c' → c' < C → nzM l r' c' → popcS r' ≤ rkR l C r) ∧ (rkR l C r = 0 ∨ ∃ r' c', r' < r ∧ c' < C ∧ nzM l r' c' ∧ rkR l C r = popcS r')
  | 0, h => by omega
  | 1, _ => by rw [rkR_one]; exact ⟨fun r' c' h1 h2 => by omega, .inl rfl⟩
  | r + 2, _ => by
    obtain ⟨i1, i2⟩ := rkR_step l C hC (r + 1) (by omega)
    rw [rkR_succ l C (by omega)]
    obtain ⟨j1, j2, j3⟩ := rkC_step l (r + 1) (rkR l C (r + 1)) C hC
    refine ⟨fun r' c' h1 h2 h3 h4 hn => ?_, ?_⟩
    · by_cases e : r' = r + 1
      · subst e; exact j2 c' h3 h4 hn
      · have := i1 r' c' h1 (by omega) h3 h4 hn
        omega
    · rcases j3 with e | ⟨e, c', h1, h2⟩
      · rw [e]
        rcases i2 with e2 | ⟨r', c', h1, h2, h3, h4⟩
        · exact .inl e2
        · exact .inr ⟨r', c', by omega, h2, h3, h4⟩
      · exact .inr ⟨r + 1, c', by omega, h1, h2, e⟩
theorem popc_le_n : ∀ n : Fin 7, ∀ s : Fin 64, s.val < 2 ^ n.val → popcS s.val ≤ n.val := by decide +kernel
theorem hasB_iff {l : List (List Int)} {k M1 M2 : Nat} : hasB l k M1 M2 = true ↔ ∃ r c, (r < M1 ∧ popcS r = k) ∧ (c < M2 ∧ popcS c = k) ∧ dt k (at2 (partL l r c)) ≠ 0 := by
  unfold hasB hasR
  rw [List.any_eq_true]
  constructor
  · rintro ⟨r, hr, h⟩
    obtain ⟨c, hc, h⟩ := List.any_eq_true.1 h
    exact ⟨r, c, (setsTo_mem k).1 hr, (setsTo_mem k).1 hc, by simpa using h⟩
  · rintro ⟨r, c, hr, hc, h⟩
    exact ⟨r, (setsTo_mem k).2 hr, List.any_eq_true.2 ⟨c, (setsTo_mem k).2 hc, by simpa using h⟩⟩
theorem rank_down {l : List (List Int)} {n m : Nat} (hn : n ≤ 6) (hm : m ≤ 6) :
    rkR l (2 ^ m) (2 ^ n) ≤ n ∧ rkR l (2 ^ m) (2 ^ n) ≤ m ∧ ∀ k, 1 ≤ k → (hasB l k (2 ^ n) (2 ^ m) = true → k ≤ rkR l (2 ^ m) (2 ^ n)) ∧ (hasB l k (2 ^ n) (2 ^ m) = false → rkR l (2 ^ m) (2 ^ n) ≠ k) := by
  have p1 : 2 ^ n ≤ 2 ^ 6 := Nat.pow_le_pow_right (by omega) hn
  have p2 : 2 ^ m ≤ 2 ^ 6 := Nat.pow_le_pow_right (by omega) hm
  have q1 : 1 ≤ 2 ^ n := Nat.pow_pos (by omega)
  have q2 : 1 ≤ 2 ^ m := Nat.pow_pos (by omega)
  obtain ⟨s1, s2⟩ := rkR_step l (2 ^ m) q2 (2 ^ n) q1
  have hle : rkR l (2 ^ m) (2 ^ n) ≤ n ∧ rkR l (2 ^ m) (2 ^ n) ≤ m := by
    rcases s2 with e | ⟨r, c, h1, h2, h3, h4⟩
    · omega
    · have e1 := popc_le_n ⟨n, by omega⟩ ⟨r, by omega⟩ h1
      have e2 := popc_le_n ⟨m, by omega⟩ ⟨c, by omega⟩ h2
      have := h3.1
      simp only at e1 e2
      omega
  refine ⟨hle.1, hle.2, fun k hk => ⟨fun h => ?_, fun h e => ?_⟩⟩
  · obtain ⟨r, c, ⟨r1, r2⟩, ⟨c1, c2⟩, hd⟩ := hasB_iff.1 h
    have g1 := popcS_pos ⟨r, by omega⟩ (by rw [r2]; exact hk)
    have g2 := popcS_pos ⟨c, by omega⟩ (by rw [c2]; exact hk)
    have hk6 : k ≤ 6 := by rw [← r2]; exact popcS_le r
    have := s1 r c g1 r1 g2 c1 ⟨by omega, by rw [r2, ordF_all _ hk6]; exact hd⟩
    omega
  · rcases s2 with e2 | ⟨r, c, h1, h2, h3, h4⟩
    · omega
    · have hk6 : k ≤ 6 := by rw [← e, h4]; exact popcS_le r
      have hr : popcS r = k := by omega
      have : hasB l k (2 ^ n) (2 ^ m) = true := hasB_iff.2 ⟨r, c, ⟨h1, hr⟩, ⟨h2, by rw [← h3.1]; exact hr⟩, by
        have := h3.2
        rw [hr, ordF_all _ hk6] at this
        exact this⟩
      rw [h] at this
      cases this

end Go.Proofs.Ytbclpbgomkfabaa
end

section
namespace Go.Proofs.Ytbclpbgomkfabaa
open Go.RowKit Go.Deep

set_option maxHeartbeats 1000000 in
theorem sameInts_same (a b : Option Addr) (ca cb n : Nat) (l : List Int) (w : World) (hn : l.length = n) (h63 : n ≤ 9223372036854775807) (ha : RowR w a l) (hb : RowR w b l) :
    Calls Try.prog 87 #[.slice a n ca, .slice b n cb] w fun e w' => e = .returned (.bool true) ∧ Drawn w w' := by
  have H := Lib.hid hn; clear hn
  go_enter Try.func87, Try.ntmps87
  go_wp2
  go_loopg [5] n (fun g i wr => ∃ k : Nat, k ≤ n ∧ g = n - k ∧ i = .int .i64 k ∧ Drawn w wr)
  case atStart => exact ⟨0, Nat.zero_le _, rfl, rfl, Drawn.refl w⟩
  case round =>
    obtain ⟨k, hk, rfl, rfl, hD⟩ := hrel
    by_cases hlt : k < n
    · obtain ⟨b1, o1, rfl, hc1⟩ := ha (by rw [H.out]; omega)
      obtain ⟨b2, o2, rfl, hc2⟩ := hb (by rw [H.out]; omega)
      have c1 := hc1 k (by rw [H.out]; exact hlt)
      have c2 := hc2 k (by rw [H.out]; exact hlt)
      obtain ⟨x, hx⟩ : ∃ x, x = l.getD k 0 := ⟨_, rfl⟩
      rw [← hx] at c1 c2
      rw [← hD.cell] at c1 c2
      clear hx hc1 hc2 ha hb
      go_wp2
      go_quiet (fail)
      go_wp2
      go_roundg (n - (k + 1))
      case measure => omega
      case rel => exact ⟨k + 1, by omega, rfl, by go_num, hD.trans (Drawn.mk _ _)⟩
    · go_wp2
      go_ret
      exact ⟨rfl, hD⟩

set_option maxHeartbeats 1000000 in
theorem sameRows_same (a b : Option Addr) (ca cb n : Nat) (l : List (List Int)) (w : World) (hn : l.length = n) (h63 : n ≤ 9223372036854775807) (hl : ∀ r, r < l.length → (l.getD r []).length ≤ 9223372036854775807)
    (ha : MatR w a l) (hb : MatR w b l) :
    Calls Try.prog 34 #[.slice a n ca, .slice b n cb] w fun e w' => e = .returned (.bool true) ∧ Drawn w w' := by
  have H := Lib.hid hn; clear hn
  go_enter Try.func34, Try.ntmps34
  go_wp2
  go_loopg [5] n (fun g i wr => ∃ k : Nat, k ≤ n ∧ g = n - k ∧ i = .int .i64 k ∧ Drawn w wr)
  case atStart => exact ⟨0, Nat.zero_le _, rfl, rfl, Drawn.refl w⟩
  case round =>
    obtain ⟨k, hk, rfl, rfl, hD⟩ := hrel
    by_cases hlt : k < n
    · obtain ⟨b1, o1, A1, C1, rfl, hc1⟩ := ha (by rw [H.out]; omega)
      obtain ⟨b2, o2, A2, C2, rfl, hc2⟩ := hb (by rw [H.out]; omega)
      obtain ⟨c1, r1⟩ := hc1 k (by rw [H.out]; exact hlt)
      obtain ⟨c2, r2⟩ := hc2 k (by rw [H.out]; exact hlt)
      have hlk := hl k (by rw [H.out]; exact hlt)
      obtain ⟨x, hx⟩ : ∃ x, x = l.getD k [] := ⟨_, rfl⟩
      rw [← hx] at c1 c2 r1 r2 hlk
      obtain ⟨m, hm⟩ : ∃ m, x.length = m := ⟨_, rfl⟩
      rw [hm] at c1 c2 hlk
      have HM := Lib.hid hm
      clear hx hc1 hc2 ha hb hl hm
      have r1 := r1.drawn hD
      have r2 := r2.drawn hD
      rw [← hD.cell] at c1 c2
      have e1 := fun (p : Nat) => sameInts_same (A1 k) (A2 k) (C1 k) (C2 k) m x (wr.drewN p) HM.out hlk r1 r2
      have E1 := Lib.hid e1; clear e1 r1 r2
      go_wp2
      go_quiet ((go_at_call 87; exact Calls.quiet_of (E1.out _)))
      go_wp2
      go_roundg (n - (k + 1))
      case measure => omega
      case rel => exact ⟨k + 1, by omega, rfl, by go_num, hD.trans (Drawn.mk _ _)⟩
    · go_wp2
      go_ret
      exact ⟨rfl, hD⟩

end Go.Proofs.Ytbclpbgomkfabaa
end

section
namespace Go.Proofs.Ytbclpbgomkfabaa
open Go.RowKit Go.Deep

theorem szL_of {l : List (List Int)} {n k : Nat} (h1 : l.length ≤ n) (h2 : ∀ j, j < l.length → (l.getD j []).length ≤ k) (hnk : n * k + n ≤ 1048576) : szL l ≤ 1048576 := by
  have h3 := sumTo_le_mul l k h2 l.length (Nat.le_refl _)
  have h4 : l.length * k ≤ n * k := Nat.mul_le_mul_right _ h1
  have h5 : k * l.length = l.length * k := Nat.mul_comm _ _
  unfold szL
  omega
theorem rows_le {l : List (List Int)} (h : szL l ≤ 1048576) : ∀ r, r < l.length → (l.getD r []).length ≤ 9223372036854775807 := fun r hr => by
  have := row_le l hr
  unfold szL at h
  omega

theorem tab_self {l : List (List Int)} {n m : Nat} (hn : l.length = n) (hm : ∀ r, r < n → (l.getD r []).length = m) : tabF n m (at2 l) = l := by
  refine List.ext_getElem (by rw [tabF_length, hn]) fun r h1 h2 => ?_
  have hr : r < n := by rw [tabF_length] at h1; exact h1
  have e1 : (tabF n m (at2 l))[r] = (tabF n m (at2 l)).getD r [] := by simp [List.getD, h1]
  have e2 : l[r] = l.getD r [] := by simp [List.getD, h2]
  rw [e1, e2, tabF_get _ _ _ _ hr]
  refine List.ext_getElem (by rw [List.length_map, List.length_range, hm r hr]) fun k h3 h4 => ?_
  rw [List.getElem_map, List.getElem_range]
  unfold at2
  obtain ⟨x, hx⟩ : ∃ x, x = l.getD r [] := ⟨_, rfl⟩
  subst hx
  generalize l.getD r [] = x at *
  simp [List.getD, h4]

theorem turnL_turnL {l : List (List Int)} (hT : TabIn l) : turnL (turnL l) = l := by
  have h1 := hT.1
  have hw := hT.width
  have e0 : ((turnL l).getD 0 []).length = l.length := tabF_len _ _ _ _ hw.1
  have e1 : turnL (turnL l) = tabF l.length (l.getD 0 []).length fun k i => at2 (turnL l) i k := by
    show tabF ((turnL l).getD 0 []).length (turnL l).length _ = _
    rw [e0, turnL_length]
  rw [e1]
  have e2 : tabF l.length (l.getD 0 []).length (fun k i => at2 (turnL l) i k) = tabF l.length (l.getD 0 []).length (at2 l) := by
    unfold tabF
    refine List.map_congr_left fun r hr => List.map_congr_left fun k hk => ?_
    exact tabF_at _ _ _ _ _ (List.mem_range.1 hk) (List.mem_range.1 hr)
  rw [e2]
  exact tab_self rfl (fun r hr => hT.row hr)

end Go.Proofs.Ytbclpbgomkfabaa
end

section
namespace Go.Proofs.Ytbclpbgomkfabaa
open Go.RowKit Go.Deep

theorem selN_lt {s n i : Nat} (h : i < (sel s n n).length) : selN s n i < n := by
  unfold selN
  have e : ((sel s n n).map (·.1)).getD i 0 = ((sel s n n)[i]).1 := by simp [List.getD, h]
  rw [e]
  exact ((sel s n n)[i]).2
theorem has_turn {l : List (List Int)} {n m k : Nat} (hT : TabIn l) (hn : l.length = n) (hmm : (l.getD 0 []).length = m) (h : hasB l k (2 ^ n) (2 ^ m) = true) : hasB (turnL l) k (2 ^ m) (2 ^ n) = true := by
  have h6 := hT.2.1
  have hw := hT.width
  have p1 : 2 ^ n ≤ 2 ^ 6 := Nat.pow_le_pow_right (by omega) (by omega)
  have p2 : 2 ^ m ≤ 2 ^ 6 := Nat.pow_le_pow_right (by omega) (by omega)
  obtain ⟨r, c, ⟨r1, r2⟩, ⟨c1, c2⟩, hd⟩ := hasB_iff.1 h
  refine hasB_iff.2 ⟨c, r, ⟨c1, c2⟩, ⟨r1, r2⟩, ?_⟩
  have e0 : ((turnL l).getD 0 []).length = n := (tabF_len _ _ _ _ (by omega)).trans hn
  have e1 : (turnL l).length = m := (turnL_length l).trans hmm
  have g1 := popcS_sel ⟨n, by omega⟩ ⟨r, by omega⟩ r1
  have g2 := popcS_sel ⟨m, by omega⟩ ⟨c, by omega⟩ c1
  simp only at g1 g2
  have e : dt k (at2 (partL (turnL l) c r)) = dt k (fun i j => at2 (partL l r c) j i) := dt_congr k fun i j hi hj => by
    rw [partL_at (turnL l) c r (by rw [e1]; omega) (by rw [e0]; omega), partL_at l r c (by rw [hn]; omega) (by rw [hmm]; omega), e0, e1, hn, hmm]
    exact tabF_at _ _ _ _ _ (by rw [hmm]; exact selN_lt (by omega)) (by rw [hn]; exact selN_lt (by omega))
  rw [e, dt_turn]
  exact hd
theorem turn_turn {l : List (List Int)} (hT : TabIn l) : TabIn (turnL l) ∧ (turnL l).length = (l.getD 0 []).length ∧ ((turnL l).getD 0 []).length = l.length :=
  ⟨tabIn_of (tabIn_turn hT), turnL_length l, tabF_len _ _ _ _ (by have := hT.width; omega)⟩
theorem turnL_back {l : List (List Int)} {n m k : Nat} (hT : TabIn l) (hn : l.length = n) (hmm : (l.getD 0 []).length = m) (h : hasB (turnL l) k (2 ^ m) (2 ^ n) = true) : hasB l k (2 ^ n) (2 ^ m) = true := by
  obtain ⟨h1, h2, h3⟩ := turn_turn hT
  have := has_turn h1 (h2.trans hmm) (h3.trans hn) h
  rw [turnL_turnL hT] at this
  exact this
theorem rank_turn {l : List (List Int)} {n m : Nat} (hT : TabIn l) (hn : l.length = n) (hmm : (l.getD 0 []).length = m) : rkR (turnL l) (2 ^ n) (2 ^ m) = rkR l (2 ^ m) (2 ^ n) := by
  have h6 := hT.2.1
  have hw := hT.width
  obtain ⟨_, _, a3⟩ := rank_down (l := l) (n := n) (m := m) (by omega) (by omega)
  obtain ⟨_, _, b3⟩ := rank_down (l := turnL l) (n := m) (m := n) (by omega) (by omega)
  have q1 : rkR l (2 ^ m) (2 ^ n) ≤ rkR (turnL l) (2 ^ n) (2 ^ m) := by
    by_cases h0 : 1 ≤ rkR l (2 ^ m) (2 ^ n)
    · cases hb : hasB l (rkR l (2 ^ m) (2 ^ n)) (2 ^ n) (2 ^ m) with
      | false => exact absurd rfl ((a3 _ h0).2 hb)
      | true => exact (b3 _ h0).1 (has_turn hT hn hmm hb)
    · omega
  have q2 : rkR (turnL l) (2 ^ n) (2 ^ m) ≤ rkR l (2 ^ m) (2 ^ n) := by
    by_cases h0 : 1 ≤ rkR (turnL l) (2 ^ n) (2 ^ m)
    · cases hb : hasB (turnL l) (rkR (turnL l) (2 ^ n) (2 ^ m)) (2 ^ m) (2 ^ n) with
      | false => exact absurd rfl ((b3 _ h0).2 hb)
      | true => exact (a3 _ h0).1 (turnL_back hT hn hmm hb)
    · omega
  omega
theorem popc_full : ∀ n : Fin 7, ∀ s : Fin 64, s.val < 2 ^ n.val → popcS s.val = n.val → s.val = 2 ^ n.val - 1 := by decide +kernel
theorem popc_all : ∀ n : Fin 7, popcS (2 ^ n.val - 1) = n.val := by decide +kernel
theorem rank_full {l : List (List Int)} {n : Nat} (h : sqB l = true) (hn : l.length = n) : rkR l (2 ^ n) (2 ^ n) = n ↔ ordF l n n 0 ≠ 0 := by
  obtain ⟨hT, hw⟩ := sqB_of h
  have h6 := hT.2.1
  have h1 := hT.1
  have p1 : 2 ^ n ≤ 2 ^ 6 := Nat.pow_le_pow_right (by omega) (by omega)
  have q1 : 1 ≤ 2 ^ n := Nat.pow_pos (by omega)
  obtain ⟨a1, _, a3⟩ := rank_down (l := l) (n := n) (m := n) (by omega) (by omega)
  obtain ⟨c1, c2⟩ := a3 n (by omega)
  have hf : partL l (2 ^ n - 1) (2 ^ n - 1) = l := by
    have := partL_full hT.rec
    rw [← hw, hn] at this
    exact this
  rw [ordF_all _ (by omega)]
  have e : hasB l n (2 ^ n) (2 ^ n) = true ↔ dt n (at2 l) ≠ 0 := by
    rw [hasB_iff]
    constructor
    · rintro ⟨r, c, ⟨r1, r2⟩, ⟨s1, s2⟩, hd⟩
      have e1 := popc_full ⟨n, by omega⟩ ⟨r, by omega⟩ r1 r2
      have e2 := popc_full ⟨n, by omega⟩ ⟨c, by omega⟩ s1 s2
      simp only at e1 e2
      rw [e1, e2, hf] at hd
      exact hd
    · intro hd
      have e3 := popc_all ⟨n, by omega⟩
      exact ⟨2 ^ n - 1, 2 ^ n - 1, ⟨by omega, e3⟩, ⟨by omega, e3⟩, by rw [hf]; exact hd⟩
  constructor
  · intro hr
    cases hb : hasB l n (2 ^ n) (2 ^ n) with
    | false => exact absurd hr (c2 hb)
    | true => exact e.1 hb
  · intro hd
    have := c1 (e.2 hd)
    omega

end Go.Proofs.Ytbclpbgomkfabaa
end

section
namespace Go.Proofs.Ytbclpbgomkfabaa
open Go.RowKit Go.Deep

theorem popcS_but : ∀ n : Fin 7, ∀ k : Fin 6, k.val < n.val → popcS (2 ^ n.val - 1 - 2 ^ k.val) = n.val - 1 := by decide +kernel
theorem but_lt : ∀ n : Fin 7, ∀ k : Fin 6, k.val < n.val → 2 ^ n.val - 1 - 2 ^ k.val < 2 ^ n.val ∧ 2 ^ n.val - 1 - 2 ^ k.val ≤ 63 := by decide +kernel

def othF (l : List (List Int)) (n i k : Nat) : Int := sg (i + k) (ordF (partL l (2 ^ n - 1 - 2 ^ k) (2 ^ n - 1 - 2 ^ i)) (n - 1) (n - 1) 0)
def otherR (l : List (List Int)) (n i j : Nat) : List Int := (List.range j).map fun k => othF l n i k
theorem otherR_succ (l : List (List Int)) (n i j : Nat) : otherR l n i (j + 1) = otherR l n i j ++ [othF l n i j] := by simp [otherR, List.range_succ]
theorem otherR_length (l : List (List Int)) (n i j : Nat) : (otherR l n i j).length = j := by simp [otherR]
def otherTo (l : List (List Int)) (n r : Nat) : List (List Int) := (List.range r).map fun i => otherR l n i n
theorem otherTo_succ (l : List (List Int)) (n r : Nat) : otherTo l n (r + 1) = otherTo l n r ++ [otherR l n r n] := by simp [otherTo, List.range_succ]
theorem otherTo_length (l : List (List Int)) (n r : Nat) : (otherTo l n r).length = r := by simp [otherTo]
theorem otherTo_all (l : List (List Int)) (n : Nat) : otherTo l n n = tabF n n (othF l n) := rfl
theorem RB.later {wo wr w1 : World} {v : Value} {x : List Int} (h : RB wo wr v x) (hs : wr.Since wr.heap.size w1) : RB wo w1 v x :=
  ⟨h.since.trans (since_mono hs h.since.size), World.ownsRow.kept h.own (row := none) ⟨hs.os, hs.tape, hs.output, hs.size, fun k hk _ => hs.block k hk⟩ (by cases hv : v.ownBlock <;> simp)⟩

end Go.Proofs.Ytbclpbgomkfabaa
end

section
namespace Go.Proofs.Ytbclpbgomkfabaa
open Go.RowKit Go.Deep

def mv (r i : Nat) : Nat := if i = 0 then r else if i ≤ r then i - 1 else i
theorem mv_zero (i : Nat) : mv 0 i = i := by unfold mv; repeat (first | split | omega)
theorem mv_succ (r i : Nat) : ex r (r + 1) (mv r i) = mv (r + 1) i := by unfold mv ex; repeat (first | split | omega)
theorem mv_skip (r i : Nat) : mv r (i + 1) = skip r i := by unfold mv skip; repeat (first | split | omega)
theorem dt_mv {n : Nat} : ∀ (r : Nat) (f : Nat → Nat → Int), r < n → dt n (fun i j => f (mv r i) j) = sn r * dt n f
  | 0, f, _ => by
    rw [sn_zero, Int.one_mul]
    exact dt_congr n fun i j _ _ => by rw [mv_zero]
  | r + 1, f, h => by
    have e : (fun i j => f (mv (r + 1) i) j) = fun i j => (fun i j => f (ex r (r + 1) i) j) (mv r i) j := by
      funext i j
      show _ = f (ex r (r + 1) (mv r i)) j
      rw [mv_succ]
    rw [e, dt_mv r (fun i j => f (ex r (r + 1) i) j) (by omega), dt_exR f (by omega) (by omega) h, sn_succ]
    rw [Int.mul_neg, Int.neg_mul]
theorem dt_row {n r : Nat} (f : Nat → Nat → Int) (h : r < n + 1) : dt (n + 1) f = sumN (fun k => f r k * (sn (r + k) * dt n (fun i j => f (skip r i) (skip k j)))) (n + 1) := by
  have e := dt_mv r f h
  have e2 : sn r * (sn r * dt (n + 1) f) = dt (n + 1) f := by rw [← Int.mul_assoc, sn_sq, Int.one_mul]
  rw [← e2, ← e, dt_succ, ← sumN_mul]
  refine sumN_congr _ fun k _ => ?_
  have e3 : dr k (fun i j => f (mv r i) j) = fun i j => f (skip r i) (skip k j) := by
    funext i j
    show f (mv r (i + 1)) (skip k j) = _
    rw [mv_skip]
  rw [e3, sn_add]
  show sn r * (sn k * (f (mv r 0) k * _)) = _
  have e4 : mv r 0 = r := rfl
  rw [e4]
  grind
theorem dt_alien {n r s : Nat} (f : Nat → Nat → Int) (hr : r < n + 1) (hs : s < n + 1) : sumN (fun k => f s k * (sn (r + k) * dt n (fun i j => f (skip r i) (skip k j)))) (n + 1) = if s = r then dt (n + 1) f else 0 := by
  by_cases e : s = r
  · subst e
    rw [if_pos rfl, ← dt_row f hs]
  · rw [if_neg e, ← dt_sameR (n := n + 1) (setR f r (f s)) (p := s) (q := r) e hs hr (fun j _ => by unfold setR; rw [if_neg e, if_pos rfl]), dt_row _ hr]
    refine sumN_congr _ fun k _ => ?_
    have e3 : (fun i j => setR f r (f s) (skip r i) (skip k j)) = fun i j => f (skip r i) (skip k j) := by
      funext i j
      unfold setR
      rw [if_neg (by unfold skip; split <;> omega)]
    rw [e3]
    unfold setR
    rw [if_pos rfl]
theorem othF_dt {l : List (List Int)} {n i k : Nat} (hT : TabIn l) (hn : l.length = n) (hw : (l.getD 0 []).length = n) (hi : i < n) (hk : k < n) : othF l n i k = sn (k + i) * dt (n - 1) (fun a b => at2 l (skip k a) (skip i b)) := by
  have h6 := hT.2.1
  unfold othF
  rw [sg_sn, ordF_all _ (by omega), Nat.add_comm i k]
  congr 1
  exact dt_congr _ fun a b ha hb => partL_but hn hw (by omega) hk hi (by omega) (by omega)
theorem other_left {l : List (List Int)} {n i k : Nat} (hT : TabIn l) (hn : l.length = n) (hw : (l.getD 0 []).length = n) (hi : i < n) (hk : k < n) :
    sumN (fun j => at2 l i j * othF l n j k) n = if i = k then dt n (at2 l) else 0 := by
  obtain ⟨m, rfl⟩ : ∃ m, n = m + 1 := ⟨n - 1, by omega⟩
  rw [← dt_alien (at2 l) hk hi]
  exact sumN_congr _ fun j hj => by rw [othF_dt hT hn hw hj hk]; rfl
theorem other_right {l : List (List Int)} {n i k : Nat} (hT : TabIn l) (hn : l.length = n) (hw : (l.getD 0 []).length = n) (hi : i < n) (hk : k < n) :
    sumN (fun j => othF l n i j * at2 l j k) n = if i = k then dt n (at2 l) else 0 := by
  obtain ⟨m, rfl⟩ : ∃ m, n = m + 1 := ⟨n - 1, by omega⟩
  have h := dt_alien (fun a b => at2 l b a) (r := i) (s := k) hi hk
  rw [dt_turn] at h
  have e : (if i = k then dt (m + 1) (at2 l) else 0) = if k = i then dt (m + 1) (at2 l) else 0 := by
    by_cases e : i = k
    · rw [if_pos e, if_pos e.symm]
    · rw [if_neg e, if_neg (fun h => e h.symm)]
  rw [e, ← h]
  refine sumN_congr _ fun j hj => ?_
  rw [othF_dt hT hn hw hi hj, Nat.add_comm j i, Int.mul_comm]
  show at2 l j k * _ = at2 l j k * (sn (i + j) * dt m (fun a b => at2 l (skip j b) (skip i a)))
  rw [← dt_turn m (fun a b => at2 l (skip j b) (skip i a))]
  rfl
theorem othF_bd {l : List (List Int)} {n i k : Nat} (hT : TabIn l) (hn : l.length = n) (hw : (l.getD 0 []).length = n) (hi : i < n) (hk : k < n) : -10000000000 ≤ othF l n i k ∧ othF l n i k ≤ 10000000000 := by
  have h6 := hT.2.1
  rw [othF_dt hT hn hw hi hk, ← sg_sn]
  refine sg_bd ?_
  have hb := dt_bd (n - 1) (fun a b => at2 l (skip k a) (skip i b)) (by omega) (fun a b ha hb => hT.at (by have := skip_bd (k := k) ha; omega) (by have := skip_bd (k := i) hb; omega))
  have hB : bdN (n - 1) ≤ 10000000000 := by
    have : n - 1 ≤ 5 := by omega
    match n - 1, this with
    | 0, _ => decide
    | 1, _ => decide
    | 2, _ => decide
    | 3, _ => decide
    | 4, _ => decide
    | 5, _ => decide
  omega
theorem rec_tabF {n m : Nat} (f : Nat → Nat → Int) (hn : 1 ≤ n ∧ n ≤ 6) (hm : 1 ≤ m ∧ m ≤ 6) : Rec (tabF n m f) := by
  have h0 : ((tabF n m f).getD 0 []).length = m := tabF_len _ _ _ _ (by omega)
  exact ⟨by rw [tabF_length]; omega, by rw [tabF_length]; omega, by rw [h0]; exact hm, fun hr => by rw [h0]; rw [tabF_length] at hr; exact tabF_len _ _ _ _ hr⟩
structure OtherM (l M : List (List Int)) (n : Nat) (v : Int) : Prop where
  len : M.length = n
  wid : (M.getD 0 []).length = n
  rec1 : Rec M
  b1 : ∀ i j k, i < n → j < n → k < (M.getD 0 []).length → -1000000000000 ≤ at2 l i j * at2 M j k ∧ at2 l i j * at2 M j k ≤ 1000000000000
  b2 : ∀ i j k, i < n → j < n → k < (l.getD 0 []).length → -1000000000000 ≤ at2 M i j * at2 l j k ∧ at2 M i j * at2 l j k ≤ 1000000000000
  l1 : (makeL l M).length = n
  l2 : (makeL M l).length = n
  w1 : ((makeL l M).getD 0 []).length = n
  w2 : ((makeL M l).getD 0 []).length = n
  r1 : Rec (makeL l M)
  r2 : Rec (makeL M l)
  e1 : ∀ i k, i < n → k < n → at2 (makeL l M) i k = if i = k then v else 0
  e2 : ∀ i k, i < n → k < n → at2 (makeL M l) i k = if i = k then v else 0
theorem otherM_of {l : List (List Int)} {n : Nat} (h : sqB l = true) (hn : l.length = n) : OtherM l (tabF n n (othF l n)) n (ordF l n n 0) := by
  obtain ⟨hT, hw⟩ := sqB_of h
  have h1 := hT.1
  have h6 := hT.2.1
  have hwn : (l.getD 0 []).length = n := by omega
  have hl : (tabF n n (othF l n)).length = n := tabF_length _ _ _
  have hmw : ((tabF n n (othF l n)).getD 0 []).length = n := tabF_len _ _ _ _ (by omega)
  have hat : ∀ i j, i < n → j < n → at2 (tabF n n (othF l n)) i j = othF l n i j := fun i j hi hj => tabF_at _ _ _ i j hi hj
  have hp : ∀ i j k, i < n → j < n → k < n → -1000000000000 ≤ at2 l i j * othF l n j k ∧ at2 l i j * othF l n j k ≤ 1000000000000 := fun i j k hi hj hk => by
    have b := hT.at (i := i) (k := j) (by omega) (by omega)
    have c := othF_bd hT hn hwn hj hk
    have := mul_bdB b.1 b.2 c.1 c.2
    omega
  have hp2 : ∀ i j k, i < n → j < n → k < n → -1000000000000 ≤ othF l n i j * at2 l j k ∧ othF l n i j * at2 l j k ≤ 1000000000000 := fun i j k hi hj hk => by
    have b := hT.at (i := j) (k := k) (by omega) (by omega)
    have c := othF_bd hT hn hwn hi hj
    have := mul_bdB b.1 b.2 c.1 c.2
    rw [Int.mul_comm]
    omega
  have g1 : 1 ≤ n ∧ n ≤ 6 := by omega
  have q1 : makeL l (tabF n n (othF l n)) = tabF n n fun i k => sumN (dotF l (tabF n n (othF l n)) i k) n := by unfold makeL; rw [hn, hl, hmw]
  have q2 : makeL (tabF n n (othF l n)) l = tabF n n fun i k => sumN (dotF (tabF n n (othF l n)) l i k) n := by unfold makeL; rw [hn, hl, hwn]
  refine ⟨hl, hmw, rec_tabF _ g1 g1, fun i j k hi hj hk => ?_, fun i j k hi hj hk => ?_, by rw [q1, tabF_length], by rw [q2, tabF_length], by rw [q1]; exact tabF_len _ _ _ _ (by omega), by rw [q2]; exact tabF_len _ _ _ _ (by omega), by rw [q1]; exact rec_tabF _ g1 g1, by rw [q2]; exact rec_tabF _ g1 g1, fun i k hi hk => ?_, fun i k hi hk => ?_⟩
  · rw [hmw] at hk
    rw [hat j k hj hk]
    exact hp i j k hi hj hk
  · rw [hwn] at hk
    rw [hat i j hi hj]
    exact hp2 i j k hi hj hk
  · rw [q1, show at2 (tabF n n fun i k => sumN (dotF l (tabF n n (othF l n)) i k) n) i k = sumN (dotF l (tabF n n (othF l n)) i k) n from tabF_at _ _ _ i k hi hk, ordF_all _ (by omega), ← other_left hT hn hwn hi hk]
    exact sumN_congr _ fun j hj => by show at2 l i j * at2 _ j k = _; rw [hat j k hj hk]
  · rw [q2, show at2 (tabF n n fun i k => sumN (dotF (tabF n n (othF l n)) l i k) n) i k = sumN (dotF (tabF n n (othF l n)) l i k) n from tabF_at _ _ _ i k hi hk, ordF_all _ (by omega), ← other_right hT hn hwn hi hk]
    exact sumN_congr _ fun j hj => by show at2 _ i j * at2 l j k = _; rw [hat i j hi hj]

end Go.Proofs.Ytbclpbgomkfabaa
end

section
namespace Go.Proofs.Ytbclpbgomkfabaa
open Go.RowKit Go.Deep

theorem sumN_some {f : Nat → Int} {n : Nat} (h : sumN f n ≠ 0) : ∃ i, i < n ∧ f i ≠ 0 :=
  Classical.byContradiction fun hno => h (sumN_none n fun j hj => Classical.byContradiction fun h2 => hno ⟨j, hj, h2⟩)
theorem dt_sumR {k r : Nat} (f : Nat → Nat → Int) (c : Nat → Int) (u : Nat → Nat → Int) (hr : r < k) : ∀ N, dt k (setR f r (fun j => sumN (fun m => c m * u m j) N)) = sumN (fun m => c m * dt k (setR f r (u m))) N
  | 0 => by
    have e := dt_lin k r f 0 0 (u 0) (u 0) hr
    rw [dt_congr k (g := setR f r (fun j => 0 * u 0 j + 0 * u 0 j)) (fun i j _ _ => by unfold setR; split <;> simp [sumN]), e]
    simp [sumN]
  | N + 1 => by
    have e := dt_lin k r f 1 (c N) (fun j => sumN (fun m => c m * u m j) N) (u N) hr
    rw [dt_congr k (g := setR f r (fun j => 1 * sumN (fun m => c m * u m j) N + c N * u N j)) (fun i j _ _ => by
      unfold setR
      split
      · have e2 : sumN (fun m => c m * u m j) (N + 1) = sumN (fun m => c m * u m j) N + c N * u N j := rfl
        dsimp only
        rw [e2]; omega
      · rfl), e, dt_sumR f c u hr N]
    have e3 : sumN (fun m => c m * dt k (setR f r (u m))) (N + 1) = sumN (fun m => c m * dt k (setR f r (u m))) N + c N * dt k (setR f r (u N)) := rfl
    rw [e3]
    omega

theorem dt_pickR {k N : Nat} (X Y : Nat → Nat → Int) (h : dt k (fun i j => sumN (fun m => X i m * Y m j) N) ≠ 0) : ∃ g : Nat → Nat, (∀ i, i < k → g i < N) ∧ dt k (fun i j => Y (g i) j) ≠ 0 := by
  have key : ∀ q, q ≤ k → ∃ g : Nat → Nat, (∀ i, i < q → g i < N) ∧ dt k (fun i j => if i < q then Y (g i) j else sumN (fun m => X i m * Y m j) N) ≠ 0 := by
    intro q
    induction q with
    | zero => exact fun _ => ⟨fun _ => 0, fun i hi => absurd hi (Nat.not_lt_zero _), by rw [dt_congr k (g := fun i j => sumN (fun m => X i m * Y m j) N) (fun i j _ _ => if_neg (Nat.not_lt_zero _))]; exact h⟩
    | succ q ih =>
      intro hq
      obtain ⟨g, hg, hd⟩ := ih (by omega)
      obtain ⟨M, hM⟩ : ∃ M : Nat → Nat → Int, M = fun i j => if i < q then Y (g i) j else sumN (fun m => X i m * Y m j) N := ⟨_, rfl⟩
      rw [← hM] at hd
      have e : dt k M = dt k (setR M q (fun j => sumN (fun m => X q m * Y m j) N)) := dt_congr k fun i j _ _ => by
        unfold setR
        split
        · rename_i hi; rw [hM, hi]; exact if_neg (Nat.lt_irrefl _)
        · rfl
      rw [e, dt_sumR M (X q) Y (by omega)] at hd
      obtain ⟨m, hm, hd2⟩ := sumN_some hd
      refine ⟨fun i => if i = q then m else g i, fun i hi => ?_, ?_⟩
      · show (if i = q then m else g i) < N
        split
        · exact hm
        · exact hg i (by omega)
      · rw [dt_congr k (g := setR M q (Y m)) (fun i j _ _ => by
          unfold setR
          dsimp only
          by_cases hi : i = q
          · rw [if_pos (by omega), if_pos hi, if_pos hi]
          · rw [if_neg hi, if_neg hi, hM]
            by_cases h2 : i < q
            · rw [if_pos (by omega)]; exact (if_pos h2).symm
            · rw [if_neg (by omega)]; exact (if_neg h2).symm)]
        exact fun h0 => hd2 (by rw [h0, Int.mul_zero])
  obtain ⟨g, hg, hd⟩ := key k (Nat.le_refl _)
  exact ⟨g, hg, by rw [dt_congr k (g := fun i j => if i < k then Y (g i) j else sumN (fun m => X i m * Y m j) N) (fun i j hi _ => (if_pos hi).symm)]; exact hd⟩
theorem mul_right_some {k n : Nat} {X Y : Nat → Nat → Int} {R C : Nat → Nat} (h : dt k (fun i j => mulF n X Y (R i) (C j)) ≠ 0) : ∃ g : Nat → Nat, (∀ i, i < k → g i < n) ∧ dt k (fun i j => Y (g i) (C j)) ≠ 0 :=
  dt_pickR (fun i m => X (R i) m) (fun m j => Y m (C j)) h
theorem mul_left_some {k n : Nat} {X Y : Nat → Nat → Int} {R C : Nat → Nat} (h : dt k (fun i j => mulF n X Y (R i) (C j)) ≠ 0) : ∃ g : Nat → Nat, (∀ i, i < k → g i < n) ∧ dt k (fun i j => X (R i) (g j)) ≠ 0 := by
  rw [← dt_turn] at h
  obtain ⟨g, hg, hd⟩ := dt_pickR (fun i m => Y m (C i)) (fun m j => X (R j) m) (by
    rw [dt_congr k (g := fun i j => mulF n X Y (R j) (C i)) (fun i j _ _ => sumN_congr n fun m _ => Int.mul_comm _ _)]
    exact h)
  rw [← dt_turn] at hd
  exact ⟨g, hg, hd⟩

theorem dt_someRC {k r : Nat} (M : Nat → Nat → Int) (h : dt (k + 1) M ≠ 0) (hr : r < k + 1) : ∃ c, c < k + 1 ∧ dt k (fun i j => M (skip r i) (skip c j)) ≠ 0 := by
  rw [dt_row M hr] at h
  obtain ⟨c, hc, hd⟩ := sumN_some h
  exact ⟨c, hc, fun h0 => hd (by rw [h0, Int.mul_zero, Int.mul_zero])⟩
theorem dt_zeroR {k r : Nat} (M : Nat → Nat → Int) (hr : r < k) (h : ∀ j, j < k → M r j = 0) : dt k M = 0 := by
  obtain ⟨m, rfl⟩ : ∃ m, k = m + 1 := ⟨k - 1, by omega⟩
  rw [dt_row M hr]
  exact sumN_none _ fun j hj => by rw [h j hj, Int.zero_mul]
theorem dt_zeroC {k c : Nat} (M : Nat → Nat → Int) (hc : c < k) (h : ∀ i, i < k → M i c = 0) : dt k M = 0 := by
  rw [← dt_turn]
  exact dt_zeroR (fun i j => M j i) hc h

theorem low_rows (M : Nat → Nat → Int) : ∀ (v k : Nat) (g h : Nat → Nat), dt k (fun i j => M (g i) (h j)) ≠ 0 →
    ∃ (t : Nat) (g' h' : Nat → Nat), k ≤ t + v ∧ (∀ i, i < t → v ≤ g' i ∧ ∃ i0, i0 < k ∧ g' i = g i0) ∧ (∀ j, j < t → ∃ j0, j0 < k ∧ h' j = h j0) ∧ dt t (fun i j => M (g' i) (h' j)) ≠ 0
  | 0, k, g, h, hd => ⟨k, g, h, by omega, fun i hi => ⟨Nat.zero_le _, i, hi, rfl⟩, fun j hj => ⟨j, hj, rfl⟩, hd⟩
  | v + 1, k, g, h, hd => by
    obtain ⟨t, g', h', h1, h2, h3, h4⟩ := low_rows M v k g h hd
    by_cases hex : ∃ i0, i0 < t ∧ g' i0 = v
    · obtain ⟨i0, hi0, hv⟩ := hex
      obtain ⟨t1, rfl⟩ : ∃ t1, t = t1 + 1 := ⟨t - 1, by omega⟩
      obtain ⟨c, hc, hd2⟩ := dt_someRC (fun i j => M (g' i) (h' j)) h4 hi0
      refine ⟨t1, fun i => g' (skip i0 i), fun j => h' (skip c j), by omega, fun i hi => ?_, fun j hj => h3 _ (skip_bd hj), hd2⟩
      have hs := skip_bd (k := i0) hi
      obtain ⟨a1, a2⟩ := h2 _ hs
      refine ⟨?_, a2⟩
      have hne : g' (skip i0 i) ≠ g' i0 := fun e => h4 (dt_sameR (fun i j => M (g' i) (h' j)) (p := skip i0 i) (q := i0) (by unfold skip; split <;> omega) hs hi0 (fun j _ => by show M (g' _) _ = M (g' _) _; rw [e]))
      show v + 1 ≤ g' (skip i0 i)
      omega
    · refine ⟨t, g', h', by omega, fun i hi => ?_, h3, h4⟩
      obtain ⟨a1, a2⟩ := h2 i hi
      exact ⟨by have : g' i ≠ v := fun e => hex ⟨i, hi, e⟩
                omega, a2⟩

def sylR (n b : Nat) (A B : Nat → Nat → Int) (R C : Nat → Nat) (i j : Nat) : Int := if i < n then (if j < b then B i (C j) else if i = j - b then 1 else 0) else (if j < b then -(mulF n A B (R (i - n)) (C j)) else 0)
def sylP (n : Nat) (A : Nat → Nat → Int) (R : Nat → Nat) (i m : Nat) : Int := if i < n then (if i = m then 1 else 0) else (if m < n then A (R (i - n)) m else if i = m then 1 else 0)
theorem syl_top {n a b : Nat} {A B : Nat → Nat → Int} {R C : Nat → Nat} {i j : Nat} (hi : i < n) : mulF (n + a) (sylP n A R) (sylR n b A B R C) i j = sylR n b A B R C i j := by
  unfold mulF
  rw [sumN_one _ i (n + a) (by omega) (fun m _ hm => by unfold sylP; rw [if_pos hi, if_neg (fun e => hm e.symm), Int.zero_mul])]
  unfold sylP
  rw [if_pos hi, if_pos rfl, Int.one_mul]
theorem sumN_splitM (f : Nat → Int) (n : Nat) : ∀ m, sumN f (n + m) = sumN f n + sumN (fun j => f (n + j)) m
  | 0 => by simp [sumN]
  | m + 1 => by
    show sumN f (n + m) + f (n + m) = sumN f n + (sumN (fun j => f (n + j)) m + f (n + m))
    rw [sumN_splitM f n m]; omega
theorem syl_low {n a b : Nat} {A B : Nat → Nat → Int} {R C : Nat → Nat} {i j : Nat} (hi : i < a) : mulF (n + a) (sylP n A R) (sylR n b A B R C) (n + i) j = sumN (fun m => A (R i) m * sylR n b A B R C m j) n + sylR n b A B R C (n + i) j := by
  unfold mulF
  rw [sumN_splitM, sumN_one (fun q => sylP n A R (n + i) (n + q) * sylR n b A B R C (n + q) j) i a hi (fun m _ hm => by
    unfold sylP; rw [if_neg (by omega), if_neg (by omega), if_neg (by omega), Int.zero_mul])]
  congr 1
  · exact sumN_congr n fun m hm => by unfold sylP; rw [if_neg (by omega), if_pos hm, show n + i - n = i by omega]
  · unfold sylP; rw [if_neg (by omega), if_neg (by omega), if_pos rfl, Int.one_mul]
theorem syl_low0 {n a b : Nat} {A B : Nat → Nat → Int} {R C : Nat → Nat} {i j : Nat} (hi : i < a) (hj : j < b) : mulF (n + a) (sylP n A R) (sylR n b A B R C) (n + i) j = 0 := by
  rw [syl_low hi]
  have e : sumN (fun m => A (R i) m * sylR n b A B R C m j) n = mulF n A B (R i) (C j) := sumN_congr n fun m hm => by unfold sylR; rw [if_pos hm, if_pos hj]
  rw [e]
  unfold sylR
  rw [if_neg (by omega), if_pos hj, show n + i - n = i by omega]
  omega
theorem syl_low1 {n a b : Nat} {A B : Nat → Nat → Int} {R C : Nat → Nat} {i j : Nat} (hi : i < a) (hj : j < n) : mulF (n + a) (sylP n A R) (sylR n b A B R C) (n + i) (b + j) = A (R i) j := by
  rw [syl_low hi, sumN_one _ j n hj (fun m hm hmj => by unfold sylR; rw [if_pos hm, if_neg (by omega), if_neg (by omega), Int.mul_zero])]
  unfold sylR
  rw [if_pos hj, if_neg (by omega), if_pos (by omega), if_neg (by omega), if_neg (by omega)]
  omega

theorem syl_rank {A B : Nat → Nat → Int} {n a b : Nat} {R J K C : Nat → Nat} (hJ : ∀ j, j < a → J j < n) (hK : ∀ i, i < b → K i < n) (hA : dt a (fun i j => A (R i) (J j)) ≠ 0) (hB : dt b (fun i j => B (K i) (C j)) ≠ 0) :
    ∃ (t : Nat) (g h : Nat → Nat), a + b ≤ t + n ∧ (∀ i, i < t → g i < a) ∧ (∀ j, j < t → h j < b) ∧ dt t (fun i j => mulF n A B (R (g i)) (C (h j))) ≠ 0 := by
  obtain ⟨ρ, hρ⟩ : ∃ ρ : Nat → Nat, ρ = fun i => if i < b then K i else n + (i - b) := ⟨_, rfl⟩
  obtain ⟨γ, hγ⟩ : ∃ γ : Nat → Nat, γ = fun j => if j < b then j else b + J (j - b) := ⟨_, rfl⟩
  have r1 : ∀ i, i < b → ρ i = K i := fun i hi => by rw [hρ]; exact if_pos hi
  have r2 : ∀ i, ρ (b + i) = n + i := fun i => by rw [hρ]; show (if b + i < b then _ else _) = _; rw [if_neg (by omega)]; omega
  have c1 : ∀ j, j < b → γ j = j := fun j hj => by rw [hγ]; exact if_pos hj
  have c2 : ∀ j, γ (b + j) = b + J j := fun j => by rw [hγ]; show (if b + j < b then _ else b + J (b + j - b)) = _; rw [if_neg (by omega), show b + j - b = j by omega]
  have hdet : dt (b + a) (fun i j => mulF (n + a) (sylP n A R) (sylR n b A B R C) (ρ i) (γ j)) = dt b (fun i j => B (K i) (C j)) * dt a (fun i j => A (R i) (J j)) := by
    rw [← dt_turn, dt_block a b _ (fun i j hi hj hN => by
      obtain ⟨j', rfl⟩ : ∃ j', j = b + j' := ⟨j - b, by omega⟩
      rw [r2, c1 i hi]
      exact syl_low0 (by omega) hi)]
    rw [← dt_turn b (fun i j => B (K i) (C j)), ← dt_turn a (fun i j => A (R i) (J j))]
    congr 1
    · exact dt_congr b fun i j hi hj => by
        rw [r1 j hj, c1 i hi, syl_top (hK j hj)]
        unfold sylR
        rw [if_pos (hK j hj), if_pos hi]
    · exact dt_congr a fun i j hi hj => by
        rw [r2, c2]
        exact syl_low1 hj (hJ i hi)
  obtain ⟨g, hg, hd⟩ := mul_right_some (n := n + a) (X := sylP n A R) (Y := sylR n b A B R C) (R := ρ) (C := γ) (k := b + a) (by rw [hdet]; exact Int.mul_ne_zero hB hA)
  obtain ⟨t, g', h', e1, e2, e3, e4⟩ := low_rows (sylR n b A B R C) n (b + a) g γ hd
  have hg' : ∀ i, i < t → n ≤ g' i ∧ g' i < n + a := fun i hi => by
    obtain ⟨x1, i0, x2, x3⟩ := e2 i hi
    have := hg i0 x2
    omega
  have hcol : ∀ j, j < t → h' j < b := fun j hj => Classical.byContradiction fun hno => e4 (dt_zeroC _ hj fun i hi => by
    have := hg' i hi
    show sylR n b A B R C (g' i) (h' j) = 0
    unfold sylR
    rw [if_neg (by omega), if_neg hno])
  refine ⟨t, fun i => g' i - n, h', by omega, fun i hi => by have := hg' i hi; show g' i - n < a; omega, hcol, fun h0 => e4 ?_⟩
  rw [dt_congr t (g := fun i j => (-1) * mulF n A B (R (g' i - n)) (C (h' j))) (fun i j hi hj => by
    have := hg' i hi
    unfold sylR
    rw [if_neg (by omega), if_pos (hcol j hj)]
    omega), dt_scale, h0, Int.mul_zero]

theorem add_bit : ∀ s : Fin 64, ∀ x : Fin 6, s.val.testBit x.val = false → popcS (s.val + 2 ^ x.val) = popcS s.val + 1 ∧ s.val + 2 ^ x.val < 64 ∧ (∀ y : Fin 6, (s.val + 2 ^ x.val).testBit y.val = (s.val.testBit y.val || decide (y = x))) := by decide +kernel
theorem in_pow : ∀ n : Fin 7, ∀ s : Fin 64, (∀ y : Fin 6, s.val.testBit y.val = true → y.val < n.val) → s.val < 2 ^ n.val := by decide +kernel
theorem selN_in : ∀ n : Fin 7, ∀ s : Fin 64, s.val < 2 ^ n.val → ∀ y : Fin 6, s.val.testBit y.val = true → ∃ i : Fin 6, i.val < popcS s.val ∧ selN s.val n.val i.val = y.val := by decide +kernel
theorem selN_inj : ∀ n : Fin 7, ∀ s : Fin 64, s.val < 2 ^ n.val → ∀ i j : Fin 6, i.val < popcS s.val → j.val < popcS s.val → selN s.val n.val i.val = selN s.val n.val j.val → i = j := by decide +kernel

theorem set_of {n : Nat} (hn : n ≤ 6) (R : Nat → Nat) : ∀ k, (∀ i, i < k → R i < n) → (∀ i j, i < k → j < k → R i = R j → i = j) → ∃ s, s < 64 ∧ popcS s = k ∧ (∀ i, i < k → s.testBit (R i) = true) ∧ ∀ y, y < 6 → s.testBit y = true → ∃ i, i < k ∧ R i = y
  | 0, _, _ => ⟨0, by omega, by decide, fun i hi => absurd hi (Nat.not_lt_zero _), fun y _ h => by simp at h⟩
  | k + 1, h1, h2 => by
    obtain ⟨s, s1, s2, s3, s4⟩ := set_of hn R k (fun i hi => h1 i (by omega)) (fun i j hi hj e => h2 i j (by omega) (by omega) e)
    have hk := h1 k (by omega)
    have hb : s.testBit (R k) = false := by
      cases hb : s.testBit (R k) with
      | false => rfl
      | true =>
        obtain ⟨i, hi, e⟩ := s4 (R k) (by omega) hb
        have := h2 i k (by omega) (by omega) e
        omega
    obtain ⟨a1, a2, a3⟩ := add_bit ⟨s, s1⟩ ⟨R k, by omega⟩ hb
    simp only at a1 a2 a3
    refine ⟨s + 2 ^ R k, a2, by omega, fun i hi => ?_, fun y hy h => ?_⟩
    · have hi6 := h1 i hi
      have := a3 ⟨R i, by omega⟩
      simp only at this
      rw [this]
      by_cases e : i = k
      · subst e; simp
      · rw [s3 i (by omega)]; simp
    · have := a3 ⟨y, hy⟩
      simp only at this
      rw [this, Bool.or_eq_true] at h
      rcases h with h | h
      · obtain ⟨i, hi, e⟩ := s4 y hy h
        exact ⟨i, by omega, e⟩
      · have e : (⟨y, hy⟩ : Fin 6) = ⟨R k, by omega⟩ := of_decide_eq_true h
        injection e with e
        exact ⟨k, by omega, e.symm⟩

theorem rows_set {n k : Nat} (hn : n ≤ 6) (f : Nat → Nat → Int) (R : Nat → Nat) (hR : ∀ i, i < k → R i < n) (h : dt k (fun i j => f (R i) j) ≠ 0) : ∃ s, s < 2 ^ n ∧ popcS s = k ∧ dt k (fun i j => f (selN s n i) j) ≠ 0 := by
  have hinj : ∀ i j, i < k → j < k → R i = R j → i = j := fun i j hi hj e => Classical.byContradiction fun hne => h (dt_sameR (fun i j => f (R i) j) hne hi hj (fun q _ => by show f (R i) q = f (R j) q; rw [e]))
  obtain ⟨s, s1, s2, s3, s4⟩ := set_of hn R k hR hinj
  have hs := in_pow ⟨n, by omega⟩ ⟨s, s1⟩ (fun y hy => by
    obtain ⟨i, hi, e⟩ := s4 y.val y.2 hy
    have := hR i hi
    show y.val < n
    omega)
  have hk6 := popcS_le s
  have hin : ∀ i, i < k → ∃ q, q < k ∧ selN s n q = R i := fun i hi => by
    have := hR i hi
    obtain ⟨q, q1, q2⟩ := selN_in ⟨n, by omega⟩ ⟨s, s1⟩ hs ⟨R i, by omega⟩ (s3 i hi)
    simp only at q1 q2
    exact ⟨q.val, by omega, q2⟩
  have hsj : ∀ i j, i < k → j < k → selN s n i = selN s n j → i = j := fun i j hi hj e => by
    have := selN_inj ⟨n, by omega⟩ ⟨s, s1⟩ hs ⟨i, by omega⟩ ⟨j, by omega⟩ (by show i < popcS s; omega) (by show j < popcS s; omega) e
    injection this
  refine ⟨s, hs, s2, fun h0 => h ?_⟩
  have e : dt k (fun i j => f (R i) j) = dt k (mulF k (fun i q => if R i = selN s n q then 1 else 0) (fun q j => f (selN s n q) j)) := dt_congr k fun i j hi hj => by
    obtain ⟨q, hq, e⟩ := hin i hi
    unfold mulF
    dsimp only
    rw [sumN_one _ q k hq (fun p hp hpq => by rw [if_neg (fun e2 => hpq (hsj p q hp hq (by rw [e, ← e2]))), Int.zero_mul]), if_pos e.symm, Int.one_mul, e]
  rw [e, dt_mul, h0, Int.mul_zero]

theorem rank_fun {l : List (List Int)} {n m k : Nat} (hT : TabIn l) (hn : l.length = n) (hm : (l.getD 0 []).length = m) {R C : Nat → Nat} (hR : ∀ i, i < k → R i < n) (hC : ∀ j, j < k → C j < m) (h : dt k (fun i j => at2 l (R i) (C j)) ≠ 0) : k ≤ rkR l (2 ^ m) (2 ^ n) := by
  have h6 := hT.2.1
  have hw := hT.width
  rw [hn] at h6
  rw [hm] at hw
  obtain ⟨r, r1, r2, hd⟩ := rows_set h6 (fun x j => at2 l x (C j)) R hR h
  rw [← dt_turn] at hd
  obtain ⟨c, c1, c2, hd2⟩ := rows_set hw.2 (fun y i => at2 l (selN r n i) y) C hC hd
  rw [← dt_turn] at hd2
  by_cases h0 : 1 ≤ k
  · obtain ⟨_, _, a3⟩ := rank_down (l := l) (n := n) (m := m) h6 hw.2
    have p1 : 2 ^ n ≤ 2 ^ 6 := Nat.pow_le_pow_right (by omega) h6
    have p2 : 2 ^ m ≤ 2 ^ 6 := Nat.pow_le_pow_right (by omega) hw.2
    have g1 := popcS_sel ⟨n, by omega⟩ ⟨r, by omega⟩ r1
    have g2 := popcS_sel ⟨m, by omega⟩ ⟨c, by omega⟩ c1
    simp only at g1 g2
    refine (a3 k h0).1 (hasB_iff.2 ⟨r, c, ⟨r1, r2⟩, ⟨c1, c2⟩, ?_⟩)
    rw [dt_congr k (g := fun i j => at2 l (selN r n i) (selN c m j)) (fun i j hi hj => by
      rw [partL_at l r c (by rw [hn]; omega) (by rw [hm]; omega), hn, hm])]
    exact hd2
  · omega
theorem rank_fun_of {l : List (List Int)} {n m : Nat} (hT : TabIn l) (hn : l.length = n) (hm : (l.getD 0 []).length = m) : ∃ R C : Nat → Nat, (∀ i, i < rkR l (2 ^ m) (2 ^ n) → R i < n) ∧ (∀ j, j < rkR l (2 ^ m) (2 ^ n) → C j < m) ∧ dt (rkR l (2 ^ m) (2 ^ n)) (fun i j => at2 l (R i) (C j)) ≠ 0 := by
  have h6 := hT.2.1
  have hw := hT.width
  rw [hn] at h6
  rw [hm] at hw
  by_cases h0 : 1 ≤ rkR l (2 ^ m) (2 ^ n)
  · obtain ⟨_, _, a3⟩ := rank_down (l := l) (n := n) (m := m) h6 hw.2
    cases hb : hasB l (rkR l (2 ^ m) (2 ^ n)) (2 ^ n) (2 ^ m) with
    | false => exact absurd rfl ((a3 _ h0).2 hb)
    | true =>
      obtain ⟨r, c, ⟨r1, r2⟩, ⟨c1, c2⟩, hd⟩ := hasB_iff.1 hb
      have p1 : 2 ^ n ≤ 2 ^ 6 := Nat.pow_le_pow_right (by omega) h6
      have p2 : 2 ^ m ≤ 2 ^ 6 := Nat.pow_le_pow_right (by omega) hw.2
      have g1 := popcS_sel ⟨n, by omega⟩ ⟨r, by omega⟩ r1
      have g2 := popcS_sel ⟨m, by omega⟩ ⟨c, by omega⟩ c1
      simp only at g1 g2
      refine ⟨selN r n, selN c m, fun i hi => selN_lt (by omega), fun j hj => selN_lt (by omega), ?_⟩
      rw [dt_congr _ (g := at2 (partL l r c)) (fun i j hi hj => by
        rw [partL_at l r c (by rw [hn]; omega) (by rw [hm]; omega), hn, hm])]
      exact hd
  · have e : rkR l (2 ^ m) (2 ^ n) = 0 := by omega
    rw [e]
    exact ⟨fun _ => 0, fun _ => 0, fun i hi => absurd hi (Nat.not_lt_zero _), fun i hi => absurd hi (Nat.not_lt_zero _), by rw [dt_zero]; omega⟩

theorem rank_mul {l u M : List (List Int)} {p n q : Nat} (hT : TabIn l) (hU : TabIn u) (hM : TabIn M) (hl : l.length = p) (hlw : (l.getD 0 []).length = n) (hu : u.length = n) (huw : (u.getD 0 []).length = q) (hMl : M.length = p) (hMw : (M.getD 0 []).length = q)
    (hat : ∀ i j, i < p → j < q → at2 M i j = mulF n (at2 l) (at2 u) i j) :
    rkR M (2 ^ q) (2 ^ p) ≤ rkR l (2 ^ n) (2 ^ p) ∧ rkR M (2 ^ q) (2 ^ p) ≤ rkR u (2 ^ q) (2 ^ n) ∧ rkR l (2 ^ n) (2 ^ p) + rkR u (2 ^ q) (2 ^ n) ≤ rkR M (2 ^ q) (2 ^ p) + n := by
  obtain ⟨R, C, hR, hC, hd⟩ := rank_fun_of hM hMl hMw
  have hd' : dt (rkR M (2 ^ q) (2 ^ p)) (fun i j => mulF n (at2 l) (at2 u) (R i) (C j)) ≠ 0 := by
    rw [dt_congr _ (g := fun i j => at2 M (R i) (C j)) (fun i j hi hj => (hat _ _ (hR i hi) (hC j hj)).symm)]
    exact hd
  refine ⟨?_, ?_, ?_⟩
  · obtain ⟨g, hg, h⟩ := mul_left_some hd'
    exact rank_fun hT hl hlw hR hg h
  · obtain ⟨g, hg, h⟩ := mul_right_some hd'
    exact rank_fun hU hu huw hg hC h
  · obtain ⟨R1, J, a1, a2, a3⟩ := rank_fun_of hT hl hlw
    obtain ⟨K, C1, b1, b2, b3⟩ := rank_fun_of hU hu huw
    obtain ⟨t, g, h, e1, e2, e3, e4⟩ := syl_rank (n := n) a2 b1 a3 b3
    have := rank_fun hM hMl hMw (k := t) (R := fun i => R1 (g i)) (C := fun j => C1 (h j)) (fun i hi => a1 _ (e2 i hi)) (fun j hj => b2 _ (e3 j hj)) (by
      rw [dt_congr t (g := fun i j => mulF n (at2 l) (at2 u) (R1 (g i)) (C1 (h j))) (fun i j hi hj => hat _ _ (a1 _ (e2 i hi)) (b2 _ (e3 j hj)))]
      exact e4)
    omega

end Go.Proofs.Ytbclpbgomkfabaa
end

section
namespace Go.Proofs.Ytbclpbgomkfabaa

theorem seln_in : ∀ n : Fin 6, ∀ s : Fin 32, s.val < 2 ^ n.val → ∀ i : Fin 6, i.val < popcS s.val → selN s.val n.val i.val < n.val ∧ s.val.testBit (selN s.val n.val i.val) = true := by decide +kernel
theorem seln_on : ∀ n : Fin 6, ∀ s : Fin 32, s.val < 2 ^ n.val → ∀ a : Fin 6, a.val < n.val → s.val.testBit a.val = true → ∃ r : Fin 6, r.val < popcS s.val ∧ selN s.val n.val r.val = a.val := by decide +kernel
theorem seln_inj : ∀ n : Fin 6, ∀ s : Fin 32, s.val < 2 ^ n.val → ∀ i j : Fin 6, i.val < popcS s.val → j.val < popcS s.val → selN s.val n.val i.val = selN s.val n.val j.val → i = j := by decide +kernel
theorem seln_up : ∀ n : Fin 6, ∀ s : Fin 32, s.val < 2 ^ n.val → ∀ a : Fin 6, a.val + 1 < n.val → s.val.testBit a.val = true → s.val.testBit (a.val + 1) = false →
    s.val ^^^ 2 ^ a.val ^^^ 2 ^ (a.val + 1) < 2 ^ n.val ∧ popcS (s.val ^^^ 2 ^ a.val ^^^ 2 ^ (a.val + 1)) = popcS s.val ∧ ∀ i : Fin 6, i.val < popcS s.val → selN (s.val ^^^ 2 ^ a.val ^^^ 2 ^ (a.val + 1)) n.val i.val = if selN s.val n.val i.val = a.val then a.val + 1 else selN s.val n.val i.val := by decide +kernel
theorem seln_dn : ∀ n : Fin 6, ∀ s : Fin 32, s.val < 2 ^ n.val → ∀ a : Fin 6, a.val + 1 < n.val → s.val.testBit (a.val + 1) = true → s.val.testBit a.val = false →
    s.val ^^^ 2 ^ (a.val + 1) ^^^ 2 ^ a.val < 2 ^ n.val ∧ popcS (s.val ^^^ 2 ^ (a.val + 1) ^^^ 2 ^ a.val) = popcS s.val ∧ ∀ i : Fin 6, i.val < popcS s.val → selN (s.val ^^^ 2 ^ (a.val + 1) ^^^ 2 ^ a.val) n.val i.val = if selN s.val n.val i.val = a.val + 1 then a.val else selN s.val n.val i.val := by decide +kernel
theorem popc_le5 : ∀ n : Fin 6, ∀ s : Fin 32, s.val < 2 ^ n.val → popcS s.val ≤ n.val := by decide +kernel
theorem seln_out : ∀ s t : Fin 32, s ≠ t → popcS s.val = popcS t.val → ∃ a : Fin 5, s.val.testBit a.val = true ∧ t.val.testBit a.val = false := by decide +kernel

theorem setR_selfH (f : Nat → Nat → Int) (k r : Nat) : dt k (setR f r (f r)) = dt k f := dt_congr k fun i j _ _ => by
  unfold setR
  by_cases e : i = r
  · subst e; rw [if_pos rfl]
  · rw [if_neg e]

theorem fam_minor {n : Nat} (h5 : n ≤ 5) : ∀ (cs : List CH), (∀ c ∈ cs, chOk n c) → ∀ (s t : Nat), s < 2 ^ n → t < 2 ^ n → popcS s = popcS t →
    famN cs s t = dt (popcS s) (fun i j => netM n cs (selN s n i) (selN t n j))
  | [], _, s, t, hs, ht, hp => by
    have p5 : 2 ^ n ≤ 2 ^ 5 := Nat.pow_le_pow_right (by omega) h5
    have hk := popc_le5 ⟨n, by omega⟩ ⟨s, by omega⟩ hs
    simp only at hk
    unfold famN
    by_cases e : s = t
    · subst e
      rw [if_pos rfl, ← dt_oneF (popcS s)]
      refine dt_congr _ fun i j hi hj => ?_
      show _ = if selN s n i = selN s n j then (1 : Int) else 0
      unfold oneF
      by_cases e2 : i = j
      · subst e2; simp
      · rw [if_neg e2, if_neg (fun h => e2 (by
          have := seln_inj ⟨n, by omega⟩ ⟨s, by omega⟩ hs ⟨i, by omega⟩ ⟨j, by omega⟩ hi hj h
          simpa using this))]
    · rw [if_neg e]
      obtain ⟨a, ha, hb⟩ := seln_out ⟨s, by omega⟩ ⟨t, by omega⟩ (by simpa using e) hp
      simp only at ha hb
      have han : a.val < n := by
        by_cases h : a.val < n
        · exact h
        · rw [Nat.testBit_lt_two_pow (Nat.lt_of_lt_of_le hs (Nat.pow_le_pow_right (by omega) (by omega)))] at ha
          cases ha
      obtain ⟨r, hr, hra⟩ := seln_on ⟨n, by omega⟩ ⟨s, by omega⟩ hs ⟨a.val, by omega⟩ han ha
      simp only at hr hra
      refine (dt_zeroR _ hr fun j hj => ?_).symm
      show (if selN s n r.val = selN t n j then (1 : Int) else 0) = 0
      rw [hra, if_neg (fun h => by
        have := (seln_in ⟨n, by omega⟩ ⟨t, by omega⟩ ht ⟨j, by omega⟩ (by simp only; omega)).2
        simp only at this
        rw [← h, hb] at this
        cases this)]
  | c :: cs, h, s, t, hs, ht, hp => by
    have hc := h c (by simp)
    have ih := fam_minor h5 cs (fun c hc => h c (by simp [hc]))
    have p5 : 2 ^ n ≤ 2 ^ 5 := Nat.pow_le_pow_right (by omega) h5
    have hk := popc_le5 ⟨n, by omega⟩ ⟨s, by omega⟩ hs
    simp only at hk
    have hin := fun i (hi : i < popcS s) => seln_in ⟨n, by omega⟩ ⟨s, by omega⟩ hs ⟨i, by omega⟩ hi
    simp only at hin
    have hinj := fun i j (hi : i < popcS s) (hj : j < popcS s) (e : selN s n i = selN s n j) => seln_inj ⟨n, by omega⟩ ⟨s, by omega⟩ hs ⟨i, by omega⟩ ⟨j, by omega⟩ hi hj e
    simp only [Fin.mk.injEq] at hinj
    obtain ⟨g, hg⟩ : ∃ g : Nat → Nat → Int, (fun i j => netM n cs (selN s n i) (selN t n j)) = g := ⟨_, rfl⟩
    have ihs := ih s t hs ht hp
    rw [hg] at ihs
    have hgv : ∀ i j, g i j = netM n cs (selN s n i) (selN t n j) := fun i j => by rw [← hg]
    have key : ∀ i j, i < popcS s → netM n (c :: cs) (selN s n i) (selN t n j) = if c.1 = 2 then (if selN s n i = c.2.1 then c.2.2 * g i j else g i j) else g i j + (if selN s n i = cFrom c then c.2.2 * netM n cs (cTo c) (selN t n j) else 0) := fun i j hi => by
      show sumN (fun m => chM c (selN s n i) m * netM n cs m (selN t n j)) n = _
      rw [ch_row hc (hin i hi).1 (fun m => netM n cs m (selN t n j)), hgv]
    unfold famN
    by_cases h2 : c.1 = 2
    · rw [if_pos h2]
      have hl : c.2.1 < n := by have := hc.2; rw [if_pos h2] at this; exact this
      by_cases hb : s.testBit c.2.1 = true
      · rw [if_pos hb, ihs]
        obtain ⟨r, hr, hra⟩ := seln_on ⟨n, by omega⟩ ⟨s, by omega⟩ hs ⟨c.2.1, by omega⟩ hl hb
        simp only at hr hra
        have e : dt (popcS s) (fun i j => netM n (c :: cs) (selN s n i) (selN t n j)) = dt (popcS s) (setR g r.val (fun j => c.2.2 * g r.val j + 0 * g r.val j)) := dt_congr _ fun i j hi hj => by
          rw [key i j hi, if_pos h2]
          unfold setR
          by_cases e : i = r.val
          · subst e; rw [if_pos hra, if_pos rfl]; show c.2.2 * g r.val j = c.2.2 * g r.val j + 0 * g r.val j; omega
          · rw [if_neg e, if_neg (fun x => e (hinj i r.val hi hr (x.trans hra.symm)))]
        rw [e, dt_lin _ _ _ _ _ _ _ hr, setR_selfH]
        omega
      · rw [if_neg hb, ihs]
        refine dt_congr _ fun i j hi hj => ?_
        rw [key i j hi, if_pos h2, if_neg (fun x => hb (by rw [← x]; exact (hin i hi).2))]
    · rw [if_neg h2]
      obtain ⟨h3, h4, h6⟩ := ch_ft hc h2
      have hl : c.2.1 + 1 < n := by have := hc.2; rw [if_neg h2] at this; exact this
      by_cases hb : s.testBit (cFrom c) = true
      · obtain ⟨r, hr, hra⟩ := seln_on ⟨n, by omega⟩ ⟨s, by omega⟩ hs ⟨cFrom c, by omega⟩ h3 hb
        simp only at hr hra
        have e : dt (popcS s) (fun i j => netM n (c :: cs) (selN s n i) (selN t n j)) = dt (popcS s) (setR g r.val (fun j => 1 * g r.val j + c.2.2 * netM n cs (cTo c) (selN t n j))) := dt_congr _ fun i j hi hj => by
          rw [key i j hi, if_neg h2]
          unfold setR
          by_cases e : i = r.val
          · subst e; rw [if_pos hra, if_pos rfl]; show g r.val j + c.2.2 * netM n cs (cTo c) (selN t n j) = 1 * g r.val j + c.2.2 * netM n cs (cTo c) (selN t n j); omega
          · rw [if_neg e, if_neg (fun x => e (hinj i r.val hi hr (x.trans hra.symm)))]; omega
        rw [e, dt_lin _ _ _ _ _ _ _ hr, setR_selfH, Int.one_mul, ← ihs]
        by_cases hb2 : s.testBit (cTo c) = true
        · rw [if_neg (fun x => by rw [hb2] at x; cases x.2)]
          obtain ⟨q, hq, hqa⟩ := seln_on ⟨n, by omega⟩ ⟨s, by omega⟩ hs ⟨cTo c, by omega⟩ h4 hb2
          simp only at hq hqa
          have hqr : r.val ≠ q.val := fun x => h6 (by rw [← hra, ← hqa, x])
          rw [dt_sameR _ hqr hr hq (fun j hj => by
            unfold setR
            rw [if_pos rfl, if_neg (fun x => hqr x.symm), hgv, hqa])]
          omega
        · have hb3 : s.testBit (cTo c) = false := by simpa using hb2
          rw [if_pos ⟨hb, hb3⟩]
          have F : (s ^^^ 2 ^ cFrom c ^^^ 2 ^ cTo c) < 2 ^ n ∧ popcS (s ^^^ 2 ^ cFrom c ^^^ 2 ^ cTo c) = popcS s ∧ ∀ i, i < popcS s → selN (s ^^^ 2 ^ cFrom c ^^^ 2 ^ cTo c) n i = if selN s n i = cFrom c then cTo c else selN s n i := by
            by_cases h0 : c.1 = 0
            · have e1 : cFrom c = c.2.1 := if_pos h0
              have e2 : cTo c = c.2.1 + 1 := if_pos h0
              rw [e1] at hb ⊢
              rw [e2] at hb3 ⊢
              obtain ⟨f1, f2, f3⟩ := seln_up ⟨n, by omega⟩ ⟨s, by omega⟩ hs ⟨c.2.1, by omega⟩ hl hb hb3
              exact ⟨f1, f2, fun i hi => f3 ⟨i, by omega⟩ hi⟩
            · have e1 : cFrom c = c.2.1 + 1 := if_neg h0
              have e2 : cTo c = c.2.1 := if_neg h0
              rw [e1] at hb ⊢
              rw [e2] at hb3 ⊢
              obtain ⟨f1, f2, f3⟩ := seln_dn ⟨n, by omega⟩ ⟨s, by omega⟩ hs ⟨c.2.1, by omega⟩ hl hb hb3
              exact ⟨f1, f2, fun i hi => f3 ⟨i, by omega⟩ hi⟩
          obtain ⟨f1, f2, f3⟩ := F
          rw [ih _ t f1 ht (f2.trans hp), f2]
          have e4 : dt (popcS s) (setR g r.val (fun j => netM n cs (cTo c) (selN t n j))) = dt (popcS s) (fun i j => netM n cs (selN (s ^^^ 2 ^ cFrom c ^^^ 2 ^ cTo c) n i) (selN t n j)) := dt_congr _ fun i j hi hj => by
            rw [f3 i hi]
            unfold setR
            by_cases e : i = r.val
            · subst e; rw [if_pos rfl, if_pos hra]
            · rw [if_neg e, if_neg (fun x => e (hinj i r.val hi hr (x.trans hra.symm))), hgv]
          rw [e4]
      · rw [if_neg (fun x => hb x.1), ihs, Int.add_zero]
        refine dt_congr _ fun i j hi hj => ?_
        rw [key i j hi, if_neg h2, if_neg (fun x => hb (by rw [← x]; exact (hin i hi).2)), Int.add_zero]

end Go.Proofs.Ytbclpbgomkfabaa
end

section
namespace Go.Proofs.Ytbclpbgomkfabaa

def allH : List CH → Int
  | [] => 1
  | c :: cs => if c.1 = 2 then c.2.2 * allH cs else allH cs
theorem full_bit {n i : Nat} (h : i < n) : (2 ^ n - 1).testBit i = true := by
  rw [Nat.testBit_two_pow_sub_one]; simpa using h
theorem fam_full {n : Nat} : ∀ (cs : List CH), (∀ c ∈ cs, chOk n c) → famN cs (2 ^ n - 1) (2 ^ n - 1) = allH cs
  | [], _ => by unfold famN allH; rw [if_pos rfl]
  | c :: cs, h => by
    have hc := h c (by simp)
    have ih := fam_full cs (fun c hc => h c (by simp [hc]))
    unfold famN allH
    by_cases h2 : c.1 = 2
    · have hl : c.2.1 < n := by have := hc.2; rw [if_pos h2] at this; exact this
      rw [if_pos h2, if_pos h2, if_pos (full_bit hl), ih]
    · obtain ⟨h3, h4, _⟩ := ch_ft hc h2
      rw [if_neg h2, if_neg h2, if_neg (fun x => by rw [full_bit h4] at x; cases x.2), ih, Int.add_zero]
theorem seln_full : ∀ n : Fin 6, popcS (2 ^ n.val - 1) = n.val ∧ ∀ i : Fin 6, i.val < n.val → selN (2 ^ n.val - 1) n.val i.val = i.val := by decide +kernel
theorem net_value {n : Nat} (h5 : n ≤ 5) (cs : List CH) (h : ∀ c ∈ cs, chOk n c) : dt n (netM n cs) = allH cs := by
  have hp := Nat.two_pow_pos n
  have e := fam_minor h5 cs h (2 ^ n - 1) (2 ^ n - 1) (by omega) (by omega) rfl
  obtain ⟨k1, k2⟩ := seln_full ⟨n, by omega⟩
  simp only at k1 k2
  rw [fam_full cs h, k1] at e
  rw [e]
  refine dt_congr n fun i j hi hj => ?_
  have e1 := k2 ⟨i, by omega⟩ hi
  have e2 := k2 ⟨j, by omega⟩ hj
  simp only at e1 e2
  rw [e1, e2]

def oneZ (c : CH) : CH := (c.1, c.2.1, if c.2.2 = 0 then 0 else 1)
theorem oneZ_nn (cs : List CH) : ∀ c ∈ cs.map oneZ, 0 ≤ c.2.2 := by
  intro c hc
  rw [List.mem_map] at hc
  obtain ⟨d, _, rfl⟩ := hc
  unfold oneZ
  simp only
  split <;> omega
theorem fam_some : ∀ (cs : List CH) (s t : Nat), famN cs s t ≠ 0 → 0 < famN (cs.map oneZ) s t
  | [], s, t, h => by
    unfold famN at h
    by_cases e : s = t
    · subst e; show 0 < famN [] s s; unfold famN; rw [if_pos rfl]; decide
    · rw [if_neg e] at h; exact absurd rfl h
  | c :: cs, s, t, h => by
    have ih := fam_some cs
    have hn := fam_nn (cs.map oneZ) (oneZ_nn cs)
    unfold famN at h
    show 0 < famN (oneZ c :: cs.map oneZ) s t
    unfold famN
    have e1 : (oneZ c).1 = c.1 := rfl
    have e2 : (oneZ c).2.1 = c.2.1 := rfl
    have e3 : cFrom (oneZ c) = cFrom c := rfl
    have e4 : cTo (oneZ c) = cTo c := rfl
    have hw : ∀ x : Int, c.2.2 * x ≠ 0 → (oneZ c).2.2 = 1 ∧ x ≠ 0 := fun x hx => by
      by_cases e0 : c.2.2 = 0
      · rw [e0, Int.zero_mul] at hx; exact absurd rfl hx
      · exact ⟨by unfold oneZ; simp only; rw [if_neg e0], fun e => hx (by rw [e, Int.mul_zero])⟩
    have h0 : 0 ≤ (oneZ c).2.2 := by unfold oneZ; simp only; split <;> omega
    rw [e1, e2, e3, e4]
    by_cases h2 : c.1 = 2
    · rw [if_pos h2] at h ⊢
      by_cases hb : s.testBit c.2.1 = true
      · rw [if_pos hb] at h ⊢
        obtain ⟨k1, k2⟩ := hw _ h
        rw [k1, Int.one_mul]
        exact ih _ _ k2
      · rw [if_neg hb] at h ⊢
        exact ih _ _ h
    · rw [if_neg h2] at h ⊢
      by_cases hb : s.testBit (cFrom c) = true ∧ s.testBit (cTo c) = false
      · rw [if_pos hb] at h ⊢
        have n1 := hn s t
        have n2 := hn (s ^^^ 2 ^ cFrom c ^^^ 2 ^ cTo c) t
        by_cases e5 : famN cs s t = 0
        · rw [e5, Int.zero_add] at h
          obtain ⟨k1, k2⟩ := hw _ h
          have := ih _ _ k2
          rw [k1, Int.one_mul]
          omega
        · have := ih _ _ e5
          have := Int.mul_nonneg h0 n2
          omega
      · rw [if_neg hb, Int.add_zero] at h ⊢
        exact ih _ _ h
theorem fam_plain : ∀ (cs : List CH), (∀ c ∈ cs, 0 ≤ c.2.2) → ∀ s t, 0 < famN (cs.map oneZ) s t → 0 < famN cs s t
  | [], _, s, t, h => h
  | c :: cs, hp, s, t, h => by
    have hc := hp c (by simp)
    have ih := fam_plain cs (fun c hc => hp c (by simp [hc]))
    have hn := fam_nn cs (fun c hc => hp c (by simp [hc]))
    have hz := fam_nn (cs.map oneZ) (oneZ_nn cs)
    have hw : ∀ x y : Int, (0 < y → 0 < x) → 0 ≤ y → 0 < (oneZ c).2.2 * y → 0 < c.2.2 * x := fun x y hxy hy hx => by
      by_cases e0 : c.2.2 = 0
      · have : (oneZ c).2.2 = 0 := by unfold oneZ; simp only; rw [if_pos e0]
        rw [this, Int.zero_mul] at hx; omega
      · have : (oneZ c).2.2 = 1 := by unfold oneZ; simp only; rw [if_neg e0]
        rw [this, Int.one_mul] at hx
        exact Int.mul_pos (by omega) (hxy hx)
    have h' : 0 < famN (oneZ c :: cs.map oneZ) s t := h
    unfold famN at h' ⊢
    have e1 : (oneZ c).1 = c.1 := rfl
    have e2 : (oneZ c).2.1 = c.2.1 := rfl
    have e3 : cFrom (oneZ c) = cFrom c := rfl
    have e4 : cTo (oneZ c) = cTo c := rfl
    rw [e1, e2, e3, e4] at h'
    by_cases h2 : c.1 = 2
    · rw [if_pos h2] at h' ⊢
      by_cases hb : s.testBit c.2.1 = true
      · rw [if_pos hb] at h' ⊢
        exact hw _ _ (ih s t) (hz s t) h'
      · rw [if_neg hb] at h' ⊢
        exact ih _ _ h'
    · rw [if_neg h2] at h' ⊢
      by_cases hb : s.testBit (cFrom c) = true ∧ s.testBit (cTo c) = false
      · rw [if_pos hb] at h' ⊢
        have n1 := hn s t
        have n2 := Int.mul_nonneg hc (hn (s ^^^ 2 ^ cFrom c ^^^ 2 ^ cTo c) t)
        by_cases e5 : 0 < famN (cs.map oneZ) s t
        · have := ih _ _ e5; omega
        · have z1 := hz s t
          have := hw _ _ (ih (s ^^^ 2 ^ cFrom c ^^^ 2 ^ cTo c) t) (hz _ t) (by omega)
          omega
      · rw [if_neg hb, Int.add_zero] at h' ⊢
        exact ih _ _ h'

end Go.Proofs.Ytbclpbgomkfabaa
end

section
namespace Go.Proofs.Ytbclpbgomkfabaa
open Go.RowKit Go.Deep

noncomputable def oneL (q : Int) (cs : List RC) : List CH := (cs.map (oneC q)).map toC
theorem one_rc {q : Int} (hq : 0 ≤ q ∧ q ≤ 1) {n : Nat} {c : RC} (h : RCok c ∧ chOk n (toC c)) : RCok (oneC q c) ∧ chOk n (toC (oneC q c)) := by
  obtain ⟨⟨h1, h2, h3⟩, h4⟩ := h
  refine ⟨⟨h1, h2, ?_⟩, h4⟩
  unfold oneC
  simp only
  split <;> omega
theorem NetOk.ones {n : Nat} {cs : List RC} (h : NetOk n cs) {q : Int} (hq : 0 ≤ q ∧ q ≤ 1) : NetOk n (cs.map (oneC q)) :=
  ⟨h.lo, h.hi, by rw [List.length_map]; exact h.len, fun c hc => by
    obtain ⟨d, hd, rfl⟩ := List.mem_map.1 hc
    exact one_rc hq (h.ok d hd)⟩

noncomputable def countV (n : Int) (cs : List RC) (i k : Int) : Int := if linesB n cs i k = true then pathN (oneL 1 cs) i.toNat k.toNat else 0

def anyTo (cs : List CH) (f t : Nat) : Bool := (List.range t).any fun u => popcS f == popcS u && decide (0 < famN cs f u)
theorem anyTo_succ (cs : List CH) (f t : Nat) : anyTo cs f (t + 1) = (anyTo cs f t || (popcS f == popcS t && decide (0 < famN cs f t))) := by
  unfold anyTo
  rw [List.range_succ, List.any_append]
  simp
def mostTo (cs : List CH) (M : Nat) : Nat → Nat
  | 0 => 0
  | f + 1 => if anyTo cs f M = true then max (mostTo cs M f) (popcS f) else mostTo cs M f
theorem mostTo_le (cs : List CH) (M : Nat) : ∀ f, mostTo cs M f ≤ 6
  | 0 => by unfold mostTo; omega
  | f + 1 => by
    have h1 := mostTo_le cs M f
    have h2 : popcS f ≤ 6 := sel_length f 6 6
    unfold mostTo
    split <;> omega
def mostAt (cs : List CH) (M f t : Nat) : Nat := if anyTo cs f t = true then max (mostTo cs M f) (popcS f) else mostTo cs M f
theorem mostAt_zero (cs : List CH) (M f : Nat) : mostAt cs M f 0 = mostTo cs M f := by
  unfold mostAt anyTo
  rw [if_neg (by simp)]
theorem mostAt_all (cs : List CH) (M f : Nat) : mostAt cs M f M = mostTo cs M (f + 1) := rfl
theorem mostAt_yes {cs : List CH} {M f t : Nat} (h1 : popcS f = popcS t) (h2 : mostAt cs M f t < popcS f) (h3 : 0 < famN cs f t) : mostAt cs M f (t + 1) = popcS f := by
  have hy : anyTo cs f (t + 1) = true := by rw [anyTo_succ, decide_eq_true h3, beq_iff_eq.2 h1]; simp
  unfold mostAt at h2 ⊢
  rw [if_pos hy]
  split at h2 <;> omega
theorem mostAt_no {cs : List CH} {M f t : Nat} (h : ¬ (popcS f = popcS t ∧ mostAt cs M f t < popcS f ∧ 0 < famN cs f t)) : mostAt cs M f (t + 1) = mostAt cs M f t := by
  unfold mostAt at h ⊢
  rw [anyTo_succ]
  by_cases hy : anyTo cs f t = true
  · rw [hy, Bool.true_or]
  · rw [if_neg hy] at h ⊢
    by_cases h1 : popcS f = popcS t
    · by_cases h3 : 0 < famN cs f t
      · have h2 : ¬ mostTo cs M f < popcS f := fun h2 => h ⟨h1, h2, h3⟩
        split <;> omega
      · rw [decide_eq_false h3, Bool.and_false, Bool.or_false, if_neg hy]
    · rw [show (popcS f == popcS t) = false by simpa using h1, Bool.false_and, Bool.or_false, if_neg hy]
theorem mostAt_le (cs : List CH) (M f t : Nat) : mostAt cs M f t ≤ 6 := by
  have h1 := mostTo_le cs M f
  have h2 : popcS f ≤ 6 := sel_length f 6 6
  unfold mostAt
  split <;> omega
noncomputable def mostV (n : Int) (cs : List RC) : Int := if netB n cs = true then (mostTo (oneL 0 cs) (2 ^ n.toNat) (2 ^ n.toNat) : Nat) else 0

set_option maxRecDepth 100000 in
set_option maxHeartbeats 1000000 in
theorem specNetMost_any (a : Option Addr) (cap N : Nat) (n : Int) (cs : List RC) (w : World) (hN : cs.length = N) (h63 : N ≤ 9223372036854775807) (hm : ChipsR w a cs) :
    Calls Try.prog 24 #[.int .i64 n, .slice a N cap] w fun e w' => e = .returned (.tuple #[.int .i64 (mostV n cs), .bool (netB n cs)]) ∧ w.Since w.heap.size w' := by
  have E := specNetIn_any a cap N n cs w hN h63 hm
  unfold mostV
  cases hb : netB n cs with
  | false =>
    rw [if_neg (by simp)]
    rw [hb] at E
    replace E := Lib.hid E
    clear hb hm hN
    go_enter Try.func24, Try.ntmps24
    go_wp2_with (go_at_call 60; refine (E.out).mono ?_; rintro e w1 ⟨rfl, hs1⟩; have HS1 := Lib.hid hs1; clear hs1)
    go_ret2
    exact ⟨rfl, HS1.out⟩
  | true =>
    rw [if_pos rfl]
    obtain ⟨m, rfl, ho⟩ := netB_ok hb
    rw [hb] at E
    replace E := Lib.hid E
    have hm5 := ho.hi
    have h10 := ho.len
    rw [hN] at h10
    have ho0 := ho.ones (q := 0) (by omega)
    obtain ⟨⟨p1, p2⟩, p3, p4, p5⟩ := p5_fin ⟨m, by omega⟩
    simp only at p1 p2 p3 p4 p5
    rw [Int.toNat_natCast]
    obtain ⟨M, hM⟩ : ∃ M : Nat, 2 ^ m = M := ⟨_, rfl⟩
    rw [hM] at p1 p2 p4 p5 ⊢
    have E1 := Lib.hid (fun (W : World) (hs : w.Since w.heap.size W) => l6cOnes_any a cap N 0 cs W hN h10 (hm.since hs))
    have E2 := Lib.hid (fun (W : World) (a' : Option Addr) (cap' s t : Nat) (h1 : N ≤ cap') (h2 : cap' ≤ 9223372036854775807) (hs : s ≤ 31) (hm : ChipsR W a' (cs.map (oneC 0))) => l6cFamilies_any (cs.map (oneC 0)) a' N cap' s t W (by rw [List.length_map]; exact hN) h10 h1 h2 ho0.five hs hm)
    have hD : oneL 0 cs = (cs.map (oneC 0)).map toC := rfl
    rw [← hD] at E2
    have hfb := fun (s t : Nat) => fam_bd (oneL 0 cs) (fun d hd => by
      obtain ⟨e, he, rfl⟩ := List.mem_map.1 hd
      exact (ho0.rc e he).2.2) s t
    have hp10 : p10 (oneL 0 cs).length ≤ 10000000000 := p10_le (by unfold oneL; rw [List.length_map, List.length_map]; omega)
    obtain ⟨D, hDD⟩ : ∃ D, oneL 0 cs = D := ⟨_, rfl⟩
    rw [hDD] at E2 hfb hp10 ⊢
    have HFB := Lib.hid hfb
    have HP := Lib.hid hp10
    have HCH := Lib.hid (show ∀ (W : World) (a' : Option Addr), (∃ V : World, ChipsR V a' (cs.map (oneC 0)) ∧ V.Since V.heap.size W) → ChipsR W a' (cs.map (oneC 0)) from fun W a' ⟨V, h1, h2⟩ => h1.since h2)
    clear hb hm hN hM h10 ho0 p3 hD hDD hfb hp10 ho
    go_enter Try.func24, Try.ntmps24
    go_wp2_with (first
      | (go_at_call 60; refine (E.out).mono ?_; rintro e w1 ⟨rfl, hs1⟩; have HS1 := Lib.hid hs1; clear hs1)
      | (go_at_call 71; refine (E1.out _ HS1.out).mono ?_; rintro e w2 ⟨a2, c2, rfl, hs2, ho2, hc2, hc63⟩; have HS2 := Lib.hid (HS1.out.trans (since_mono hs2 HS1.out.size)); have HO2 := Lib.hid ho2.chips; clear hs2 ho2))
    go_loopg [6, 8, 9] M (fun g v i _ wr => ∃ f : Nat, f ≤ M ∧ g = M - f ∧ i = .int .i64 f ∧ v = .int .i64 (mostTo D M f : Nat) ∧ w.Since w.heap.size wr ∧ ChipsR wr a2 (cs.map (oneC 0)))
    case atStart => exact ⟨0, Nat.zero_le _, rfl, rfl, rfl, HS2.out, HO2.out⟩
    case round =>
      obtain ⟨f, hf, rfl, rfl, rfl, hS, hC⟩ := hrel
      by_cases hlt : f < M
      · have EP := Lib.hid (fun (W : World) => l2Size_any f (by omega) W)
        have hz := mostAt_zero D M f
        have hall := mostAt_all D M f
        have hpf : popcS f ≤ 6 := sel_length f 6 6
        have HZ := Lib.hid hz
        have HALL := Lib.hid hall
        have HS := Lib.hid hS
        have HC := Lib.hid hC
        clear hz hall hS hC
        go_wp2_with fail
        go_loopg [6, 9] M (fun g v i wi => ∃ t : Nat, t ≤ M ∧ g = M - t ∧ i = .int .i64 t ∧ v = .int .i64 (mostAt D M f t : Nat) ∧ w.Since w.heap.size wi ∧ ChipsR wi a2 (cs.map (oneC 0)))
        case atStart => exact ⟨0, Nat.zero_le _, rfl, rfl, by rw [HZ.out], HS.out, HC.out⟩
        case round =>
          obtain ⟨t, ht, rfl, rfl, rfl, hS2, hC2⟩ := hrel
          by_cases hlt2 : t < M
          · have EQ := Lib.hid (fun (W : World) => l2Size_any t (by omega) W)
            have hpt : popcS t ≤ 6 := sel_length t 6 6
            have hma := mostAt_le D M f t
            have EF := Lib.hid (E2.out wr a2 c2 f t hc2 hc63 (by omega) hC2)
            have hyes := fun h1 h2 h3 => mostAt_yes (cs := D) (M := M) (f := f) (t := t) h1 h2 h3
            have hno := fun h => mostAt_no (cs := D) (M := M) (f := f) (t := t) h
            have hfb := HFB.out f t
            obtain ⟨P, hP⟩ : ∃ P, famN D f t = P := ⟨_, rfl⟩
            obtain ⟨A, hA⟩ : ∃ A, popcS f = A := ⟨_, rfl⟩
            obtain ⟨B, hB⟩ : ∃ B, popcS t = B := ⟨_, rfl⟩
            obtain ⟨Z, hZ⟩ : ∃ Z, mostAt D M f t = Z := ⟨_, rfl⟩
            rw [hP] at EF hyes hno hfb
            rw [hA] at EP hyes hno hpf
            rw [hB] at EQ hyes hno hpt
            rw [hZ] at hyes hno hma ⊢
            have HY := Lib.hid hyes
            have HNO := Lib.hid hno
            have HS2 := Lib.hid hS2
            have HC2 := Lib.hid hC2
            clear hyes hno hP hA hB hZ hS2 hC2 hfb HFB HP
            by_cases g1 : A = B
            · subst g1
              by_cases g2 : Z < A
              · have g2' : decide ((Z : Int) < (A : Int)) = true := by simpa using g2
                by_cases g3 : 0 < P
                · have g3' : decide (0 < P) = true := by simpa using g3
                  have HR := Lib.hid (HY.out rfl g2 g3)
                  go_wp2_with (first
                    | (go_at_call 59; ((with_reducible refine (EP.out _).mono ?_); rintro e w2 ⟨rfl, rfl⟩))
                    | (go_at_call 59; ((with_reducible refine (EQ.out _).mono ?_); rintro e w2 ⟨rfl, rfl⟩))
                    | (go_at_call 62; refine (EF.out).mono ?_; rintro e w4 ⟨rfl, hs4⟩; have H4 := Lib.hid (And.intro (HS2.out.trans (since_mono hs4 HS2.out.size)) (HC2.out.since hs4)); clear hs4))
                  go_roundg (M - (t + 1))
                  case measure => omega
                  case rel => exact ⟨t + 1, by omega, rfl, by go_num, by rw [HR.out], H4.out.1, H4.out.2⟩
                · have g3' : decide (0 < P) = false := by simpa using g3
                  have HR := Lib.hid (HNO.out (fun h => g3 h.2.2))
                  go_wp2_with (first
                    | (go_at_call 59; ((with_reducible refine (EP.out _).mono ?_); rintro e w2 ⟨rfl, rfl⟩))
                    | (go_at_call 59; ((with_reducible refine (EQ.out _).mono ?_); rintro e w2 ⟨rfl, rfl⟩))
                    | (go_at_call 62; refine (EF.out).mono ?_; rintro e w4 ⟨rfl, hs4⟩; have H4 := Lib.hid (And.intro (HS2.out.trans (since_mono hs4 HS2.out.size)) (HC2.out.since hs4)); clear hs4))
                  go_roundg (M - (t + 1))
                  case measure => omega
                  case rel => exact ⟨t + 1, by omega, rfl, by go_num, by rw [HR.out], H4.out.1, H4.out.2⟩
              · have g2' : decide ((Z : Int) < (A : Int)) = false := by simpa using g2
                have HR := Lib.hid (HNO.out (fun h => g2 h.2.1))
                go_wp2_with (first
                  | (go_at_call 59; ((with_reducible refine (EP.out _).mono ?_); rintro e w2 ⟨rfl, rfl⟩))
                  | (go_at_call 59; ((with_reducible refine (EQ.out _).mono ?_); rintro e w2 ⟨rfl, rfl⟩)))
                go_roundg (M - (t + 1))
                case measure => omega
                case rel => exact ⟨t + 1, by omega, rfl, by go_num, by rw [HR.out], HS2.out, HC2.out⟩
            · have g1' : ((A : Int) == (B : Int)) = false := by simp; omega
              have g1'' : (A == B) = false := by simpa using g1
              have HR := Lib.hid (HNO.out (fun h => g1 h.1))
              go_wp2_with (first
                | (go_at_call 59; ((with_reducible refine (EP.out _).mono ?_); rintro e w2 ⟨rfl, rfl⟩))
                | (go_at_call 59; ((with_reducible refine (EQ.out _).mono ?_); rintro e w2 ⟨rfl, rfl⟩)))
              go_roundg (M - (t + 1))
              case measure => omega
              case rel => exact ⟨t + 1, by omega, rfl, by go_num, by rw [HR.out], HS2.out, HC2.out⟩
          · obtain rfl : t = M := by omega
            have HS3 := Lib.hid (And.intro hS2 hC2)
            clear hS2 hC2
            go_wp2_with fail
            go_roundg (t - (f + 1))
            case measure => omega
            case rel => exact ⟨f + 1, by omega, rfl, by go_num, by rw [← HALL.out], HS3.out.1, HS3.out.2⟩
      · obtain rfl : f = M := by omega
        have HS3 := Lib.hid hS
        clear hS hC
        go_wp2_with fail
        go_ret2
        exact ⟨rfl, HS3.out⟩

end Go.Proofs.Ytbclpbgomkfabaa
end

section
namespace Go.Proofs.Ytbclpbgomkfabaa
open Go.RowKit Go.Deep

def leadB (cs : List CH) (s : Nat) : Bool := (famL cs s 1).any fun x => decide (x.2 ≠ 0)
theorem lead_iff : ∀ (cs : List CH) (s : Nat) (x : Int), (∃ y ∈ famL cs s x, y.2 ≠ 0) ↔ x ≠ 0 ∧ ∃ t, 0 < famN (cs.map oneZ) s t
  | [], s, x => by
    unfold famL
    constructor
    · rintro ⟨y, hy, h⟩
      simp only [List.mem_singleton] at hy
      subst hy
      exact ⟨h, s, by show 0 < famN [] s s; unfold famN; rw [if_pos rfl]; decide⟩
    · rintro ⟨h, _⟩
      exact ⟨(s, x), by simp, h⟩
  | c :: cs, s, x => by
    have e1 : (oneZ c).1 = c.1 := rfl
    have e2 : (oneZ c).2.1 = c.2.1 := rfl
    have e3 : cFrom (oneZ c) = cFrom c := rfl
    have e4 : cTo (oneZ c) = cTo c := rfl
    have hn := fam_nn (cs.map oneZ) (oneZ_nn cs)
    have hz : (oneZ c).2.2 = if c.2.2 = 0 then 0 else 1 := rfl
    have hxw : x * c.2.2 ≠ 0 ↔ x ≠ 0 ∧ c.2.2 ≠ 0 := by rw [Ne, Int.mul_eq_zero]; omega
    show (∃ y ∈ famL (c :: cs) s x, y.2 ≠ 0) ↔ x ≠ 0 ∧ ∃ t, 0 < famN (oneZ c :: cs.map oneZ) s t
    unfold famL famN
    rw [e1, e2, e3, e4]
    by_cases h2 : c.1 = 2
    · rw [if_pos h2]
      simp only [if_pos h2]
      by_cases hb : s.testBit c.2.1 = true
      · rw [if_pos hb]
        simp only [if_pos hb]
        rw [lead_iff cs s (x * c.2.2), hxw, hz]
        by_cases h0 : c.2.2 = 0
        · simp [h0]
        · rw [if_neg h0]; simp [h0]
      · rw [if_neg hb]
        simp only [if_neg hb]
        exact lead_iff cs s x
    · rw [if_neg h2]
      simp only [if_neg h2]
      by_cases hb : s.testBit (cFrom c) = true ∧ s.testBit (cTo c) = false
      · rw [if_pos hb]
        simp only [if_pos hb]
        have i1 := lead_iff cs (s ^^^ 2 ^ cFrom c ^^^ 2 ^ cTo c) (x * c.2.2)
        have i2 := lead_iff cs s x
        constructor
        · rintro ⟨y, hy, h⟩
          rcases List.mem_append.1 hy with hy | hy
          · obtain ⟨g1, t, g2⟩ := i1.1 ⟨y, hy, h⟩
            obtain ⟨g3, g4⟩ := hxw.1 g1
            exact ⟨g3, t, by rw [hz, if_neg g4, Int.one_mul]; have := hn s t; omega⟩
          · obtain ⟨g1, t, g2⟩ := i2.1 ⟨y, hy, h⟩
            refine ⟨g1, t, ?_⟩
            have h3 := hn (s ^^^ 2 ^ cFrom c ^^^ 2 ^ cTo c) t
            rw [hz]
            split
            · simp; exact g2
            · simp; omega
        · rintro ⟨g1, t, g2⟩
          by_cases h0 : 0 < famN (cs.map oneZ) s t
          · obtain ⟨y, hy, h⟩ := i2.2 ⟨g1, t, h0⟩
            exact ⟨y, List.mem_append.2 (.inr hy), h⟩
          · rw [hz] at g2
            by_cases hc0 : c.2.2 = 0
            · rw [if_pos hc0] at g2; simp at g2; omega
            · rw [if_neg hc0, Int.one_mul] at g2
              obtain ⟨y, hy, h⟩ := i1.2 ⟨hxw.2 ⟨g1, hc0⟩, t, by omega⟩
              exact ⟨y, List.mem_append.2 (.inl hy), h⟩
      · rw [if_neg hb]
        simp only [if_neg hb, Int.add_zero]
        exact lead_iff cs s x
theorem pop_move : ∀ s : Fin 32, ∀ i k : Fin 5, i ≠ k → s.val.testBit i.val = true → s.val.testBit k.val = false → popcS (s.val ^^^ 2 ^ i.val ^^^ 2 ^ k.val) = popcS s.val := by decide +kernel
theorem fam_pop {n : Nat} (h5 : n ≤ 5) : ∀ (cs : List CH), (∀ c ∈ cs, chOk n c) → ∀ s t, s < 2 ^ n → famN cs s t ≠ 0 → t < 2 ^ n ∧ popcS s = popcS t
  | [], _, s, t, hs, h => by
    unfold famN at h
    by_cases e : s = t
    · subst e; exact ⟨hs, rfl⟩
    · rw [if_neg e] at h; exact absurd rfl h
  | c :: cs, hok, s, t, hs, h => by
    have ih := fam_pop h5 cs (fun d hd => hok d (by simp [hd]))
    have hc := hok c (by simp)
    have p5 : 2 ^ n ≤ 2 ^ 5 := Nat.pow_le_pow_right (by omega) h5
    unfold famN at h
    by_cases h2 : c.1 = 2
    · rw [if_pos h2] at h
      split at h
      · exact ih s t hs (fun e => h (by rw [e, Int.mul_zero]))
      · exact ih s t hs h
    · rw [if_neg h2] at h
      by_cases h0 : famN cs s t = 0
      · rw [h0, Int.zero_add] at h
        split at h
        · rename_i hb
          obtain ⟨f1, f2, f3⟩ := ch_ft hc h2
          have g := ih (s ^^^ 2 ^ cFrom c ^^^ 2 ^ cTo c) t (Nat.xor_lt_two_pow (Nat.xor_lt_two_pow hs (Nat.pow_lt_pow_right (by omega) f1)) (Nat.pow_lt_pow_right (by omega) f2)) (fun e => h (by rw [e, Int.mul_zero]))
          have hm := pop_move ⟨s, by omega⟩ ⟨cFrom c, by omega⟩ ⟨cTo c, by omega⟩ (fun e => f3 (by injection e)) hb.1 hb.2
          simp only at hm
          exact ⟨g.1, hm.symm.trans g.2⟩
        · exact absurd rfl h
      · exact ih s t hs h0
theorem oneZ_ok {n : Nat} {cs : List CH} (h : ∀ c ∈ cs, chOk n c) : ∀ c ∈ cs.map oneZ, chOk n c := by
  intro c hc
  obtain ⟨d, hd, rfl⟩ := List.mem_map.1 hc
  exact h d hd
theorem lead_any {n : Nat} (h5 : n ≤ 5) {cs : List CH} (hok : ∀ c ∈ cs, chOk n c) {s : Nat} (hs : s < 2 ^ n) : leadB cs s = anyTo (cs.map oneZ) s (2 ^ n) := by
  have hl : leadB cs s = true ↔ ∃ y ∈ famL cs s 1, y.2 ≠ 0 := by unfold leadB; rw [List.any_eq_true]; simp
  have ha : anyTo (cs.map oneZ) s (2 ^ n) = true ↔ ∃ t, 0 < famN (cs.map oneZ) s t := by
    unfold anyTo
    rw [List.any_eq_true]
    constructor
    · rintro ⟨t, _, h⟩
      rw [Bool.and_eq_true] at h
      exact ⟨t, of_decide_eq_true h.2⟩
    · rintro ⟨t, h⟩
      obtain ⟨g1, g2⟩ := fam_pop h5 _ (oneZ_ok hok) s t hs (by omega)
      exact ⟨t, List.mem_range.2 g1, by rw [g2]; simp [h]⟩
  have hi := (lead_iff cs s 1)
  have : leadB cs s = true ↔ anyTo (cs.map oneZ) s (2 ^ n) = true := by
    rw [hl, ha, hi]
    exact ⟨fun h => h.2, fun h => ⟨by decide, h⟩⟩
  cases e1 : leadB cs s <;> cases e2 : anyTo (cs.map oneZ) s (2 ^ n) <;> simp_all
theorem one_zero (cs : List RC) : oneL 0 cs = (cs.map toC).map oneZ := by
  unfold oneL
  rw [List.map_map, List.map_map]
  apply List.map_congr_left
  intro c _
  rfl

end Go.Proofs.Ytbclpbgomkfabaa
end

section
namespace Go.Proofs.Ytbclpbgomkfabaa
open Go.RowKit Go.Deep Go.Shelf
attribute [local go_sem] Oper.semAt_some

structure LQ (w : World) (b : Bool) (W : World) : Prop where
  br : Boxed W w.heap.size 4 (.bool b)
  sn : w.Since w.heap.size W
theorem LQ.kept {w W W' : World} {b : Bool} {row : Option Nat} (h : LQ w b W) (hg : W.grownBy W' row) (hr : ∀ r, row = some r → w.heap.size + 1 ≤ r) : LQ w b W' :=
  ⟨h.br.kept hg (fun e => by have := hr _ e.symm; omega), h.sn.grown hg h.sn.size (fun k e => by have := hr k e; omega)⟩

set_option maxRecDepth 100000 in
set_option maxHeartbeats 1000000 in
theorem leadsOn_any (a : Option Addr) (N cap s : Nat) (cs : List RC) (w : World) (hN : cs.length = N) (h10 : N ≤ 10) (hcap : N ≤ cap) (hc63 : cap ≤ 9223372036854775807) (hok : ∀ c ∈ cs, RCok c ∧ chOk 5 (toC c)) (hs : s ≤ 31) (hm : ChipsR w a cs) :
    Calls Try.prog 70 #[.slice a N cap, .int .i64 s] w fun e w' => e = .returned (.bool (leadB (cs.map toC) s)) ∧ w.Since w.heap.size w' := by
  have HM := Lib.hid hm
  have HOK := Lib.hid hok
  have HNO := Lib.hid (show (∀ x ∈ famL (cs.map toC) s 1, x.2 = 0) → leadB (cs.map toC) s = false from fun h => by
    cases e : leadB (cs.map toC) s with
    | false => rfl
    | true =>
      obtain ⟨x, hx, hx2⟩ := List.any_eq_true.1 e
      exact absurd (h x hx) (of_decide_eq_true hx2))
  have HYES := Lib.hid (show ∀ x ∈ famL (cs.map toC) s 1, x.2 ≠ 0 → leadB (cs.map toC) s = true from fun x hx h => List.any_eq_true.2 ⟨x, hx, by simpa using h⟩)
  clear hm hok
  refine (callsIn_wide (n := 9)).1 ?_
  refine callsIn_of_wp_marks Try.func70 rfl trivial ?_ rfl
  simp only [Try.ntmps70, List.size_toArray, List.length_cons, List.length_nil, Nat.reduceAdd, Nat.reduceSub, Array.replicate_succ, Array.replicate_zero, List.push_toArray, List.append_toArray, List.nil_append, List.cons_append]
  gi_wp2_with (refine ⟨trivial, ?_⟩; gi_at_call 106; refine (callsIn_wide.2 (families_any a N cap _ _)).mono ?_; rintro e w' ⟨rfl, rfl⟩)
  have hP2 : LQ w false (((w.alloc (.cells #[.bool false] 4)).alloc (.cells #[.slice a N cap] 23)).alloc (.cells #[.int .i64 (s : Int)] 3)) :=
    ((LQ.mk (Boxed.new w 4 (.bool false)) ((World.Since.refl _ w).alloc (Nat.le_refl _) _)).kept (World.grownBy_alloc _ (.cells #[.slice a N cap] 23) none) (fun r e => by cases e)).kept (World.grownBy_alloc _ (.cells #[.int .i64 (s : Int)] 3) none) (fun r e => by cases e)
  have hbc := cell_alloc_l (.cells #[.int .i64 (s : Int)] 3) (cell_new_l (w.alloc (.cells #[.bool false] 4)) (.slice a N cap) 23).1
  have hbf := (cell_new_l ((w.alloc (.cells #[.bool false] 4)).alloc (.cells #[.slice a N cap] 23)) (.int .i64 (s : Int)) 3).1
  have hz2 : (((w.alloc (.cells #[.bool false] 4)).alloc (.cells #[.slice a N cap] 23)).alloc (.cells #[.int .i64 (s : Int)] 3)).heap.size = w.heap.size + 3 := by simp
  simp only [World.size_alloc] at hbc hbf
  obtain ⟨W0, hW0⟩ : ∃ W0, ((w.alloc (.cells #[.bool false] 4)).alloc (.cells #[.slice a N cap] 23)).alloc (.cells #[.int .i64 (s : Int)] 3) = W0 := ⟨_, rfl⟩
  rw [hW0] at hbc hbf hP2 hz2 ⊢
  have hmW := HM.out.since hP2.sn
  clear hW0
  have hneed : ∀ q, (q = w.heap.size + 1 ∨ q = w.heap.size + 1 + 1 ∨ (0 < N ∧ ∃ b o, a = some ⟨b, o, none⟩ ∧ q = b)) → q < W0.heap.size ∧ q ≠ w.heap.size := fun q hq => by
    rcases hq with rfl | rfl | ⟨h0, b, o, e, rfl⟩
    · omega
    · omega
    · obtain ⟨b', o', e', hc⟩ := HM.out (by omega)
      have hl := World.block_lt_of_cell? _ _ (hc 0 (by omega)).1
      rw [e] at e'
      injection e' with e'
      injection e' with e1
      simp only at hl
      omega
  refine rangeF (F := Fence.wide) (n := 9) rfl (by omega) (gf := 128) (lb := #[.pointer (some ⟨w.heap.size + 1, 0, none⟩), .pointer (some ⟨w.heap.size + 1 + 1, 0, none⟩)]) rfl trivial (enters_of Try.func128 (by kernel_rfl) rfl)
    (families_stops 8 (w.heap.size + 1) (w.heap.size + 1 + 1) N cap s a cs W0 hN h10 hcap hc63 HOK.out hs hmW hbc hbf) (fun _ => rfl) (fun k => k = w.heap.size) (by rintro k rfl; exact ⟨by omega, fun h => (hneed _ h).2 rfl⟩) (fun k h => (hneed k h).1)
    (fun (pre : List (Nat × Int)) W => LQ w false W ∧ ∀ x ∈ pre, x.2 = 0)
    (fun c pre W => c = .ret ∧ LQ w true W ∧ ∃ x ∈ pre, x.2 ≠ 0)
    (fun pre X Y row hs hg hr => ⟨hs.1.kept hg (fun r e => by have := hr r e; omega), hs.2⟩)
    (fun c pre X Y row hs hg hr => ⟨hs.1, hs.2.1.kept hg (fun r e => by have := hr r e; omega), hs.2.2⟩)
    ⟨hP2, fun x hx => by cases hx⟩
    (fun x a'' _ => a'' = { tmps := #[.slice a N cap, .int .i64 s, undef, undef, .pointer (some ⟨w.heap.size, 0, none⟩), undef, .int .i64 x.2, .slice a N cap, .int .i64 s, .func (.func 128) #[] #[.pointer (some ⟨w.heap.size + 1, 0, none⟩), .pointer (some ⟨w.heap.size + 1 + 1, 0, none⟩)], .int .i64 (x.1 : Int), .int .i64 x.2, undef, undef], defers := [] })
    (fun _ _ _ _ _ _ hA _ _ => hA)
    ?assign ?body ?done ?stop
  case assign =>
    rintro lq ps x Y K _ hi _ hK
    simp only [encF]
    gi_wp2
    exact hK _ _ (Keeps.refl _ _) hi rfl
  case body =>
    rintro lq ps x a'' Y hlq hzY _ ⟨hS, hp⟩ hpx rfl hlen
    have cR := hS.br.cell
    have fR := hS.br.frozen
    have HSS := Lib.hid hS
    have HP := Lib.hid hp
    clear hS hp hpx
    obtain ⟨x1, v⟩ := x
    simp only
    by_cases hv0 : v = 0
    · have hvb : (v != 0) = false := by simp [hv0]
      gi_wp2
      exact ⟨Keeps.refl _ _, HSS.out, fun p hp => by
        rcases List.mem_append.1 hp with h | h
        · exact HP.out _ h
        · simp only [List.mem_singleton] at h
          rw [h]; exact hv0⟩
    · have hvb : (v != 0) = true := by simp [hv0]
      gi_wp2
      exact ⟨Keeps.grown (grownBy_setCell' Y w.heap.size _) (fun r e => by cases e; rfl), rfl, ⟨HSS.out.br.set _, HSS.out.sn.setCell (by simp) _⟩, (x1, v), by simp, hv0⟩
  case done =>
    rintro D ps X hD rfl ⟨hS, hp⟩ hK
    have cS := hS.br.cell
    have fS := hS.br.frozen
    have hb := HNO.out hp
    have hlt := (Array.getElem?_eq_some_iff.1 hK).1
    have hK2 : (X.setCell ⟨w.heap.size, 0, none⟩ (.bool false)).heap[D]? = some (.deferred (some [])) := ((grownBy_setCell' X w.heap.size (.bool false)).block D hlt (fun e => by injection e; omega)).trans hK
    have hB3 := (hS.br.set (.bool false)).kept (grownBy_putObj' (X.setCell ⟨w.heap.size, 0, none⟩ (.bool false)) D (.deferred none)) (fun e => by injection e; omega)
    have cB := hB3.cell
    have hsn := (hS.sn.setCell (a := ⟨w.heap.size, 0, none⟩) (by simp) (.bool false)).grown (grownBy_putObj' (X.setCell ⟨w.heap.size, 0, none⟩ (.bool false)) D (.deferred none)) (by simp; exact hS.sn.size) (fun r e => by cases e; omega)
    gi_wp2
    refine ⟨by simp, .inl ⟨_, _, rfl, run_takeDeferred hK2, ?_⟩⟩
    refine ⟨.bool false, ?_, by rw [hb], hsn⟩
    have cB' := cB
    simp [results, Try.f70, go_sem, cB']
  case stop =>
    rintro D c ps X hD hsp ⟨rfl, hS, x, hx, hx0⟩ hK
    have hb := HYES.out x (hsp.subset hx) hx0
    have hB3 := hS.br.kept (grownBy_putObj' X D (.deferred none)) (fun e => by injection e; omega)
    have cB := hB3.cell
    have hsn := hS.sn.grown (grownBy_putObj' X D (.deferred none)) hS.sn.size (fun r e => by cases e; omega)
    gi_wp2
    refine ⟨by simp, .inl ⟨_, _, rfl, run_takeDeferred hK, ?_⟩⟩
    refine ⟨.bool true, ?_, by rw [hb], hsn⟩
    have cB' := cB
    simp [results, Try.f70, go_sem, cB']

end Go.Proofs.Ytbclpbgomkfabaa
end

section
namespace Go.Proofs.Ytbclpbgomkfabaa
open Go.RowKit Go.Deep

theorem chOk_mono {n : Nat} {c : CH} (h : chOk n c) (hn : n ≤ 5) : chOk 5 c := by
  unfold chOk at h ⊢
  refine ⟨h.1, ?_⟩
  have h2 := h.2
  split
  · rename_i e
    rw [if_pos e] at h2
    omega
  · rename_i e
    rw [if_neg e] at h2
    omega

set_option maxHeartbeats 400000 in
theorem implNetFamilies_any (a : Option Addr) (cap N : Nat) (n s t : Int) (cs : List RC) (w : World) (hN : cs.length = N) (hcap : N ≤ cap) (h63 : cap ≤ 9223372036854775807) (hm : ChipsR w a cs) :
    Calls Try.prog 15 #[.int .i64 n, .slice a N cap, .int .i64 s, .int .i64 t] w fun e w' => e = .returned (.tuple #[.int .i64 (famsV n cs s t), .bool (famsB n cs s t)]) ∧ w.Since w.heap.size w' := by
  have E := implNetIn_any a cap N n cs w hN (by omega) hm
  cases hb : netB n cs with
  | false =>
    have hl : famsB n cs s t = false := by unfold famsB; rw [hb, Bool.false_and]
    unfold famsV
    rw [hl, if_neg (by simp)]
    rw [hb] at E
    replace E := Lib.hid E
    clear hb hm hN hl
    go_enter Try.func15, Try.ntmps15
    go_wp2_with (go_at_call 46; refine (E.out).mono ?_; rintro e w1 ⟨rfl, hs1⟩; have HS1 := Lib.hid hs1; clear hs1)
    go_ret2
    exact ⟨rfl, HS1.out⟩
  | true =>
    obtain ⟨m, rfl, ho⟩ := netB_ok hb
    rw [hb] at E
    replace E := Lib.hid E
    have hn2 := ho.lo
    have hn5 := ho.hi
    have h10 := ho.len
    rw [hN] at h10
    obtain ⟨_, p3, p4, p5⟩ := p5_fin ⟨m, by omega⟩
    simp only at p3 p4 p5
    have hlb : famsB m cs s t = (inB s 0 ((2 ^ m - 1 : Nat) : Int) && (inB t 0 ((2 ^ m - 1 : Nat) : Int) && (popcS s.toNat == popcS t.toNat))) := by
      unfold famsB
      rw [hb, Bool.true_and, Int.toNat_natCast, p3, show ((2 ^ m : Nat) : Int) - 1 = ((2 ^ m - 1 : Nat) : Int) by omega]
    have E1 := fun (W : World) => isSet_any s m (by omega) W
    have E2 := fun (W : World) => isSet_any t m (by omega) W
    obtain ⟨b1, hb1⟩ : ∃ b, inB s 0 ((2 ^ m - 1 : Nat) : Int) = b := ⟨_, rfl⟩
    obtain ⟨b2, hb2⟩ : ∃ b, inB t 0 ((2 ^ m - 1 : Nat) : Int) = b := ⟨_, rfl⟩
    simp only [hb1] at E1
    simp only [hb2] at E2
    rw [hb1, hb2] at hlb
    replace E1 := Lib.hid E1
    replace E2 := Lib.hid E2
    by_cases hbb : b1 = true ∧ b2 = true
    · obtain ⟨rfl, rfl⟩ := hbb
      unfold inB at hb1 hb2
      simp only [decide_eq_true_eq] at hb1 hb2
      obtain ⟨j, rfl⟩ : ∃ j : Nat, s = j := ⟨s.toNat, by omega⟩
      obtain ⟨l, rfl⟩ : ∃ l : Nat, t = l := ⟨t.toNat, by omega⟩
      rw [Bool.true_and, Bool.true_and, Int.toNat_natCast, Int.toNat_natCast] at hlb
      have E3 := Lib.hid (fun (W : World) => members_any j (by omega) W)
      have E4 := Lib.hid (fun (W : World) => members_any l (by omega) W)
      have hok5 : ∀ c ∈ cs, RCok c ∧ chOk 5 (toC c) := fun c hc => ⟨(ho.ok c hc).1, chOk_mono (ho.ok c hc).2 hn5⟩
      have E5 := Lib.hid (fun (W : World) (hs : w.Since w.heap.size W) => familySum_any a N cap j l cs W hN h10 hcap h63 hok5 (by omega) (by omega) (hm.since hs))
      have hv : famsV m cs j l = if popcS j = popcS l then famN (cs.map toC) j l else 0 := by
        unfold famsV
        rw [hlb]
        by_cases e : popcS j = popcS l
        · simp [e]
        · simp [e]
      rw [hv, hlb]
      obtain ⟨P, hP⟩ : ∃ P, famN (cs.map toC) j l = P := ⟨_, rfl⟩
      rw [hP] at E5 ⊢
      clear hb hm hN hP hlb hv ho hb1 hb2 p3 p4 p5 hok5
      by_cases hpp : popcS j = popcS l
      · rw [if_pos hpp]
        have hpb : (popcS j == popcS l) = true := by simpa using hpp
        rw [hpb]
        rw [hpp] at E3
        clear hpp hpb
        go_enter Try.func15, Try.ntmps15
        go_wp2_with (first
          | (go_at_call 46; refine (E.out).mono ?_; rintro e w1 ⟨rfl, hs1⟩; have HS1 := Lib.hid hs1; clear hs1)
          | (go_at_call 51; ((with_reducible refine (E1.out _).mono ?_); rintro e w2 ⟨rfl, rfl⟩))
          | (go_at_call 51; ((with_reducible refine (E2.out _).mono ?_); rintro e w2 ⟨rfl, rfl⟩))
          | (go_at_call 52; ((with_reducible refine (E3.out _).mono ?_); rintro e w2 ⟨rfl, rfl⟩))
          | (go_at_call 52; ((with_reducible refine (E4.out _).mono ?_); rintro e w2 ⟨rfl, rfl⟩))
          | (go_at_call 53; refine (E5.out _ HS1.out).mono ?_; rintro e w3 ⟨rfl, hs3⟩; have HS3 := Lib.hid (HS1.out.trans (since_mono hs3 HS1.out.size)); clear hs3))
        go_ret2
        exact ⟨rfl, HS3.out⟩
      · rw [if_neg hpp]
        have hpb : (popcS j == popcS l) = false := by simpa using hpp
        have hpi : ((popcS j : Int) == (popcS l : Int)) = false := by simp; omega
        rw [hpb]
        go_enter Try.func15, Try.ntmps15
        go_wp2_with (first
          | (go_at_call 46; refine (E.out).mono ?_; rintro e w1 ⟨rfl, hs1⟩; have HS1 := Lib.hid hs1; clear hs1)
          | (go_at_call 51; ((with_reducible refine (E1.out _).mono ?_); rintro e w2 ⟨rfl, rfl⟩))
          | (go_at_call 51; ((with_reducible refine (E2.out _).mono ?_); rintro e w2 ⟨rfl, rfl⟩))
          | (go_at_call 52; ((with_reducible refine (E3.out _).mono ?_); rintro e w2 ⟨rfl, rfl⟩))
          | (go_at_call 52; ((with_reducible refine (E4.out _).mono ?_); rintro e w2 ⟨rfl, rfl⟩)))
        go_ret2
        exact ⟨rfl, HS1.out⟩
    · have hlf : famsB m cs s t = false := by rw [hlb]; cases b1 <;> cases b2 <;> simp at hbb ⊢
      unfold famsV
      rw [hlf, if_neg (by simp)]
      clear hb hm hN hlb hlf ho hb1 hb2 p3 p4 p5
      cases b1 <;> cases b2
      case true.true => exact absurd ⟨rfl, rfl⟩ hbb
      all_goals
        clear hbb
        go_enter Try.func15, Try.ntmps15
        go_wp2_with (first
          | (go_at_call 46; refine (E.out).mono ?_; rintro e w1 ⟨rfl, hs1⟩; have HS1 := Lib.hid hs1; clear hs1)
          | (go_at_call 51; ((with_reducible refine (E1.out _).mono ?_); rintro e w2 ⟨rfl, rfl⟩))
          | (go_at_call 51; ((with_reducible refine (E2.out _).mono ?_); rintro e w2 ⟨rfl, rfl⟩)))
        go_ret2
        exact ⟨rfl, HS1.out⟩

end Go.Proofs.Ytbclpbgomkfabaa
end

section
namespace Go.Proofs.Ytbclpbgomkfabaa
open Go.RowKit Go.Deep

set_option maxHeartbeats 1000000 in
theorem implNetMost_any (a : Option Addr) (cap N : Nat) (n : Int) (cs : List RC) (w : World) (hN : cs.length = N) (hcap : N ≤ cap) (h63 : cap ≤ 9223372036854775807) (hm : ChipsR w a cs) :
    Calls Try.prog 23 #[.int .i64 n, .slice a N cap] w fun e w' => e = .returned (.tuple #[.int .i64 (mostV n cs), .bool (netB n cs)]) ∧ w.Since w.heap.size w' := by
  have E := implNetIn_any a cap N n cs w hN (by omega) hm
  unfold mostV
  cases hb : netB n cs with
  | false =>
    rw [if_neg (by simp)]
    rw [hb] at E
    replace E := Lib.hid E
    clear hb hm hN
    go_enter Try.func23, Try.ntmps23
    go_wp2_with (go_at_call 46; refine (E.out).mono ?_; rintro e w1 ⟨rfl, hs1⟩; have HS1 := Lib.hid hs1; clear hs1)
    go_ret2
    exact ⟨rfl, HS1.out⟩
  | true =>
    rw [if_pos rfl]
    obtain ⟨m, rfl, ho⟩ := netB_ok hb
    rw [hb] at E
    replace E := Lib.hid E
    have hm5 := ho.hi
    have h10 := ho.len
    rw [hN] at h10
    obtain ⟨⟨p1, p2⟩, p3, p4, p5⟩ := p5_fin ⟨m, by omega⟩
    simp only at p1 p2 p3 p4 p5
    rw [Int.toNat_natCast, one_zero]
    have hany := fun (s : Nat) (hs : s < 2 ^ m) => lead_any (n := m) hm5 (cs := cs.map toC) (fun c hc => by
      obtain ⟨d, hd, rfl⟩ := List.mem_map.1 hc
      exact (ho.ok d hd).2) hs
    have hok5 : ∀ c ∈ cs, RCok c ∧ chOk 5 (toC c) := fun c hc => ⟨(ho.ok c hc).1, chOk_mono (ho.ok c hc).2 hm5⟩
    have E1 := Lib.hid (fun (W : World) (s : Nat) (hs : w.Since w.heap.size W) (h31 : s ≤ 31) => leadsOn_any a N cap s cs W hN h10 hcap h63 hok5 h31 (hm.since hs))
    have E2 := Lib.hid (fun (W : World) (s : Nat) (h : s < 64) => members_any s h W)
    have HAN := Lib.hid hany
    have p31 : 2 ^ m ≤ 2 ^ 5 := Nat.pow_le_pow_right (by omega) hm5
    obtain ⟨L, hL⟩ : ∃ L, (cs.map toC).map oneZ = L := ⟨_, rfl⟩
    rw [hL] at HAN ⊢
    obtain ⟨M, hM⟩ : ∃ M : Nat, 2 ^ m = M := ⟨_, rfl⟩
    rw [hM] at p1 p2 p4 p5 p31 ⊢
    simp only [hM] at HAN
    have HW := Lib.hid (show mostTo L M 0 = 0 from rfl)
    clear hb hm hN hany hok5 hL
    go_enter Try.func23, Try.ntmps23
    go_wp2_with (go_at_call 46; refine (E.out).mono ?_; rintro e w1 ⟨rfl, hs1⟩; have HS1 := Lib.hid hs1; clear hs1)
    go_loopg [6, 7, 14] M (fun g mv _ kv wr => ∃ f : Nat, f ≤ M ∧ g = M - f ∧ kv = .int .i64 f ∧ mv = .int .i64 (mostTo L M f : Nat) ∧ w.Since w.heap.size wr)
    case atStart => exact ⟨0, Nat.zero_le _, rfl, rfl, by rw [HW.out]; rfl, HS1.out⟩
    case round =>
      obtain ⟨f, hf, rfl, rfl, rfl, hS⟩ := hrel
      have HSS := Lib.hid hS
      clear hS
      by_cases hlt : f < M
      · have EL := E1.out wr f HSS.out (by omega)
        rw [HAN.out f hlt] at EL
        have hst : mostTo L M (f + 1) = if anyTo L f M = true then max (mostTo L M f) (popcS f) else mostTo L M f := rfl
        have EM := fun (W : World) => E2.out W f (by omega)
        obtain ⟨x, hx⟩ : ∃ x, popcS f = x := ⟨_, rfl⟩
        obtain ⟨y, hy⟩ : ∃ y, mostTo L M f = y := ⟨_, rfl⟩
        rw [hx, hy] at hst
        rw [hy]
        simp only [hx] at EM
        replace EM := Lib.hid EM
        cases hA : anyTo L f M with
        | true =>
          rw [hA, if_pos rfl] at hst
          rw [hA] at EL
          replace EL := Lib.hid EL
          have HST := Lib.hid hst
          clear hst hx hy hA
          rcases Nat.lt_or_ge y x with hxy | hxy
          all_goals
            go_wp2_with fail
            refine (EL.out).mono ?_
            rintro e w2 ⟨rfl, hs2⟩
            have HS2 := Lib.hid (HSS.out.trans (since_mono hs2 HSS.out.size))
            clear hs2
            go_wp2_with fail
            refine (EM.out w2).mono ?_
            rintro e w3 ⟨rfl, rfl⟩
            go_wp2
            go_roundg (M - (f + 1))
            case measure => omega
            case rel => exact ⟨f + 1, by omega, rfl, by go_num, by rw [HST.out]; congr 1; omega, HS2.out⟩
        | false =>
          rw [hA, if_neg (by simp)] at hst
          rw [hA] at EL
          replace EL := Lib.hid EL
          have HST := Lib.hid hst
          clear hst hx hy hA
          go_wp2_with fail
          refine (EL.out).mono ?_
          rintro e w2 ⟨rfl, hs2⟩
          have HS2 := Lib.hid (HSS.out.trans (since_mono hs2 HSS.out.size))
          clear hs2
          go_wp2
          go_roundg (M - (f + 1))
          case measure => omega
          case rel => exact ⟨f + 1, by omega, rfl, by go_num, by rw [HST.out], HS2.out⟩
      · obtain rfl : f = M := by omega
        go_wp2
        go_ret2
        exact ⟨rfl, HSS.out⟩

end Go.Proofs.Ytbclpbgomkfabaa
end

section
namespace Go.Proofs.Ytbclpbgomkfabaa
open Go.RowKit Go.Deep Go.Shelf
attribute [local go_sem] Oper.semAt_some

theorem lsum_bdR {n : Nat} (f : Nat → Int) (hf : ∀ j, j < n → -1000000000000 ≤ f j ∧ f j ≤ 1000000000000) (pre : List {i : Nat // i < n}) : -(1000000000000 * (pre.length : Int)) ≤ lsum f pre ∧ lsum f pre ≤ 1000000000000 * (pre.length : Int) := by
  have H : ∀ (pre : List {i : Nat // i < n}) (s : Int), s - 1000000000000 * (pre.length : Int) ≤ pre.foldl (fun s x => s + f x.1) s ∧ pre.foldl (fun s x => s + f x.1) s ≤ s + 1000000000000 * (pre.length : Int) := by
    intro pre
    induction pre with
    | nil => intro s; simp
    | cons x xs ih =>
      intro s
      have h1 := ih (s + f x.1)
      have h2 := hf x.1 x.2
      simp only [List.foldl_cons, List.length_cons]
      omega
  have := H pre 0
  unfold lsum
  omega

set_option maxRecDepth 100000 in
set_option maxHeartbeats 2000000 in
theorem prodEntryR_any (pu pt i k n n2 m m2 cap cap2 : Nat) (a a2 : Option Addr) (l u : List (List Int)) (w : World) (hn : l.length = n) (hu : u.length = n2) (hT : Rec l) (hTu : Rec u) (hmm : (l.getD 0 []).length = m) (hmm2 : (u.getD 0 []).length = m2) (hmn : m = n2)
    (hbu : w.cell? ⟨pu, 0, none⟩ = some (.slice a2 n2 cap2)) (hbt : w.cell? ⟨pt, 0, none⟩ = some (.slice a n cap)) (hm : MatR w a l) (hmu : MatR w a2 u) (hi : i < n) (hk : k < m2) (hB : ∀ j, j < n2 → -1000000000000 ≤ dotF l u i k j ∧ dotF l u i k j ≤ 1000000000000) :
    Calls Try.prog 111 #[.int .i64 i, .int .i64 k, .pointer (some ⟨pu, 0, none⟩), .pointer (some ⟨pt, 0, none⟩)] w fun e w' => e = .returned (.int .i64 (sumN (dotF l u i k) n2)) ∧ w.Since w.heap.size w' := by
  subst hmn
  have h6 := hT.high
  have g6 := hTu.high
  have h1 := hT.low
  have g1 := hTu.low
  have hw := hT.width
  have gw := hTu.width
  rw [hn] at h6 h1
  rw [hu] at g6 g1
  rw [hmm] at hw
  rw [hmm2] at gw
  obtain ⟨bt, ot, At, Ct, rfl, hlen, hcell⟩ := hm.gridR hn hT hmm
  obtain ⟨bu, ou, Au, Cu, rfl, hlenu, hcellu⟩ := hmu.gridR hu hTu hmm2
  have hpu : pu < w.heap.size := World.block_lt_of_cell? _ _ hbu
  have hpt : pt < w.heap.size := World.block_lt_of_cell? _ _ hbt
  have hbul : bu < w.heap.size := World.block_lt_of_cell? _ _ (hlenu 0 (by omega))
  have hbtl : bt < w.heap.size := World.block_lt_of_cell? _ _ (hlen 0 (by omega))
  have hpow : 2 ^ m - 1 ≤ 63 := by have : 2 ^ m ≤ 2 ^ 6 := Nat.pow_le_pow_right (by omega) g6; omega
  have HC := Lib.hid hcell
  have HCU := Lib.hid hcellu
  have HLU := Lib.hid hlenu
  obtain ⟨f, hf⟩ : ∃ f, f = dotF l u i k := ⟨_, rfl⟩
  rw [← hf]
  have HBF := Lib.hid (show ∀ j, j < m → -1000000000000 ≤ f j ∧ f j ≤ 1000000000000 by rw [hf]; exact hB)
  have HF := Lib.hid hf
  have hmix : Try.prog.follows .mixedOrders = true := by kernel_rfl
  clear hm hmu hT hTu hn hu hmm hmm2 hlen hcell hlenu hcellu hf hB
  refine (callsIn_wide (n := 9)).1 ?_
  refine callsIn_of_wp_marks Try.func111 rfl trivial ?_ rfl
  simp only [Try.ntmps111, List.size_toArray, List.length_cons, List.length_nil, Nat.reduceAdd, Nat.reduceSub, Array.replicate_succ, Array.replicate_zero, List.push_toArray, List.append_toArray, List.nil_append, List.cons_append]
  have hbuA := fun (o1 o2 o3 : Obj) => cell_alloc_l o3 (cell_alloc_l o2 (cell_alloc_l o1 hbu))
  gi_wp2
  gi_region_with_o (first
    | (refine ⟨trivial, ?_⟩; gi_at_call 113; refine (callsIn_wide.2 (allRows_any _ _ _ _ g6)).mono ?_; rintro e w' ⟨rfl, rfl⟩)
    | (refine ⟨trivial, ?_⟩; gi_at_call 112; refine (callsIn_wide.2 (rows_any _ _ _ _ _)).mono ?_; rintro e w' ⟨rfl, rfl⟩))
  all_goals
    gi_wp2
    obtain ⟨W0, hW0⟩ : ∃ W0, W0 = (((((w.alloc (.cells #[.int .i64 i] 3)).alloc (.cells #[.int .i64 k] 3)).alloc (.cells #[.int .i64 0] 3)).alloc (.cells #[.slice (some ⟨bu, ou, none⟩) m cap2] 66)).alloc (.cells #[.int .i64 (2 ^ m - 1 : Nat)] 3)).drew := ⟨_, rfl⟩
    rw [← hW0]
    obtain ⟨hsz0, hB0, d0, d1, d2, d2f, d3, d4⟩ := prod_world w (.int .i64 i) (.int .i64 k) (.int .i64 0) (.slice (some ⟨bu, ou, none⟩) m cap2) (.int .i64 (2 ^ m - 1 : Nat)) 66 W0 hW0
    have hc0' : ∀ j, j < m → W0.cell? ⟨bu, ou + j, none⟩ = some (.slice (Au j) m2 (Cu j)) := fun j hj => (hB0.cell (p := ⟨bu, ou + j, none⟩) hbul).trans (HLU.out j hj)
    have hstops := rows_stopsB 8 (by omega) (w.heap.size + 1 + 1) W0.heap.size (w.heap.size + 1 + 1 + 1) (w.heap.size + 1 + 1 + 1 + 1) bu ou m cap2 (2 ^ m - 1) (by omega) hpow Au (fun _ => m2) Cu W0 (Nat.le_refl _) (by omega) (by omega) (by omega) (by omega) (by omega) d3 d4 hc0'
    clear hc0' d3 d4 hbuA
    refine wpIn_rangeFunc_ownF (F := Fence.wide) (n := 9) rfl (by omega) (gf := 131) (lb := #[.pointer (some ⟨w.heap.size + 1 + 1 + 1, 0, none⟩), .pointer (some ⟨w.heap.size + 1 + 1 + 1 + 1, 0, none⟩)]) rfl trivial (enters_of Try.func131 (by kernel_rfl) rfl)
      hstops kpB_t (kpB_b (Nat.le_refl _)) (Below.refl _ _) (fun _ => rfl)
      (fun pre W => (W.cell? ⟨w.heap.size, 0, none⟩ = some (.int .i64 i) ∧ W.cell? ⟨w.heap.size + 1, 0, none⟩ = some (.int .i64 k) ∧ W.cell? ⟨w.heap.size + 1 + 1, 0, none⟩ = some (.int .i64 (lsum f pre)) ∧ W.frozen? ⟨w.heap.size + 1 + 1, 0, none⟩ = false) ∧ Below w.heap.size w W)
      (fun _ _ _ => False)
      (OwnFrom.and (Own.from (fun s A B row hs hg hr => ⟨cell_kept hs.1 hg hr, cell_kept hs.2.1 hg hr, cell_kept hs.2.2.1 hg hr, (frozen_kept hs.2.2.1 hg hr).trans hs.2.2.2⟩) _) (ownFrom_below (Nat.le_refl _) (by omega)))
      (fun c => fun s A B row hs hg hr => hs)
      ⟨⟨d0, d1, d2, d2f⟩, hB0⟩
      (fun x => { tmps := #[.int .i64 i, .int .i64 k, .pointer (some ⟨pu, 0, none⟩), .pointer (some ⟨pt, 0, none⟩), .pointer (some ⟨w.heap.size, 0, none⟩), .pointer (some ⟨w.heap.size + 1, 0, none⟩), .int .i64 0,
          .pointer (some ⟨w.heap.size + 1 + 1, 0, none⟩), .int .i64 x.1, .slice (Au x.1) m2 (Cu x.1), .slice (some ⟨bu, ou, none⟩) m cap2, .slice (some ⟨bu, ou, none⟩) m cap2, .int .i64 (2 ^ m - 1 : Nat),
          .func (.func 131) #[] #[.pointer (some ⟨w.heap.size + 1 + 1 + 1, 0, none⟩), .pointer (some ⟨w.heap.size + 1 + 1 + 1 + 1, 0, none⟩)],
          .int .i64 x.1, .slice (Au x.1) m2 (Cu x.1), undef, undef, undef, undef, undef, undef, undef, undef, undef, undef, undef, undef, undef, undef, undef], defers := [] }) ?assign ?body ?done ?stop
    case assign =>
      intro lp x W K hK
      gi_wp2
      exact hK
    case body =>
      rintro lp pre x W ⟨⟨g0, g1, g2, g2f⟩, gB⟩ hlen
      have hx2 := x.2
      obtain ⟨j, hj⟩ : ∃ j, x.1 = j := ⟨_, rfl⟩
      rw [hj] at hx2 ⊢
      obtain ⟨bi, oi, e1, e2⟩ := HC.out i j hi hx2
      obtain ⟨bj, oj, f1, f2⟩ := HCU.out j k hx2 hk
      have hAu : Au j = some ⟨bj, oj, none⟩ := by
        have := (HLU.out j hx2).symm.trans f1
        simp at this
        exact this
      rw [hAu]
      have hsn := lsum_snoc f pre x
      rw [hj] at hsn
      have hfj : f j = at2 l i j * at2 u j k := by rw [HF.out]; rfl
      have hlb := lsum_bdR f HBF.out pre
      have hpj := HBF.out j hx2
      have hl7 : pre.length ≤ 6 := by omega
      obtain ⟨p, hp⟩ : ∃ p, at2 l i j = p := ⟨_, rfl⟩
      obtain ⟨q, hq⟩ : ∃ q, at2 u j k = q := ⟨_, rfl⟩
      obtain ⟨s, hs⟩ : ∃ s, lsum f pre = s := ⟨_, rfl⟩
      rw [hp] at e2 hfj
      rw [hq] at f2 hfj
      rw [hs] at g2 hsn hlb
      rw [hfj] at hpj
      have hw1 : IntKind.i64.wrap (p * q) = p * q := IntWalk.i64_in _ ⟨by omega, by omega⟩
      have hw2 : IntKind.i64.wrap (s + p * q) = s + p * q := IntWalk.i64_in _ ⟨by omega, by omega⟩
      rw [hfj] at hsn
      have HSN := Lib.hid hsn
      have E0 := (gB.cell (p := ⟨pt, 0, none⟩) hpt).trans hbt
      have E1 := (gB.cell (p := ⟨bt, ot + i, none⟩) hbtl).trans e1
      have E2 := (gB.cell (p := ⟨bi, oi + j, none⟩) (World.block_lt_of_cell? _ _ e2)).trans e2
      have F2 := (gB.cell (p := ⟨bj, oj + k, none⟩) (World.block_lt_of_cell? _ _ f2)).trans f2
      clear hj hp hq hs hsn hlb hfj e1 e2 f1 f2 hAu hpj hl7
      gi_wp2
      refine round_still_tail 14 hmix (by kernel_rfl) (by kernel_rfl) ?hno ?_
      case hno =>
        rintro ⟨a, w, h⟩
        exact h
      simp only [List.take_succ_cons, List.take_zero, List.drop_succ_cons, List.drop_zero]
      repeat still_step
      refine wpStill_nil ?_
      go_wp2
      rw [← HSN.out] at hw2 ⊢
      have hset : ∀ v, (W.setCell ⟨w.heap.size + 1 + 1, 0, none⟩ v).frozen? ⟨w.heap.size + 1 + 1, 0, none⟩ = false := fun v => (W.frozen?_setCell _ _ _).trans g2f
      refine ⟨(KeepsOthers.setCell _ _ _).trans (KeepsOthers.drew _), ⟨?_, fun b h1 _ => ?_⟩, ⟨?_, ?_, ?_, ?_⟩, (gB.setCell (p := ⟨w.heap.size + 1 + 1, 0, none⟩) (by simp; omega) _).drew⟩
      · simp
      · exact Below.heap_setCell _ _ _ _ h1
      · exact (World.cell?_setCell_other _ _ _ _ (fun e => by injection e with e1; omega)).trans g0
      · exact (World.cell?_setCell_other _ _ _ _ (fun e => by injection e with e1; omega)).trans g1
      · exact World.cell?_setCell_same' _ _ _ (by rw [g2]; rfl)
      · exact hset _
    case done => 
      rintro D ys W hD rfl ⟨⟨g0, g1, g2, g2f⟩, gB⟩ hK
      gi_wp2
      refine ⟨by simp, .inl ⟨_, _, rfl, run_takeDeferred hK, ?_⟩⟩
      refine ⟨.int .i64 (sumN f m), ?_, rfl, below_since (gB.trans (belowK_b (w := w) (Nat.le_refl _) W D _ _ (by omega) hK rfl rfl))⟩
      have hls := lsum_sel f (2 ^ m - 1) m (fun i hi => by rw [Nat.testBit_two_pow_sub_one]; simpa using hi) m (Nat.le_refl _)
      simp [results, Try.f111, go_sem, hls]
    case stop =>
      rintro D c pre W hD hpre hF hK
      exact hF.elim

set_option maxRecDepth 100000 in
set_option maxHeartbeats 2000000 in
theorem productT_any (a : Option Addr) (cap n : Nat) (l : List (List Int)) (a2 : Option Addr) (cap2 n2 : Nat) (u : List (List Int)) (w : World) (hn : l.length = n) (hT : Rec l) (hm : MatR w a l) (hu : u.length = n2) (hTu : Rec u) (huw : (l.getD 0 []).length = n2) (hmu : MatR w a2 u) (hB : ∀ i j k, i < n → j < n2 → k < (u.getD 0 []).length → -1000000000000 ≤ at2 l i j * at2 u j k ∧ at2 l i j * at2 u j k ≤ 1000000000000) :
    Calls Try.prog 64 #[.slice a n cap, .slice a2 n2 cap2] w fun e w' => e = .returned (.slice (some ⟨w.heap.size + 1 + 1, 0, none⟩) n n) ∧ w.Since w.heap.size w' ∧ OwnT w.heap.size w'.heap.size w' (some ⟨w.heap.size + 1 + 1, 0, none⟩) (makeL l u) := by
  have hw := hTu.width
  have h6 := hT.high
  rw [hn] at h6
  have g6 := hTu.high
  have g1 := hTu.low
  rw [hu] at g6 g1
  have hwid := fun (W : World) (hs : w.Since w.heap.size W) => width_any a2 cap2 n2 u W hu (by omega) (by omega) (hmu.since hs)
  obtain ⟨m2, hmm⟩ : ∃ m, (u.getD 0 []).length = m := ⟨_, rfl⟩
  rw [hmm] at hB
  have hnt := fun (W : World) (hs : w.Since w.heap.size W) (hb0 : W.cell? ⟨w.heap.size, 0, none⟩ = some (.slice a n cap)) (hb1 : W.cell? ⟨w.heap.size + 1, 0, none⟩ = some (.slice a2 n2 cap2)) =>
    newTable_any 111 #[.pointer (some ⟨w.heap.size + 1, 0, none⟩), .pointer (some ⟨w.heap.size, 0, none⟩)] n m2 (fun i k => sumN (dotF l u i k) n2) W (by omega) (by omega) (enters_of Try.func111 (by kernel_rfl) rfl)
      (fun W' i k hs' hi hk => prodEntryR_any (w.heap.size + 1) w.heap.size i k n n2 n2 m2 cap cap2 a a2 l u W' hn hu hT hTu huw hmm rfl ((hs'.cell (a := ⟨w.heap.size + 1, 0, none⟩) (World.block_lt_of_cell? _ _ hb1)).trans hb1) ((hs'.cell (a := ⟨w.heap.size, 0, none⟩) (World.block_lt_of_cell? _ _ hb0)).trans hb0) (hm.since (hs.trans (since_mono hs' hs.size))) (hmu.since (hs.trans (since_mono hs' hs.size))) hi hk (fun j hj => hB i j k hi hj hk))
  have htl : makeL l u = tabF n m2 (fun i k => sumN (dotF l u i k) n2) := by unfold makeL; rw [hmm, hn, hu]
  rw [hmm] at hwid hw
  rw [htl]
  have HW := Lib.hid hwid
  have HNT := Lib.hid hnt
  have HS1 := Lib.hid (show w.Since w.heap.size ((w.alloc (.cells #[.slice a n cap] 66)).alloc (.cells #[.slice a2 n2 cap2] 66)) from (((World.Since.refl _ _).alloc (Nat.le_refl _) _).alloc (by simp) _))
  have hc0 := cell_new_l w (.slice a n cap) 66
  have hc1 := cell_new_l (w.alloc (.cells #[.slice a n cap] 66)) (.slice a2 n2 cap2) 66
  simp only [World.size_alloc] at hc1
  have hcb0 : ((w.alloc (.cells #[.slice a n cap] 66)).alloc (.cells #[.slice a2 n2 cap2] 66)).cell? ⟨w.heap.size, 0, none⟩ = some (.slice a n cap) := (cell_alloc_l _ hc0.1)
  have hcb1 : ((w.alloc (.cells #[.slice a n cap] 66)).alloc (.cells #[.slice a2 n2 cap2] 66)).cell? ⟨w.heap.size + 1, 0, none⟩ = some (.slice a2 n2 cap2) := hc1.1
  clear hwid hnt hm hT hn hmm htl hc0 hc1 hu hTu huw hmu hB
  go_enter Try.func64, Try.ntmps64
  go_wp2
  go_region_held3 (fun w' => w'.cell? ⟨w.heap.size, 0, none⟩ = some (.slice a n cap) ∧ w'.cell? ⟨w.heap.size + 1, 0, none⟩ = some (.slice a2 n2 cap2)) (go_keep)
    (first
      | (go_at_call 68; refine (HW.out _ ?_).mono ?_; (exact World.Since.drew HS1.out); rintro e w1 ⟨rfl, rfl⟩)
      | (go_at_call 109; refine (HNT.out _ ?_ ?_ ?_).mono ?_; (exact World.Since.drew HS1.out); (exact hcb0); (exact hcb1); rintro e w1 ⟨rfl, hs2, ho⟩; have hcc := hs2.cell (a := ⟨w.heap.size, 0, none⟩) (World.block_lt_of_cell? _ _ hcb0); simp only [World.cell?_drew, hcb0] at hcc; have hcd := hs2.cell (a := ⟨w.heap.size + 1, 0, none⟩) (World.block_lt_of_cell? _ _ hcb1); simp only [World.cell?_drew, hcb1] at hcd))
  all_goals
    go_wp2
    go_ret
    refine ⟨rfl, HS1.out.trans (since_mono (since_of_drew hs2) (by simp; omega)), ?_⟩
    have hz : ((w.alloc (.cells #[.slice a n cap] 66)).alloc (.cells #[.slice a2 n2 cap2] 66)).drew.heap.size = w.heap.size + 1 + 1 := by simp
    rw [hz] at ho
    exact ho.mono (by omega) (Nat.le_refl _)

end Go.Proofs.Ytbclpbgomkfabaa
end

section
namespace Go.Proofs.Ytbclpbgomkfabaa
open Go.RowKit Go.Deep

set_option maxRecDepth 100000 in
set_option maxHeartbeats 400000 in
theorem implNetTable_any (a : Option Addr) (cap N : Nat) (n : Int) (cs : List RC) (w : World) (hN : cs.length = N) (h63 : N ≤ 9223372036854775807) (hm : ChipsR w a cs) :
    Calls Try.prog 19 #[.int .i64 n, .slice a N cap] w fun e w' => ∃ a' cap', e = .returned (.tuple #[.slice a' (ntabL n cs).length cap', .bool (ntabB n cs)]) ∧ w.Since w.heap.size w' ∧ OwnT w.heap.size w'.heap.size w' a' (ntabL n cs) := by
  have E := implNetIn_any a cap N n cs w hN h63 hm
  cases hb : netB n cs with
  | false =>
    have hf : ntabB n cs = false := by unfold ntabB; rw [hb, Bool.false_and]
    unfold ntabL
    rw [hf]
    rw [hb] at E
    replace E := Lib.hid E
    clear hb hm hN hf
    go_enter Try.func19, Try.ntmps19
    go_wp2_with (go_at_call 46; refine (E.out).mono ?_; rintro e w1 ⟨rfl, hs1⟩; have HS1 := Lib.hid hs1; clear hs1)
    go_ret2
    exact ⟨_, _, rfl, HS1.out, OwnT.nil _ _ _ _⟩
  | true =>
    obtain ⟨m, rfl, ho⟩ := netB_ok hb
    rw [hb] at E
    replace E := Lib.hid E
    have hn2 := ho.lo
    have hn5 := ho.hi
    have h10 := ho.len
    rw [hN] at h10
    have hfB : ntabB m cs = tabIn (outC m cs) := by unfold ntabB; rw [hb, Bool.true_and]; rfl
    have hfL : ntabL m cs = resT (tabIn (outC m cs)) (outC m cs) := by unfold ntabL; rw [hfB]; rfl
    rw [hfB, hfL]
    have HN := Lib.hid hN
    have HM := Lib.hid hm
    have HO := Lib.hid ho
    have EU := Lib.hid (fun (W : World) => unitTable_any m (by omega) W)
    clear hb hm hN ho hfB hfL
    go_enter Try.func19, Try.ntmps19
    go_wp2_with (first
      | (go_at_call 46; refine (E.out).mono ?_; rintro e w1 ⟨rfl, hs1⟩; have HS1 := Lib.hid hs1; clear hs1)
      | (go_at_call 63; refine (EU.out _).mono ?_; rintro e w2 ⟨rfl, hs2, hu2⟩; have HS2 := Lib.hid (HS1.out.trans (since_mono hs2 HS1.out.size)); have HU2 := Lib.hid (hu2.mono HS1.out.size (Nat.le_refl _)); clear hs2 hu2))
    go_loopg [6, 8, 17] N (fun g v _ i wr => ∃ (r : Nat) (a' : Option Addr) (cap' : Nat), r ≤ N ∧ g = N - r ∧ i = .int .i64 r ∧ v = .slice a' m cap' ∧ w.Since w.heap.size wr ∧ OwnT w.heap.size wr.heap.size wr a' (outC m (cs.take r)))
    case atStart => exact ⟨0, _, _, Nat.zero_le _, rfl, rfl, rfl, HS2.out, by show OwnT _ _ _ _ (outT m []); rw [outT_nil]; exact HU2.out⟩
    case round =>
      obtain ⟨r, a', cap', hr, rfl, rfl, rfl, hS, hT⟩ := hrel
      by_cases hlt : r < N
      · have hlt' : r < cs.length := by rw [HN.out]; exact hlt
        obtain ⟨b, o, rfl, k1, k2, k3⟩ := HM.out.at hlt'
        have c1 := (hS.cell (World.block_lt_of_cell? _ _ k1)).trans k1
        have c2 := (hS.cell (World.block_lt_of_cell? _ _ k2)).trans k2
        have c3 := (hS.cell (World.block_lt_of_cell? _ _ k3)).trans k3
        have hmem : cs.getD r rc0 ∈ cs := by
          have : cs.getD r rc0 = cs[r] := by simp [List.getD, hlt']
          rw [this]; exact List.getElem_mem _
        have ET := Lib.hid (fun (W : World) => chipTable_any (cs.getD r rc0) m W (by omega) hn5 (HO.out.ok _ hmem))
        have hstep := outC_step HO.out hlt'
        have hrec2 := chT_rec (v := (toC (cs.getD r rc0)).2.2) (k := chK (toC (cs.getD r rc0))) (show 1 ≤ m by omega) (show m ≤ 6 by omega) (chRK (HO.out.ok _ hmem).2).1
        have hlen2 := chT_length m (chR (toC (cs.getD r rc0))) (chK (toC (cs.getD r rc0))) (toC (cs.getD r rc0)).2.2
        have hrow2 := chT_row (v := (toC (cs.getD r rc0)).2.2) (k := chK (toC (cs.getD r rc0))) (chRK (HO.out.ok _ hmem).2).1 (show 0 < m by omega)
        have hbd := outC_bd HO.out hlt'
        obtain ⟨c, hcc⟩ : ∃ c, cs.getD r rc0 = c := ⟨_, rfl⟩
        rw [hcc] at c1 c2 c3 ET hstep hrec2 hlen2 hrow2 hbd
        obtain ⟨U, hU⟩ : ∃ U, chT m (chR (toC c)) (chK (toC c)) (toC c).2.2 = U := ⟨_, rfl⟩
        rw [hU] at ET hstep hrec2 hlen2 hrow2 hbd
        have EM := Lib.hid (fun (W : World) (a2 : Option Addr) (cp2 : Nat) (h1 : wr.Since wr.heap.size W) (h2 : MatR W a2 U) => productT_any a' cap' m (outC m (cs.take r)) a2 cp2 m U W (outT_length _ _) (outT_rec (by omega) (by omega) _) (hT.since h1).matR hlen2 hrec2 (outT_row _ (by omega)) h2 (fun i j k hi hj hk => hbd i j k hi hj (by rw [hrow2] at hk; exact hk)))
        rw [hstep] at EM
        have HS' := Lib.hid hS
        clear k1 k2 k3 hstep hrec2 hlen2 hrow2 hbd hU hT hS hcc hmem hlt'
        obtain ⟨K, L, V⟩ := c
        simp only at c1 c2 c3 ET
        obtain ⟨d1, d2, d3⟩ := chip_box wr K L V 36
        have HA := Lib.hid ((World.Since.refl wr.heap.size wr).alloc (Nat.le_refl _) (.cells #[.string K, .int .i64 L, .int .i64 V] 36))
        go_wp2_with (first
          | (go_at_call 65; refine (ET.out _).mono ?_; rintro e w3 ⟨a3, cp3, rfl, hs3, hm3⟩; have H3 := Lib.hid (And.intro (HA.out.trans (since_mono hs3 HA.out.size)) hm3); clear hs3 hm3)
          | (go_at_call 64; refine (EM.out _ _ _ H3.out.1 H3.out.2).mono ?_; rintro e w4 ⟨rfl, hs4, ho4⟩; have H4 := Lib.hid (And.intro (H3.out.1.trans (since_mono hs4 H3.out.1.size)) (ho4.mono H3.out.1.size (Nat.le_refl _))); clear hs4 ho4))
        go_roundg (N - (r + 1))
        case measure => omega
        case rel => exact ⟨r + 1, _, _, by omega, rfl, by go_num, rfl, HS'.out.trans (since_mono H4.out.1 HS'.out.size), H4.out.2.mono HS'.out.size (Nat.le_refl _)⟩
      · obtain rfl : r = N := by omega
        rw [List.take_of_length_le (by rw [HN.out]; exact Nat.le_refl _)] at hT
        have ED := Lib.hid (result_any a' cap' m w.heap.size wr.heap.size (outC m cs) wr (outT_length _ _) (szL_outT hn5 _) hT)
        have HS' := Lib.hid hS
        clear hT hS
        go_wp2_with (go_at_call 66; refine (ED.out).mono ?_; rintro e w3 ⟨a3, cp3, rfl, hs3, hm3⟩; have H3 := Lib.hid (And.intro (HS'.out.trans (since_mono hs3 HS'.out.size)) (hm3.mono (Nat.le_refl _) hs3.size)); clear hs3 hm3)
        go_ret2
        exact ⟨_, _, rfl, H3.out.1, H3.out.2⟩

end Go.Proofs.Ytbclpbgomkfabaa
end

section
namespace Go.Proofs.Ytbclpbgomkfabaa
open Go.RowKit Go.Deep

def besideF (l u : List (List Int)) (n m : Nat) (i k : Nat) : Int := if i < n ∧ k < m then at2 l i k else if n ≤ i ∧ m ≤ k then at2 u (i - n) (k - m) else 0
def besideL (l u : List (List Int)) : List (List Int) := tabF (l.length + u.length) ((l.getD 0 []).length + (u.getD 0 []).length) (besideF l u l.length (l.getD 0 []).length)
theorem besideL_length (l u : List (List Int)) : (besideL l u).length = l.length + u.length := tabF_length _ _ _

theorem newTable_int (K : Nat) (caps : Array Value) (ht wd : Nat) (f : Nat → Nat → Int) (w : World) (x y : Int) (hx : x = ht) (hy : y = wd) (hh : ht ≤ 1000) (hw : wd ≤ 1000) (eg : ∀ args w, (callFunc K args).run Try.prog w = .ok (.enter K args) w)
    (hent : ∀ (W : World) (i k : Nat), w.Since w.heap.size W → i < ht → k < wd → Calls Try.prog K (#[.int .i64 i, .int .i64 k] ++ caps) W fun e w' => e = .returned (.int .i64 (f i k)) ∧ W.Since W.heap.size w') :
    Calls Try.prog 109 #[.int .i64 x, .int .i64 y, .func (.func K) #[] caps] w fun e w' => e = .returned (.slice (some ⟨w.heap.size, 0, none⟩) ht ht) ∧ w.Since w.heap.size w' ∧ OwnT w.heap.size w'.heap.size w' (some ⟨w.heap.size, 0, none⟩) (tabF ht wd f) := by
  subst hx; subst hy; exact newTable_any K caps ht wd f w hh hw eg hent

def BesR (w : World) (n m : Nat) (tv uv : Value) (p5 p6 : Value) (wx : World) : Prop :=
  ∃ g5 g6 : Nat, p5 = .pointer (some ⟨g5, 0, none⟩) ∧ p6 = .pointer (some ⟨g6, 0, none⟩) ∧ wx.cell? ⟨g5, 0, none⟩ = some (.int .i64 n) ∧ wx.cell? ⟨g6, 0, none⟩ = some (.int .i64 m) ∧
    wx.cell? ⟨w.heap.size, 0, none⟩ = some tv ∧ wx.cell? ⟨w.heap.size + 1, 0, none⟩ = some uv ∧ w.Since w.heap.size wx
theorem bes_cells (w : World) (tv uv x y : Value) (t : TypeId) :
    ((((w.alloc (.cells #[tv] t)).alloc (.cells #[uv] t)).alloc (.cells #[x] 3)).alloc (.cells #[y] 3)).cell? ⟨w.heap.size, 0, none⟩ = some tv ∧ ((((w.alloc (.cells #[tv] t)).alloc (.cells #[uv] t)).alloc (.cells #[x] 3)).alloc (.cells #[y] 3)).cell? ⟨w.heap.size + 1, 0, none⟩ = some uv ∧
    ((((w.alloc (.cells #[tv] t)).alloc (.cells #[uv] t)).alloc (.cells #[x] 3)).alloc (.cells #[y] 3)).cell? ⟨w.heap.size + 1 + 1, 0, none⟩ = some x ∧ ((((w.alloc (.cells #[tv] t)).alloc (.cells #[uv] t)).alloc (.cells #[x] 3)).alloc (.cells #[y] 3)).cell? ⟨w.heap.size + 1 + 1 + 1, 0, none⟩ = some y ∧
    w.Since w.heap.size ((((w.alloc (.cells #[tv] t)).alloc (.cells #[uv] t)).alloc (.cells #[x] 3)).alloc (.cells #[y] 3)) := by
  have c0 := cell_new_l w tv t
  have c1 := cell_new_l (w.alloc (.cells #[tv] t)) uv t
  have c2 := cell_new_l ((w.alloc (.cells #[tv] t)).alloc (.cells #[uv] t)) x 3
  have c3 := cell_new_l (((w.alloc (.cells #[tv] t)).alloc (.cells #[uv] t)).alloc (.cells #[x] 3)) y 3
  simp only [World.size_alloc] at c1 c2 c3
  exact ⟨cell_alloc_l _ (cell_alloc_l _ (cell_alloc_l _ c0.1)), cell_alloc_l _ (cell_alloc_l _ c1.1), cell_alloc_l _ c2.1, c3.1, ((((World.Since.refl _ _).alloc (Nat.le_refl _) _).alloc (by simp) _).alloc (by simp; omega) _).alloc (by simp; omega) _⟩
theorem bes_one (w : World) (n m : Nat) (tv uv : Value) (t : TypeId) : BesR w n m tv uv (.pointer (some ⟨w.heap.size + 1 + 1, 0, none⟩)) (.pointer (some ⟨w.heap.size + 1 + 1 + 1, 0, none⟩)) ((((w.alloc (.cells #[tv] t)).alloc (.cells #[uv] t)).alloc (.cells #[.int .i64 n] 3)).alloc (.cells #[.int .i64 m] 3)).drew := by
  obtain ⟨h1, h2, h3, h4, h5⟩ := bes_cells w tv uv (.int .i64 n) (.int .i64 m) t
  exact ⟨_, _, rfl, rfl, h3, h4, h1, h2, h5.drew⟩
theorem bes_two (w : World) (n m : Nat) (tv uv : Value) (t : TypeId) : BesR w n m tv uv (.pointer (some ⟨w.heap.size + 1 + 1 + 1, 0, none⟩)) (.pointer (some ⟨w.heap.size + 1 + 1, 0, none⟩)) ((((w.alloc (.cells #[tv] t)).alloc (.cells #[uv] t)).alloc (.cells #[.int .i64 m] 3)).alloc (.cells #[.int .i64 n] 3)).drew := by
  obtain ⟨h1, h2, h3, h4, h5⟩ := bes_cells w tv uv (.int .i64 m) (.int .i64 n) t
  exact ⟨_, _, rfl, rfl, h4, h3, h1, h2, h5.drew⟩

end Go.Proofs.Ytbclpbgomkfabaa
end

section
namespace Go.Proofs.Ytbclpbgomkfabaa
open Go.RowKit Go.Deep

theorem getD_at (x : List Int) {k : Nat} (h : k < x.length) : x.getD k 0 = x[k] := by simp [List.getD, h]

theorem besideL_top {l : List (List Int)} (u : List (List Int)) (hT : TabIn l) {r : Nat} (hr : r < l.length) : (besideL l u).getD r [] = l.getD r [] ++ List.replicate (u.getD 0 []).length 0 := by
  unfold besideL
  rw [tabF_get _ _ _ _ (by omega)]
  have hrl := hT.row hr
  obtain ⟨m, hm⟩ : ∃ m, (l.getD 0 []).length = m := ⟨_, rfl⟩
  obtain ⟨m2, hm2⟩ : ∃ m, (u.getD 0 []).length = m := ⟨_, rfl⟩
  obtain ⟨n, hn⟩ : ∃ n, l.length = n := ⟨_, rfl⟩
  rw [hm] at hrl ⊢
  rw [hm2]
  rw [hn] at hr ⊢
  refine List.ext_getElem (by rw [List.length_map, List.length_range, List.length_append, hrl, List.length_replicate]) fun k h1 h2 => ?_
  rw [List.length_map, List.length_range] at h1
  rw [List.getElem_map, List.getElem_range, List.getElem_append]
  unfold besideF
  by_cases hk : k < m
  · rw [if_pos ⟨hr, hk⟩, dif_pos (by rw [hrl]; exact hk)]
    exact getD_at _ _
  · rw [if_neg (by omega), if_neg (by omega), dif_neg (by rw [hrl]; exact hk), List.getElem_replicate]

theorem besideL_bot {u : List (List Int)} (l : List (List Int)) (hT : TabIn u) {r : Nat} (hr : r < u.length) : (besideL l u).getD (l.length + r) [] = List.replicate (l.getD 0 []).length 0 ++ u.getD r [] := by
  unfold besideL
  rw [tabF_get _ _ _ _ (by omega)]
  have hrl := hT.row hr
  obtain ⟨m, hm⟩ : ∃ m, (l.getD 0 []).length = m := ⟨_, rfl⟩
  obtain ⟨m2, hm2⟩ : ∃ m, (u.getD 0 []).length = m := ⟨_, rfl⟩
  obtain ⟨n, hn⟩ : ∃ n, l.length = n := ⟨_, rfl⟩
  rw [hm2] at hrl ⊢
  rw [hm]
  rw [hn]
  refine List.ext_getElem (by rw [List.length_map, List.length_range, List.length_append, hrl, List.length_replicate]) fun k h1 h2 => ?_
  rw [List.length_map, List.length_range] at h1
  rw [List.getElem_map, List.getElem_range, List.getElem_append]
  unfold besideF
  by_cases hk : k < m
  · rw [if_neg (by omega), if_neg (by omega), dif_pos (by rw [List.length_replicate]; exact hk), List.getElem_replicate]
  · rw [if_neg (by omega), if_pos ⟨by omega, by omega⟩, dif_neg (by rw [List.length_replicate]; exact hk)]
    unfold at2
    rw [show n + r - n = r by omega]
    simp only [List.length_replicate]
    exact getD_at _ _

noncomputable def besideOk (l u : List (List Int)) : Bool := tabIn l && (tabIn u && tabIn (besideL l u))
theorem szL_beside {l u : List (List Int)} (h : TabIn l) (hu : TabIn u) : szL (besideL l u) ≤ 1048576 :=
  szL_tabF _ _ _ (by have := h.2.1; have := hu.2.1; omega) (by have := h.width; have := hu.width; omega)
theorem szL_besideOk (l u : List (List Int)) (h : besideOk l u = true) : szL (besideL l u) ≤ 1048576 := by
  unfold besideOk at h
  rw [Bool.and_eq_true, Bool.and_eq_true] at h
  exact szL_beside (tabIn_of h.1) (tabIn_of h.2.1)

end Go.Proofs.Ytbclpbgomkfabaa
end

section
namespace Go.Proofs.Ytbclpbgomkfabaa
open Go.RowKit Go.Deep

theorem besideOk_ofR {l u : List (List Int)} (h : besideOk l u = true) : TabIn l ∧ TabIn u ∧ TabIn (besideL l u) := by
  unfold besideOk at h
  simp only [Bool.and_eq_true] at h
  exact ⟨tabIn_of h.1, tabIn_of h.2.1, tabIn_of h.2.2⟩
theorem besideL_widthR (l u : List (List Int)) (h : 1 ≤ l.length) : ((besideL l u).getD 0 []).length = (l.getD 0 []).length + (u.getD 0 []).length := tabF_len _ _ _ _ (by omega)

theorem dt_thin {N a b : Nat} (f : Nat → Nat → Int) (hab : b < a) (ha : a ≤ N) (h : ∀ i j, i < a → b ≤ j → j < N → f i j = 0) : dt N f = 0 := by
  obtain ⟨m, rfl⟩ : ∃ m, N = b + (m + 1) := ⟨N - b - 1, by omega⟩
  rw [dt_block (m + 1) b f (fun i j hi hj hN => h i j (by omega) hj hN), dt_succ, sumN_none _ (fun k hk => by rw [show f (b + 0) (b + k) = 0 from h _ _ (by omega) (by omega) (by omega)]; simp), Int.mul_zero]
theorem dt_thinT {N a b : Nat} (f : Nat → Nat → Int) (hab : a < b) (hb : b ≤ N) (h : ∀ i j, a ≤ i → i < N → j < b → f i j = 0) : dt N f = 0 := by
  rw [← dt_turn]
  exact dt_thin (fun i j => f j i) hab hb fun i j hi hj hN => h j i hj hN hi

theorem selN_two : ∀ n k : Fin 7, n.val + k.val ≤ 6 → ∀ r : Fin 64, r.val < 2 ^ (n.val + k.val) → popcS r.val = popcS (r.val % 2 ^ n.val) + popcS (r.val / 2 ^ n.val) ∧
    ∀ i : Fin 6, i.val < popcS r.val → selN r.val (n.val + k.val) i.val = if i.val < popcS (r.val % 2 ^ n.val) then selN (r.val % 2 ^ n.val) n.val i.val else n.val + selN (r.val / 2 ^ n.val) k.val (i.val - popcS (r.val % 2 ^ n.val)) := by decide +kernel

theorem at_beside {l u : List (List Int)} {i j : Nat} (hi : i < l.length + u.length) (hj : j < (l.getD 0 []).length + (u.getD 0 []).length) :
    at2 (besideL l u) i j = if i < l.length ∧ j < (l.getD 0 []).length then at2 l i j else if l.length ≤ i ∧ (l.getD 0 []).length ≤ j then at2 u (i - l.length) (j - (l.getD 0 []).length) else 0 := by
  unfold besideL
  exact tabF_at _ _ _ i j hi hj

theorem part_beside {l u : List (List Int)} {n m n2 m2 r c k i j : Nat} (hn : l.length = n) (hm : (l.getD 0 []).length = m) (hu : u.length = n2) (hmu : (u.getD 0 []).length = m2) (h1 : 1 ≤ n) (h6 : n + n2 ≤ 6) (m6 : m + m2 ≤ 6)
    (hr : r < 2 ^ (n + n2)) (hc : c < 2 ^ (m + m2)) (kr : popcS r = k) (kc : popcS c = k) (hi : i < k) (hj : j < k) :
    at2 (partL (besideL l u) r c) i j = if i < popcS (r % 2 ^ n) ∧ j < popcS (c % 2 ^ m) then at2 (partL l (r % 2 ^ n) (c % 2 ^ m)) i j else
      if popcS (r % 2 ^ n) ≤ i ∧ popcS (c % 2 ^ m) ≤ j then at2 (partL u (r / 2 ^ n) (c / 2 ^ m)) (i - popcS (r % 2 ^ n)) (j - popcS (c % 2 ^ m)) else 0 := by
  have p1 : 2 ^ (n + n2) ≤ 2 ^ 6 := Nat.pow_le_pow_right (by omega) h6
  have p2 : 2 ^ (m + m2) ≤ 2 ^ 6 := Nat.pow_le_pow_right (by omega) m6
  have e1 : (besideL l u).length = n + n2 := by unfold besideL; rw [tabF_length, hn, hu]
  have e2 : ((besideL l u).getD 0 []).length = m + m2 := by rw [besideL_widthR l u (by omega), hm, hmu]
  have a1 := popcS_sel ⟨n + n2, by omega⟩ ⟨r, by omega⟩ hr
  have a2 := popcS_sel ⟨m + m2, by omega⟩ ⟨c, by omega⟩ hc
  obtain ⟨b1, b2⟩ := selN_two ⟨n, by omega⟩ ⟨n2, by omega⟩ h6 ⟨r, by omega⟩ hr
  obtain ⟨d1, d2⟩ := selN_two ⟨m, by omega⟩ ⟨m2, by omega⟩ m6 ⟨c, by omega⟩ hc
  have hk6 := popcS_le r
  have q1 : r % 2 ^ n < 2 ^ n := Nat.mod_lt _ (Nat.pow_pos (by omega))
  have q2 : c % 2 ^ m < 2 ^ m := Nat.mod_lt _ (Nat.pow_pos (by omega))
  have q3 : r / 2 ^ n < 2 ^ n2 := Nat.div_lt_of_lt_mul (by rw [← Nat.pow_add]; exact hr)
  have q4 : c / 2 ^ m < 2 ^ m2 := Nat.div_lt_of_lt_mul (by rw [← Nat.pow_add]; exact hc)
  have g1 : 2 ^ n ≤ 2 ^ 6 := Nat.pow_le_pow_right (by omega) (by omega)
  have g2 : 2 ^ m ≤ 2 ^ 6 := Nat.pow_le_pow_right (by omega) (by omega)
  have g3 : 2 ^ n2 ≤ 2 ^ 6 := Nat.pow_le_pow_right (by omega) (by omega)
  have g4 : 2 ^ m2 ≤ 2 ^ 6 := Nat.pow_le_pow_right (by omega) (by omega)
  have t1 := popcS_sel ⟨n, by omega⟩ ⟨r % 2 ^ n, by omega⟩ q1
  have t2 := popcS_sel ⟨m, by omega⟩ ⟨c % 2 ^ m, by omega⟩ q2
  have t3 := popcS_sel ⟨n2, by omega⟩ ⟨r / 2 ^ n, by omega⟩ q3
  have t4 := popcS_sel ⟨m2, by omega⟩ ⟨c / 2 ^ m, by omega⟩ q4
  have f1 := b2 ⟨i, by omega⟩ (by show i < popcS r; omega)
  have f2 := d2 ⟨j, by omega⟩ (by show j < popcS c; omega)
  simp only at a1 a2 b1 d1 t1 t2 t3 t4 f1 f2
  rw [partL_at _ r c (by rw [e1, a1]; omega) (by rw [e2, a2]; omega), e1, e2, f1, f2]
  have s1 : ∀ x, x < popcS (r % 2 ^ n) → selN (r % 2 ^ n) n x < n := fun x hx => selN_lt (by omega)
  have s2 : ∀ x, x < popcS (c % 2 ^ m) → selN (c % 2 ^ m) m x < m := fun x hx => selN_lt (by omega)
  have s3 : ∀ x, x < popcS (r / 2 ^ n) → selN (r / 2 ^ n) n2 x < n2 := fun x hx => selN_lt (by omega)
  have s4 : ∀ x, x < popcS (c / 2 ^ m) → selN (c / 2 ^ m) m2 x < m2 := fun x hx => selN_lt (by omega)
  by_cases hi1 : i < popcS (r % 2 ^ n)
  · have := s1 i hi1
    by_cases hj1 : j < popcS (c % 2 ^ m)
    · have := s2 j hj1
      rw [if_pos hi1, if_pos hj1, if_pos ⟨hi1, hj1⟩, at_beside (by omega) (by omega), if_pos (by omega), partL_at l _ _ (by rw [hn, t1]; exact hi1) (by rw [hm, t2]; exact hj1), hn, hm]
    · rw [if_pos hi1, if_neg hj1, if_neg (by omega), if_neg (by omega)]
      have := s4 (j - popcS (c % 2 ^ m)) (by omega)
      rw [at_beside (by omega) (by omega), if_neg (by omega), if_neg (by omega)]
  · have := s3 (i - popcS (r % 2 ^ n)) (by omega)
    by_cases hj1 : j < popcS (c % 2 ^ m)
    · have := s2 j hj1
      rw [if_neg hi1, if_pos hj1, if_neg (by omega), if_neg (by omega), at_beside (by omega) (by omega), if_neg (by omega), if_neg (by omega)]
    · have := s4 (j - popcS (c % 2 ^ m)) (by omega)
      rw [if_neg hi1, if_neg hj1, if_neg (by omega), if_pos (by omega), at_beside (by omega) (by omega), if_neg (by omega), if_pos (by omega), partL_at u _ _ (by rw [hu, t3]; omega) (by rw [hmu, t4]; omega), hu, hmu, hn, hm,
        show n + selN (r / 2 ^ n) n2 (i - popcS (r % 2 ^ n)) - n = selN (r / 2 ^ n) n2 (i - popcS (r % 2 ^ n)) by omega, show m + selN (c / 2 ^ m) m2 (j - popcS (c % 2 ^ m)) - m = selN (c / 2 ^ m) m2 (j - popcS (c % 2 ^ m)) by omega]

theorem minor_beside {l u : List (List Int)} {n m n2 m2 r c k : Nat} (hn : l.length = n) (hm : (l.getD 0 []).length = m) (hu : u.length = n2) (hmu : (u.getD 0 []).length = m2) (h1 : 1 ≤ n) (h6 : n + n2 ≤ 6) (m6 : m + m2 ≤ 6)
    (hr : r < 2 ^ (n + n2)) (hc : c < 2 ^ (m + m2)) (kr : popcS r = k) (kc : popcS c = k) :
    (popcS (r % 2 ^ n) = popcS (c % 2 ^ m) → dt k (at2 (partL (besideL l u) r c)) = dt (popcS (r % 2 ^ n)) (at2 (partL l (r % 2 ^ n) (c % 2 ^ m))) * dt (popcS (r / 2 ^ n)) (at2 (partL u (r / 2 ^ n) (c / 2 ^ m)))) ∧
    (popcS (r % 2 ^ n) ≠ popcS (c % 2 ^ m) → dt k (at2 (partL (besideL l u) r c)) = 0) := by
  have p1 : 2 ^ (n + n2) ≤ 2 ^ 6 := Nat.pow_le_pow_right (by omega) h6
  have p2 : 2 ^ (m + m2) ≤ 2 ^ 6 := Nat.pow_le_pow_right (by omega) m6
  have hat := fun i j (hi : i < k) (hj : j < k) => part_beside (i := i) (j := j) hn hm hu hmu h1 h6 m6 hr hc kr kc hi hj
  have b1 := (selN_two ⟨n, by omega⟩ ⟨n2, by omega⟩ h6 ⟨r, by omega⟩ hr).1
  have d1 := (selN_two ⟨m, by omega⟩ ⟨m2, by omega⟩ m6 ⟨c, by omega⟩ hc).1
  simp only at b1 d1
  obtain ⟨x, hx⟩ : ∃ x, popcS (r % 2 ^ n) = x := ⟨_, rfl⟩
  obtain ⟨y, hy⟩ : ∃ y, popcS (c % 2 ^ m) = y := ⟨_, rfl⟩
  obtain ⟨x2, hx2⟩ : ∃ x, popcS (r / 2 ^ n) = x := ⟨_, rfl⟩
  rw [hx, hy] at hat ⊢
  rw [hx] at b1
  rw [hy] at d1
  rw [hx2] at b1 ⊢
  refine ⟨fun e => ?_, fun e => ?_⟩
  · subst e
    have hk : k = x + x2 := by omega
    subst hk
    rw [dt_block x2 x _ (fun i j hi hj hN => by rw [hat i j (by omega) hN, if_neg (by omega), if_neg (by omega)])]
    congr 1
    · exact dt_congr x fun i j hi hj => by rw [hat i j (by omega) (by omega), if_pos ⟨hi, hj⟩]
    · exact dt_congr x2 fun i j hi hj => by
        rw [hat _ _ (by omega) (by omega), if_neg (by omega), if_pos (by omega), show x + i - x = i by omega, show x + j - x = j by omega]
  · by_cases hlt : y < x
    · exact dt_thin _ hlt (by omega) fun i j hi hj hN => by rw [hat i j (by omega) hN, if_neg (by omega), if_neg (by omega)]
    · exact dt_thinT _ (show x < y by omega) (by omega) fun i j hi hN hj => by rw [hat i j hN (by omega), if_neg (by omega), if_neg (by omega)]

theorem two_sets : ∀ n k : Fin 7, n.val + k.val ≤ 6 → ∀ r s : Fin 64, r.val < 2 ^ n.val → s.val < 2 ^ k.val → r.val + 2 ^ n.val * s.val < 2 ^ (n.val + k.val) ∧ (r.val + 2 ^ n.val * s.val) % 2 ^ n.val = r.val ∧ (r.val + 2 ^ n.val * s.val) / 2 ^ n.val = s.val := by
  intro n k hnk r s hr hs
  refine ⟨?_, ?_, ?_⟩
  · rw [Nat.pow_add]
    have : 2 ^ n.val * s.val + 2 ^ n.val ≤ 2 ^ n.val * 2 ^ k.val := by
      rw [← Nat.mul_succ]; exact Nat.mul_le_mul_left _ hs
    omega
  · rw [Nat.add_mul_mod_self_left, Nat.mod_eq_of_lt hr]
  · rw [Nat.add_mul_div_left _ _ (Nat.pow_pos (by omega)), Nat.div_eq_of_lt hr, Nat.zero_add]

theorem rank_minor {l : List (List Int)} {n m : Nat} (hn : n ≤ 6) (hm : m ≤ 6) : ∃ r c, r < 2 ^ n ∧ c < 2 ^ m ∧ popcS r = rkR l (2 ^ m) (2 ^ n) ∧ popcS c = rkR l (2 ^ m) (2 ^ n) ∧ dt (rkR l (2 ^ m) (2 ^ n)) (at2 (partL l r c)) ≠ 0 := by
  by_cases h0 : 1 ≤ rkR l (2 ^ m) (2 ^ n)
  · obtain ⟨_, _, a3⟩ := rank_down (l := l) (n := n) (m := m) hn hm
    cases hb : hasB l (rkR l (2 ^ m) (2 ^ n)) (2 ^ n) (2 ^ m) with
    | false => exact absurd rfl ((a3 _ h0).2 hb)
    | true =>
      obtain ⟨r, c, ⟨r1, r2⟩, ⟨c1, c2⟩, hd⟩ := hasB_iff.1 hb
      exact ⟨r, c, r1, c1, r2, c2, hd⟩
  · have e : rkR l (2 ^ m) (2 ^ n) = 0 := by omega
    have p0 : popcS 0 = 0 := by decide
    rw [e]
    exact ⟨0, 0, Nat.pow_pos (by omega), Nat.pow_pos (by omega), p0, p0, by rw [dt_zero]; omega⟩
theorem rank_ge {l : List (List Int)} {n m r c k : Nat} (hn : n ≤ 6) (hm : m ≤ 6) (hr : r < 2 ^ n) (hc : c < 2 ^ m) (kr : popcS r = k) (kc : popcS c = k) (hd : dt k (at2 (partL l r c)) ≠ 0) : k ≤ rkR l (2 ^ m) (2 ^ n) := by
  by_cases h0 : 1 ≤ k
  · obtain ⟨_, _, a3⟩ := rank_down (l := l) (n := n) (m := m) hn hm
    exact (a3 k h0).1 (hasB_iff.2 ⟨r, c, ⟨hr, kr⟩, ⟨hc, kc⟩, hd⟩)
  · omega

theorem rank_beside {l u : List (List Int)} {n m n2 m2 : Nat} (hn : l.length = n) (hm : (l.getD 0 []).length = m) (hu : u.length = n2) (hmu : (u.getD 0 []).length = m2) (h1 : 1 ≤ n) (h6 : n + n2 ≤ 6) (m6 : m + m2 ≤ 6) :
    rkR (besideL l u) (2 ^ (m + m2)) (2 ^ (n + n2)) = rkR l (2 ^ m) (2 ^ n) + rkR u (2 ^ m2) (2 ^ n2) := by
  have g1 : 2 ^ n ≤ 2 ^ 6 := Nat.pow_le_pow_right (by omega) (by omega)
  have g2 : 2 ^ m ≤ 2 ^ 6 := Nat.pow_le_pow_right (by omega) (by omega)
  have g3 : 2 ^ n2 ≤ 2 ^ 6 := Nat.pow_le_pow_right (by omega) (by omega)
  have g4 : 2 ^ m2 ≤ 2 ^ 6 := Nat.pow_le_pow_right (by omega) (by omega)
  have p1 : 2 ^ (n + n2) ≤ 2 ^ 6 := Nat.pow_le_pow_right (by omega) h6
  have p2 : 2 ^ (m + m2) ≤ 2 ^ 6 := Nat.pow_le_pow_right (by omega) m6
  have q1 : rkR l (2 ^ m) (2 ^ n) + rkR u (2 ^ m2) (2 ^ n2) ≤ rkR (besideL l u) (2 ^ (m + m2)) (2 ^ (n + n2)) := by
    obtain ⟨r, c, a1, a2, a3, a4, a5⟩ := rank_minor (l := l) (n := n) (m := m) (by omega) (by omega)
    obtain ⟨s, d, b1, b2, b3, b4, b5⟩ := rank_minor (l := u) (n := n2) (m := m2) (by omega) (by omega)
    obtain ⟨t1, t2, t3⟩ := two_sets ⟨n, by omega⟩ ⟨n2, by omega⟩ h6 ⟨r, by omega⟩ ⟨s, by omega⟩ a1 b1
    obtain ⟨v1, v2, v3⟩ := two_sets ⟨m, by omega⟩ ⟨m2, by omega⟩ m6 ⟨c, by omega⟩ ⟨d, by omega⟩ a2 b2
    simp only at t1 t2 t3 v1 v2 v3
    have k1 := (selN_two ⟨n, by omega⟩ ⟨n2, by omega⟩ h6 ⟨r + 2 ^ n * s, by omega⟩ t1).1
    have k2 := (selN_two ⟨m, by omega⟩ ⟨m2, by omega⟩ m6 ⟨c + 2 ^ m * d, by omega⟩ v1).1
    simp only at k1 k2
    rw [t2, t3, a3, b3] at k1
    rw [v2, v3, a4, b4] at k2
    have e := (minor_beside hn hm hu hmu h1 h6 m6 t1 v1 k1 k2).1 (by rw [t2, v2, a3, a4])
    rw [t2, t3, v2, v3, a3, b3] at e
    exact rank_ge h6 m6 t1 v1 k1 k2 (by rw [e]; exact Int.mul_ne_zero a5 b5)
  have q2 : rkR (besideL l u) (2 ^ (m + m2)) (2 ^ (n + n2)) ≤ rkR l (2 ^ m) (2 ^ n) + rkR u (2 ^ m2) (2 ^ n2) := by
    obtain ⟨r, c, a1, a2, a3, a4, a5⟩ := rank_minor (l := besideL l u) (n := n + n2) (m := m + m2) h6 m6
    obtain ⟨e1, e2⟩ := minor_beside hn hm hu hmu h1 h6 m6 a1 a2 a3 a4
    by_cases hxy : popcS (r % 2 ^ n) = popcS (c % 2 ^ m)
    · rw [e1 hxy] at a5
      have k1 := (selN_two ⟨n, by omega⟩ ⟨n2, by omega⟩ h6 ⟨r, by omega⟩ a1).1
      have k2 := (selN_two ⟨m, by omega⟩ ⟨m2, by omega⟩ m6 ⟨c, by omega⟩ a2).1
      simp only at k1 k2
      have h1' : dt (popcS (r % 2 ^ n)) (at2 (partL l (r % 2 ^ n) (c % 2 ^ m))) ≠ 0 := fun h => a5 (by rw [h, Int.zero_mul])
      have h2' : dt (popcS (r / 2 ^ n)) (at2 (partL u (r / 2 ^ n) (c / 2 ^ m))) ≠ 0 := fun h => a5 (by rw [h, Int.mul_zero])
      have z1 := rank_ge (l := l) (n := n) (m := m) (by omega) (by omega) (Nat.mod_lt r (Nat.pow_pos (by omega))) (Nat.mod_lt c (Nat.pow_pos (by omega))) rfl hxy.symm h1'
      have z2 := rank_ge (l := u) (n := n2) (m := m2) (by omega) (by omega) (Nat.div_lt_of_lt_mul (by rw [← Nat.pow_add]; exact a1)) (Nat.div_lt_of_lt_mul (by rw [← Nat.pow_add]; exact a2)) rfl (show popcS (c / 2 ^ m) = popcS (r / 2 ^ n) by omega) h2'
      omega
    · exact absurd (e2 hxy) a5
  omega

theorem value_beside {l u : List (List Int)} {n n2 : Nat} (hn : l.length = n) (hm : (l.getD 0 []).length = n) (hu : u.length = n2) (hmu : (u.getD 0 []).length = n2) (h6 : n + n2 ≤ 6) : ordF (besideL l u) (n + n2) (n + n2) 0 = ordF l n n 0 * ordF u n2 n2 0 := by
  rw [ordF_all _ h6, ordF_all _ (by omega), ordF_all _ (by omega), dt_block n2 n _ (fun i j hi hj hN => by rw [at_beside (by omega) (by omega), if_neg (by omega), if_neg (by omega)])]
  congr 1
  · exact dt_congr n fun i j hi hj => by rw [at_beside (by omega) (by omega), if_pos (by omega)]
  · exact dt_congr n2 fun i j hi hj => by
      rw [at_beside (by omega) (by omega), if_neg (by omega), if_pos (by omega), hn, hm, show n + i - n = i by omega, show n + j - n = j by omega]

end Go.Proofs.Ytbclpbgomkfabaa
end

section
namespace Go.Proofs.Ytbclpbgomkfabaa

theorem selp_len : ∀ n : Fin 6, ∀ s : Fin 32, s.val < 2 ^ n.val → (sel s.val n.val n.val).length = popcS s.val := by decide +kernel
theorem net_minor {n : Nat} (h5 : n ≤ 5) {cs : List CH} (h : ∀ c ∈ cs, chOk n c) {l : List (List Int)} (hl : l.length = n) (hw : (l.getD 0 []).length = n) (ht : ∀ i k, i < n → k < n → at2 l i k = netM n cs i k)
    {s t : Nat} (hs : s < 2 ^ n) (htt : t < 2 ^ n) (hp : popcS s = popcS t) : dt (popcS s) (at2 (partL l s t)) = famN cs s t := by
  have p5 : 2 ^ n ≤ 2 ^ 5 := Nat.pow_le_pow_right (by omega) h5
  have l1 := selp_len ⟨n, by omega⟩ ⟨s, by omega⟩ hs
  have l2 := selp_len ⟨n, by omega⟩ ⟨t, by omega⟩ htt
  have q1 := popc_le5 ⟨n, by omega⟩ ⟨s, by omega⟩ hs
  simp only at l1 l2 q1
  rw [fam_minor h5 cs h s t hs htt hp]
  refine dt_congr _ fun i j hi hj => ?_
  have i1 := (seln_in ⟨n, by omega⟩ ⟨s, by omega⟩ hs ⟨i, by omega⟩ hi).1
  have i2 := (seln_in ⟨n, by omega⟩ ⟨t, by omega⟩ htt ⟨j, by omega⟩ (by simp only; omega)).1
  rw [partL_at l s t (by rw [hl, l1]; exact hi) (by rw [hw, l2]; omega), hl, hw]
  exact ht _ _ i1 i2
theorem net_most {n : Nat} (h5 : n ≤ 5) {cs : List CH} (h : ∀ c ∈ cs, chOk n c) {l : List (List Int)} (hl : l.length = n) (hw : (l.getD 0 []).length = n) (ht : ∀ i k, i < n → k < n → at2 l i k = netM n cs i k) {M : Nat}
    (h1 : ∃ s t, s < 2 ^ n ∧ t < 2 ^ n ∧ popcS s = M ∧ popcS t = M ∧ 0 < famN (cs.map oneZ) s t) (h2 : ∀ s t, s < 2 ^ n → t < 2 ^ n → popcS s = popcS t → 0 < famN (cs.map oneZ) s t → popcS s ≤ M) :
    rkR l (2 ^ n) (2 ^ n) ≤ M ∧ ((∀ c ∈ cs, 0 ≤ c.2.2) → rkR l (2 ^ n) (2 ^ n) = M) := by
  have hle : rkR l (2 ^ n) (2 ^ n) ≤ M := by
    obtain ⟨r, c, hr, hc, kr, kc, hd⟩ := rank_minor (l := l) (n := n) (m := n) (by omega) (by omega)
    have e := net_minor h5 h hl hw ht hr hc (kr.trans kc.symm)
    rw [kr] at e
    have := h2 r c hr hc (kr.trans kc.symm) (fam_some cs r c (by rw [← e]; exact hd))
    omega
  refine ⟨hle, fun hp => ?_⟩
  obtain ⟨s, t, hs, htt, ks, kt, hf⟩ := h1
  have e := net_minor h5 h hl hw ht hs htt (ks.trans kt.symm)
  rw [ks] at e
  have hpos := fam_plain cs hp s t hf
  have := rank_ge (l := l) (n := n) (m := n) (by omega) (by omega) hs htt ks kt (by rw [e]; omega)
  omega

end Go.Proofs.Ytbclpbgomkfabaa
end

section
namespace Go.Proofs.Ytbclpbgomkfabaa
open Go.RowKit Go.Deep

set_option maxRecDepth 100000 in
set_option maxHeartbeats 2000000 in
theorem rank_any (a : Option Addr) (cap n m : Nat) (l : List (List Int)) (w : World) (hn : l.length = n) (hT : TabIn l) (hmm : (l.getD 0 []).length = m) (hm : MatR w a l) :
    Calls Try.prog 72 #[.slice a n cap] w fun e w' => e = .returned (.int .i64 (rkR l (2 ^ m) (2 ^ n) : Nat)) ∧ w.Since w.heap.size w' := by
  have h6 := hT.2.1
  have h1 := hT.1
  have hw := hT.width
  rw [hn] at h6 h1
  rw [hmm] at hw
  obtain ⟨r1, r2, r3⟩ := rank_down (l := l) h6 hw.2
  obtain ⟨b, hb⟩ : ∃ b, rkR l (2 ^ m) (2 ^ n) = b := ⟨_, rfl⟩
  rw [hb] at r1 r2 r3 ⊢
  have EW := width_any a cap n l w hn (by omega) (by omega) hm
  rw [hmm] at EW
  have EH := Lib.hid (fun (k : Nat) (W : World) (h : w.Since w.heap.size W) => hasMinor_any a cap n m k l W hn hmm hT (hm.since h))
  replace EW := Lib.hid EW
  have R3 := Lib.hid r3
  clear r3 hn hmm hm hT hb
  go_enter Try.func72, Try.ntmps72
  go_wp2_with fail
  refine (EW.out).mono ?_
  rintro e w1 ⟨rfl, rfl⟩
  go_wp2
  all_goals
    go_loopg [3] 6 (fun g v wr => ∃ c : Nat, b ≤ c ∧ c ≤ 6 ∧ c ≤ g ∧ v = .int .i64 c ∧ w.Since w.heap.size wr)
    case atStart => first | exact ⟨n, r1, h6, h6, rfl, World.Since.refl _ _⟩ | exact ⟨m, r2, hw.2, hw.2, rfl, World.Since.refl _ _⟩
    case round =>
      obtain ⟨c, hbc, hc6, hcg, rfl, hS⟩ := hrel
      by_cases hc0 : c = 0
      · have hb0 : b = 0 := by omega
        subst hc0 hb0
        have HS := Lib.hid hS
        clear hS
        go_wp2
        go_ret
        exact ⟨rfl, HS.out⟩
      · have hc1 : decide ((0 : Int) < (c : Int)) = true := by simp; omega
        have E := EH.out c wr hS
        obtain ⟨q1, q2⟩ := R3.out c (by omega)
        obtain ⟨h, hh⟩ : ∃ h, hasB l c (2 ^ n) (2 ^ m) = h := ⟨_, rfl⟩
        rw [hh] at E q1 q2
        replace E := Lib.hid E
        have HS := Lib.hid hS
        clear hS hh
        go_wp2_with fail
        refine (E.out).mono ?_
        rintro e w2 ⟨rfl, hs2⟩
        have HS2 := Lib.hid (HS.out.trans (since_mono hs2 HS.out.size))
        clear hs2
        cases h with
        | true =>
          have hcb : c = b := by have := q1 rfl; omega
          subst hcb
          go_wp2
          go_ret
          exact ⟨rfl, HS2.out⟩
        | false =>
          have hcb := q2 rfl
          go_wp2
          go_roundg (gk - 1)
          case measure => omega
          case rel => exact ⟨c - 1, by omega, by omega, by omega, by go_num, HS2.out⟩

set_option maxHeartbeats 1000000 in
theorem implValueRank_any (a : Option Addr) (cap n : Nat) (l : List (List Int)) (w : World) (hn : l.length = n) (hsz : szL l ≤ 1048576) (hm : MatR w a l) :
    Calls Try.prog 25 #[.slice a n cap] w (SpecW w (tabIn l) (rkR l (2 ^ (l.getD 0 []).length) (2 ^ n) : Nat)) := by
  have E := implTableIn_any a cap n l w hn hsz hm
  cases hT : tabIn l with
  | false =>
    rw [hT] at E
    replace E := Lib.hid E
    clear hT hm hn hsz
    go_enter Try.func25, Try.ntmps25
    go_wp2_with fail
    refine (E.out).mono ?_
    rintro e w1 ⟨rfl, hd⟩
    have HD := Lib.hid hd
    clear hd
    go_wp2
    go_ret2
    exact ⟨rfl, HD.out⟩
  | true =>
    rw [hT] at E
    replace E := Lib.hid E
    have E2 := Lib.hid (fun (W : World) (hd : w.Since w.heap.size W) => rank_any a cap n _ l W hn (tabIn_of hT) rfl (hm.since hd))
    clear hT hm hn hsz
    go_enter Try.func25, Try.ntmps25
    go_wp2_with fail
    refine (E.out).mono ?_
    rintro e w1 ⟨rfl, hd⟩
    have HD := Lib.hid hd
    clear hd
    go_wp2_with fail
    refine (E2.out w1 HD.out).mono ?_
    rintro e w2 ⟨rfl, hs2⟩
    have HS2 := Lib.hid (HD.out.trans (since_mono hs2 HD.out.size))
    clear hs2
    go_wp2
    go_ret2
    exact ⟨rfl, HS2.out⟩

end Go.Proofs.Ytbclpbgomkfabaa
end

section
namespace Go.Proofs.Ytbclpbgomkfabaa
open Go.RowKit Go.Deep

noncomputable def partOk (l : List (List Int)) (s c : Int) : Bool := tabIn l && (inB s 1 (2 ^ l.length - 1 : Nat) && inB c 1 (2 ^ (l.getD 0 []).length - 1 : Nat))
theorem partOk_tab {l : List (List Int)} {s c : Int} (h : partOk l s c = true) : TabIn (partL l s.toNat c.toNat) := by
  unfold partOk at h
  rw [Bool.and_eq_true, Bool.and_eq_true] at h
  have h2 := of_decide_eq_true h.2.1
  have h3 := of_decide_eq_true h.2.2
  have p1 := Nat.one_le_two_pow (n := l.length)
  have p2 := Nat.one_le_two_pow (n := (l.getD 0 []).length)
  exact partL_tab (tabIn_of h.1) (by omega) (by omega) (by omega) (by omega)

end Go.Proofs.Ytbclpbgomkfabaa
end

section
namespace Go.Proofs.Ytbclpbgomkfabaa
open Go.RowKit Go.Deep

def popc (s : Nat) : Nat := (sel s 6 6).length
theorem popc_step : ∀ s : Fin 64, popc s.val = s.val % 2 + popc (s.val / 2) := by decide +kernel
theorem popc_sel : ∀ n : Fin 7, ∀ s : Fin 64, s.val < 2 ^ n.val → (sel s.val n.val n.val).length = popc s.val := by decide +kernel
theorem and1_fin : ∀ s : Fin 64, bits BinOp.and IntKind.i64 (s.val : Int) 1 = ((s.val % 2 : Nat) : Int) := by decide +kernel

set_option maxHeartbeats 1000000 in
theorem size_any (s : Nat) (hs : s ≤ 63) (w : World) : Calls Try.prog 21 #[.int .i64 s] w fun e w' => e = .returned (.int .i64 (popc s)) ∧ w = w' := by
  have hp6 : popc s ≤ 6 := sel_length s 6 6
  go_enter Try.func21, Try.ntmps21
  go_wp2
  go_loopg [0, 3] s (fun g v k wr => ∃ x j : Nat, x ≤ s ∧ g = x ∧ v = .int .i64 (x : Nat) ∧ k = .int .i64 (j : Nat) ∧ j + popc x = popc s ∧ w = wr)
  case atStart => exact ⟨s, 0, Nat.le_refl _, rfl, rfl, rfl, Nat.zero_add _, rfl⟩
  case round =>
    obtain ⟨x, j, hx, rfl, rfl, rfl, hj, rfl⟩ := hrel
    by_cases h0 : 0 < gk
    · have h0' : decide ((0 : Int) < (gk : Int)) = true := by simp; omega
      have hst := popc_step ⟨gk, by omega⟩
      have hb := and1_fin ⟨gk, by omega⟩
      simp only at hst hb
      obtain ⟨d, hd⟩ : ∃ d, gk % 2 = d := ⟨_, rfl⟩
      have hd2 : d ≤ 1 := by omega
      rw [hd] at hst hb
      have HD := Lib.hid hd
      clear hd
      have hw : IntKind.i64.wrap ((j : Int) + (d : Int)) = (j : Int) + (d : Int) := IntWalk.i64_in _ ⟨by omega, by omega⟩
      go_wp2
      go_roundg (gk / 2)
      case measure => omega
      case rel => exact ⟨gk / 2, j + d, by omega, rfl, by first | rfl | go_num, by go_num, by omega, rfl⟩
    · have h0' : decide ((0 : Int) < (gk : Int)) = false := by simp; omega
      have hg0 : gk = 0 := by omega
      have hp0 : popc 0 = 0 := by decide
      subst hg0
      go_wp2
      go_ret
      exact ⟨by rw [← hj, hp0]; rfl, rfl⟩

end Go.Proofs.Ytbclpbgomkfabaa
end

section
namespace Go.Proofs.Ytbclpbgomkfabaa
open Go.RowKit Go.Deep

def nnB (cs : List RC) : Bool := cs.all fun c => decide (0 ≤ c.w)
def allW (cs : List RC) : Int := cs.foldl (fun x c => if c.k.toList == [104] then x * c.w else x) 1
theorem nnB_snoc (cs : List RC) (c : RC) : nnB (cs ++ [c]) = (nnB cs && decide (0 ≤ c.w)) := by unfold nnB; rw [List.all_append]; simp
theorem allW_snoc (cs : List RC) (c : RC) : allW (cs ++ [c]) = if c.k.toList == [104] then allW cs * c.w else allW cs := by unfold allW; rw [List.foldl_append]; rfl
theorem allW_mul : ∀ (cs : List RC) (x : Int), cs.foldl (fun x c => if c.k.toList == [104] then x * c.w else x) x = x * allW cs
  | [], x => by simp [allW]
  | c :: cs, x => by
    show cs.foldl _ (if c.k.toList == [104] then x * c.w else x) = x * cs.foldl _ (if c.k.toList == [104] then 1 * c.w else 1)
    rw [allW_mul cs, allW_mul cs]
    split
    · rw [Int.one_mul, Int.mul_assoc]
    · rw [Int.one_mul]
theorem allW_all : ∀ (cs : List RC), (∀ c ∈ cs, RCok c) → allW cs = allH (cs.map toC)
  | [], _ => rfl
  | c :: cs, h => by
    have ih := allW_all cs (fun d hd => h d (by simp [hd]))
    have hc := (h c (by simp)).1
    have e : allW (c :: cs) = (if c.k.toList == [104] then c.w else 1) * allW cs := by
      show cs.foldl _ (if c.k.toList == [104] then 1 * c.w else 1) = _
      rw [allW_mul]
      split
      · rw [Int.one_mul]
      · rfl
    rw [e, ih]
    show _ = (if (toC c).1 = 2 then (toC c).2.2 * allH (cs.map toC) else allH (cs.map toC))
    rcases hc with hk | hk | hk
    · have h2 : (toC c).1 = 2 := by unfold toC; rw [hk]; rfl
      rw [if_pos h2, hk]; rfl
    · have h2 : (toC c).1 ≠ 2 := by unfold toC; rw [hk]; simp
      rw [if_neg h2, hk]; simp
    · have h2 : (toC c).1 ≠ 2 := by unfold toC; rw [hk]; simp
      rw [if_neg h2, hk]; simp
theorem allW_bd : ∀ (cs : List RC), (∀ c ∈ cs, -9 ≤ c.w ∧ c.w ≤ 9) → -(nineP cs.length) ≤ allW cs ∧ allW cs ≤ nineP cs.length
  | [], _ => by simp [allW, nineP]
  | c :: cs, h => by
    have ih := allW_bd cs (fun d hd => h d (by simp [hd]))
    have hc := h c (by simp)
    have e : allW (c :: cs) = (if c.k.toList == [104] then c.w else 1) * allW cs := by
      show cs.foldl _ (if c.k.toList == [104] then 1 * c.w else 1) = _
      rw [allW_mul]
      split
      · rw [Int.one_mul]
      · rfl
    have e2 : nineP (c :: cs).length = 9 * nineP cs.length := rfl
    have hp := nineP_pos cs.length
    rw [e, e2]
    split
    · exact mul_bd9 hc.1 hc.2 ih.1 ih.2
    · rw [Int.one_mul]; omega
theorem full_set : ∀ n : Fin 6, ∀ s : Fin 32, s.val < 2 ^ n.val → popcS s.val = n.val → s.val = 2 ^ n.val - 1 := by decide +kernel

set_option maxRecDepth 100000 in
set_option maxHeartbeats 2000000 in
theorem fnFamiliesSign (a : Option Addr) (cap n : Nat) (w : World) (hc : n ≤ cap) (h63 : cap ≤ 9223372036854775807) (hb : BytR w a n) :
    Calls Try.prog 5 #[.slice a n cap] w fun e w' => e = .returned (.bool true) ∧ w.Since w.heap.size w' := by
  by_cases hlen : 1048576 < n
  · have hl' : decide ((1048576 : Int) < (n : Int)) = true := by simp; omega
    clear hb
    go_enter Try.func5, Try.ntmps5
    go_wp2
    go_ret
    exact ⟨rfl, World.Since.refl _ _⟩
  · have hl' : decide ((1048576 : Int) < (n : Int)) = false := by simp; omega
    have ED := Lib.hid (drawNetFamilies_any a n cap w hc h63 hb)
    clear hb
    go_enter Try.func5, Try.ntmps5
    go_wp2_with fail
    refine (ED.out).mono ?_
    rintro e w1 ⟨m, a1, ca, cs, i, k, rfl, hs1, hm, hl, ⟨g, rfl⟩, hcl, hc63, ho⟩
    clear ED
    obtain ⟨N, hN⟩ : ∃ N, cs.length = N := ⟨_, rfl⟩
    rw [hN] at hl hcl ⊢
    have HS1 := Lib.hid hs1
    have E1 := fun (W : World) (h : w1.Since w1.heap.size W) => implNetFamilies_any (some ⟨g, 0, none⟩) ca N m i k cs W hN (by omega) (by omega) (ho.chips.since h)
    have E2 := fun (W : World) (h : w1.Since w1.heap.size W) => specNetFamilies_any (some ⟨g, 0, none⟩) ca N m i k cs W hN (by omega) (by omega) (ho.chips.since h)
    cases hok : famsB m cs i k with
    | false =>
      have hv : famsV m cs i k = 0 := by unfold famsV; rw [hok, if_neg (by simp)]
      simp only [hok, hv] at E1 E2
      replace E1 := Lib.hid E1
      replace E2 := Lib.hid E2
      clear ho hs1 hok hN hv
      go_wp2_with (first
        | (go_at_call 15; refine (E1.out _ (World.Since.refl _ _)).mono ?_; rintro e w2 ⟨rfl, hs2⟩; have HS2 := Lib.hid hs2; clear hs2)
        | (go_at_call 18; refine (E2.out _ HS2.out).mono ?_; rintro e w3 ⟨rfl, hs3⟩; have HS3 := Lib.hid (HS1.out.trans (since_mono (HS2.out.trans (since_mono hs3 HS2.out.size)) HS1.out.size)); clear hs3))
      go_ret
      exact ⟨rfl, HS3.out⟩
    | true =>
      obtain ⟨_, j, l, hq, ho2, ⟨rfl, hj, hj31⟩, ⟨rfl, hl2, hl31⟩, hpp⟩ := fams_ok hok
      obtain rfl := Int.ofNat.inj hq
      have h10 := ho2.len
      rw [hN] at h10
      have hv : famsV m cs j l = famN (cs.map toC) j l := by unfold famsV; rw [hok]; rfl
      have hnn : nnB cs = true → 0 ≤ famN (cs.map toC) j l := fun h => fam_nn _ (fun c hc => by
        obtain ⟨d, hd, rfl⟩ := List.mem_map.1 hc
        unfold nnB at h
        rw [List.all_eq_true] at h
        rw [toC_w]
        exact of_decide_eq_true (h d hd)) j l
      have hfu : popcS j = m → famN (cs.map toC) j l = allW cs := fun h => by
        have p5 : 2 ^ m ≤ 2 ^ 5 := Nat.pow_le_pow_right (by omega) hm.2
        have e1 := full_set ⟨m, by omega⟩ ⟨j, by omega⟩ hj h
        have e2 := full_set ⟨m, by omega⟩ ⟨l, by omega⟩ hl2 (by simp only; omega)
        simp only at e1 e2
        rw [allW_all cs (fun c hc => (ho2.ok c hc).1), e1, e2]
        exact fam_full _ (fun c hc => by
          obtain ⟨d, hd, rfl⟩ := List.mem_map.1 hc
          exact (ho2.ok d hd).2)
      have hbd := fun r => allW_bd (cs.take r) (fun c hc => (ho2.ok c (List.mem_of_mem_take hc)).1.2.2)
      have hbd2 : ∀ r, r ≤ N → -10000000000 ≤ allW (cs.take r) ∧ allW (cs.take r) ≤ 10000000000 := fun r hr => by
        have h1 := hbd r
        have h2 : (cs.take r).length ≤ 10 := by rw [List.length_take]; omega
        have h3 := nineP_le h2
        omega
      have EZ := Lib.hid (fun (W : World) => size_any j (by omega) W)
      have hpc : popc j = popcS j := rfl
      rw [hpc] at EZ
      obtain ⟨P, hP⟩ : ∃ P, famN (cs.map toC) j l = P := ⟨_, rfl⟩
      obtain ⟨sj, hsj⟩ : ∃ s, popcS j = s := ⟨_, rfl⟩
      rw [hP] at hv hnn hfu
      rw [hsj] at hfu EZ
      simp only [hok, hv] at E1 E2
      replace E1 := Lib.hid E1
      replace E2 := Lib.hid E2
      have HO := Lib.hid ho
      have HN := Lib.hid hN
      have HOK := Lib.hid (fun c hc => (ho2.ok c hc).1.2.2)
      have HBD := Lib.hid hbd2
      have HNN := Lib.hid hnn
      have HFU := Lib.hid hfu
      clear ho hs1 hok hN hv hP ho2 hq hpp hsj hnn hfu hbd hbd2 hpc
      go_wp2_with (first
        | (go_at_call 15; refine (E1.out _ (World.Since.refl _ _)).mono ?_; rintro e w2 ⟨rfl, hs2⟩; have HS2 := Lib.hid hs2; clear hs2)
        | (go_at_call 18; refine (E2.out _ HS2.out).mono ?_; rintro e w3 ⟨rfl, hs3⟩; have HS3 := Lib.hid (HS2.out.trans (since_mono hs3 HS2.out.size)); clear hs3))
      go_loopg [11, 12, 13] N (fun gg pv av iv wr => ∃ r : Nat, r ≤ N ∧ gg = N - r ∧ iv = .int .i64 r ∧ pv = .bool (nnB (cs.take r)) ∧ av = .int .i64 (allW (cs.take r)) ∧ w3.Since w3.heap.size wr)
      case atStart => exact ⟨0, Nat.zero_le _, rfl, rfl, rfl, rfl, World.Since.refl _ _⟩
      case round =>
        obtain ⟨r, hr, rfl, rfl, rfl, rfl, hS⟩ := hrel
        have HS4 := Lib.hid (HS3.out.trans (since_mono hS HS3.out.size))
        have HSX := Lib.hid hS
        clear hS
        by_cases hlt : r < N
        · obtain ⟨b, o, e, k1, k2, k3⟩ := (HO.out.chips.since HS4.out).at (show r < cs.length by rw [HN.out]; exact hlt)
          simp only [Option.some.injEq, Addr.mk.injEq, and_true] at e
          obtain ⟨rfl, rfl⟩ := e
          rw [Nat.zero_add] at k1 k3
          have hts := take_map_snoc id cs r (by rw [HN.out]; exact hlt)
          simp only [List.map_id, id] at hts
          have hn1 := nnB_snoc (cs.take r) (cs.getD r rc0)
          have ha1 := allW_snoc (cs.take r) (cs.getD r rc0)
          rw [← hts] at hn1 ha1
          have hb1 := HBD.out r hr
          have hb2 := HBD.out (r + 1) hlt
          have hwd := HOK.out (cs.getD r rc0) (by
            have : cs.getD r rc0 = cs[r]'(by rw [HN.out]; exact hlt) := by simp [List.getD, HN.out, hlt]
            rw [this]; exact List.getElem_mem _)
          obtain ⟨KK, hK⟩ : ∃ K, (cs.getD r rc0).k = K := ⟨_, rfl⟩
          obtain ⟨V, hV⟩ : ∃ V, (cs.getD r rc0).w = V := ⟨_, rfl⟩
          rw [hK] at k1 ha1
          rw [hV] at k3 hn1 ha1 hwd
          obtain ⟨B, hB⟩ : ∃ B, nnB (cs.take r) = B := ⟨_, rfl⟩
          obtain ⟨X, hX⟩ : ∃ X, allW (cs.take r) = X := ⟨_, rfl⟩
          rw [hB] at hn1 ⊢
          rw [hX] at ha1 hb1 ⊢
          have hgs : ((r : Nat) : Int) < ((N : Nat) : Int) := by omega
          have HN1 := Lib.hid hn1
          by_cases hk : KK.toList = [104]
          · have hkt : (KK.toList == [104]) = true := by simpa using hk
            rw [hkt, if_pos rfl] at ha1
            have hwx : IntKind.i64.wrap (X * V) = X * V := by rw [ha1] at hb2; exact IntWalk.i64_in _ ⟨by omega, by omega⟩
            have HA1 := Lib.hid ha1
            clear hts hn1 ha1 hK hV hB hX k2 hb1 hb2
            cases B
            · go_wp2
              go_roundg (N - (r + 1))
              case measure => omega
              case rel => exact ⟨r + 1, by omega, rfl, by go_num, by rw [HN1.out]; first | rfl | (simp only [Bool.true_and, ge_iff_le]), by rw [HA1.out], HSX.out⟩
            · go_wp2
              go_roundg (N - (r + 1))
              case measure => omega
              case rel => exact ⟨r + 1, by omega, rfl, by go_num, by rw [HN1.out]; first | rfl | (simp only [Bool.true_and, ge_iff_le]), by rw [HA1.out], HSX.out⟩
          · have hkt : (KK.toList == [104]) = false := by simpa using hk
            rw [hkt, if_neg (by simp)] at ha1
            have HA1 := Lib.hid ha1
            clear hts hn1 ha1 hK hV hB hX k2 hb1 hb2
            cases B
            · go_wp2
              go_roundg (N - (r + 1))
              case measure => omega
              case rel => exact ⟨r + 1, by omega, rfl, by go_num, by rw [HN1.out]; first | rfl | (simp only [Bool.true_and, ge_iff_le]), by rw [HA1.out], HSX.out⟩
            · go_wp2
              go_roundg (N - (r + 1))
              case measure => omega
              case rel => exact ⟨r + 1, by omega, rfl, by go_num, by rw [HN1.out]; first | rfl | (simp only [Bool.true_and, ge_iff_le]), by rw [HA1.out], HSX.out⟩
        · obtain rfl : r = N := by omega
          have htk : cs.take r = cs := List.take_of_length_le (by rw [HN.out]; exact Nat.le_refl _)
          rw [htk]
          obtain ⟨B, hB⟩ : ∃ B, nnB cs = B := ⟨_, rfl⟩
          obtain ⟨X, hX⟩ : ∃ X, allW cs = X := ⟨_, rfl⟩
          rw [hB] at HNN ⊢
          rw [hX] at HFU ⊢
          have hnn := HNN.out
          have hfu := HFU.out
          have HS5 := Lib.hid (HS1.out.trans (since_mono HS4.out HS1.out.size))
          clear htk hB hX
          by_cases hsm : sj = m
          · have hPX := hfu hsm
            have hsb : ((sj : Int) != (m : Int)) = false := by simp [hsm]
            have hpb : (P == X) = true := by simp [hPX]
            cases B
            · go_wp2_with fail
              refine (EZ.out _).mono ?_
              rintro e wz ⟨rfl, rfl⟩
              go_wp2
              go_ret
              exact ⟨rfl, HS5.out⟩
            · have hP0 := hnn rfl
              have hp0 : decide ((0 : Int) ≤ P) = true := by simpa using hP0
              go_wp2_with fail
              refine (EZ.out _).mono ?_
              rintro e wz ⟨rfl, rfl⟩
              go_wp2
              go_ret
              exact ⟨rfl, HS5.out⟩
          · have hsb : ((sj : Int) != (m : Int)) = true := by simp; omega
            cases B
            · go_wp2_with fail
              refine (EZ.out _).mono ?_
              rintro e wz ⟨rfl, rfl⟩
              go_wp2
              go_ret
              exact ⟨rfl, HS5.out⟩
            · have hP0 := hnn rfl
              have hp0 : decide ((0 : Int) ≤ P) = true := by simpa using hP0
              go_wp2_with fail
              refine (EZ.out _).mono ?_
              rintro e wz ⟨rfl, rfl⟩
              go_wp2
              go_ret
              exact ⟨rfl, HS5.out⟩

end Go.Proofs.Ytbclpbgomkfabaa
end

section
namespace Go.Proofs.Ytbclpbgomkfabaa
open Go.RowKit Go.Deep

theorem most_ge (L : List CH) (M : Nat) : ∀ F f, f < F → anyTo L f M = true → popcS f ≤ mostTo L M F
  | 0, f, h, _ => by omega
  | F + 1, f, h, ha => by
    show popcS f ≤ if anyTo L F M = true then max (mostTo L M F) (popcS F) else mostTo L M F
    by_cases e : f = F
    · subst e
      rw [if_pos ha]; omega
    · have ih := most_ge L M F f (by omega) ha
      split <;> omega
theorem most_at (L : List CH) (M : Nat) : ∀ F, mostTo L M F = 0 ∨ ∃ f, f < F ∧ anyTo L f M = true ∧ popcS f = mostTo L M F
  | 0 => .inl rfl
  | F + 1 => by
    have ih := most_at L M F
    show (if anyTo L F M = true then max (mostTo L M F) (popcS F) else mostTo L M F) = 0 ∨ ∃ f, f < F + 1 ∧ anyTo L f M = true ∧ popcS f = if anyTo L F M = true then max (mostTo L M F) (popcS F) else mostTo L M F
    by_cases ha : anyTo L F M = true
    · rw [if_pos ha]
      by_cases hm : mostTo L M F ≤ popcS F
      · exact .inr ⟨F, by omega, ha, by omega⟩
      · rcases ih with h | ⟨f, h1, h2, h3⟩
        · omega
        · exact .inr ⟨f, by omega, h2, by omega⟩
    · rw [if_neg ha]
      rcases ih with h | ⟨f, h1, h2, h3⟩
      · exact .inl h
      · exact .inr ⟨f, by omega, h2, h3⟩
theorem any_iff {L : List CH} {f M : Nat} : anyTo L f M = true ↔ ∃ t, t < M ∧ popcS f = popcS t ∧ 0 < famN L f t := by
  unfold anyTo
  rw [List.any_eq_true]
  constructor
  · rintro ⟨t, ht, h⟩
    rw [Bool.and_eq_true, beq_iff_eq] at h
    exact ⟨t, List.mem_range.1 ht, h.1, of_decide_eq_true h.2⟩
  · rintro ⟨t, ht, h1, h2⟩
    exact ⟨t, List.mem_range.2 ht, by rw [h1]; simp [h2]⟩
theorem fam_none : ∀ cs : List CH, famN cs 0 0 = 1
  | [] => by unfold famN; rfl
  | c :: cs => by
    have ih := fam_none cs
    unfold famN
    simp [ih]
theorem most_net {m : Nat} {cs : List RC} (h5 : m ≤ 5) (h1 : 1 ≤ m) (hc : ∀ c ∈ cs, chOk m (toC c)) :
    (rkR (outC m cs) (2 ^ m) (2 ^ m) : Nat) ≤ mostTo (oneL 0 cs) (2 ^ m) (2 ^ m) ∧ (nnB cs = true → rkR (outC m cs) (2 ^ m) (2 ^ m) = mostTo (oneL 0 cs) (2 ^ m) (2 ^ m)) := by
  have hok : ∀ c ∈ cs.map toC, chOk m c := fun c h => by
    obtain ⟨d, hd, rfl⟩ := List.mem_map.1 h
    exact hc d hd
  rw [one_zero]
  have hL : (outC m cs).length = m := outT_length m _
  have hW : ((outC m cs).getD 0 []).length = m := outT_row _ (by omega)
  have hp := Nat.two_pow_pos m
  have hn := net_most h5 hok hL hW (fun i k hi hk => outT_at _ hi hk) (M := mostTo ((cs.map toC).map oneZ) (2 ^ m) (2 ^ m)) (by
    rcases most_at ((cs.map toC).map oneZ) (2 ^ m) (2 ^ m) with h | ⟨f, g1, g2, g3⟩
    · exact ⟨0, 0, hp, hp, by rw [h]; decide, by rw [h]; decide, by rw [fam_none]; decide⟩
    · obtain ⟨t, t1, t2, t3⟩ := any_iff.1 g2
      exact ⟨f, t, g1, t1, g3, by rw [← t2]; exact g3, t3⟩) (fun s t hs ht hpp hf => most_ge _ _ _ s hs (any_iff.2 ⟨t, ht, hpp, hf⟩))
  exact ⟨hn.1, fun h => hn.2 fun c hcm => by
    obtain ⟨d, hd, rfl⟩ := List.mem_map.1 hcm
    unfold nnB at h
    rw [List.all_eq_true] at h
    rw [toC_w]
    exact of_decide_eq_true (h d hd)⟩

set_option maxRecDepth 100000 in
set_option maxHeartbeats 2000000 in
theorem fnNetMost (a : Option Addr) (cap n : Nat) (w : World) (hc : n ≤ cap) (h63 : cap ≤ 9223372036854775807) (hb : BytR w a n) :
    Calls Try.prog 6 #[.slice a n cap] w fun e w' => e = .returned (.bool true) ∧ w.Since w.heap.size w' := by
  by_cases hlen : 1048576 < n
  · have hl' : decide ((1048576 : Int) < (n : Int)) = true := by simp; omega
    clear hb
    go_enter Try.func6, Try.ntmps6
    go_wp2
    go_ret
    exact ⟨rfl, World.Since.refl _ _⟩
  · have hl' : decide ((1048576 : Int) < (n : Int)) = false := by simp; omega
    have ED := Lib.hid (drawNetMost_any a n cap w hc h63 hb)
    clear hb
    go_enter Try.func6, Try.ntmps6
    go_wp2_with fail
    refine (ED.out).mono ?_
    rintro e w1 ⟨m, a1, ca, cs, rfl, hs1, hm, hl, ⟨g, rfl⟩, hcl, hc63, ho⟩
    clear ED
    obtain ⟨N, hN⟩ : ∃ N, cs.length = N := ⟨_, rfl⟩
    rw [hN] at hl hcl ⊢
    have HS1 := Lib.hid hs1
    have E1 := fun (W : World) (h : w1.Since w1.heap.size W) => implNetMost_any (some ⟨g, 0, none⟩) ca N m cs W hN (by omega) (by omega) (ho.chips.since h)
    have E2 := fun (W : World) (h : w1.Since w1.heap.size W) => specNetMost_any (some ⟨g, 0, none⟩) ca N m cs W hN (by omega) (ho.chips.since h)
    cases hok : netB m cs with
    | false =>
      have hv : mostV m cs = 0 := by unfold mostV; rw [hok, if_neg (by simp)]
      simp only [hok, hv] at E1 E2
      replace E1 := Lib.hid E1
      replace E2 := Lib.hid E2
      clear ho hs1 hok hN hv
      go_wp2_with (first
        | (go_at_call 23; refine (E1.out _ (World.Since.refl _ _)).mono ?_; rintro e w2 ⟨rfl, hs2⟩; have HS2 := Lib.hid hs2; clear hs2)
        | (go_at_call 24; refine (E2.out _ HS2.out).mono ?_; rintro e w3 ⟨rfl, hs3⟩; have HS3 := Lib.hid (HS1.out.trans (since_mono (HS2.out.trans (since_mono hs3 HS2.out.size)) HS1.out.size)); clear hs3))
      go_ret
      exact ⟨rfl, HS3.out⟩
    | true =>
      obtain ⟨_, hq, ho2⟩ := netB_ok hok
      obtain rfl := Int.ofNat.inj hq
      have hv : mostV m cs = (mostTo (oneL 0 cs) (2 ^ m) (2 ^ m) : Nat) := by unfold mostV; rw [hok, if_pos rfl, Int.toNat_natCast]
      have hmn := most_net (m := m) hm.2 (by omega) (fun c hc => (ho2.ok c hc).2)
      have E3 := fun (W : World) (h : w1.Since w1.heap.size W) => implNetTable_any (some ⟨g, 0, none⟩) ca N m cs W hN (by omega) (ho.chips.since h)
      have hsz : szL (ntabL m cs) ≤ 1048576 := by
        unfold ntabL
        cases h : ntabB m cs with
        | false => simp [resT, szL, sumTo]
        | true =>
          unfold ntabB at h
          rw [Bool.and_eq_true] at h
          exact szL_tab (tabIn_of h.2)
      have E4 := fun (W : World) (a' : Option Addr) (c' : Nat) (h : MatR W a' (ntabL m cs)) => implValueRank_any a' c' _ (ntabL m cs) W rfl hsz h
      unfold SpecW at E4
      have hfact : ntabB m cs = true → tabIn (ntabL m cs) = true ∧ (rkR (ntabL m cs) (2 ^ ((ntabL m cs).getD 0 []).length) (2 ^ (ntabL m cs).length) ≤ mostTo (oneL 0 cs) (2 ^ m) (2 ^ m)) ∧ (nnB cs = true → rkR (ntabL m cs) (2 ^ ((ntabL m cs).getD 0 []).length) (2 ^ (ntabL m cs).length) = mostTo (oneL 0 cs) (2 ^ m) (2 ^ m)) := fun h => by
        have hL : ntabL m cs = outC m cs := by unfold ntabL; rw [h]; rfl
        have hLl : (outC m cs).length = m := outT_length m _
        have hW : ((outC m cs).getD 0 []).length = m := outT_row _ (by omega)
        unfold ntabB at h
        rw [Bool.and_eq_true] at h
        rw [hL, hLl, hW]
        exact ⟨h.2, hmn⟩
      obtain ⟨K, hK⟩ : ∃ K, mostTo (oneL 0 cs) (2 ^ m) (2 ^ m) = K := ⟨_, rfl⟩
      obtain ⟨R, hR⟩ : ∃ R, rkR (ntabL m cs) (2 ^ ((ntabL m cs).getD 0 []).length) (2 ^ (ntabL m cs).length) = R := ⟨_, rfl⟩
      rw [hK] at hv hfact
      rw [hR] at hfact
      simp only [hR] at E4
      simp only [hok, hv] at E1 E2
      obtain ⟨L, hL⟩ : ∃ L, ntabL m cs = L := ⟨_, rfl⟩
      rw [hL] at E3 E4 hfact
      obtain ⟨pB, hpB⟩ : ∃ b, ntabB m cs = b := ⟨_, rfl⟩
      rw [hpB] at E3 hfact
      obtain ⟨qB, hqB⟩ : ∃ b, tabIn L = b := ⟨_, rfl⟩
      rw [hqB] at E4 hfact
      obtain ⟨NL, hNL⟩ : ∃ x, L.length = x := ⟨_, rfl⟩
      rw [hNL] at E3 E4
      have HO := Lib.hid ho
      have HN := Lib.hid hN
      have HF := Lib.hid hfact
      replace E1 := Lib.hid E1
      replace E2 := Lib.hid E2
      replace E3 := Lib.hid E3
      replace E4 := Lib.hid E4
      clear ho hs1 hok hN hv ho2 hq hK hR hL hpB hqB hfact hmn hsz hNL
      go_wp2_with (first
        | (go_at_call 23; refine (E1.out _ (World.Since.refl _ _)).mono ?_; rintro e w2 ⟨rfl, hs2⟩; have HS2 := Lib.hid hs2; clear hs2)
        | (go_at_call 24; refine (E2.out _ HS2.out).mono ?_; rintro e w3 ⟨rfl, hs3⟩; have HS3 := Lib.hid (HS2.out.trans (since_mono hs3 HS2.out.size)); clear hs3))
      go_wp2_with fail
      refine (E3.out w3 HS3.out).mono ?_
      rintro e w4 ⟨a4, c4, rfl, hs4, ho4⟩
      have HS4 := Lib.hid (HS3.out.trans (since_mono hs4 HS3.out.size))
      have HM4 := Lib.hid ho4.matR
      clear hs4 ho4
      go_wp2_with fail
      refine (E4.out w4 a4 c4 HM4.out).mono ?_
      rintro e w5 ⟨rfl, hs5⟩
      have HS5 := Lib.hid (HS4.out.trans (since_mono hs5 HS4.out.size))
      clear hs5
      obtain ⟨rv, hrv⟩ : ∃ rv, (if qB = true then (R : Int) else 0) = rv := ⟨_, rfl⟩
      rw [hrv]
      have HRV := Lib.hid hrv
      clear hrv
      go_wp2
      go_loopg [13, 14] N (fun gg pv iv wr => ∃ r : Nat, r ≤ N ∧ gg = N - r ∧ iv = .int .i64 r ∧ pv = .bool (nnB (cs.take r)) ∧ w5.Since w5.heap.size wr)
      case atStart => exact ⟨0, Nat.zero_le _, rfl, rfl, rfl, World.Since.refl _ _⟩
      case round =>
        obtain ⟨r, hr, rfl, rfl, rfl, hS⟩ := hrel
        have HS6 := Lib.hid (HS5.out.trans (since_mono hS HS5.out.size))
        have HSX := Lib.hid hS
        clear hS
        by_cases hlt : r < N
        · obtain ⟨b, o, e, k1, k2, k3⟩ := (HO.out.chips.since HS6.out).at (show r < cs.length by rw [HN.out]; exact hlt)
          simp only [Option.some.injEq, Addr.mk.injEq, and_true] at e
          obtain ⟨rfl, rfl⟩ := e
          rw [Nat.zero_add] at k3
          have hts := take_map_snoc id cs r (by rw [HN.out]; exact hlt)
          simp only [List.map_id, id] at hts
          have hn1 := nnB_snoc (cs.take r) (cs.getD r rc0)
          rw [← hts] at hn1
          obtain ⟨V, hV⟩ : ∃ V, (cs.getD r rc0).w = V := ⟨_, rfl⟩
          rw [hV] at k3 hn1
          obtain ⟨B, hB⟩ : ∃ B, nnB (cs.take r) = B := ⟨_, rfl⟩
          rw [hB] at hn1 ⊢
          have hgs : ((r : Nat) : Int) < ((N : Nat) : Int) := by omega
          have HN1 := Lib.hid hn1
          clear hts hn1 hV hB k1 k2
          cases B
          · go_wp2
            go_roundg (N - (r + 1))
            case measure => omega
            case rel => exact ⟨r + 1, by omega, rfl, by go_num, by rw [HN1.out]; first | rfl | (simp only [Bool.true_and, ge_iff_le]), HSX.out⟩
          · go_wp2
            go_roundg (N - (r + 1))
            case measure => omega
            case rel => exact ⟨r + 1, by omega, rfl, by go_num, by rw [HN1.out]; first | rfl | (simp only [Bool.true_and, ge_iff_le]), HSX.out⟩
        · obtain rfl : r = N := by omega
          have htk : cs.take r = cs := List.take_of_length_le (by rw [HN.out]; exact Nat.le_refl _)
          rw [htk]
          obtain ⟨B, hB⟩ : ∃ B, nnB cs = B := ⟨_, rfl⟩
          rw [hB] at HF ⊢
          have hrv := HRV.out
          have HS7 := Lib.hid (HS1.out.trans (since_mono HS6.out HS1.out.size))
          clear htk hB
          cases pB
          · clear hrv
            go_wp2
            go_ret
            exact ⟨rfl, HS7.out⟩
          · obtain ⟨h1, h2, h3⟩ := HF.out rfl
            rw [h1, if_pos rfl] at hrv
            subst h1 hrv
            have hle : decide ((R : Int) ≤ (K : Int)) = true := by simp; omega
            cases B
            · go_wp2
              go_ret
              exact ⟨rfl, HS7.out⟩
            · have heq : ((R : Int) == (K : Int)) = true := by rw [h3 rfl]; simp
              go_wp2
              go_ret
              exact ⟨rfl, HS7.out⟩

end Go.Proofs.Ytbclpbgomkfabaa
end

section
namespace Go.Proofs.Ytbclpbgomkfabaa
open Go.ChangeShapes Go.WideShapes Go.ChangeAt Go.RowKit Go.Deep

theorem below_since' {B : Nat} {w w' : World} (h : Below B w w') : w.Since B w' := ⟨h.os, h.tape, h.output, h.size, h.block⟩
theorem since_below' {B : Nat} {w w' : World} (h : w.Since B w') : Below B w w' := ⟨h.os, h.tape, h.output, h.size, h.block⟩

section
variable {H : Type} {enc : TypeId × Value → H} {P : Program}
theorem post_of_below {f : Func} {s : ChangeSpec} {apart fresh handsOn again : Bool} {W W' : World} {args : Array Value} {v : Value} {ds gs : List (DataW H)} {before pa pv : List MemPlace}
    (hW : DataW.Whole enc P f.params.toList s.vars apart W args.toList ds gs before)
    (hres : ∀ (b : Nat) (sp : Nat → Bool) (hd : Bool), DataW.TrodAll enc P W' b sp hd f.resultTypes.toList (v.resultList f.resultTypes.size) (s.fn H (ds ++ gs)).results [])
    (hargs : ∀ sp : Nat → Bool, (∀ p ∈ before, sp p.block = true) → DataW.TrodAll enc P W' 0 sp true f.params.toList args.toList (s.fn H (ds ++ gs)).args pa)
    (hvars : ∀ sp : Nat → Bool, (∀ p ∈ before, sp p.block = true) → DataW.TrodVars enc P W' sp s.vars (s.fn H (ds ++ gs)).vars pv)
    (hps : before = pa ++ pv) (hb : Below W.heap.size W W') (hag : again = false) :
    s.post enc P f apart fresh handsOn again W args v W' := by
  have hlt : ∀ p ∈ before, p.block < W.heap.size := fun p hp => hW.lt p hp
  have hold : ∀ p ∈ before, (fun b => decide (b < W.heap.size)) p.block = true := fun p hp => by simpa using hlt p hp
  refine ⟨ds, gs, before, [], pa, pv, hW, hres _ _ _, hargs _ hold, hvars _ hold, World.keptBut_mono (fun p hp => ⟨hp, ?_⟩) (hb.frame (· ∈ before)), fun h => ?_⟩
  · rw [hps, List.mem_append] at hp
    exact Or.inr hp
  · rw [hag] at h; cases h

theorem open_mat {W : World} {t e q : TypeId} {a : Option Addr} {n cap : Nat} {d : DataW H} {p : List MemPlace} (ht : P.underlying t = some (.slice e)) (he : P.underlying e = some (.slice q)) (hq : P.underlying q = some (.int .i64))
    (ce : P.cellsOf e = 1) (cq : P.cellsOf q = 1) (h : DataW.Trod enc P W 0 (fun _ => true) true t (.slice a n cap) d p) :
    ∃ l : List (List Int), l.length = n ∧ MatR W a l ∧ n ≤ 9223372036854775807 ∧ ∀ r, r < l.length → (l.getD r []).length ≤ 9223372036854775807 := by
  obtain ⟨fuel, hf⟩ := h
  rcases open_int_rows ht he hq ce cq hf with ⟨hcs, _⟩ | ⟨a', len', cap', A, L, C, Z, hcs, _, hl, hm, _, hrows⟩
  · simp [Value.cells] at hcs
    obtain ⟨rfl, rfl, rfl⟩ := hcs
    exact ⟨[], rfl, (fun h => by simp at h), by omega, fun r hr => by simp at hr⟩
  · simp [Value.cells] at hcs
    obtain ⟨rfl, rfl, rfl⟩ := hcs
    have hmx : maxLen = 9223372036854775807 := rfl
    have hlen : ∀ r, r < n → ((Z r).take (L r)).length = L r := fun r hr => by
      obtain ⟨_, h1, _, h2, _⟩ := hrows r (by omega)
      rw [List.length_take]; omega
    have hget : ∀ r, r < n → ((List.range n).map fun r => (Z r).take (L r)).getD r [] = (Z r).take (L r) := fun r hr => by simp [List.getD, hr]
    refine ⟨(List.range n).map fun r => (Z r).take (L r), by simp, fun h => ?_, by omega, fun r hr => ?_⟩
    · obtain ⟨b, o, spot⟩ := a'
      simp at h
      have hspot : spot = none := by simpa [Addr.add] using World.cell?_spot (hrows 0 (by omega)).1
      subst hspot
      refine ⟨b, o, A, C, rfl, fun r hr => ?_⟩
      simp at hr
      rw [hget r hr, hlen r hr]
      obtain ⟨g1, g2, g3, g4, g5, g6, g7⟩ := hrows r (by omega)
      refine ⟨by rw [← add_plain]; exact g1, fun h0 => ?_⟩
      rw [hlen r hr] at h0
      cases hA : A r with
      | none => have := g6 hA; omega
      | some a'' =>
        obtain ⟨_, hcell⟩ := g7 a'' hA
        obtain ⟨b', o', sp⟩ := a''
        have hs : sp = none := by simpa [Addr.add] using World.cell?_spot (hcell 0 (by omega))
        subst hs
        refine ⟨b', o', rfl, fun i hi => ?_⟩
        rw [hlen r hr] at hi
        rw [← add_plain, hcell i (by omega)]
        congr 2
        simp [List.getD, hi]
    · simp at hr
      rw [hget r hr, hlen r hr]
      obtain ⟨_, h1, h2, _⟩ := hrows r (by omega)
      omega
end

theorem Try.own : ownKnob Try.prog.godebug = none := by kernel_rfl
theorem Try.laidOut : laidOutB Try.prog = true := by kernel_rfl
theorem Try.cellsR : Try.prog.cellsOf 43 = 1 := by kernel_rfl
theorem Try.cellsI : Try.prog.cellsOf 3 = 1 := by kernel_rfl

end Go.Proofs.Ytbclpbgomkfabaa
end

section
namespace Go.Proofs.Ytbclpbgomkfabaa
open Go.ChangeShapes Go.WideShapes Go.ChangeAt Go.RowKit Go.Deep

theorem wf_u8_of {n : Int} (h : (Lit.int .u8 n).wf = true) : 0 ≤ n ∧ n ≤ 255 := by
  have h2 : (0 : Int) ≤ n ∧ n ≤ 255 := by simpa [Lit.wf, IntKind.min, IntKind.max, IntKind.signed, IntKind.bits] using h
  exact h2

theorem open_bytes {H : Type} {enc : TypeId × Value → H} {P : Program} {W : World} {t e : TypeId} {a : Option Addr} {n cap : Nat} {d : DataW H} {p : List MemPlace} (ht : P.underlying t = some (.slice e)) (he : P.underlying e = some (.int .u8)) (ce : P.cellsOf e = 1)
    (h : DataW.Trod enc P W 0 (fun _ => true) true t (.slice a n cap) d p) : BytR W a n ∧ n ≤ cap ∧ cap ≤ 9223372036854775807 := by
  obtain ⟨fuel, hf⟩ := h
  rcases open_ints ht he ce hf with ⟨hcs, _⟩ | ⟨a', len, cap', zs, hcs, _, hl, hm, hlen, _, hcell, hwf⟩
  · simp [Value.cells] at hcs
    obtain ⟨rfl, rfl, rfl⟩ := hcs
    exact ⟨fun h => absurd h (by omega), by omega, by omega⟩
  · simp [Value.cells] at hcs
    obtain ⟨rfl, rfl, rfl⟩ := hcs
    have hmx : maxLen = 9223372036854775807 := rfl
    have hzl : zs.length = cap := by simpa using hlen
    refine ⟨fun h0 => ?_, by omega, by omega⟩
    obtain ⟨b, o, spot⟩ := a'
    have hspot : spot = none := by simpa [Addr.add] using World.cell?_spot (hcell 0 (by omega))
    subst hspot
    refine ⟨b, o, rfl, fun i hi => ?_⟩
    have hi' : i < zs.length := by omega
    have hw := wf_u8_of (hwf (zs.getD i 0) (by simp [List.getD, hi']))
    obtain ⟨z, hz⟩ := Int.eq_ofNat_of_zero_le hw.1
    refine ⟨z, by omega, ?_⟩
    rw [← add_plain, hcell i hi', hz]

theorem Try.cellsB : Try.prog.cellsOf 5 = 1 := by kernel_rfl

end Go.Proofs.Ytbclpbgomkfabaa
end

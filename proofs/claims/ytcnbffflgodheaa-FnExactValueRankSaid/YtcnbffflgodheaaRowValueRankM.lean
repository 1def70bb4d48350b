import Derived.Test.YtcnbffflgodheaaUnitSpec
import Derived.Test.YtcnbffflgodheaaPartsI
import Derived.Test.YtcnbffflgodheaaRankV
import Derived.Test.YtcnbffflgodheaaOrdDet
import Derived.Test.YtcnbffflgodheaaRows
import Derived.Test.YtcnbffflgodheaaData
import Derived.ProofKit
import Derived.Deep.Matrix

section
namespace Go.Proofs.Ytcnbffflgodheaa
open Go.RowKit Go.Deep

set_option maxRecDepth 100000 in
set_option maxHeartbeats 1000000 in
theorem lawValueRank_aux (a0 : Option Addr) (cap0 n0 : Nat) (l0 : List (List Int)) (ok : Bool) (v : Int) (w : World) (hn0 : l0.length = n0) (h630 : n0 ≤ 9223372036854775807) (hl0 : ∀ r, r < l0.length → (l0.getD r []).length ≤ 9223372036854775807) (hm0 : MatR w a0 l0)
    (hspec : szL l0 ≤ 1048576 → ∀ (W : World) (b0 : Option Addr) (c0 : Nat), MatR W b0 l0 → Calls Try.prog 26 #[.slice b0 n0 c0] W (fun e w' => e = .returned (.tuple #[.int .i64 v, .bool ok]) ∧ W.Since W.heap.size w'))
    (himpl : szL l0 ≤ 1048576 → ∀ (W : World) (b0 : Option Addr) (c0 : Nat), MatR W b0 l0 → Calls Try.prog 27 #[.slice b0 n0 c0] W (fun e w' => e = .returned (.tuple #[.int .i64 v, .bool ok]) ∧ W.Since W.heap.size w')) :
    Calls Try.prog 6 #[.slice a0 n0 cap0] w fun e w' => e = .returned (.bool true) ∧ w.Since w.heap.size w' := by
  have HN0 := Lib.hid hn0
  have HL0 := Lib.hid hl0
  have HM0 := Lib.hid hm0
  have HSPEC := Lib.hid hspec
  have HIMPL := Lib.hid himpl
  clear hspec himpl hn0 hl0 hm0
  go_enter Try.func6, Try.ntmps6
  have hz0 := szIntSS_any a0 cap0 l0 (1048576) w (by omega) (by omega) (by rw [HN0.out]; exact h630) HL0.out HM0.out
  rw [HN0.out] at hz0
  have HZ0 := Lib.hid hz0
  clear hz0
  go_wp2_with fail
  refine (HZ0.out).mono ?_
  rintro e w' ⟨r0, rfl, hra0, hrb0, rfl⟩
  by_cases hr00 : r0 < 0
  · go_wp2
    go_ret
    exact ⟨rfl, World.Since.refl _ _⟩
  have hs0 : r0 = 1048576 - szL l0 := hrb0 (by omega)
  have hle0 : r0 ≤ 1048576 := by omega
  have HS0 := Lib.hid hs0
  clear hrb0
  clear hs0
  have hzl0 : szL l0 ≤ 1048576 := by have e0 := HS0.out; omega
  have hst0 : sumTo l0 n0 ≤ 1048576 := by rw [← HN0.out]; unfold szL at hzl0; omega
  have hsum : sumTo l0 n0 ≤ 1048576 := by have e0 := HS0.out; have f0 : szL l0 = n0 + sumTo l0 n0 := (by unfold szL; rw [HN0.out]); omega
  have HCP0 := Lib.hid (fun (W : World) (hs : w.Since w.heap.size W) => toIntSS_any a0 cap0 n0 l0 W HN0.out hzl0 (HM0.out.since hs))
  have s0 : w.Since w.heap.size w := World.Since.refl _ _
  cases ok
  all_goals
    go_wp2_with fail
    refine (HCP0.out _ s0).mono ?_
    rintro e w1 ⟨rfl, c1⟩
    have o1 := c1.ownT HN0.out
    have t1 := c1.since
    clear c1
    have s1 : w.Since w.heap.size w1 := s0.trans (since_mono t1 s0.size)
    have z1 := t1.size
    go_wp2_with fail
    refine (HSPEC.out (hzl0) _ _ _ o1.matR).mono ?_
    rintro e w2 ⟨rfl, t2⟩
    have s2 : w.Since w.heap.size w2 := s1.trans (since_mono t2 s1.size)
    have z2 := t2.size
    replace o1 := o1.since t2
    clear o1
    go_wp2_with fail
    refine (HCP0.out _ s2).mono ?_
    rintro e w3 ⟨rfl, c3⟩
    have o3 := c3.ownT HN0.out
    have t3 := c3.since
    clear c3
    have s3 : w.Since w.heap.size w3 := s2.trans (since_mono t3 s2.size)
    have z3 := t3.size
    have gx0 := o3
    clear o3
    go_wp2_with fail
    refine (HIMPL.out (hzl0) _ _ _ gx0.matR).mono ?_
    rintro e w4 ⟨rfl, t4⟩
    have s4 : w.Since w.heap.size w4 := s3.trans (since_mono t4 s3.size)
    have z4 := t4.size
    replace gx0 := gx0.since t4
    go_wp2_with fail
    refine (HCP0.out _ s4).mono ?_
    rintro e w5 ⟨rfl, c5⟩
    have o5 := c5.ownT HN0.out
    have t5 := c5.since
    clear c5
    have s5 : w.Since w.heap.size w5 := s4.trans (since_mono t5 s4.size)
    have z5 := t5.size
    replace gx0 := gx0.since t5
    go_wp2_with fail
    refine (eqIntSS_same _ _ _ _ _ l0 _ HN0.out h630 HL0.out gx0.matR o5.matR).mono ?_
    rintro e w6 ⟨rfl, d6⟩
    have t6 := d6.since w5.heap.size
    clear d6
    have s6 : w.Since w.heap.size w6 := s5.trans (since_mono t6 s5.size)
    have z6 := t6.size
    replace gx0 := gx0.since t6
    replace o5 := o5.since t6
    clear o5
    go_wp2
    go_ret
    exact ⟨rfl, s6⟩

end Go.Proofs.Ytcnbffflgodheaa
end

section
namespace Go.Proofs.Ytcnbffflgodheaa
open Go.RowKit Go.Deep Go.Shelf

attribute [local go_sem] Oper.semAt_some

def hasR (l : List (List Int)) (k M2 : Nat) (r : Nat) : Bool := (setsTo k M2).any fun c => decide (dt k (at2 (partL l r c)) ≠ 0)
def hasB (l : List (List Int)) (k M1 M2 : Nat) : Bool := (setsTo k M1).any (hasR l k M2)
theorem hasB_yes {l : List (List Int)} {k n m : Nat} {x : Nat × Nat} (hx : x ∈ partsK k n m) (h : mnP l x ≠ 0) : hasB l k (2 ^ n) (2 ^ m) = true := by
  obtain ⟨⟨g1, g2⟩, g3⟩ := partsK_mem.1 hx
  refine List.any_eq_true.2 ⟨x.1, (setsTo_mem k).2 ⟨g1, g2⟩, List.any_eq_true.2 ⟨x.2, (setsTo_mem k).2 g3, ?_⟩⟩
  unfold mnP at h
  rw [g2] at h
  simpa using h
theorem hasB_no {l : List (List Int)} {k n m : Nat} (h : ∀ x ∈ partsK k n m, mnP l x = 0) : hasB l k (2 ^ n) (2 ^ m) = false := by
  cases e : hasB l k (2 ^ n) (2 ^ m) with
  | false => rfl
  | true =>
    obtain ⟨r, hr, e2⟩ := List.any_eq_true.1 e
    obtain ⟨c, hc, e3⟩ := List.any_eq_true.1 e2
    have g1 := (setsTo_mem k).1 hr
    have g2 := (setsTo_mem k).1 hc
    have := h (r, c) (partsK_mem.2 ⟨g1, g2⟩)
    unfold mnP at this
    rw [show popcS (r, c).1 = k from g1.2] at this
    exact absurd this (of_decide_eq_true e3)

theorem oldT_since {w W : World} (h : w.Since w.heap.size W) : OldT w.heap.size w W := fun k hk => h.block k hk
theorem grownSH {w w' : World} (h : w.Since w.heap.size w') : w.grownBy w' none := ⟨h.os, h.tape, h.output, h.size, fun k hk _ => h.block k hk⟩
structure HS (w : World) (tv : Value) (W : World) : Prop where
  bt : Boxed W w.heap.size 54 tv
  br : Boxed W (w.heap.size + 1) 4 (.bool false)
  sn : w.Since w.heap.size W
theorem since_row {lo : Nat} {w W W' : World} {row : Option Nat} (h : w.Since lo W) (hlo : lo ≤ w.heap.size) (hg : W.grownBy W' row) (hr : ∀ r, row = some r → lo ≤ r) : w.Since lo W' :=
  ⟨hg.os.trans h.os, hg.tape.trans h.tape, hg.output.trans h.output, Nat.le_trans h.size hg.size, fun k hk => (hg.block k (by have := h.size; omega) (fun e => by have := hr k e.symm; omega)).trans (h.block k hk)⟩
theorem HS.kept {w W W' : World} {tv : Value} {row : Option Nat} (h : HS w tv W) (hg : W.grownBy W' row) (hr : ∀ r, row = some r → w.heap.size + 2 ≤ r) : HS w tv W' :=
  ⟨h.bt.kept hg (fun e => by have := hr _ e.symm; omega), h.br.kept hg (fun e => by have := hr _ e.symm; omega), since_row h.sn (Nat.le_refl _) hg (fun r e => by have := hr r e; omega)⟩

set_option maxRecDepth 100000 in
set_option maxHeartbeats 2000000 in
theorem hasMinor_any (a : Option Addr) (cap n m k : Nat) (l : List (List Int)) (w : World) (hn : l.length = n) (hmm : (l.getD 0 []).length = m) (hT : TabIn l) (hm : MatR w a l) :
    Calls Try.prog 101 #[.slice a n cap, .int .i64 k] w fun e w' => e = .returned (.bool (hasB l k (2 ^ n) (2 ^ m))) ∧ w.Since w.heap.size w' := by
  have HSEQ := Lib.hid (fun (g : Nat) (hg : 12 ≤ g) (Bt' Bk' : Nat) (V : World) => kth_seqE g hg Bt' Bk' n m cap k a l w V hn hT hmm hm)
  have EM := Lib.hid (fun (x : Nat × Nat) (hx : x ∈ partsK k n m) (V : World) (h : w.Since w.heap.size V) => minor_any a cap n m x.1 x.2 l V hn hmm hT (partsK_mem.1 hx).1.1 (partsK_mem.1 hx).2.1 ((partsK_mem.1 hx).1.2.trans (partsK_mem.1 hx).2.2.symm) (hm.since h))
  clear hn hmm hT hm
  refine (callsIn_wide (n := 20)).1 ?_
  refine callsIn_of_wp_marks Try.func101 rfl trivial ?_ rfl
  simp only [Try.ntmps101, List.size_toArray, List.length_cons, List.length_nil, Nat.reduceAdd, Nat.reduceSub, Array.replicate_succ, Array.replicate_zero, List.push_toArray, List.append_toArray, List.nil_append, List.cons_append]
  gi_wp2_with (refine ⟨trivial, ?_⟩; gi_at_call 117; refine (kthParts_in _ _ _ _ _ _).mono ?_; rintro e w' ⟨rfl, rfl⟩)
  have hb0 := Boxed.new w 54 (.slice a n cap)
  have hr0 := Boxed.new (w.alloc (.cells #[.slice a n cap] 54)) 4 (.bool false)
  rw [World.size_alloc] at hr0
  have hS0 : HS w (.slice a n cap) ((w.alloc (.cells #[.slice a n cap] 54)).alloc (.cells #[.bool false] 4)) := ⟨hb0.alloc _, hr0, ((World.Since.refl _ w).alloc (Nat.le_refl _) _).alloc (by simp) _⟩
  obtain ⟨w2, hw2⟩ : ∃ W, (w.alloc (.cells #[.slice a n cap] 54)).alloc (.cells #[.bool false] 4) = W := ⟨_, rfl⟩
  have z2 : w2.heap.size = w.heap.size + 1 + 1 := by rw [← hw2]; simp
  rw [hw2] at hS0 ⊢
  clear hw2 hb0 hr0
  have bt := cell_alloc_l (.cells #[.int .i64 (k : Int)] 3) (cell_new_l w2 (.slice a n cap) 54).1
  have bk := (cell_new_l (w2.alloc (.cells #[.slice a n cap] 54)) (.int .i64 (k : Int)) 3).1
  have hg := (World.grownBy_alloc w2 (.cells #[.slice a n cap] 54) none).trans (World.grownBy_alloc _ (.cells #[.int .i64 (k : Int)] 3) none)
  have hS1 := hS0.kept hg (fun r e => by cases e)
  have zV : ((w2.alloc (.cells #[.slice a n cap] 54)).alloc (.cells #[.int .i64 (k : Int)] 3)).heap.size = w.heap.size + 4 := by simp [z2]
  simp only [World.size_alloc] at bk
  rw [z2] at bt bk
  obtain ⟨V, hV⟩ : ∃ V, (w2.alloc (.cells #[.slice a n cap] 54)).alloc (.cells #[.int .i64 (k : Int)] 3) = V := ⟨_, rfl⟩
  rw [hV] at bt bk hS1 zV ⊢
  clear hV hS0 hg z2
  refine rangeF (F := Fence.wide) (n := 20) rfl (by omega) (gf := 135) (lb := #[.pointer (some ⟨w.heap.size + 1 + 1, 0, none⟩), .pointer (some ⟨w.heap.size + 1 + 1 + 1, 0, none⟩)]) rfl trivial (enters_of Try.func135 (by kernel_rfl) rfl)
    (HSEQ.out 19 (by omega) (w.heap.size + 1 + 1) (w.heap.size + 1 + 1 + 1) V (oldT_since hS1.sn) (by omega) (by omega) (by omega) bt bk) (fun _ => rfl) (fun q => q = w.heap.size + 1) (fun q hq => ⟨by omega, by omega⟩) (fun q hq => by omega)
    (fun (ps : List (Nat × Nat)) X => (HS w (.slice a n cap) X ∧ V.heap.size ≤ X.heap.size) ∧ ∀ x ∈ ps, mnP l x = 0)
    (fun c _ X => c = .ret ∧ Boxed X (w.heap.size + 1) 4 (.bool true) ∧ w.Since w.heap.size X ∧ hasB l k (2 ^ n) (2 ^ m) = true)
    (fun ps X Y row hs hg hr => ⟨⟨hs.1.1.kept hg (fun r e => by have := hr r e; omega), Nat.le_trans hs.1.2 hg.size⟩, hs.2⟩)
    (fun c ps X Y row hs hg hr => ⟨hs.1, hs.2.1.kept hg (fun e => by have := hr _ e.symm; omega), since_row hs.2.2.1 (Nat.le_refl _) hg (fun r e => by have := hr r e; omega), hs.2.2.2⟩)
    ⟨⟨hS1, Nat.le_refl _⟩, fun x hx => by cases hx⟩
    (fun x a'' _ => a'' = { tmps := #[.slice a n cap, .int .i64 k, .pointer (some ⟨w.heap.size, 0, none⟩), undef, .pointer (some ⟨w.heap.size + 1, 0, none⟩), .int .i64 (x.1 : Int), .int .i64 (x.2 : Int), .slice a n cap, .int .i64 k, .func (.func 135) #[] #[.pointer (some ⟨w.heap.size + 1 + 1, 0, none⟩), .pointer (some ⟨w.heap.size + 1 + 1 + 1, 0, none⟩)], .int .i64 (x.1 : Int), .int .i64 (x.2 : Int), undef, undef, undef, undef, undef], defers := [] })
    (fun _ _ _ _ _ _ hA _ _ => hA)
    ?assign ?body ?done ?stop
  case assign =>
    rintro lq ps x Y K _ hi _ hK
    simp only [encP]
    gi_wp2
    exact hK _ _ (Keeps.refl _ _) hi rfl
  case body =>
    rintro lq ps x a'' Y hlq hzY _ ⟨⟨hS, hz⟩, hp⟩ hpx rfl hlen
    have cT := hS.bt.cell
    have E := Lib.hid (EM.out x hpx Y hS.sn)
    have HSS := Lib.hid hS
    have HY := Lib.hid (show mnP l x ≠ 0 → hasB l k (2 ^ n) (2 ^ m) = true from fun h => hasB_yes hpx h)
    have HP := Lib.hid hp
    clear hS hp hpx
    obtain ⟨x1, x2⟩ := x
    simp only at E HY ⊢
    obtain ⟨v, hv⟩ : ∃ v, mnP l (x1, x2) = v := ⟨_, rfl⟩
    rw [hv] at E HY
    have HV := Lib.hid hv
    clear hv
    by_cases hv0 : v = 0
    · have hvb : (v != 0) = false := by simp [hv0]
      gi_wp2_with (refine ⟨trivial, ?_⟩; gi_at_call 68; refine (CallsIn.inRound lq (callsIn_wide.2 E.out)).mono ?_; rintro e Z ⟨rfl, hs2⟩; have HS2 := Lib.hid hs2; clear hs2)
      have hg := grownSH HS2.out
      exact ⟨Keeps.grown hg (fun r e => by cases e), ⟨HSS.out.kept hg (fun r e => by cases e), by have := hg.size; omega⟩, fun p hp => by
        rcases List.mem_append.1 hp with h | h
        · exact HP.out _ h
        · simp only [List.mem_singleton] at h
          rw [h, HV.out, hv0]⟩
    · have hvb : (v != 0) = true := by simp [hv0]
      gi_wp2_with (refine ⟨trivial, ?_⟩; gi_at_call 68; refine (CallsIn.inRound lq (callsIn_wide.2 E.out)).mono ?_; rintro e Z ⟨rfl, hs2⟩; have HS2 := Lib.hid hs2; have hrB := HSS.out.br.kept (grownSH HS2.out) (by simp); have cR := hrB.cell; have fR := hrB.frozen; clear hs2)
      have hg := grownSH HS2.out
      exact ⟨(Keeps.grown hg (fun r e => by cases e)).trans (Keeps.grown (grownBy_setCell' Z (w.heap.size + 1) _) (fun r e => by cases e; rfl)), rfl, hrB.set _, (HSS.out.kept hg (fun r e => by cases e)).sn.setCell (by simp) _, HY.out hv0⟩
  case done =>
    rintro D ps X hD rfl ⟨⟨hS, hz⟩, hp⟩ hK
    have cS := hS.br.cell
    have fS := hS.br.frozen
    have hb : hasB l k (2 ^ n) (2 ^ m) = false := hasB_no hp
    have hlt := (Array.getElem?_eq_some_iff.1 hK).1
    have hK2 : (X.setCell ⟨w.heap.size + 1, 0, none⟩ (.bool false)).heap[D]? = some (.deferred (some [])) := ((grownBy_setCell' X (w.heap.size + 1) (.bool false)).block D hlt (fun e => by injection e; omega)).trans hK
    have hB3 := (hS.br.set (.bool false)).kept (grownBy_putObj' (X.setCell ⟨w.heap.size + 1, 0, none⟩ (.bool false)) D (.deferred none)) (fun e => by injection e; omega)
    have cB := hB3.cell
    have hsn := since_row (hS.sn.setCell (a := ⟨w.heap.size + 1, 0, none⟩) (by simp) (.bool false)) (Nat.le_refl _) (grownBy_putObj' (X.setCell ⟨w.heap.size + 1, 0, none⟩ (.bool false)) D (.deferred none)) (fun r e => by cases e; omega)
    gi_wp2
    refine ⟨by simp, .inl ⟨_, _, rfl, run_takeDeferred hK2, ?_⟩⟩
    refine ⟨.bool false, ?_, by rw [hb], hsn⟩
    have cB' := cB
    simp [results, Try.f101, go_sem, cB']
  case stop =>
    rintro D c ps X hD _ ⟨rfl, bR, hs, hb⟩ hK
    have hB3 := bR.kept (grownBy_putObj' X D (.deferred none)) (fun e => by injection e; omega)
    have cB := hB3.cell
    have hsn := since_row hs (Nat.le_refl _) (grownBy_putObj' X D (.deferred none)) (fun r e => by cases e; omega)
    gi_wp2
    refine ⟨by simp, .inl ⟨_, _, rfl, run_takeDeferred hK, ?_⟩⟩
    refine ⟨.bool true, ?_, by rw [hb], hsn⟩
    have cB' := cB
    simp [results, Try.f101, go_sem, cB']

end Go.Proofs.Ytcnbffflgodheaa
end

section
namespace Go.Proofs.Ytcnbffflgodheaa
open Go.RowKit Go.Deep

def nzM (l : List (List Int)) (r c : Nat) : Prop := popcS r = popcS c ∧ ordF (partL l r c) (popcS r) (popcS r) 0 ≠ 0
theorem stepR_ge (l : List (List Int)) (r c b : Nat) : b ≤ stepR l r c b := by
  unfold stepR
  split
  · omega
  · omega
theorem stepR_yes {l : List (List Int)} {r c : Nat} (h : nzM l r c) (b : Nat) : popcS r ≤ stepR l r c b := by
  unfold stepR
  by_cases hb : b < popcS r
  · rw [if_pos ⟨h.1, hb, h.2⟩]; omega
  · have := stepR_ge l r c b
    unfold stepR at this
    omega
theorem stepR_ex (l : List (List Int)) (r c b : Nat) : stepR l r c b = b ∨ (stepR l r c b = popcS r ∧ nzM l r c) := by
  unfold stepR
  split
  · rename_i h; exact .inr ⟨rfl, h.1, h.2.2⟩
  · exact .inl rfl
theorem rkC_step (l : List (List Int)) (r b : Nat) : ∀ c, 1 ≤ c → b ≤ rkC l r b c ∧ (∀ c', 1 ≤ c' → c' < c → nzM l r c' → popcS r ≤ rkC l r b c) ∧ (rkC l r b c = b ∨ (rkC l r b c = popcS r ∧ ∃ c', c' < c ∧ nzM l r c'))
  | 0, h => by omega
  | 1, _ => by rw [rkC_one]; exact ⟨by omega, fun c' h1 h2 => by omega, .inl rfl⟩
  | c + 2, _ => by
    obtain ⟨i1, i2, i3⟩ := rkC_step l r b (c + 1) (by omega)
    rw [rkC_succ l r b (by omega)]
    have g := stepR_ge l r (c + 1) (rkC l r b (c + 1))
    refine ⟨by omega, fun c' h1 h2 hn => ?_, ?_⟩
    · by_cases e : c' = c + 1
      · subst e; exact stepR_yes hn _
      · have := i2 c' h1 (by omega) hn
        omega
    · rcases stepR_ex l r (c + 1) (rkC l r b (c + 1)) with e | ⟨e, hn⟩
      · rw [e]
        rcases i3 with e2 | ⟨e2, c', h1, h2⟩
        · exact .inl e2
        · exact .inr ⟨e2, c', by omega, h2⟩
      · exact .inr ⟨e, c + 1, by omega, hn⟩
theorem rkR_step (l : List (List Int)) (C : Nat) (hC : 1 ≤ C) : ∀ r, 1 ≤ r → (∀ r' c', 1 ≤ r' → r' < r → 1 ≤ c' → c' < C → nzM l r' c' → popcS r' ≤ rkR l C r) ∧ (rkR l C r = 0 ∨ ∃ r' c', r' < r ∧ c' < C ∧ nzM l r' c' ∧ rkR l C r = popcS r')
  | 0, h => by omega
  | 1, _ => by rw [rkR_one]; exact ⟨fun r' c' h1 h2 => by omega, .inl rfl⟩
  | r + 2, _ => by
    obtain ⟨i1, i2⟩ := rkR_step l C hC (r + 1) (by omega)
    rw [rkR_succ l C (by omega)]
    obtain ⟨j1, j2, j3⟩ := rkC_step l (r + 1) (rkR l C (r + 1)) C hC
    refine ⟨fun r' c' h1 h2 h3 h4 hn => ?_, ?_⟩
    · by_cases e : r' = r + 1
      · subst e; exact j2 c' h3 h4 hn
      · have := i1 r' c' h1 (by omega) h3 h4 hn
        omega
    · rcases j3 with e | ⟨e, c', h1, h2⟩
      · rw [e]
        rcases i2 with e2 | ⟨r', c', h1, h2, h3, h4⟩
        · exact .inl e2
        · exact .inr ⟨r', c', by omega, h2, h3, h4⟩
      · exact .inr ⟨r + 1, c', by omega, h1, h2, e⟩
theorem popc_le_n : ∀ n : Fin 7, ∀ s : Fin 64, s.val < 2 ^ n.val → popcS s.val ≤ n.val := by decide +kernel
theorem hasB_iff {l : List (List Int)} {k M1 M2 : Nat} : hasB l k M1 M2 = true ↔ ∃ r c, (r < M1 ∧ popcS r = k) ∧ (c < M2 ∧ popcS c = k) ∧ dt k (at2 (partL l r c)) ≠ 0 := by
  unfold hasB hasR
  rw [List.any_eq_true]
  constructor
  · rintro ⟨r, hr, h⟩
    obtain ⟨c, hc, h⟩ := List.any_eq_true.1 h
    exact ⟨r, c, (setsTo_mem k).1 hr, (setsTo_mem k).1 hc, by simpa using h⟩
  · rintro ⟨r, c, hr, hc, h⟩
    exact ⟨r, (setsTo_mem k).2 hr, List.any_eq_true.2 ⟨c, (setsTo_mem k).2 hc, by simpa using h⟩⟩
theorem rank_down {l : List (List Int)} {n m : Nat} (hn : n ≤ 6) (hm : m ≤ 6) :
    rkR l (2 ^ m) (2 ^ n) ≤ n ∧ rkR l (2 ^ m) (2 ^ n) ≤ m ∧ ∀ k, 1 ≤ k → (hasB l k (2 ^ n) (2 ^ m) = true → k ≤ rkR l (2 ^ m) (2 ^ n)) ∧ (hasB l k (2 ^ n) (2 ^ m) = false → rkR l (2 ^ m) (2 ^ n) ≠ k) := by
  have p1 : 2 ^ n ≤ 2 ^ 6 := Nat.pow_le_pow_right (by omega) hn
  have p2 : 2 ^ m ≤ 2 ^ 6 := Nat.pow_le_pow_right (by omega) hm
  have q1 : 1 ≤ 2 ^ n := Nat.pow_pos (by omega)
  have q2 : 1 ≤ 2 ^ m := Nat.pow_pos (by omega)
  obtain ⟨s1, s2⟩ := rkR_step l (2 ^ m) q2 (2 ^ n) q1
  have hle : rkR l (2 ^ m) (2 ^ n) ≤ n ∧ rkR l (2 ^ m) (2 ^ n) ≤ m := by
    rcases s2 with e | ⟨r, c, h1, h2, h3, h4⟩
    · omega
    · have e1 := popc_le_n ⟨n, by omega⟩ ⟨r, by omega⟩ h1
      have e2 := popc_le_n ⟨m, by omega⟩ ⟨c, by omega⟩ h2
      have := h3.1
      simp only at e1 e2
      omega
  refine ⟨hle.1, hle.2, fun k hk => ⟨fun h => ?_, fun h e => ?_⟩⟩
  · obtain ⟨r, c, ⟨r1, r2⟩, ⟨c1, c2⟩, hd⟩ := hasB_iff.1 h
    have g1 := popcS_pos ⟨r, by omega⟩ (by rw [r2]; exact hk)
    have g2 := popcS_pos ⟨c, by omega⟩ (by rw [c2]; exact hk)
    have hk6 : k ≤ 6 := by rw [← r2]; exact popcS_le r
    have := s1 r c g1 r1 g2 c1 ⟨by omega, by rw [r2, ordF_all _ hk6]; exact hd⟩
    omega
  · rcases s2 with e2 | ⟨r, c, h1, h2, h3, h4⟩
    · omega
    · have hk6 : k ≤ 6 := by rw [← e, h4]; exact popcS_le r
      have hr : popcS r = k := by omega
      have : hasB l k (2 ^ n) (2 ^ m) = true := hasB_iff.2 ⟨r, c, ⟨h1, hr⟩, ⟨h2, by rw [← h3.1]; exact hr⟩, by
        have := h3.2
        rw [hr, ordF_all _ hk6] at this
        exact this⟩
      rw [h] at this
      cases this

end Go.Proofs.Ytcnbffflgodheaa
end

section
namespace Go.Proofs.Ytcnbffflgodheaa
open Go.RowKit Go.Deep

set_option maxRecDepth 100000 in
set_option maxHeartbeats 2000000 in
theorem rank_any (a : Option Addr) (cap n m : Nat) (l : List (List Int)) (w : World) (hn : l.length = n) (hT : TabIn l) (hmm : (l.getD 0 []).length = m) (hm : MatR w a l) :
    Calls Try.prog 70 #[.slice a n cap] w fun e w' => e = .returned (.int .i64 (rkR l (2 ^ m) (2 ^ n) : Nat)) ∧ w.Since w.heap.size w' := by
  have h6 := hT.2.1
  have h1 := hT.1
  have hw := hT.width
  rw [hn] at h6 h1
  rw [hmm] at hw
  obtain ⟨r1, r2, r3⟩ := rank_down (l := l) h6 hw.2
  obtain ⟨b, hb⟩ : ∃ b, rkR l (2 ^ m) (2 ^ n) = b := ⟨_, rfl⟩
  rw [hb] at r1 r2 r3 ⊢
  have EW := width_any a cap n l w hn (by omega) (by omega) hm
  rw [hmm] at EW
  have EH := Lib.hid (fun (k : Nat) (W : World) (h : w.Since w.heap.size W) => hasMinor_any a cap n m k l W hn hmm hT (hm.since h))
  replace EW := Lib.hid EW
  have R3 := Lib.hid r3
  clear r3 hn hmm hm hT hb
  go_enter Try.func70, Try.ntmps70
  go_wp2_with fail
  refine (EW.out).mono ?_
  rintro e w1 ⟨rfl, rfl⟩
  go_wp2
  all_goals
    go_loopg [3] 6 (fun g v wr => ∃ c : Nat, b ≤ c ∧ c ≤ 6 ∧ c ≤ g ∧ v = .int .i64 c ∧ w.Since w.heap.size wr)
    case atStart => first | exact ⟨n, r1, h6, h6, rfl, World.Since.refl _ _⟩ | exact ⟨m, r2, hw.2, hw.2, rfl, World.Since.refl _ _⟩
    case round =>
      obtain ⟨c, hbc, hc6, hcg, rfl, hS⟩ := hrel
      by_cases hc0 : c = 0
      · have hb0 : b = 0 := by omega
        subst hc0 hb0
        have HS := Lib.hid hS
        clear hS
        go_wp2
        go_ret
        exact ⟨rfl, HS.out⟩
      · have hc1 : decide ((0 : Int) < (c : Int)) = true := by simp; omega
        have E := EH.out c wr hS
        obtain ⟨q1, q2⟩ := R3.out c (by omega)
        obtain ⟨h, hh⟩ : ∃ h, hasB l c (2 ^ n) (2 ^ m) = h := ⟨_, rfl⟩
        rw [hh] at E q1 q2
        replace E := Lib.hid E
        have HS := Lib.hid hS
        clear hS hh
        go_wp2_with fail
        refine (E.out).mono ?_
        rintro e w2 ⟨rfl, hs2⟩
        have HS2 := Lib.hid (HS.out.trans (since_mono hs2 HS.out.size))
        clear hs2
        cases h with
        | true =>
          have hcb : c = b := by have := q1 rfl; omega
          subst hcb
          go_wp2
          go_ret
          exact ⟨rfl, HS2.out⟩
        | false =>
          have hcb := q2 rfl
          go_wp2
          go_roundg (gk - 1)
          case measure => omega
          case rel => exact ⟨c - 1, by omega, by omega, by omega, by go_num, HS2.out⟩

set_option maxHeartbeats 1000000 in
theorem implValueRank_any (a : Option Addr) (cap n : Nat) (l : List (List Int)) (w : World) (hn : l.length = n) (hsz : szL l ≤ 1048576) (hm : MatR w a l) :
    Calls Try.prog 27 #[.slice a n cap] w (SpecW w (tabIn l) (rkR l (2 ^ (l.getD 0 []).length) (2 ^ n) : Nat)) := by
  have E := implTableIn_any a cap n l w hn hsz hm
  cases hT : tabIn l with
  | false =>
    rw [hT] at E
    replace E := Lib.hid E
    clear hT hm hn hsz
    go_enter Try.func27, Try.ntmps27
    go_wp2_with fail
    refine (E.out).mono ?_
    rintro e w1 ⟨rfl, hd⟩
    have HD := Lib.hid hd
    clear hd
    go_wp2
    go_ret2
    exact ⟨rfl, HD.out⟩
  | true =>
    rw [hT] at E
    replace E := Lib.hid E
    have E2 := Lib.hid (fun (W : World) (hd : w.Since w.heap.size W) => rank_any a cap n _ l W hn (tabIn_of hT) rfl (hm.since hd))
    clear hT hm hn hsz
    go_enter Try.func27, Try.ntmps27
    go_wp2_with fail
    refine (E.out).mono ?_
    rintro e w1 ⟨rfl, hd⟩
    have HD := Lib.hid hd
    clear hd
    go_wp2_with fail
    refine (E2.out w1 HD.out).mono ?_
    rintro e w2 ⟨rfl, hs2⟩
    have HS2 := Lib.hid (HD.out.trans (since_mono hs2 HD.out.size))
    clear hs2
    go_wp2
    go_ret2
    exact ⟨rfl, HS2.out⟩

end Go.Proofs.Ytcnbffflgodheaa
end

section
namespace Go.Proofs.Ytcnbffflgodheaa
open Go.RowKit Go.Deep

theorem lawValueRank (a : Option Addr) (cap n : Nat) (l : List (List Int)) (w : World) (hn : l.length = n) (h63 : n ≤ 9223372036854775807) (hl : ∀ r, r < l.length → (l.getD r []).length ≤ 9223372036854775807) (hm : MatR w a l) :
    Calls Try.prog 6 #[.slice a n cap] w fun e w' => e = .returned (.bool true) ∧ w.Since w.heap.size w' :=
  lawValueRank_aux a cap n l (tabIn l) (if (tabIn l) = true then (rkR l (2 ^ (l.getD 0 []).length) (2 ^ n) : Nat) else 0) w hn h63 hl hm
    (fun hz W b c hb => (specValueRank_any b c n l W hn hz hb).mono fun _ _ h => ⟨h.1, h.2⟩) (fun hz W b c hb => (implValueRank_any b c n l W hn hz hb).mono fun _ _ h => ⟨h.1, h.2⟩)

end Go.Proofs.Ytcnbffflgodheaa
end

section
namespace Go.Proofs.Ytcnbffflgodheaa
open Go.ChangeShapes Go.WideShapes Go.ChangeAt Go.RowKit Go.Deep

theorem below_since' {B : Nat} {w w' : World} (h : Below B w w') : w.Since B w' := ⟨h.os, h.tape, h.output, h.size, h.block⟩
theorem since_below' {B : Nat} {w w' : World} (h : w.Since B w') : Below B w w' := ⟨h.os, h.tape, h.output, h.size, h.block⟩

section
variable {H : Type} {enc : TypeId × Value → H} {P : Program}
theorem post_of_below {f : Func} {s : ChangeSpec} {apart fresh handsOn again : Bool} {W W' : World} {args : Array Value} {v : Value} {ds gs : List (DataW H)} {before pa pv : List MemPlace}
    (hW : DataW.Whole enc P f.params.toList s.vars apart W args.toList ds gs before)
    (hres : ∀ (b : Nat) (sp : Nat → Bool) (hd : Bool), DataW.TrodAll enc P W' b sp hd f.resultTypes.toList (v.resultList f.resultTypes.size) (s.fn H (ds ++ gs)).results [])
    (hargs : ∀ sp : Nat → Bool, (∀ p ∈ before, sp p.block = true) → DataW.TrodAll enc P W' 0 sp true f.params.toList args.toList (s.fn H (ds ++ gs)).args pa)
    (hvars : ∀ sp : Nat → Bool, (∀ p ∈ before, sp p.block = true) → DataW.TrodVars enc P W' sp s.vars (s.fn H (ds ++ gs)).vars pv)
    (hps : before = pa ++ pv) (hb : Below W.heap.size W W') (hag : again = false) :
    s.post enc P f apart fresh handsOn again W args v W' := by
  have hlt : ∀ p ∈ before, p.block < W.heap.size := fun p hp => hW.lt p hp
  have hold : ∀ p ∈ before, (fun b => decide (b < W.heap.size)) p.block = true := fun p hp => by simpa using hlt p hp
  refine ⟨ds, gs, before, [], pa, pv, hW, hres _ _ _, hargs _ hold, hvars _ hold, World.keptBut_mono (fun p hp => ⟨hp, ?_⟩) (hb.frame (· ∈ before)), fun h => ?_⟩
  · rw [hps, List.mem_append] at hp
    exact Or.inr hp
  · rw [hag] at h; cases h

theorem open_mat {W : World} {t e q : TypeId} {a : Option Addr} {n cap : Nat} {d : DataW H} {p : List MemPlace} (ht : P.underlying t = some (.slice e)) (he : P.underlying e = some (.slice q)) (hq : P.underlying q = some (.int .i64))
    (ce : P.cellsOf e = 1) (cq : P.cellsOf q = 1) (h : DataW.Trod enc P W 0 (fun _ => true) true t (.slice a n cap) d p) :
    ∃ l : List (List Int), l.length = n ∧ MatR W a l ∧ n ≤ 9223372036854775807 ∧ ∀ r, r < l.length → (l.getD r []).length ≤ 9223372036854775807 := by
  obtain ⟨fuel, hf⟩ := h
  rcases open_int_rows ht he hq ce cq hf with ⟨hcs, _⟩ | ⟨a', len', cap', A, L, C, Z, hcs, _, hl, hm, _, hrows⟩
  · simp [Value.cells] at hcs
    obtain ⟨rfl, rfl, rfl⟩ := hcs
    exact ⟨[], rfl, (fun h => by simp at h), by omega, fun r hr => by simp at hr⟩
  · simp [Value.cells] at hcs
    obtain ⟨rfl, rfl, rfl⟩ := hcs
    have hmx : maxLen = 9223372036854775807 := rfl
    have hlen : ∀ r, r < n → ((Z r).take (L r)).length = L r := fun r hr => by
      obtain ⟨_, h1, _, h2, _⟩ := hrows r (by omega)
      rw [List.length_take]; omega
    have hget : ∀ r, r < n → ((List.range n).map fun r => (Z r).take (L r)).getD r [] = (Z r).take (L r) := fun r hr => by simp [List.getD, hr]
    refine ⟨(List.range n).map fun r => (Z r).take (L r), by simp, fun h => ?_, by omega, fun r hr => ?_⟩
    · obtain ⟨b, o, spot⟩ := a'
      simp at h
      have hspot : spot = none := by simpa [Addr.add] using World.cell?_spot (hrows 0 (by omega)).1
      subst hspot
      refine ⟨b, o, A, C, rfl, fun r hr => ?_⟩
      simp at hr
      rw [hget r hr, hlen r hr]
      obtain ⟨g1, g2, g3, g4, g5, g6, g7⟩ := hrows r (by omega)
      refine ⟨by rw [← add_plain]; exact g1, fun h0 => ?_⟩
      rw [hlen r hr] at h0
      cases hA : A r with
      | none => have := g6 hA; omega
      | some a'' =>
        obtain ⟨_, hcell⟩ := g7 a'' hA
        obtain ⟨b', o', sp⟩ := a''
        have hs : sp = none := by simpa [Addr.add] using World.cell?_spot (hcell 0 (by omega))
        subst hs
        refine ⟨b', o', rfl, fun i hi => ?_⟩
        rw [hlen r hr] at hi
        rw [← add_plain, hcell i (by omega)]
        congr 2
        simp [List.getD, hi]
    · simp at hr
      rw [hget r hr, hlen r hr]
      obtain ⟨_, h1, h2, _⟩ := hrows r (by omega)
      omega
end

theorem Try.own : ownKnob Try.prog.godebug = none := by kernel_rfl
theorem Try.laidOut : laidOutB Try.prog = true := by kernel_rfl
theorem Try.cellsR : Try.prog.cellsOf 42 = 1 := by kernel_rfl
theorem Try.cellsI : Try.prog.cellsOf 3 = 1 := by kernel_rfl

end Go.Proofs.Ytcnbffflgodheaa
end

section
namespace Go.Proofs.Ytcnbffflgodheaa
open Go.ChangeShapes Go.WideShapes Go.ChangeAt Go.RowKit Go.Deep

set_option maxRecDepth 100000 in
theorem lifted_ValueRank (os : Os) (started : os.Started) (H : Type) (enc : TypeId × Value → H) :
    ReturnsInHanded {} Try.checked os 6 .any (Rows.fnExactValueRankSpec.pre6 enc Try.prog Try.f6 Rows.fnExactValueRankRow.domain false) (Rows.fnExactValueRankSpec.post enc Try.prog Try.f6 false true false false) := by
  refine returnsInHanded_of_change (C := Try.checked) Try.own started (by kernel_rfl) Try.func6
    (ChangeSpec.witness6 (enc := enc) (C := Try.checked) false ⟨#[], #[.slice none 0 0], []⟩ 8 (by kernel_rfl) (by kernel_rfl) (by kernel_rfl) (by kernel_rfl)) ?_
  intro W base args ds gs before hval0 hW _ _
  have hval : ∀ (j : Nat) t v, Try.f6.params[j]? = some t → args[j]? = some v → Value.okWide Try.prog W .any base t v := hval0
  have hW' := hW
  obtain ⟨p, q, hA0, hV, rfl, hfz, hnd⟩ := hW
  have hA : DataW.TrodAll enc Try.prog W 0 (fun _ => true) true Try.f6.params.toList args.toList ds p := hA0
  rw [Try.params6] at hA hval
  obtain ⟨v0, d0, rfl, rfl, h0⟩ := trodAll_one hA
  obtain ⟨p0, hp0⟩ : ∃ p0, p0 = p := ⟨_, rfl⟩
  subst hp0
  obtain ⟨rfl, rfl⟩ := trodVars_none hV
  obtain ⟨a0, n0, cap0, rfl⟩ := okWide_slice Try.underlying22 (hval 0 22 v0 rfl rfl)
  obtain ⟨l0, hl0, hm0, h630, hls0⟩ := open_mat Try.underlying22 Try.underlying42 Try.underlying3 Try.cellsR Try.cellsI h0
  clear hA0 hval0
  simp only [List.append_nil] at hW'
  have hlt0 : ∀ x ∈ p0, x.block < W.heap.size := fun x hx => hW'.lt x (by simp [hx])
  refine (lawValueRank a0 cap0 n0 l0 W hl0 h630 hls0 hm0).mono fun e W' ⟨he, hs⟩ => ?_
  subst he
  have hb := since_below' hs
  have ht0 : ∀ sp : Nat → Bool, (∀ x ∈ p0, sp x.block = true) → DataW.Trod enc Try.prog W' 0 sp true 22 (.slice a0 n0 cap0) d0 p0 := fun sp hsp =>
    WideElems.Trod_stays Try.laidOut (by kernel_rfl) (of_decide_eq_true (by kernel_rfl)) h0 (fun x hx => hb.same (hlt0 x hx)) hsp
  have hargs : ∀ sp : Nat → Bool, (∀ x ∈ (p0), sp x.block = true) → DataW.TrodAll enc Try.prog W' 0 sp true [22] [.slice a0 n0 cap0] [d0] (p0) := fun sp hsp => by
    have := trodAll_mk1 (enc := enc) (P := Try.prog) (w := W') (base := 0) (spare := sp) (held := true) (ht0 sp (fun x hx => hsp x (by simp [hx])))
    simpa using this
  exact ⟨_, rfl, post_of_below (pa := p0) (pv := []) hW' (fun _ _ _ => trodAll_mk1 (shut_bool Try.underlying4 true)) (fun sp hsp => hargs sp (fun x hx => hsp x (by simpa using hx))) (fun _ _ => rfl) (by simp) hb rfl⟩

theorem FnExactValueRank_holds : Rows.FnExactValueRankSaid :=
  OpenClaim.holds_of_wide 6 Try.f6 rfl rfl rfl rfl rfl rfl rfl ⟨rfl, rfl, rfl, rfl, rfl⟩ rfl rfl rfl rfl rfl (by kernel_rfl) Try.func6 (by kernel_rfl)
    (of_decide_eq_true (by kernel_rfl)) (by unfold Func.isWrapper; first | (rw [if_pos (by decide +kernel)]; kernel_rfl) | (rw [if_neg (by decide +kernel)]; exact ⟨rfl, rfl⟩))
    (fun os started H enc _ => lifted_ValueRank os started H enc)

end Go.Proofs.Ytcnbffflgodheaa
end

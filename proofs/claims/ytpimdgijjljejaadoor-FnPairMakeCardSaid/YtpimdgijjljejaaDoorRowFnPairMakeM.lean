import Derived.Test.YtpimdgijjljejaaDoorHalfF
import Derived.Test.YtpimdgijjljejaaDoorOrdDet
import Derived.Test.YtpimdgijjljejaaDoorDet
import Derived.Test.YtpimdgijjljejaaDoorRowFnPairMakeL
import Derived.Test.YtpimdgijjljejaaDoorMakeEntry
import Derived.Test.YtpimdgijjljejaaDoorPartImpl
import Derived.Test.YtpimdgijjljejaaDoorSumSpec
import Derived.Test.YtpimdgijjljejaaDoorTimesImpl
import Derived.Test.YtpimdgijjljejaaDoorTurnImpl
import Derived.Test.YtpimdgijjljejaaDoorSig
import Derived.RangeFuncNested
import Derived.RangeFuncBound
import Derived.RangeFuncCalls
import Derived.RangeFuncLeaves
import Derived.Shelf.Abstract
import Derived.Shelf.RegionOpen
import Derived.WalkKit
import Derived.OwnWalkIn
import Derived.TacticsInMore
import Derived.LoopNIn
import Derived.LoopIn
import Derived.Test.YtpimdgijjljejaaDoorImpl1
import Derived.Deep.RegionHeld3
import Derived.Deep.QuietTactic
import Derived.BigQuiet
import Derived.Deep.AppendLies
import Derived.Test.YtpimdgijjljejaaDoorOrdP
import Derived.Test.YtpimdgijjljejaaDoorPlainF
import Derived.Test.YtpimdgijjljejaaDoorOrders
import Derived.Laws.EntriesVeiled
import Derived.Test.YtpimdgijjljejaaDoorRound
import Derived.Scope
import Derived.Test.YtpimdgijjljejaaDoorRoads
import Derived.Test.YtpimdgijjljejaaDoorOrdersI
import Derived.Maps.AppendAt
import Derived.Test.YtpimdgijjljejaaDoorRows
import Derived.Test.YtpimdgijjljejaaDoorData
import Derived.ProofKit
import Derived.Deep.Matrix
import Derived.Test.YtpimdgijjljejaaDoorTie
import Derived.LaidMore
import Derived.OpenShut
import Derived.Stop.Joined
import Derived.Test.YtpimdgijjljejaaDoorCards
import Derived.SevenTiedAt

section
namespace Go.Proofs.YtpimdgijjljejaaDoor
open Go.RowKit Go.Deep

theorem popc_two : ∀ s : Fin 64, ∀ k : Fin 6, s.val ≠ 0 → lowB s.val < k.val → s.val.testBit k.val = true → popcS (s.val - 2 ^ lowB s.val - 2 ^ k.val) + 2 = popcS s.val ∧ s.val - 2 ^ lowB s.val - 2 ^ k.val < 64 := by decide +kernel
theorem popc_zero0 : popcS 0 = 0 := by decide
theorem half_odd (l : List (List Int)) {n : Nat} (hn : n ≤ 6) : ∀ d s, s < 64 → popcS s % 2 = 1 → halfF l n d s = 0
  | 0, s, _, h => by
    have h0 : s ≠ 0 := fun e => by rw [e, popc_zero0] at h; omega
    unfold halfF; rw [if_neg h0]
  | d + 1, s, hs, h => by
    have h0 : s ≠ 0 := fun e => by rw [e, popc_zero0] at h; omega
    rw [halfF_some l n d h0]
    refine sumN_none n fun k hk => ?_
    by_cases h1 : lowB s < k ∧ s.testBit k = true
    · obtain ⟨e1, e2⟩ := popc_two ⟨s, hs⟩ ⟨k, by omega⟩ h0 h1.1 h1.2
      simp only at e1 e2
      rw [halfT_yes _ h1.1 h1.2, half_odd l hn d _ e2 (by omega), Int.mul_zero]
      unfold sg; split <;> rfl
    · exact halfT_no _ h1

theorem half_two (l : List (List Int)) : halfF l 2 3 3 = at2 l 0 1 := by
  simp (decide := true) [halfF, sumN, halfT, lowB, sg]
theorem half_four (l : List (List Int)) : halfF l 4 3 15 = at2 l 0 1 * at2 l 2 3 - at2 l 0 2 * at2 l 1 3 + at2 l 0 3 * at2 l 1 2 := by
  simp (decide := true) [halfF, sumN, halfT, lowB, sg]
  grind
def h4 (a b c d e f : Int) : Int := a * f - b * e + c * d
theorem half_six (l : List (List Int)) : halfF l 6 3 63 =
    at2 l 0 1 * h4 (at2 l 2 3) (at2 l 2 4) (at2 l 2 5) (at2 l 3 4) (at2 l 3 5) (at2 l 4 5)
    - at2 l 0 2 * h4 (at2 l 1 3) (at2 l 1 4) (at2 l 1 5) (at2 l 3 4) (at2 l 3 5) (at2 l 4 5)
    + at2 l 0 3 * h4 (at2 l 1 2) (at2 l 1 4) (at2 l 1 5) (at2 l 2 4) (at2 l 2 5) (at2 l 4 5)
    - at2 l 0 4 * h4 (at2 l 1 2) (at2 l 1 3) (at2 l 1 5) (at2 l 2 3) (at2 l 2 5) (at2 l 3 5)
    + at2 l 0 5 * h4 (at2 l 1 2) (at2 l 1 3) (at2 l 1 4) (at2 l 2 3) (at2 l 2 4) (at2 l 3 4) := by
  simp (decide := true) [halfF, sumN, halfT, lowB, sg]
  unfold h4
  grind

theorem dtq_three (f : Nat → Nat → Int) : dt 3 f = f 0 0 * (f 1 1 * f 2 2 - f 1 2 * f 2 1) - f 0 1 * (f 1 0 * f 2 2 - f 1 2 * f 2 0) + f 0 2 * (f 1 0 * f 2 1 - f 1 1 * f 2 0) := by
  rw [dt_succ]; simp only [sumN, dt_two, dr]; simp [skip, sn]; grind
theorem dtq_four (f : Nat → Nat → Int) : dt 4 f = f 0 0 * dt 3 (dr 0 f) - f 0 1 * dt 3 (dr 1 f) + f 0 2 * dt 3 (dr 2 f) - f 0 3 * dt 3 (dr 3 f) := by
  rw [dt_succ]; simp [sumN, sn]; omega
theorem dtq_five (f : Nat → Nat → Int) : dt 5 f = f 0 0 * dt 4 (dr 0 f) - f 0 1 * dt 4 (dr 1 f) + f 0 2 * dt 4 (dr 2 f) - f 0 3 * dt 4 (dr 3 f) + f 0 4 * dt 4 (dr 4 f) := by
  rw [dt_succ]; simp [sumN, sn]; omega
def Skew (n : Nat) (f : Nat → Nat → Int) : Prop := ∀ i j, i < n → j < n → f i j = -f j i
theorem skew_mid {n : Nat} {f : Nat → Nat → Int} (h : Skew n f) {i : Nat} (hi : i < n) : f i i = 0 := by have := h i i hi hi; omega
theorem det_two {f : Nat → Nat → Int} (h : Skew 2 f) : dt 2 f = f 0 1 * f 0 1 := by
  rw [dt_two, skew_mid h (i := 0) (by omega), h 1 0 (by omega) (by omega)]
  grind
theorem det_four {f : Nat → Nat → Int} (h : Skew 4 f) : dt 4 f = h4 (f 0 1) (f 0 2) (f 0 3) (f 1 2) (f 1 3) (f 2 3) * h4 (f 0 1) (f 0 2) (f 0 3) (f 1 2) (f 1 3) (f 2 3) := by
  rw [dtq_four]
  simp only [dtq_three, dr, skip]
  simp only [Nat.reduceAdd, Nat.reduceLT, if_true, if_false, Nat.lt_irrefl, Nat.zero_add]
  simp only [h 1 0 (by omega) (by omega), h 2 0 (by omega) (by omega), h 2 1 (by omega) (by omega), h 3 0 (by omega) (by omega), h 3 1 (by omega) (by omega), h 3 2 (by omega) (by omega), skew_mid h (show 0 < 4 by omega), skew_mid h (show 1 < 4 by omega), skew_mid h (show 2 < 4 by omega), skew_mid h (show 3 < 4 by omega)]
  unfold h4
  grind
def pf5 (g : Nat → Nat → Int) (p : Nat) : Int := h4 (g (skip p 0) (skip p 1)) (g (skip p 0) (skip p 2)) (g (skip p 0) (skip p 3)) (g (skip p 1) (skip p 2)) (g (skip p 1) (skip p 3)) (g (skip p 2) (skip p 3))
theorem min5_00 {g : Nat → Nat → Int} (h : Skew 5 g) : dt 4 (fun r j => g (skip 0 r) (skip 0 j)) = pf5 g 0 * pf5 g 0 := by
  rw [dtq_four]
  simp only [dtq_three, dr, skip, pf5]
  simp only [Nat.reduceAdd, Nat.reduceLT, if_true, if_false, Nat.lt_irrefl, Nat.zero_add]
  simp only [h 2 1 (by omega) (by omega), h 3 1 (by omega) (by omega), h 3 2 (by omega) (by omega), h 4 1 (by omega) (by omega), h 4 2 (by omega) (by omega), h 4 3 (by omega) (by omega), skew_mid h (show 1 < 5 by omega), skew_mid h (show 2 < 5 by omega), skew_mid h (show 3 < 5 by omega), skew_mid h (show 4 < 5 by omega)]
  unfold h4
  grind
theorem min5_01 {g : Nat → Nat → Int} (h : Skew 5 g) : dt 4 (fun r j => g (skip 0 r) (skip 1 j)) = pf5 g 0 * pf5 g 1 := by
  rw [dtq_four]
  simp only [dtq_three, dr, skip, pf5]
  simp only [Nat.reduceAdd, Nat.reduceLT, if_true, if_false, Nat.lt_irrefl, Nat.zero_add]
  simp only [h 1 0 (by omega) (by omega), h 2 0 (by omega) (by omega), h 3 0 (by omega) (by omega), h 3 2 (by omega) (by omega), h 4 0 (by omega) (by omega), h 4 2 (by omega) (by omega), h 4 3 (by omega) (by omega), skew_mid h (show 2 < 5 by omega), skew_mid h (show 3 < 5 by omega), skew_mid h (show 4 < 5 by omega)]
  unfold h4
  grind
theorem min5_02 {g : Nat → Nat → Int} (h : Skew 5 g) : dt 4 (fun r j => g (skip 0 r) (skip 2 j)) = pf5 g 0 * pf5 g 2 := by
  rw [dtq_four]
  simp only [dtq_three, dr, skip, pf5]
  simp only [Nat.reduceAdd, Nat.reduceLT, if_true, if_false, Nat.lt_irrefl, Nat.zero_add]
  simp only [h 1 0 (by omega) (by omega), h 2 0 (by omega) (by omega), h 2 1 (by omega) (by omega), h 3 0 (by omega) (by omega), h 3 1 (by omega) (by omega), h 4 0 (by omega) (by omega), h 4 1 (by omega) (by omega), h 4 3 (by omega) (by omega), skew_mid h (show 1 < 5 by omega), skew_mid h (show 3 < 5 by omega), skew_mid h (show 4 < 5 by omega)]
  unfold h4
  grind
theorem min5_03 {g : Nat → Nat → Int} (h : Skew 5 g) : dt 4 (fun r j => g (skip 0 r) (skip 3 j)) = pf5 g 0 * pf5 g 3 := by
  rw [dtq_four]
  simp only [dtq_three, dr, skip, pf5]
  simp only [Nat.reduceAdd, Nat.reduceLT, if_true, if_false, Nat.lt_irrefl, Nat.zero_add]
  simp only [h 1 0 (by omega) (by omega), h 2 0 (by omega) (by omega), h 2 1 (by omega) (by omega), h 3 0 (by omega) (by omega), h 3 1 (by omega) (by omega), h 3 2 (by omega) (by omega), h 4 0 (by omega) (by omega), h 4 1 (by omega) (by omega), h 4 2 (by omega) (by omega), skew_mid h (show 1 < 5 by omega), skew_mid h (show 2 < 5 by omega), skew_mid h (show 4 < 5 by omega)]
  unfold h4
  grind
theorem min5_04 {g : Nat → Nat → Int} (h : Skew 5 g) : dt 4 (fun r j => g (skip 0 r) (skip 4 j)) = pf5 g 0 * pf5 g 4 := by
  rw [dtq_four]
  simp only [dtq_three, dr, skip, pf5]
  simp only [Nat.reduceAdd, Nat.reduceLT, if_true, if_false, Nat.lt_irrefl, Nat.zero_add]
  simp only [h 1 0 (by omega) (by omega), h 2 0 (by omega) (by omega), h 2 1 (by omega) (by omega), h 3 0 (by omega) (by omega), h 3 1 (by omega) (by omega), h 3 2 (by omega) (by omega), h 4 0 (by omega) (by omega), h 4 1 (by omega) (by omega), h 4 2 (by omega) (by omega), h 4 3 (by omega) (by omega), skew_mid h (show 1 < 5 by omega), skew_mid h (show 2 < 5 by omega), skew_mid h (show 3 < 5 by omega)]
  unfold h4
  grind
theorem min5_10 {g : Nat → Nat → Int} (h : Skew 5 g) : dt 4 (fun r j => g (skip 1 r) (skip 0 j)) = pf5 g 1 * pf5 g 0 := by
  rw [dtq_four]
  simp only [dtq_three, dr, skip, pf5]
  simp only [Nat.reduceAdd, Nat.reduceLT, if_true, if_false, Nat.lt_irrefl, Nat.zero_add]
  simp only [h 2 1 (by omega) (by omega), h 3 1 (by omega) (by omega), h 3 2 (by omega) (by omega), h 4 1 (by omega) (by omega), h 4 2 (by omega) (by omega), h 4 3 (by omega) (by omega), skew_mid h (show 2 < 5 by omega), skew_mid h (show 3 < 5 by omega), skew_mid h (show 4 < 5 by omega)]
  unfold h4
  grind
theorem min5_11 {g : Nat → Nat → Int} (h : Skew 5 g) : dt 4 (fun r j => g (skip 1 r) (skip 1 j)) = pf5 g 1 * pf5 g 1 := by
  rw [dtq_four]
  simp only [dtq_three, dr, skip, pf5]
  simp only [Nat.reduceAdd, Nat.reduceLT, if_true, if_false, Nat.lt_irrefl, Nat.zero_add]
  simp only [h 2 0 (by omega) (by omega), h 3 0 (by omega) (by omega), h 3 2 (by omega) (by omega), h 4 0 (by omega) (by omega), h 4 2 (by omega) (by omega), h 4 3 (by omega) (by omega), skew_mid h (show 0 < 5 by omega), skew_mid h (show 2 < 5 by omega), skew_mid h (show 3 < 5 by omega), skew_mid h (show 4 < 5 by omega)]
  unfold h4
  grind
theorem min5_12 {g : Nat → Nat → Int} (h : Skew 5 g) : dt 4 (fun r j => g (skip 1 r) (skip 2 j)) = pf5 g 1 * pf5 g 2 := by
  rw [dtq_four]
  simp only [dtq_three, dr, skip, pf5]
  simp only [Nat.reduceAdd, Nat.reduceLT, if_true, if_false, Nat.lt_irrefl, Nat.zero_add]
  simp only [h 2 0 (by omega) (by omega), h 2 1 (by omega) (by omega), h 3 0 (by omega) (by omega), h 3 1 (by omega) (by omega), h 4 0 (by omega) (by omega), h 4 1 (by omega) (by omega), h 4 3 (by omega) (by omega), skew_mid h (show 0 < 5 by omega), skew_mid h (show 3 < 5 by omega), skew_mid h (show 4 < 5 by omega)]
  unfold h4
  grind
theorem min5_13 {g : Nat → Nat → Int} (h : Skew 5 g) : dt 4 (fun r j => g (skip 1 r) (skip 3 j)) = pf5 g 1 * pf5 g 3 := by
  rw [dtq_four]
  simp only [dtq_three, dr, skip, pf5]
  simp only [Nat.reduceAdd, Nat.reduceLT, if_true, if_false, Nat.lt_irrefl, Nat.zero_add]
  simp only [h 2 0 (by omega) (by omega), h 2 1 (by omega) (by omega), h 3 0 (by omega) (by omega), h 3 1 (by omega) (by omega), h 3 2 (by omega) (by omega), h 4 0 (by omega) (by omega), h 4 1 (by omega) (by omega), h 4 2 (by omega) (by omega), skew_mid h (show 0 < 5 by omega), skew_mid h (show 2 < 5 by omega), skew_mid h (show 4 < 5 by omega)]
  unfold h4
  grind
theorem min5_14 {g : Nat → Nat → Int} (h : Skew 5 g) : dt 4 (fun r j => g (skip 1 r) (skip 4 j)) = pf5 g 1 * pf5 g 4 := by
  rw [dtq_four]
  simp only [dtq_three, dr, skip, pf5]
  simp only [Nat.reduceAdd, Nat.reduceLT, if_true, if_false, Nat.lt_irrefl, Nat.zero_add]
  simp only [h 2 0 (by omega) (by omega), h 2 1 (by omega) (by omega), h 3 0 (by omega) (by omega), h 3 1 (by omega) (by omega), h 3 2 (by omega) (by omega), h 4 0 (by omega) (by omega), h 4 1 (by omega) (by omega), h 4 2 (by omega) (by omega), h 4 3 (by omega) (by omega), skew_mid h (show 0 < 5 by omega), skew_mid h (show 2 < 5 by omega), skew_mid h (show 3 < 5 by omega)]
  unfold h4
  grind
theorem min5_20 {g : Nat → Nat → Int} (h : Skew 5 g) : dt 4 (fun r j => g (skip 2 r) (skip 0 j)) = pf5 g 2 * pf5 g 0 := by
  rw [dtq_four]
  simp only [dtq_three, dr, skip, pf5]
  simp only [Nat.reduceAdd, Nat.reduceLT, if_true, if_false, Nat.lt_irrefl, Nat.zero_add]
  simp only [h 3 1 (by omega) (by omega), h 3 2 (by omega) (by omega), h 4 1 (by omega) (by omega), h 4 2 (by omega) (by omega), h 4 3 (by omega) (by omega), skew_mid h (show 1 < 5 by omega), skew_mid h (show 3 < 5 by omega), skew_mid h (show 4 < 5 by omega)]
  unfold h4
  grind
theorem min5_21 {g : Nat → Nat → Int} (h : Skew 5 g) : dt 4 (fun r j => g (skip 2 r) (skip 1 j)) = pf5 g 2 * pf5 g 1 := by
  rw [dtq_four]
  simp only [dtq_three, dr, skip, pf5]
  simp only [Nat.reduceAdd, Nat.reduceLT, if_true, if_false, Nat.lt_irrefl, Nat.zero_add]
  simp only [h 1 0 (by omega) (by omega), h 3 0 (by omega) (by omega), h 3 2 (by omega) (by omega), h 4 0 (by omega) (by omega), h 4 2 (by omega) (by omega), h 4 3 (by omega) (by omega), skew_mid h (show 0 < 5 by omega), skew_mid h (show 3 < 5 by omega), skew_mid h (show 4 < 5 by omega)]
  unfold h4
  grind
theorem min5_22 {g : Nat → Nat → Int} (h : Skew 5 g) : dt 4 (fun r j => g (skip 2 r) (skip 2 j)) = pf5 g 2 * pf5 g 2 := by
  rw [dtq_four]
  simp only [dtq_three, dr, skip, pf5]
  simp only [Nat.reduceAdd, Nat.reduceLT, if_true, if_false, Nat.lt_irrefl, Nat.zero_add]
  simp only [h 1 0 (by omega) (by omega), h 3 0 (by omega) (by omega), h 3 1 (by omega) (by omega), h 4 0 (by omega) (by omega), h 4 1 (by omega) (by omega), h 4 3 (by omega) (by omega), skew_mid h (show 0 < 5 by omega), skew_mid h (show 1 < 5 by omega), skew_mid h (show 3 < 5 by omega), skew_mid h (show 4 < 5 by omega)]
  unfold h4
  grind
theorem min5_23 {g : Nat → Nat → Int} (h : Skew 5 g) : dt 4 (fun r j => g (skip 2 r) (skip 3 j)) = pf5 g 2 * pf5 g 3 := by
  rw [dtq_four]
  simp only [dtq_three, dr, skip, pf5]
  simp only [Nat.reduceAdd, Nat.reduceLT, if_true, if_false, Nat.lt_irrefl, Nat.zero_add]
  simp only [h 1 0 (by omega) (by omega), h 3 0 (by omega) (by omega), h 3 1 (by omega) (by omega), h 3 2 (by omega) (by omega), h 4 0 (by omega) (by omega), h 4 1 (by omega) (by omega), h 4 2 (by omega) (by omega), skew_mid h (show 0 < 5 by omega), skew_mid h (show 1 < 5 by omega), skew_mid h (show 4 < 5 by omega)]
  unfold h4
  grind
theorem min5_24 {g : Nat → Nat → Int} (h : Skew 5 g) : dt 4 (fun r j => g (skip 2 r) (skip 4 j)) = pf5 g 2 * pf5 g 4 := by
  rw [dtq_four]
  simp only [dtq_three, dr, skip, pf5]
  simp only [Nat.reduceAdd, Nat.reduceLT, if_true, if_false, Nat.lt_irrefl, Nat.zero_add]
  simp only [h 1 0 (by omega) (by omega), h 3 0 (by omega) (by omega), h 3 1 (by omega) (by omega), h 3 2 (by omega) (by omega), h 4 0 (by omega) (by omega), h 4 1 (by omega) (by omega), h 4 2 (by omega) (by omega), h 4 3 (by omega) (by omega), skew_mid h (show 0 < 5 by omega), skew_mid h (show 1 < 5 by omega), skew_mid h (show 3 < 5 by omega)]
  unfold h4
  grind
theorem min5_30 {g : Nat → Nat → Int} (h : Skew 5 g) : dt 4 (fun r j => g (skip 3 r) (skip 0 j)) = pf5 g 3 * pf5 g 0 := by
  rw [dtq_four]
  simp only [dtq_three, dr, skip, pf5]
  simp only [Nat.reduceAdd, Nat.reduceLT, if_true, if_false, Nat.lt_irrefl, Nat.zero_add]
  simp only [h 2 1 (by omega) (by omega), h 4 1 (by omega) (by omega), h 4 2 (by omega) (by omega), h 4 3 (by omega) (by omega), skew_mid h (show 1 < 5 by omega), skew_mid h (show 2 < 5 by omega), skew_mid h (show 4 < 5 by omega)]
  unfold h4
  grind
theorem min5_31 {g : Nat → Nat → Int} (h : Skew 5 g) : dt 4 (fun r j => g (skip 3 r) (skip 1 j)) = pf5 g 3 * pf5 g 1 := by
  rw [dtq_four]
  simp only [dtq_three, dr, skip, pf5]
  simp only [Nat.reduceAdd, Nat.reduceLT, if_true, if_false, Nat.lt_irrefl, Nat.zero_add]
  simp only [h 1 0 (by omega) (by omega), h 2 0 (by omega) (by omega), h 4 0 (by omega) (by omega), h 4 2 (by omega) (by omega), h 4 3 (by omega) (by omega), skew_mid h (show 0 < 5 by omega), skew_mid h (show 2 < 5 by omega), skew_mid h (show 4 < 5 by omega)]
  unfold h4
  grind
theorem min5_32 {g : Nat → Nat → Int} (h : Skew 5 g) : dt 4 (fun r j => g (skip 3 r) (skip 2 j)) = pf5 g 3 * pf5 g 2 := by
  rw [dtq_four]
  simp only [dtq_three, dr, skip, pf5]
  simp only [Nat.reduceAdd, Nat.reduceLT, if_true, if_false, Nat.lt_irrefl, Nat.zero_add]
  simp only [h 1 0 (by omega) (by omega), h 2 0 (by omega) (by omega), h 2 1 (by omega) (by omega), h 4 0 (by omega) (by omega), h 4 1 (by omega) (by omega), h 4 3 (by omega) (by omega), skew_mid h (show 0 < 5 by omega), skew_mid h (show 1 < 5 by omega), skew_mid h (show 4 < 5 by omega)]
  unfold h4
  grind
theorem min5_33 {g : Nat → Nat → Int} (h : Skew 5 g) : dt 4 (fun r j => g (skip 3 r) (skip 3 j)) = pf5 g 3 * pf5 g 3 := by
  rw [dtq_four]
  simp only [dtq_three, dr, skip, pf5]
  simp only [Nat.reduceAdd, Nat.reduceLT, if_true, if_false, Nat.lt_irrefl, Nat.zero_add]
  simp only [h 1 0 (by omega) (by omega), h 2 0 (by omega) (by omega), h 2 1 (by omega) (by omega), h 4 0 (by omega) (by omega), h 4 1 (by omega) (by omega), h 4 2 (by omega) (by omega), skew_mid h (show 0 < 5 by omega), skew_mid h (show 1 < 5 by omega), skew_mid h (show 2 < 5 by omega), skew_mid h (show 4 < 5 by omega)]
  unfold h4
  grind
theorem min5_34 {g : Nat → Nat → Int} (h : Skew 5 g) : dt 4 (fun r j => g (skip 3 r) (skip 4 j)) = pf5 g 3 * pf5 g 4 := by
  rw [dtq_four]
  simp only [dtq_three, dr, skip, pf5]
  simp only [Nat.reduceAdd, Nat.reduceLT, if_true, if_false, Nat.lt_irrefl, Nat.zero_add]
  simp only [h 1 0 (by omega) (by omega), h 2 0 (by omega) (by omega), h 2 1 (by omega) (by omega), h 4 0 (by omega) (by omega), h 4 1 (by omega) (by omega), h 4 2 (by omega) (by omega), h 4 3 (by omega) (by omega), skew_mid h (show 0 < 5 by omega), skew_mid h (show 1 < 5 by omega), skew_mid h (show 2 < 5 by omega)]
  unfold h4
  grind
theorem min5_40 {g : Nat → Nat → Int} (h : Skew 5 g) : dt 4 (fun r j => g (skip 4 r) (skip 0 j)) = pf5 g 4 * pf5 g 0 := by
  rw [dtq_four]
  simp only [dtq_three, dr, skip, pf5]
  simp only [Nat.reduceAdd, Nat.reduceLT, if_true, if_false, Nat.lt_irrefl, Nat.zero_add]
  simp only [h 2 1 (by omega) (by omega), h 3 1 (by omega) (by omega), h 3 2 (by omega) (by omega), skew_mid h (show 1 < 5 by omega), skew_mid h (show 2 < 5 by omega), skew_mid h (show 3 < 5 by omega)]
  unfold h4
  grind
theorem min5_41 {g : Nat → Nat → Int} (h : Skew 5 g) : dt 4 (fun r j => g (skip 4 r) (skip 1 j)) = pf5 g 4 * pf5 g 1 := by
  rw [dtq_four]
  simp only [dtq_three, dr, skip, pf5]
  simp only [Nat.reduceAdd, Nat.reduceLT, if_true, if_false, Nat.lt_irrefl, Nat.zero_add]
  simp only [h 1 0 (by omega) (by omega), h 2 0 (by omega) (by omega), h 3 0 (by omega) (by omega), h 3 2 (by omega) (by omega), skew_mid h (show 0 < 5 by omega), skew_mid h (show 2 < 5 by omega), skew_mid h (show 3 < 5 by omega)]
  unfold h4
  grind
theorem min5_42 {g : Nat → Nat → Int} (h : Skew 5 g) : dt 4 (fun r j => g (skip 4 r) (skip 2 j)) = pf5 g 4 * pf5 g 2 := by
  rw [dtq_four]
  simp only [dtq_three, dr, skip, pf5]
  simp only [Nat.reduceAdd, Nat.reduceLT, if_true, if_false, Nat.lt_irrefl, Nat.zero_add]
  simp only [h 1 0 (by omega) (by omega), h 2 0 (by omega) (by omega), h 2 1 (by omega) (by omega), h 3 0 (by omega) (by omega), h 3 1 (by omega) (by omega), skew_mid h (show 0 < 5 by omega), skew_mid h (show 1 < 5 by omega), skew_mid h (show 3 < 5 by omega)]
  unfold h4
  grind
theorem min5_43 {g : Nat → Nat → Int} (h : Skew 5 g) : dt 4 (fun r j => g (skip 4 r) (skip 3 j)) = pf5 g 4 * pf5 g 3 := by
  rw [dtq_four]
  simp only [dtq_three, dr, skip, pf5]
  simp only [Nat.reduceAdd, Nat.reduceLT, if_true, if_false, Nat.lt_irrefl, Nat.zero_add]
  simp only [h 1 0 (by omega) (by omega), h 2 0 (by omega) (by omega), h 2 1 (by omega) (by omega), h 3 0 (by omega) (by omega), h 3 1 (by omega) (by omega), h 3 2 (by omega) (by omega), skew_mid h (show 0 < 5 by omega), skew_mid h (show 1 < 5 by omega), skew_mid h (show 2 < 5 by omega)]
  unfold h4
  grind
theorem min5_44 {g : Nat → Nat → Int} (h : Skew 5 g) : dt 4 (fun r j => g (skip 4 r) (skip 4 j)) = pf5 g 4 * pf5 g 4 := by
  rw [dtq_four]
  simp only [dtq_three, dr, skip, pf5]
  simp only [Nat.reduceAdd, Nat.reduceLT, if_true, if_false, Nat.lt_irrefl, Nat.zero_add]
  simp only [h 1 0 (by omega) (by omega), h 2 0 (by omega) (by omega), h 2 1 (by omega) (by omega), h 3 0 (by omega) (by omega), h 3 1 (by omega) (by omega), h 3 2 (by omega) (by omega), skew_mid h (show 0 < 5 by omega), skew_mid h (show 1 < 5 by omega), skew_mid h (show 2 < 5 by omega), skew_mid h (show 3 < 5 by omega)]
  unfold h4
  grind
theorem min5 {g : Nat → Nat → Int} (h : Skew 5 g) : ∀ p q, p < 5 → q < 5 → dt 4 (fun r j => g (skip p r) (skip q j)) = pf5 g p * pf5 g q
  | 0, 0, _, _ => min5_00 h
  | 0, 1, _, _ => min5_01 h
  | 0, 2, _, _ => min5_02 h
  | 0, 3, _, _ => min5_03 h
  | 0, 4, _, _ => min5_04 h
  | 1, 0, _, _ => min5_10 h
  | 1, 1, _, _ => min5_11 h
  | 1, 2, _, _ => min5_12 h
  | 1, 3, _, _ => min5_13 h
  | 1, 4, _, _ => min5_14 h
  | 2, 0, _, _ => min5_20 h
  | 2, 1, _, _ => min5_21 h
  | 2, 2, _, _ => min5_22 h
  | 2, 3, _, _ => min5_23 h
  | 2, 4, _, _ => min5_24 h
  | 3, 0, _, _ => min5_30 h
  | 3, 1, _, _ => min5_31 h
  | 3, 2, _, _ => min5_32 h
  | 3, 3, _, _ => min5_33 h
  | 3, 4, _, _ => min5_34 h
  | 4, 0, _, _ => min5_40 h
  | 4, 1, _, _ => min5_41 h
  | 4, 2, _, _ => min5_42 h
  | 4, 3, _, _ => min5_43 h
  | 4, 4, _, _ => min5_44 h
  | _ + 5, _, h1, _ => by omega
  | _, _ + 5, _, h2 => by omega
theorem det_six {f : Nat → Nat → Int} (h : Skew 6 f) : dt 6 f = sumN (fun k => sn k * (f 0 (k + 1) * pf5 (fun i j => f (i + 1) (j + 1)) k)) 5 * sumN (fun k => sn k * (f 0 (k + 1) * pf5 (fun i j => f (i + 1) (j + 1)) k)) 5 := by
  have hg : Skew 5 (fun i j => f (i + 1) (j + 1)) := fun i j hi hj => h (i + 1) (j + 1) (by omega) (by omega)
  rw [dt_succ, sumN_first, skew_mid h (show 0 < 6 by omega), Int.zero_mul, Int.mul_zero, Int.zero_add]
  have hk : ∀ k, k < 5 → sn (k + 1) * (f 0 (k + 1) * dt 5 (dr (k + 1) f)) = sumN (fun k => sn k * (f 0 (k + 1) * pf5 (fun i j => f (i + 1) (j + 1)) k)) 5 * (sn k * (f 0 (k + 1) * pf5 (fun i j => f (i + 1) (j + 1)) k)) := fun k hk5 => by
    rw [dt_col 4 (dr (k + 1) f)]
    have e : ∀ i, i < 5 → sn i * (dr (k + 1) f i 0 * dt 4 (fun r j => dr (k + 1) f (skip i r) (j + 1))) = -(pf5 (fun i j => f (i + 1) (j + 1)) k) * (sn i * (f 0 (i + 1) * pf5 (fun i j => f (i + 1) (j + 1)) i)) := fun i hi => by
      have e1 : dr (k + 1) f i 0 = f (i + 1) 0 := by unfold dr; rw [skip_lt (by omega)]
      have e2 : dt 4 (fun r j => dr (k + 1) f (skip i r) (j + 1)) = dt 4 (fun r j => (fun i j => f (i + 1) (j + 1)) (skip i r) (skip k j)) := dt_congr 4 (fun r j _ _ => by unfold dr; rw [skip_succ])
      rw [e1, e2, min5 hg i k hi hk5, h (i + 1) 0 (by omega) (by omega)]
      grind
    rw [sumN_congr 5 e, sumN_mul, sn_succ]
    grind
  rw [sumN_congr 5 hk]
  exact sumN_mul _ _ _
theorem dt_neg : ∀ (n : Nat) (f : Nat → Nat → Int), dt n (fun i j => -f i j) = sn n * dt n f
  | 0, _ => by rw [dt_zero, dt_zero]; rfl
  | n + 1, f => by
    rw [dt_succ, dt_succ, ← sumN_mul]
    refine sumN_congr _ fun k _ => ?_
    rw [show dr k (fun i j => -f i j) = fun i j => -(dr k f i j) from rfl, dt_neg n, sn_succ]
    grind
theorem det_odd {n : Nat} {f : Nat → Nat → Int} (h : Skew n f) (hn : n % 2 = 1) : dt n f = 0 := by
  have h1 := dt_turn n f
  rw [dt_congr n (f := fun i j => f j i) (g := fun i j => -f i j) (fun i j hi hj => h j i hj hi), dt_neg] at h1
  have h2 : sn n = -1 := by unfold sn; rw [if_pos hn]
  rw [h2] at h1
  omega
theorem popc_allH : ∀ n : Fin 7, popcS (2 ^ n.val - 1) = n.val := by decide
theorem half_sq (l : List (List Int)) {n : Nat} (h1 : 1 ≤ n) (h6 : n ≤ 6) (h : Skew n (at2 l)) : dt n (at2 l) = halfF l n 3 (2 ^ n - 1) * halfF l n 3 (2 ^ n - 1) ∧ (n % 2 = 1 → halfF l n 3 (2 ^ n - 1) = 0) := by
  have ho : n % 2 = 1 → halfF l n 3 (2 ^ n - 1) = 0 := fun hn => by
    have hp := popc_allH ⟨n, by omega⟩
    simp only at hp
    have p : 2 ^ n ≤ 2 ^ 6 := Nat.pow_le_pow_right (by omega) h6
    exact half_odd l h6 3 _ (by omega) (by rw [hp]; exact hn)
  refine ⟨?_, ho⟩
  by_cases hn : n % 2 = 1
  · rw [ho hn, det_odd h hn]; rfl
  · have : n = 2 ∨ n = 4 ∨ n = 6 := by omega
    rcases this with rfl | rfl | rfl
    · rw [show 2 ^ 2 - 1 = 3 by decide, half_two, det_two h]
    · rw [show 2 ^ 4 - 1 = 15 by decide, half_four, det_four h]; rfl
    · rw [show 2 ^ 6 - 1 = 63 by decide, det_six h]
      have e : halfF l 6 3 63 = sumN (fun k => sn k * (at2 l 0 (k + 1) * pf5 (fun i j => at2 l (i + 1) (j + 1)) k)) 5 := by
        rw [half_six]
        simp [sumN, sn, pf5, skip]
        omega
      rw [e]

end Go.Proofs.YtpimdgijjljejaaDoor
end

section
namespace Go.Proofs.YtpimdgijjljejaaDoor

theorem dt_scale (c : Int) : ∀ (n : Nat) (f : Nat → Nat → Int), dt n (fun i j => c * f i j) = pw c n * dt n f
  | 0, _ => by simp [dt, pw]
  | n + 1, f => by
    rw [dt_succ, dt_succ, ← sumN_mul]
    refine sumN_congr _ fun k _ => ?_
    rw [show dr k (fun i j => c * f i j) = fun i j => c * dr k f i j from rfl, dt_scale c n]
    rw [show pw c (n + 1) = c * pw c n from rfl]
    grind

def pre (k : Nat) (R : Nat → Nat) (i : Nat) : Nat := if i < k then i else k + R (i - k)
def bef (R : Nat → Nat) (i : Nat) : Nat := if i = 0 then 0 else R (i - 1) + 1
theorem pre_bef (k : Nat) (R : Nat → Nat) (i : Nat) : pre k (bef R) i = pre (k + 1) R i := by
  unfold pre bef
  by_cases h1 : i < k
  · rw [if_pos h1, if_pos (by omega)]
  · rw [if_neg h1]
    by_cases h2 : i - k = 0
    · rw [if_pos h2, if_pos (by omega)]; omega
    · rw [if_neg h2, if_neg (by omega), show i - (k + 1) = i - k - 1 by omega]; omega
theorem pre_ex (k a : Nat) (R : Nat → Nat) (i : Nat) : ex k (k + a) (pre k R i) = pre k (fun i => ex 0 a (R i)) i := by
  unfold pre
  by_cases h1 : i < k
  · rw [if_pos h1, if_pos h1]; unfold ex; repeat (first | split | omega)
  · rw [if_neg h1, if_neg h1]; dsimp only; unfold ex; repeat (first | split | omega)
theorem pre_id (k i : Nat) : pre k (fun i => i) i = i := by unfold pre; dsimp only; split <;> omega

structure Bar (N : Nat) (A : Nat → Nat → Int) (k : Nat) (t : Nat → Nat → Int) (q s : Int) (F : Nat → Nat → Int) : Prop where
  val : dt N F = s * dt N A
  sgn : s = 1 ∨ s = -1
  src : ∀ i j, i < N → j < N → ∃ r c, r < N ∧ c < N ∧ F i j = A r c
  ne : q ≠ 0
  main : ∀ (d : Nat) (R C : Nat → Nat), (∀ i, i < d + 1 → R i < N - k) → (∀ i, i < d + 1 → C i < N - k) → dt (d + 1) (fun i j => t (R i) (C j)) = pw q d * dt (k + d + 1) (fun i j => F (pre k R i) (pre k C j))
  last : k = N → q = dt N F

theorem Bar.start {N : Nat} {A t : Nat → Nat → Int} (h : ∀ i j, i < N → j < N → t i j = A i j) : Bar N A 0 t 1 1 A where
  val := by omega
  sgn := Or.inl rfl
  src := fun i j hi hj => ⟨i, j, hi, hj, rfl⟩
  ne := by omega
  main := fun d R C hR hC => by
    have e : pw 1 d = 1 := by
      induction d with
      | zero => rfl
      | succ d ih => unfold pw; rw [ih (fun i hi => hR i (by omega)) (fun i hi => hC i (by omega))]; rfl
    rw [e, Int.one_mul, show 0 + d + 1 = d + 1 by omega]
    exact dt_congr _ fun i j hi hj => by unfold pre; rw [if_neg (by omega), if_neg (by omega), h _ _ (hR i hi) (hC j hj)]; simp
  last := fun h => by subst h; rfl

theorem Bar.entry {N : Nat} {A : Nat → Nat → Int} {k : Nat} {t : Nat → Nat → Int} {q s : Int} {F : Nat → Nat → Int} (h : Bar N A k t q s F) {i j : Nat} (hi : i < N - k) (hj : j < N - k) : t i j = dt (k + 1) (fun r c => F (pre k (fun _ => i) r) (pre k (fun _ => j) c)) := by
  have e := h.main 0 (fun _ => i) (fun _ => j) (fun _ _ => hi) (fun _ _ => hj)
  rw [dt_one] at e
  simpa [pw] using e

theorem Bar.exact {N : Nat} {A : Nat → Nat → Int} {k : Nat} {t : Nat → Nat → Int} {q s : Int} {F : Nat → Nat → Int} (h : Bar N A k t q s F) {i j : Nat} (hi : i + 1 < N - k) (hj : j + 1 < N - k) : ∃ x, chio t i j = q * x := by
  have e := h.main 1 (fun r => if r = 0 then 0 else i + 1) (fun r => if r = 0 then 0 else j + 1) (fun r _ => by split <;> omega) (fun r _ => by split <;> omega)
  rw [dt_two] at e
  exact ⟨dt (k + 2) (fun r c => F (pre k (fun r => if r = 0 then 0 else i + 1) r) (pre k (fun r => if r = 0 then 0 else j + 1) c)), by
    have e2 : pw q 1 = q := by simp [pw]
    rw [e2] at e
    have e3 : k + 1 + 1 = k + 2 := by omega
    rw [e3] at e
    rw [← e]
    show t (i + 1) (j + 1) * t 0 0 - t 0 (j + 1) * t (i + 1) 0 = t 0 0 * t (i + 1) (j + 1) - t 0 (j + 1) * t (i + 1) 0
    rw [Int.mul_comm (t (i + 1) (j + 1))]⟩

theorem Bar.swap {N : Nat} {A : Nat → Nat → Int} {k : Nat} {t u : Nat → Nat → Int} {q s : Int} {F : Nat → Nat → Int} (h : Bar N A k t q s F) {a : Nat} (ha : a < N - k) (h0 : a ≠ 0) (hu : ∀ i j, i < N - k → j < N - k → u i j = t (ex 0 a i) j) : Bar N A k u q (-s) (fun i j => F (ex k (k + a) i) j) where
  val := by rw [dt_exR F (by omega) (by omega) (by omega), h.val]; grind
  sgn := by rcases h.sgn with h | h <;> omega
  src := fun i j hi hj => h.src _ j (ex_bd (by omega) (by omega) hi) hj
  ne := h.ne
  main := fun d R C hR hC => by
    have e := h.main d (fun i => ex 0 a (R i)) C (fun i hi => ex_bd (by omega) ha (hR i hi)) hC
    rw [dt_congr (d + 1) (g := fun i j => t (ex 0 a (R i)) (C j)) (fun i j hi hj => hu _ _ (hR i hi) (hC j hj)), e]
    refine congrArg _ (dt_congr _ fun i j _ _ => ?_)
    rw [pre_ex]
  last := fun h => by omega

theorem Bar.step {N : Nat} {A : Nat → Nat → Int} {k : Nat} {t u : Nat → Nat → Int} {q s : Int} {F : Nat → Nat → Int} (h : Bar N A k t q s F) (hk : k < N) (h0 : t 0 0 ≠ 0) (hu : ∀ i j, i + 1 < N - k → j + 1 < N - k → chio t i j = q * u i j) : Bar N A (k + 1) u (t 0 0) s F where
  val := h.val
  sgn := h.sgn
  src := h.src
  ne := h0
  main := fun d R C hR hC => by
    have e := h.main (d + 1) (bef R) (bef C) (fun i hi => by unfold bef; split; · omega
                                                             have := hR (i - 1) (by omega); omega) (fun i hi => by unfold bef; split; · omega
                                                                                                                   have := hC (i - 1) (by omega); omega)
    have e1 := dt_chio (n := d) (f := fun i j => t (bef R i) (bef C j)) h0
    have e2 : dt (d + 1) (chio (fun i j => t (bef R i) (bef C j))) = dt (d + 1) (fun i j => q * u (R i) (C j)) := dt_congr _ fun i j hi hj => by
      have h1 := hR i hi
      have h2 := hC j hj
      rw [← hu _ _ (by omega) (by omega)]
      rfl
    have e3 : t (bef R 0) (bef C 0) = t 0 0 := rfl
    rw [e2, e3, dt_scale q (d + 1) (fun i j => u (R i) (C j))] at e1
    rw [show d + 1 + 1 = d + 2 by omega] at e
    rw [e] at e1
    have e4 : dt (k + (d + 1) + 1) (fun i j => F (pre k (bef R) i) (pre k (bef C) j)) = dt (k + 1 + d + 1) (fun i j => F (pre (k + 1) R i) (pre (k + 1) C j)) := by
      rw [show k + (d + 1) + 1 = k + 1 + d + 1 by omega]
      exact dt_congr _ fun i j _ _ => by rw [pre_bef, pre_bef]
    rw [e4] at e1
    refine Int.eq_of_mul_eq_mul_left (pw_ne h.ne (d + 1)) (e1.trans ?_)
    grind
  last := fun hN => by
    rw [h.entry (show 0 < N - k by omega) (show 0 < N - k by omega), ← hN]
    refine dt_congr _ fun i j hi hj => ?_
    congr 1 <;> (unfold pre; dsimp only; split <;> omega)

theorem Bar.zero {N : Nat} {A : Nat → Nat → Int} {k : Nat} {t : Nat → Nat → Int} {q s : Int} {F : Nat → Nat → Int} (h : Bar N A k t q s F) (hk : k < N) (h0 : ∀ i, i < N - k → t i 0 = 0) : dt N A = 0 := by
  have e := h.main (N - k - 1) (fun i => i) (fun i => i) (fun i hi => by omega) (fun i hi => by omega)
  rw [dt_nought _ (fun i hi => h0 i (by omega)), show k + (N - k - 1) + 1 = N by omega] at e
  have e2 : dt N (fun i j => F (pre k (fun i => i) i) (pre k (fun i => i) j)) = dt N F := dt_congr _ fun i j _ _ => by rw [pre_id, pre_id]
  rw [e2, h.val] at e
  have e3 := pw_ne h.ne (N - k - 1)
  rcases Int.mul_eq_zero.mp e.symm with h1 | h1
  · exact absurd h1 e3
  · rcases Int.mul_eq_zero.mp h1 with h2 | h2
    · rcases h.sgn with h3 | h3 <;> omega
    · exact h2
theorem Bar.done {N : Nat} {A : Nat → Nat → Int} {t : Nat → Nat → Int} {q s : Int} {F : Nat → Nat → Int} (h : Bar N A N t q s F) : s * q = dt N A := by
  rw [h.last rfl, h.val]
  rcases h.sgn with h3 | h3 <;> subst h3 <;> omega

theorem tri_bd {a b c P Q R M : Int} (ha : -30 ≤ a ∧ a ≤ 30) (hb : -30 ≤ b ∧ b ≤ 30) (hc : -30 ≤ c ∧ c ≤ 30) (h : ∀ x y z : Int, (x = 1 ∨ x = -1) → (y = 1 ∨ y = -1) → (z = 1 ∨ z = -1) → x * P + y * Q + z * R ≤ M) : -(30 * M) ≤ a * P + b * Q + c * R ∧ a * P + b * Q + c * R ≤ 30 * M := by
  have one : ∀ u U : Int, (-30 ≤ u ∧ u ≤ 30) → ∃ x : Int, (x = 1 ∨ x = -1) ∧ -(30 * (x * U)) ≤ u * U ∧ u * U ≤ 30 * (x * U) := fun u U hu => by
    by_cases hU : 0 ≤ U
    · have e1 : 0 ≤ (30 - u) * U := Int.mul_nonneg (by omega) hU
      have e2 : 0 ≤ (30 + u) * U := Int.mul_nonneg (by omega) hU
      rw [Int.sub_mul] at e1
      rw [Int.add_mul] at e2
      exact ⟨1, Or.inl rfl, by omega, by omega⟩
    · have e1 : 0 ≤ (30 - u) * (-U) := Int.mul_nonneg (by omega) (by omega)
      have e2 : 0 ≤ (30 + u) * (-U) := Int.mul_nonneg (by omega) (by omega)
      rw [Int.sub_mul, Int.mul_neg, Int.mul_neg] at e1
      rw [Int.add_mul, Int.mul_neg, Int.mul_neg] at e2
      exact ⟨-1, Or.inr rfl, by omega, by omega⟩
  obtain ⟨x, hx, x1, x2⟩ := one a P ha
  obtain ⟨y, hy, y1, y2⟩ := one b Q hb
  obtain ⟨z, hz, z1, z2⟩ := one c R hc
  have := h x y z hx hy hz
  omega
theorem dt_three (f : Nat → Nat → Int) : dt 3 f = f 0 0 * (f 1 1 * f 2 2 - f 1 2 * f 2 1) + f 0 1 * (f 1 2 * f 2 0 - f 1 0 * f 2 2) + f 0 2 * (f 1 0 * f 2 1 - f 1 1 * f 2 0) := by
  rw [dt_succ]
  simp only [sumN, dt_two, dr]
  simp [skip, sn]
  grind
theorem dt_three_bd {f : Nat → Nat → Int} (h : ∀ i j, i < 3 → j < 3 → -30 ≤ f i j ∧ f i j ≤ 30) : -108000 ≤ dt 3 f ∧ dt 3 f ≤ 108000 := by
  rw [dt_three]
  have g0 := h 2 0 (by omega) (by omega)
  have g1 := h 2 1 (by omega) (by omega)
  have g2 := h 2 2 (by omega) (by omega)
  refine tri_bd (M := 3600) (h 0 0 (by omega) (by omega)) (h 0 1 (by omega) (by omega)) (h 0 2 (by omega) (by omega)) (fun x y z hx hy hz => ?_)
  have e := tri_bd (M := 120) (P := z * f 2 1 - y * f 2 2) (Q := x * f 2 2 - z * f 2 0) (R := y * f 2 0 - x * f 2 1) (h 1 0 (by omega) (by omega)) (h 1 1 (by omega) (by omega)) (h 1 2 (by omega) (by omega)) (fun u v w hu hv hw => by
    rcases hx with rfl | rfl <;> rcases hy with rfl | rfl <;> rcases hz with rfl | rfl <;> rcases hu with rfl | rfl <;> rcases hv with rfl | rfl <;> rcases hw with rfl | rfl <;> omega)
  have e2 := e.2
  grind
def bdN : Nat → Int
  | 0 => 1
  | 1 => 30
  | 2 => 1800
  | 3 => 108000
  | 4 => 12960000
  | 5 => 1944000000
  | _ => 349920000000
theorem sumN_bdC {f : Nat → Int} {B : Int} : ∀ n : Nat, (∀ j, j < n → -B ≤ f j ∧ f j ≤ B) → -(n * B) ≤ sumN f n ∧ sumN f n ≤ n * B
  | 0, _ => by simp [sumN]
  | n + 1, h => by
    have h1 := sumN_bdC n (fun j hj => h j (by omega))
    have h2 := h n (by omega)
    unfold sumN
    rw [show ((n + 1 : Nat) : Int) * B = n * B + B by rw [Int.natCast_add, Int.add_mul]; simp]
    omega
theorem dt_step_bd {n : Nat} {f : Nat → Nat → Int} {B : Int} (h : ∀ i j, i < n + 1 → j < n + 1 → -30 ≤ f i j ∧ f i j ≤ 30) (hB : ∀ g : Nat → Nat → Int, (∀ i j, i < n → j < n → -30 ≤ g i j ∧ g i j ≤ 30) → -B ≤ dt n g ∧ dt n g ≤ B) : -((n + 1 : Nat) * (30 * B)) ≤ dt (n + 1) f ∧ dt (n + 1) f ≤ (n + 1 : Nat) * (30 * B) := by
  rw [dt_succ]
  refine sumN_bdC _ fun k hk => ?_
  have h1 := h 0 k (by omega) hk
  have h2 := hB (dr k f) (fun i j hi hj => h _ _ (by omega) (skip_bd hj))
  have e := tri_bd (a := f 0 k) (b := 0) (c := 0) (P := dt n (dr k f)) (Q := 0) (R := 0) (M := B) h1 (by omega) (by omega) (fun x y z hx _ _ => by rcases hx with rfl | rfl <;> omega)
  unfold sn
  split <;> omega
theorem dt_bd : ∀ (n : Nat) (f : Nat → Nat → Int), n ≤ 6 → (∀ i j, i < n → j < n → -30 ≤ f i j ∧ f i j ≤ 30) → -(bdN n) ≤ dt n f ∧ dt n f ≤ bdN n
  | 0, f, _, _ => by rw [dt_zero]; simp [bdN]
  | 1, f, _, h => by rw [dt_one]; exact h 0 0 (by omega) (by omega)
  | 2, f, _, h => dt_step_bd h (fun g hg => dt_bd 1 g (by omega) hg)
  | 3, f, _, h => dt_three_bd h
  | 4, f, _, h => dt_step_bd h (fun g hg => dt_bd 3 g (by omega) hg)
  | 5, f, _, h => dt_step_bd h (fun g hg => dt_bd 4 g (by omega) hg)
  | 6, f, _, h => dt_step_bd h (fun g hg => dt_bd 5 g (by omega) hg)
  | n + 7, f, h, _ => by omega
theorem bdN_le {n : Nat} (h : n ≤ 5) : bdN n ≤ 1944000000 := by
  have : n = 0 ∨ n = 1 ∨ n = 2 ∨ n = 3 ∨ n = 4 ∨ n = 5 := by omega
  rcases this with rfl | rfl | rfl | rfl | rfl | rfl <;> decide
theorem Bar.bd {N : Nat} {A : Nat → Nat → Int} {k : Nat} {t : Nat → Nat → Int} {q s : Int} {F : Nat → Nat → Int} (h : Bar N A k t q s F) (hN : N ≤ 6) (hA : ∀ i j, i < N → j < N → -30 ≤ A i j ∧ A i j ≤ 30) {i j : Nat} (hi : i < N - k) (hj : j < N - k) : -(bdN (k + 1)) ≤ t i j ∧ t i j ≤ bdN (k + 1) := by
  rw [h.entry hi hj]
  refine dt_bd _ _ (by omega) fun r c hr hc => ?_
  obtain ⟨r', c', h1, h2, e⟩ := h.src (pre k (fun _ => i) r) (pre k (fun _ => j) c) (by unfold pre; dsimp only; split <;> omega) (by unfold pre; dsimp only; split <;> omega)
  rw [e]
  exact hA _ _ h1 h2

end Go.Proofs.YtpimdgijjljejaaDoor
end

section
namespace Go.Proofs.YtpimdgijjljejaaDoor
open Go.RowKit Go.Deep

theorem sumN_more (f : Nat → Int) (n : Nat) : ∀ m, (∀ j, n ≤ j → j < n + m → f j = 0) → sumN f (n + m) = sumN f n
  | 0, _ => rfl
  | m + 1, h => by
    show sumN f (n + m) + f (n + m) = _
    rw [sumN_more f n m (fun j h1 h2 => h j h1 (by omega)), h (n + m) (by omega) (by omega)]
    omega
theorem sumN_one (f : Nat → Int) (k : Nat) : ∀ n, k < n → (∀ j, j < n → j ≠ k → f j = 0) → sumN f n = f k
  | 0, h, _ => by omega
  | n + 1, h, hz => by
    unfold sumN
    by_cases e : k = n
    · subst e
      rw [sumN_none k (fun j hj => hz j (by omega) (by omega))]; omega
    · rw [sumN_one f k n (by omega) (fun j hj hk => hz j (by omega) hk), hz n (by omega) (fun h => e h.symm)]; omega
theorem sumN_mulR (c : Int) (f : Nat → Int) (n : Nat) : sumN (fun j => f j * c) n = sumN f n * c := by
  rw [sumN_congr n (g := fun j => c * f j) (fun j _ => Int.mul_comm _ _), sumN_mul, Int.mul_comm]

theorem dt_block (m : Nat) : ∀ (n : Nat) (f : Nat → Nat → Int), (∀ i j, i < n → n ≤ j → j < n + m → f i j = 0) → dt (n + m) f = dt n f * dt m (fun i j => f (n + i) (n + j))
  | 0, f, _ => by
    rw [dt_zero, Int.one_mul, Nat.zero_add]
    exact dt_congr m fun i j _ _ => by rw [Nat.zero_add, Nat.zero_add]
  | n + 1, f, h => by
    rw [show n + 1 + m = (n + m) + 1 by omega, dt_succ, show n + m + 1 = (n + 1) + m by omega, sumN_more _ (n + 1) m (fun j h1 h2 => by rw [h 0 j (by omega) h1 h2]; simp), dt_succ, ← sumN_mulR]
    refine sumN_congr _ fun k hk => ?_
    rw [dt_block m n (dr k f) (fun i j h1 h2 h3 => by
      show f (i + 1) (skip k j) = 0
      rw [skip_ge (by omega)]
      exact h _ _ (by omega) (by omega) (by omega))]
    have e : dt m (fun i j => dr k f (n + i) (n + j)) = dt m (fun i j => f (n + 1 + i) (n + 1 + j)) := dt_congr m fun i j _ _ => by
      show f (n + i + 1) (skip k (n + j)) = _
      rw [skip_ge (by omega), show n + i + 1 = n + 1 + i by omega, show n + j + 1 = n + 1 + j by omega]
    rw [e, Int.mul_assoc, Int.mul_assoc]

theorem dt_addS {n r : Nat} (f : Nat → Nat → Int) (c : Nat → Int) (s : Nat → Nat) (hr : r < n) : ∀ k, (∀ m, m < k → s m < n ∧ s m ≠ r) → dt n (setR f r (fun j => f r j + sumN (fun m => c m * f (s m) j) k)) = dt n f
  | 0, _ => by
    rw [dt_congr n (g := f) (fun i j _ _ => by
      unfold setR
      split
      · rename_i h; rw [h]; simp [sumN]
      · rfl)]
  | k + 1, h => by
    have e : ∀ i j, setR f r (fun j => f r j + sumN (fun m => c m * f (s m) j) (k + 1)) i j = setR f r (fun j => 1 * (f r j + sumN (fun m => c m * f (s m) j) k) + c k * f (s k) j) i j := fun i j => by
      unfold setR
      split
      · show f r j + (sumN (fun m => c m * f (s m) j) k + c k * f (s k) j) = 1 * (f r j + sumN (fun m => c m * f (s m) j) k) + c k * f (s k) j
        omega
      · rfl
    obtain ⟨h1, h2⟩ := h k (by omega)
    rw [dt_congr n (fun i j _ _ => e i j), dt_lin n r f 1 (c k) _ _ hr, dt_addS f c s hr k (fun m hm => h m (by omega)), dt_sameR (setR f r (fun j => f (s k) j)) (Ne.symm h2) hr h1 (fun j _ => by unfold setR; rw [if_pos rfl, if_neg h2])]
    omega

def mulF (n : Nat) (A B : Nat → Nat → Int) (i j : Nat) : Int := sumN (fun m => A i m * B m j) n
def oneF (i j : Nat) : Int := if i = j then 1 else 0
def blk (n : Nat) (A B : Nat → Nat → Int) (i j : Nat) : Int := if i < n then (if j < n then A i j else 0) else (if j < n then (if i - n = j then -1 else 0) else B (i - n) (j - n))
def blkT (n : Nat) (A B : Nat → Nat → Int) (t i j : Nat) : Int := if i < t then (if j < n then 0 else mulF n A B i (j - n)) else blk n A B i j
theorem dt_blkT (n : Nat) (A B : Nat → Nat → Int) : ∀ t, t ≤ n → dt (n + n) (blkT n A B t) = dt (n + n) (blk n A B)
  | 0, _ => dt_congr _ fun i j _ _ => by unfold blkT; rw [if_neg (by omega)]
  | t + 1, ht => by
    rw [← dt_blkT n A B t (by omega), ← dt_addS (blkT n A B t) (A t) (fun m => n + m) (show t < n + n by omega) n (fun m hm => ⟨by omega, by omega⟩)]
    refine dt_congr _ fun i j _ hj => ?_
    unfold setR
    by_cases hi : i = t
    · subst hi
      rw [if_pos rfl]
      have e1 : blkT n A B (i + 1) i j = if j < n then 0 else mulF n A B i (j - n) := if_pos (by omega)
      have e2 : blkT n A B i i j = if j < n then A i j else 0 := by unfold blkT blk; rw [if_neg (by omega), if_pos (by omega)]
      have e3 : ∀ m, blkT n A B i (n + m) j = if j < n then (if m = j then -1 else 0) else B m (j - n) := fun m => by unfold blkT blk; rw [if_neg (by omega), if_neg (by omega), Nat.add_sub_cancel_left]
      show _ = blkT n A B i i j + sumN (fun m => A i m * blkT n A B i (n + m) j) n
      rw [e1, e2]
      by_cases hjn : j < n
      · rw [if_pos hjn, if_pos hjn, sumN_one (fun m => A i m * blkT n A B i (n + m) j) j n hjn (fun m _ hmj => by rw [e3, if_pos hjn, if_neg hmj]; simp), e3, if_pos hjn, if_pos rfl]
        omega
      · rw [if_neg hjn, if_neg hjn, Int.zero_add]
        exact sumN_congr n fun m _ => by rw [e3, if_neg hjn]
    · rw [if_neg hi]
      unfold blkT
      by_cases h1 : i < t
      · rw [if_pos (by omega), if_pos h1]
      · rw [if_neg (by omega), if_neg h1]
def colT (n t j : Nat) : Nat := if j < t then n + j else if n ≤ j ∧ j < n + t then j - n else j
theorem dt_colT (n : Nat) (f : Nat → Nat → Int) : ∀ t, t ≤ n → dt (n + n) (fun i j => f i (colT n t j)) = sn t * dt (n + n) f
  | 0, _ => by
    rw [sn_zero, Int.one_mul]
    exact dt_congr _ fun i j _ _ => by
      congr 1
      unfold colT
      rw [if_neg (by omega), if_neg (by omega)]
  | t + 1, ht => by
    have h := dt_exC (fun i j => f i (colT n t j)) (show t ≠ n + t by omega) (show t < n + n by omega) (show n + t < n + n by omega)
    rw [dt_colT n f t (by omega)] at h
    rw [sn_succ]
    have e : dt (n + n) (fun i j => f i (colT n (t + 1) j)) = dt (n + n) (fun i j => f i (colT n t (ex t (n + t) j))) := dt_congr _ fun i j _ _ => by
      congr 1
      unfold colT ex
      repeat (first | split | omega)
    rw [e, h]
    grind
theorem dt_oneF : ∀ n, dt n oneF = 1
  | 0 => rfl
  | n + 1 => by
    rw [dt_corner oneF (fun i _ => if_neg (by omega)), show oneF 0 0 = 1 from rfl, Int.one_mul]
    rw [dt_congr n (g := oneF) (fun i j _ _ => by unfold oneF; by_cases h : i = j <;> simp [h])]
    exact dt_oneF n
theorem pw_neg : ∀ n, pw (-1) n = sn n
  | 0 => rfl
  | n + 1 => by rw [sn_succ, ← pw_neg n]; show -1 * pw (-1) n = _; omega
theorem dt_mul (n : Nat) (A B : Nat → Nat → Int) : dt n (mulF n A B) = dt n A * dt n B := by
  have h1 : dt (n + n) (blk n A B) = dt n A * dt n B := by
    rw [dt_block n n (blk n A B) (fun i j h1 h2 _ => by unfold blk; rw [if_pos h1, if_neg (by omega)])]
    congr 1
    · exact dt_congr n fun i j hi hj => by unfold blk; rw [if_pos hi, if_pos hj]
    · exact dt_congr n fun i j _ _ => by unfold blk; rw [if_neg (by omega), if_neg (by omega), Nat.add_sub_cancel_left, Nat.add_sub_cancel_left]
  have h2 := dt_colT n (blkT n A B n) n (Nat.le_refl _)
  rw [dt_blkT n A B n (Nat.le_refl _), h1] at h2
  have h3 : dt (n + n) (fun i j => blkT n A B n i (colT n n j)) = dt n (mulF n A B) * sn n := by
    rw [dt_block n n _ (fun i j h1 h2 h3 => by
      show blkT n A B n i (colT n n j) = 0
      have ec : colT n n j = j - n := by unfold colT; rw [if_neg (by omega), if_pos ⟨h2, h3⟩]
      rw [ec]
      unfold blkT
      rw [if_pos h1, if_pos (by omega)])]
    congr 1
    · refine dt_congr n fun i j hi hj => ?_
      show blkT n A B n i (colT n n j) = _
      have ec : colT n n j = n + j := by unfold colT; rw [if_pos hj]
      rw [ec]
      unfold blkT
      rw [if_pos hi, if_neg (by omega), Nat.add_sub_cancel_left]
    · rw [dt_congr n (g := fun i j => -1 * oneF i j) (fun i j hi hj => by
        show blkT n A B n (n + i) (colT n n (n + j)) = _
        have ec : colT n n (n + j) = j := by unfold colT; rw [if_neg (by omega), if_pos (by omega), Nat.add_sub_cancel_left]
        rw [ec]
        unfold blkT blk oneF
        rw [if_neg (show ¬ n + i < n by omega), if_neg (show ¬ n + i < n by omega), if_pos hj, Nat.add_sub_cancel_left]
        by_cases e : i = j <;> simp [e]), dt_scale (-1) n oneF, dt_oneF, pw_neg]
      omega
  rw [h3] at h2
  have h4 := sn_sq n
  have h5 : dt n (mulF n A B) * (sn n * sn n) = sn n * sn n * (dt n A * dt n B) := by grind
  rw [h4] at h5
  omega

def selN (s n i : Nat) : Nat := ((sel s n n).map (·.1)).getD i 0
theorem pickTo_at (c : Nat) (x : List Int) (m j : Nat) (hj : j < (sel c m m).length) : (pickTo c x m m).getD j 0 = x.getD (selN c m j) 0 := by
  unfold pickTo selN
  simp [List.getD, hj]
theorem partL_at (l : List (List Int)) (s c : Nat) {i j : Nat} (hi : i < (sel s l.length l.length).length) (hj : j < (sel c (l.getD 0 []).length (l.getD 0 []).length).length) :
    at2 (partL l s c) i j = at2 l (selN s l.length i) (selN c (l.getD 0 []).length j) := by
  have e1 : (partL l s c).getD i [] = pickTo c (l.getD (selN s l.length i) []) (l.getD 0 []).length (l.getD 0 []).length := by
    unfold partL partRows selN
    simp [List.getD, hi]
  unfold at2
  rw [e1, pickTo_at _ _ _ _ hj]
theorem selN_but : ∀ n : Fin 7, ∀ k : Fin 6, ∀ j : Fin 6, k.val < n.val → j.val + 1 < n.val → selN (2 ^ n.val - 1 - 2 ^ k.val) n.val j.val = skip k.val j.val := by decide +kernel
theorem sel_but_len : ∀ n : Fin 7, ∀ k : Fin 6, k.val < n.val → (sel (2 ^ n.val - 1 - 2 ^ k.val) n.val n.val).length + 1 = n.val := by decide +kernel
theorem partL_but {l : List (List Int)} {n r k i j : Nat} (hn : l.length = n) (hw : (l.getD 0 []).length = n) (h6 : n ≤ 6) (hr : r < n) (hk : k < n) (hi : i + 1 < n) (hj : j + 1 < n) :
    at2 (partL l (2 ^ n - 1 - 2 ^ r) (2 ^ n - 1 - 2 ^ k)) i j = at2 l (skip r i) (skip k j) := by
  have l1 := sel_but_len ⟨n, by omega⟩ ⟨r, by omega⟩ hr
  have l2 := sel_but_len ⟨n, by omega⟩ ⟨k, by omega⟩ hk
  simp only at l1 l2
  rw [partL_at l _ _ (by rw [hn]; omega) (by rw [hw]; omega), hn, hw]
  have e1 := selN_but ⟨n, by omega⟩ ⟨r, by omega⟩ ⟨i, by omega⟩ hr hi
  have e2 := selN_but ⟨n, by omega⟩ ⟨k, by omega⟩ ⟨j, by omega⟩ hk hj
  simp only at e1 e2
  rw [e1, e2]
theorem rowF_dt : ∀ (d : Nat) (l : List (List Int)), SqD d l → rowF d l = dt d (at2 l)
  | 0, _, _ => rfl
  | d + 1, l, h => by
    obtain ⟨hT, hw⟩ := h.2 (by omega)
    have h6 := hT.2.1
    have hn := h.1
    rw [rowF_succ, dt_succ]
    refine sumN_congr _ fun k hk => ?_
    rw [sg_sn, rowF_dt d _ (minor_sq h hk)]
    have e : dt d (at2 (minorL l (d + 1) k)) = dt d (dr k (at2 l)) := dt_congr d fun i j hi hj => by
      have := partL_but (r := 0) (k := k) (i := i) (j := j) hn hw (by omega) (by omega) hk (by omega) (by omega)
      exact this
    rw [e]

end Go.Proofs.YtpimdgijjljejaaDoor
end

section
namespace Go.Proofs.YtpimdgijjljejaaDoor
open Go.RowKit Go.Deep

theorem aboutP_skew {l : List (List Int)} {n : Nat} (h : AboutP l n) : Skew n (at2 l) := fun i j hi hj => by
  by_cases e : j ≤ i
  · have := h i hi j (by omega); omega
  · have := h j hj i (by omega); omega

end Go.Proofs.YtpimdgijjljejaaDoor
end

section
namespace Go.Proofs.YtpimdgijjljejaaDoor
open Go.RowKit Go.Deep

theorem pm_at {l u : List (List Int)} {n : Nat} (hT : TabIn l) (hl : l.length = n) (hw : (l.getD 0 []).length = n) (hu : u.length = n) (hwu : (u.getD 0 []).length = n) {i k : Nat} (hi : i < n) (hk : k < n) :
    at2 (pmL l u) i k = sumN (fun j => sumN (fun m => at2 l i m * at2 u m j * at2 l k j) n) n := by
  unfold pmL
  have htl : (turnL l).length = n := (turnL_length l).trans hw
  rw [makeP_at (by rw [makeL_length]; omega) (by rw [turnL_width hT]; omega), htl]
  refine sumN_congr n fun j hj => ?_
  show at2 (makeL l u) i j * at2 (turnL l) j k = _
  rw [makeP_at (by omega) (by omega), hu, turnL_at (by omega) (by omega), ← sumN_mulR]
  rfl
theorem pm_skew {l u : List (List Int)} {n : Nat} (hT : TabIn l) (hl : l.length = n) (hw : (l.getD 0 []).length = n) (hu : u.length = n) (hwu : (u.getD 0 []).length = n) (h : Skew n (at2 u)) : Skew n (at2 (pmL l u)) := fun i k hi hk => by
  rw [pm_at hT hl hw hu hwu hi hk, pm_at hT hl hw hu hwu hk hi, sumN_comm, ← sumN_neg]
  refine sumN_congr n fun m hm => ?_
  rw [← sumN_neg]
  refine sumN_congr n fun j hj => ?_
  rw [h m j hm hj]
  grind
theorem pm_about {l u : List (List Int)} {n : Nat} (h : Skew n (at2 (pmL l u))) : AboutP (pmL l u) n := fun i hi k hk => by
  have := h i k hi (by omega); omega

theorem pm2 (t00 t01 t10 t11 u : Int) : t00 * u * t11 - t01 * u * t10 = (t00 * t11 - t01 * t10) * u := by grind
theorem pm_half {l u : List (List Int)} {n : Nat} (h4 : n ≤ 4) (h1 : 1 ≤ n) (hT : TabIn l) (hl : l.length = n) (hw : (l.getD 0 []).length = n) (hu : u.length = n) (hwu : (u.getD 0 []).length = n) (h : Skew n (at2 u)) :
    halfF (pmL l u) n 3 (2 ^ n - 1) = dt n (at2 l) * halfF u n 3 (2 ^ n - 1) := by
  have hs := pm_skew hT hl hw hu hwu h
  by_cases ho : n % 2 = 1
  · rw [(half_sq _ h1 (by omega) hs).2 ho, (half_sq _ h1 (by omega) h).2 ho, Int.mul_zero]
  · have : n = 2 ∨ n = 4 := by omega
    rcases this with rfl | rfl
    · rw [show 2 ^ 2 - 1 = 3 by decide, half_two, half_two, dt_two, pm_at hT hl hw hu hwu (by omega) (by omega)]
      simp only [sumN]
      rw [skew_mid h (i := 0) (by omega), skew_mid h (i := 1) (by omega), h 1 0 (by omega) (by omega)]
      grind
    · rw [show 2 ^ 4 - 1 = 15 by decide, half_four, half_four, dtq_four]
      simp only [dtq_three, dr, skip]
      simp only [Nat.reduceAdd, Nat.reduceLT, if_true, if_false, Nat.lt_irrefl, Nat.zero_add]
      rw [pm_at hT hl hw hu hwu (i := 0) (k := 1) (by omega) (by omega), pm_at hT hl hw hu hwu (i := 2) (k := 3) (by omega) (by omega), pm_at hT hl hw hu hwu (i := 0) (k := 2) (by omega) (by omega), pm_at hT hl hw hu hwu (i := 1) (k := 3) (by omega) (by omega), pm_at hT hl hw hu hwu (i := 0) (k := 3) (by omega) (by omega), pm_at hT hl hw hu hwu (i := 1) (k := 2) (by omega) (by omega)]
      simp only [sumN]
      simp only [h 1 0 (by omega) (by omega), h 2 0 (by omega) (by omega), h 2 1 (by omega) (by omega), h 3 0 (by omega) (by omega), h 3 1 (by omega) (by omega), h 3 2 (by omega) (by omega), skew_mid h (show 0 < 4 by omega), skew_mid h (show 1 < 4 by omega), skew_mid h (show 2 < 4 by omega), skew_mid h (show 3 < 4 by omega)]
      generalize at2 u 0 1 = u1
      generalize at2 u 0 2 = u2
      generalize at2 u 0 3 = u3
      generalize at2 u 1 2 = u4
      generalize at2 u 1 3 = u5
      generalize at2 u 2 3 = u6
      grind

end Go.Proofs.YtpimdgijjljejaaDoor
end

section
namespace Go.Proofs.YtpimdgijjljejaaDoor
open Go.RowKit Go.Deep Go.Shelf
attribute [local go_sem] Oper.semAt_some

theorem lsum_bdR {n : Nat} (f : Nat → Int) (hf : ∀ j, j < n → -1000000000000 ≤ f j ∧ f j ≤ 1000000000000) (pre : List {i : Nat // i < n}) : -(1000000000000 * (pre.length : Int)) ≤ lsum f pre ∧ lsum f pre ≤ 1000000000000 * (pre.length : Int) := by
  have H : ∀ (pre : List {i : Nat // i < n}) (s : Int), s - 1000000000000 * (pre.length : Int) ≤ pre.foldl (fun s x => s + f x.1) s ∧ pre.foldl (fun s x => s + f x.1) s ≤ s + 1000000000000 * (pre.length : Int) := by
    intro pre
    induction pre with
    | nil => intro s; simp
    | cons x xs ih =>
      intro s
      have h1 := ih (s + f x.1)
      have h2 := hf x.1 x.2
      simp only [List.foldl_cons, List.length_cons]
      omega
  have := H pre 0
  unfold lsum
  omega

set_option maxRecDepth 100000 in
set_option maxHeartbeats 2000000 in
theorem prodEntryR_any (pu pt i k n n2 m m2 cap cap2 : Nat) (a a2 : Option Addr) (l u : List (List Int)) (w : World) (hn : l.length = n) (hu : u.length = n2) (hT : Rec l) (hTu : Rec u) (hmm : (l.getD 0 []).length = m) (hmm2 : (u.getD 0 []).length = m2) (hmn : m = n2)
    (hbu : w.cell? ⟨pu, 0, none⟩ = some (.slice a2 n2 cap2)) (hbt : w.cell? ⟨pt, 0, none⟩ = some (.slice a n cap)) (hm : MatR w a l) (hmu : MatR w a2 u) (hi : i < n) (hk : k < m2) (hB : ∀ j, j < n2 → -1000000000000 ≤ dotF l u i k j ∧ dotF l u i k j ≤ 1000000000000) :
    Calls Tryd.prog 67 #[.int .i64 i, .int .i64 k, .pointer (some ⟨pu, 0, none⟩), .pointer (some ⟨pt, 0, none⟩)] w fun e w' => e = .returned (.int .i64 (sumN (dotF l u i k) n2)) ∧ w.Since w.heap.size w' := by
  subst hmn
  have h6 := hT.high
  have g6 := hTu.high
  have h1 := hT.low
  have g1 := hTu.low
  have hw := hT.width
  have gw := hTu.width
  rw [hn] at h6 h1
  rw [hu] at g6 g1
  rw [hmm] at hw
  rw [hmm2] at gw
  obtain ⟨bt, ot, At, Ct, rfl, hlen, hcell⟩ := hm.gridR hn hT hmm
  obtain ⟨bu, ou, Au, Cu, rfl, hlenu, hcellu⟩ := hmu.gridR hu hTu hmm2
  have hpu : pu < w.heap.size := World.block_lt_of_cell? _ _ hbu
  have hpt : pt < w.heap.size := World.block_lt_of_cell? _ _ hbt
  have hbul : bu < w.heap.size := World.block_lt_of_cell? _ _ (hlenu 0 (by omega))
  have hbtl : bt < w.heap.size := World.block_lt_of_cell? _ _ (hlen 0 (by omega))
  have hpow : 2 ^ m - 1 ≤ 63 := by have : 2 ^ m ≤ 2 ^ 6 := Nat.pow_le_pow_right (by omega) g6; omega
  have HC := Lib.hid hcell
  have HCU := Lib.hid hcellu
  have HLU := Lib.hid hlenu
  obtain ⟨f, hf⟩ : ∃ f, f = dotF l u i k := ⟨_, rfl⟩
  rw [← hf]
  have HBF := Lib.hid (show ∀ j, j < m → -1000000000000 ≤ f j ∧ f j ≤ 1000000000000 by rw [hf]; exact hB)
  have HF := Lib.hid hf
  have hmix : Tryd.prog.follows .mixedOrders = true := by kernel_rfl
  clear hm hmu hT hTu hn hu hmm hmm2 hlen hcell hlenu hcellu hf hB
  refine (callsIn_wide (n := 9)).1 ?_
  refine callsIn_of_wp_marks Tryd.func67 rfl trivial ?_ rfl
  simp only [Tryd.ntmps67, List.size_toArray, List.length_cons, List.length_nil, Nat.reduceAdd, Nat.reduceSub, Array.replicate_succ, Array.replicate_zero, List.push_toArray, List.append_toArray, List.nil_append, List.cons_append]
  have hbuA := fun (o1 o2 o3 : Obj) => cell_alloc_l o3 (cell_alloc_l o2 (cell_alloc_l o1 hbu))
  gi_wp2
  gi_region_with_o (first
    | (refine ⟨trivial, ?_⟩; gi_at_call 58; refine (callsIn_wide.2 (allRows_any _ _ _ _ g6)).mono ?_; rintro e w' ⟨rfl, rfl⟩)
    | (refine ⟨trivial, ?_⟩; gi_at_call 68; refine (callsIn_wide.2 (rows_any _ _ _ _ _)).mono ?_; rintro e w' ⟨rfl, rfl⟩))
  all_goals
    gi_wp2
    obtain ⟨W0, hW0⟩ : ∃ W0, W0 = (((((w.alloc (.cells #[.int .i64 i] 3)).alloc (.cells #[.int .i64 k] 3)).alloc (.cells #[.int .i64 0] 3)).alloc (.cells #[.slice (some ⟨bu, ou, none⟩) m cap2] 39)).alloc (.cells #[.int .i64 (2 ^ m - 1 : Nat)] 3)).drew := ⟨_, rfl⟩
    rw [← hW0]
    obtain ⟨hsz0, hB0, d0, d1, d2, d2f, d3, d4⟩ := prod_world w (.int .i64 i) (.int .i64 k) (.int .i64 0) (.slice (some ⟨bu, ou, none⟩) m cap2) (.int .i64 (2 ^ m - 1 : Nat)) 39 W0 hW0
    have hc0' : ∀ j, j < m → W0.cell? ⟨bu, ou + j, none⟩ = some (.slice (Au j) m2 (Cu j)) := fun j hj => (hB0.cell (p := ⟨bu, ou + j, none⟩) hbul).trans (HLU.out j hj)
    have hstops := rows_stopsB 8 (by omega) (w.heap.size + 1 + 1) W0.heap.size (w.heap.size + 1 + 1 + 1) (w.heap.size + 1 + 1 + 1 + 1) bu ou m cap2 (2 ^ m - 1) (by omega) hpow Au (fun _ => m2) Cu W0 (Nat.le_refl _) (by omega) (by omega) (by omega) (by omega) (by omega) d3 d4 hc0'
    clear hc0' d3 d4 hbuA
    refine wpIn_rangeFunc_ownF (F := Fence.wide) (n := 9) rfl (by omega) (gf := 86) (lb := #[.pointer (some ⟨w.heap.size + 1 + 1 + 1, 0, none⟩), .pointer (some ⟨w.heap.size + 1 + 1 + 1 + 1, 0, none⟩)]) rfl trivial (enters_of Tryd.func86 (by kernel_rfl) rfl)
      hstops kpB_t (kpB_b (Nat.le_refl _)) (Below.refl _ _) (fun _ => rfl)
      (fun pre W => (W.cell? ⟨w.heap.size, 0, none⟩ = some (.int .i64 i) ∧ W.cell? ⟨w.heap.size + 1, 0, none⟩ = some (.int .i64 k) ∧ W.cell? ⟨w.heap.size + 1 + 1, 0, none⟩ = some (.int .i64 (lsum f pre)) ∧ W.frozen? ⟨w.heap.size + 1 + 1, 0, none⟩ = false) ∧ Below w.heap.size w W)
      (fun _ _ _ => False)
      (OwnFrom.and (Own.from (fun s A B row hs hg hr => ⟨cell_kept hs.1 hg hr, cell_kept hs.2.1 hg hr, cell_kept hs.2.2.1 hg hr, (frozen_kept hs.2.2.1 hg hr).trans hs.2.2.2⟩) _) (ownFrom_below (Nat.le_refl _) (by omega)))
      (fun c => fun s A B row hs hg hr => hs)
      ⟨⟨d0, d1, d2, d2f⟩, hB0⟩
      (fun x => { tmps := #[.int .i64 i, .int .i64 k, .pointer (some ⟨pu, 0, none⟩), .pointer (some ⟨pt, 0, none⟩), .pointer (some ⟨w.heap.size, 0, none⟩), .pointer (some ⟨w.heap.size + 1, 0, none⟩), .int .i64 0,
          .pointer (some ⟨w.heap.size + 1 + 1, 0, none⟩), .int .i64 x.1, .slice (Au x.1) m2 (Cu x.1), .slice (some ⟨bu, ou, none⟩) m cap2, .slice (some ⟨bu, ou, none⟩) m cap2, .int .i64 (2 ^ m - 1 : Nat),
          .func (.func 86) #[] #[.pointer (some ⟨w.heap.size + 1 + 1 + 1, 0, none⟩), .pointer (some ⟨w.heap.size + 1 + 1 + 1 + 1, 0, none⟩)],
          .int .i64 x.1, .slice (Au x.1) m2 (Cu x.1), undef, undef, undef, undef, undef, undef, undef, undef, undef, undef, undef, undef, undef, undef, undef], defers := [] }) ?assign ?body ?done ?stop
    case assign =>
      intro lp x W K hK
      gi_wp2
      exact hK
    case body =>
      rintro lp pre x W ⟨⟨g0, g1, g2, g2f⟩, gB⟩ hlen
      have hx2 := x.2
      obtain ⟨j, hj⟩ : ∃ j, x.1 = j := ⟨_, rfl⟩
      rw [hj] at hx2 ⊢
      obtain ⟨bi, oi, e1, e2⟩ := HC.out i j hi hx2
      obtain ⟨bj, oj, f1, f2⟩ := HCU.out j k hx2 hk
      have hAu : Au j = some ⟨bj, oj, none⟩ := by
        have := (HLU.out j hx2).symm.trans f1
        simp at this
        exact this
      rw [hAu]
      have hsn := lsum_snoc f pre x
      rw [hj] at hsn
      have hfj : f j = at2 l i j * at2 u j k := by rw [HF.out]; rfl
      have hlb := lsum_bdR f HBF.out pre
      have hpj := HBF.out j hx2
      have hl7 : pre.length ≤ 6 := by omega
      obtain ⟨p, hp⟩ : ∃ p, at2 l i j = p := ⟨_, rfl⟩
      obtain ⟨q, hq⟩ : ∃ q, at2 u j k = q := ⟨_, rfl⟩
      obtain ⟨s, hs⟩ : ∃ s, lsum f pre = s := ⟨_, rfl⟩
      rw [hp] at e2 hfj
      rw [hq] at f2 hfj
      rw [hs] at g2 hsn hlb
      rw [hfj] at hpj
      have hw1 : IntKind.i64.wrap (p * q) = p * q := IntWalk.i64_in _ ⟨by omega, by omega⟩
      have hw2 : IntKind.i64.wrap (s + p * q) = s + p * q := IntWalk.i64_in _ ⟨by omega, by omega⟩
      rw [hfj] at hsn
      have HSN := Lib.hid hsn
      have E0 := (gB.cell (p := ⟨pt, 0, none⟩) hpt).trans hbt
      have E1 := (gB.cell (p := ⟨bt, ot + i, none⟩) hbtl).trans e1
      have E2 := (gB.cell (p := ⟨bi, oi + j, none⟩) (World.block_lt_of_cell? _ _ e2)).trans e2
      have F2 := (gB.cell (p := ⟨bj, oj + k, none⟩) (World.block_lt_of_cell? _ _ f2)).trans f2
      clear hj hp hq hs hsn hlb hfj e1 e2 f1 f2 hAu hpj hl7
      gi_wp2
      refine round_still_tail 14 hmix (by kernel_rfl) (by kernel_rfl) ?hno ?_
      case hno =>
        rintro ⟨a, w, h⟩
        exact h
      simp only [List.take_succ_cons, List.take_zero, List.drop_succ_cons, List.drop_zero]
      repeat still_step
      refine wpStill_nil ?_
      go_wp2
      rw [← HSN.out] at hw2 ⊢
      have hset : ∀ v, (W.setCell ⟨w.heap.size + 1 + 1, 0, none⟩ v).frozen? ⟨w.heap.size + 1 + 1, 0, none⟩ = false := fun v => (W.frozen?_setCell _ _ _).trans g2f
      refine ⟨(KeepsOthers.setCell _ _ _).trans (KeepsOthers.drew _), ⟨?_, fun b h1 _ => ?_⟩, ⟨?_, ?_, ?_, ?_⟩, (gB.setCell (p := ⟨w.heap.size + 1 + 1, 0, none⟩) (by simp; omega) _).drew⟩
      · simp
      · exact Below.heap_setCell _ _ _ _ h1
      · exact (World.cell?_setCell_other _ _ _ _ (fun e => by injection e with e1; omega)).trans g0
      · exact (World.cell?_setCell_other _ _ _ _ (fun e => by injection e with e1; omega)).trans g1
      · exact World.cell?_setCell_same' _ _ _ (by rw [g2]; rfl)
      · exact hset _
    case done => 
      rintro D ys W hD rfl ⟨⟨g0, g1, g2, g2f⟩, gB⟩ hK
      gi_wp2
      refine ⟨by simp, .inl ⟨_, _, rfl, run_takeDeferred hK, ?_⟩⟩
      refine ⟨.int .i64 (sumN f m), ?_, rfl, below_since (gB.trans (belowK_b (w := w) (Nat.le_refl _) W D _ _ (by omega) hK rfl rfl))⟩
      have hls := lsum_sel f (2 ^ m - 1) m (fun i hi => by rw [Nat.testBit_two_pow_sub_one]; simpa using hi) m (Nat.le_refl _)
      simp [results, Tryd.f67, go_sem, hls]
    case stop =>
      rintro D c pre W hD hpre hF hK
      exact hF.elim

set_option maxRecDepth 100000 in
set_option maxHeartbeats 2000000 in
theorem productT_any (a : Option Addr) (cap n : Nat) (l : List (List Int)) (a2 : Option Addr) (cap2 n2 : Nat) (u : List (List Int)) (w : World) (hn : l.length = n) (hT : Rec l) (hm : MatR w a l) (hu : u.length = n2) (hTu : Rec u) (huw : (l.getD 0 []).length = n2) (hmu : MatR w a2 u) (hB : ∀ i j k, i < n → j < n2 → k < (u.getD 0 []).length → -1000000000000 ≤ at2 l i j * at2 u j k ∧ at2 l i j * at2 u j k ≤ 1000000000000) :
    Calls Tryd.prog 42 #[.slice a n cap, .slice a2 n2 cap2] w fun e w' => e = .returned (.slice (some ⟨w.heap.size + 1 + 1, 0, none⟩) n n) ∧ w.Since w.heap.size w' ∧ OwnT w.heap.size w'.heap.size w' (some ⟨w.heap.size + 1 + 1, 0, none⟩) (makeL l u) := by
  have hw := hTu.width
  have h6 := hT.high
  rw [hn] at h6
  have g6 := hTu.high
  have g1 := hTu.low
  rw [hu] at g6 g1
  have hwid := fun (W : World) (hs : w.Since w.heap.size W) => width_any a2 cap2 n2 u W hu (by omega) (by omega) (hmu.since hs)
  obtain ⟨m2, hmm⟩ : ∃ m, (u.getD 0 []).length = m := ⟨_, rfl⟩
  rw [hmm] at hB
  have hnt := fun (W : World) (hs : w.Since w.heap.size W) (hb0 : W.cell? ⟨w.heap.size, 0, none⟩ = some (.slice a n cap)) (hb1 : W.cell? ⟨w.heap.size + 1, 0, none⟩ = some (.slice a2 n2 cap2)) =>
    newTable_any 67 #[.pointer (some ⟨w.heap.size + 1, 0, none⟩), .pointer (some ⟨w.heap.size, 0, none⟩)] n m2 (fun i k => sumN (dotF l u i k) n2) W (by omega) (by omega) (enters_of Tryd.func67 (by kernel_rfl) rfl)
      (fun W' i k hs' hi hk => prodEntryR_any (w.heap.size + 1) w.heap.size i k n n2 n2 m2 cap cap2 a a2 l u W' hn hu hT hTu huw hmm rfl ((hs'.cell (a := ⟨w.heap.size + 1, 0, none⟩) (World.block_lt_of_cell? _ _ hb1)).trans hb1) ((hs'.cell (a := ⟨w.heap.size, 0, none⟩) (World.block_lt_of_cell? _ _ hb0)).trans hb0) (hm.since (hs.trans (since_mono hs' hs.size))) (hmu.since (hs.trans (since_mono hs' hs.size))) hi hk (fun j hj => hB i j k hi hj hk))
  have htl : makeL l u = tabF n m2 (fun i k => sumN (dotF l u i k) n2) := by unfold makeL; rw [hmm, hn, hu]
  rw [hmm] at hwid hw
  rw [htl]
  have HW := Lib.hid hwid
  have HNT := Lib.hid hnt
  have HS1 := Lib.hid (show w.Since w.heap.size ((w.alloc (.cells #[.slice a n cap] 39)).alloc (.cells #[.slice a2 n2 cap2] 39)) from (((World.Since.refl _ _).alloc (Nat.le_refl _) _).alloc (by simp) _))
  have hc0 := cell_new_l w (.slice a n cap) 39
  have hc1 := cell_new_l (w.alloc (.cells #[.slice a n cap] 39)) (.slice a2 n2 cap2) 39
  simp only [World.size_alloc] at hc1
  have hcb0 : ((w.alloc (.cells #[.slice a n cap] 39)).alloc (.cells #[.slice a2 n2 cap2] 39)).cell? ⟨w.heap.size, 0, none⟩ = some (.slice a n cap) := (cell_alloc_l _ hc0.1)
  have hcb1 : ((w.alloc (.cells #[.slice a n cap] 39)).alloc (.cells #[.slice a2 n2 cap2] 39)).cell? ⟨w.heap.size + 1, 0, none⟩ = some (.slice a2 n2 cap2) := hc1.1
  clear hwid hnt hm hT hn hmm htl hc0 hc1 hu hTu huw hmu hB
  go_enter Tryd.func42, Tryd.ntmps42
  go_wp2
  go_region_held3 (fun w' => w'.cell? ⟨w.heap.size, 0, none⟩ = some (.slice a n cap) ∧ w'.cell? ⟨w.heap.size + 1, 0, none⟩ = some (.slice a2 n2 cap2)) (go_keep)
    (first
      | (go_at_call 41; refine (HW.out _ ?_).mono ?_; (exact World.Since.drew HS1.out); rintro e w1 ⟨rfl, rfl⟩)
      | (go_at_call 66; refine (HNT.out _ ?_ ?_ ?_).mono ?_; (exact World.Since.drew HS1.out); (exact hcb0); (exact hcb1); rintro e w1 ⟨rfl, hs2, ho⟩; have hcc := hs2.cell (a := ⟨w.heap.size, 0, none⟩) (World.block_lt_of_cell? _ _ hcb0); simp only [World.cell?_drew, hcb0] at hcc; have hcd := hs2.cell (a := ⟨w.heap.size + 1, 0, none⟩) (World.block_lt_of_cell? _ _ hcb1); simp only [World.cell?_drew, hcb1] at hcd))
  all_goals
    go_wp2
    go_ret
    refine ⟨rfl, HS1.out.trans (since_mono (since_of_drew hs2) (by simp; omega)), ?_⟩
    have hz : ((w.alloc (.cells #[.slice a n cap] 39)).alloc (.cells #[.slice a2 n2 cap2] 39)).drew.heap.size = w.heap.size + 1 + 1 := by simp
    rw [hz] at ho
    exact ho.mono (by omega) (Nat.le_refl _)

end Go.Proofs.YtpimdgijjljejaaDoor
end

section
namespace Go.Proofs.YtpimdgijjljejaaDoor

noncomputable def sameOk (l u : List (List Int)) : Bool := tabIn l && (tabIn u && decide (l = u))

end Go.Proofs.YtpimdgijjljejaaDoor
end

section
namespace Go.Proofs.YtpimdgijjljejaaDoor
open Go.RowKit Go.Deep Go.Shelf

set_option maxHeartbeats 1000000 in
theorem slicesEqual_any (a b : Option Addr) (ca cb m : Nat) (x y : List Int) (w : World) (hx : x.length = m) (hy : y.length = m) (h63 : m ≤ 1048576) (ha : RowR w a x) (hb : RowR w b y) :
    Calls Tryd.prog 88 #[.slice a m ca, .slice b m cb] w fun e w' => e = .returned (.bool (decide (x = y))) ∧ Drawn w w' := by
  have hext : (∀ j, j < m → x.getD j 0 = y.getD j 0) → x = y := fun h => by
    refine List.ext_getElem (by omega) fun c g1 g2 => ?_
    have := h c (by omega)
    simpa [List.getD, g1, g2] using this
  have HX := Lib.hid hx
  have HY := Lib.hid hy
  have HEXT := Lib.hid hext
  clear hx hy hext
  go_enter Tryd.func88, Tryd.ntmps88
  go_wp2
  go_loopg [5, 13] m (fun g _ i wr => ∃ k : Nat, k ≤ m ∧ g = m - k ∧ i = .int .i64 k ∧ Drawn w wr ∧ ∀ j, j < k → x.getD j 0 = y.getD j 0)
  case atStart => exact ⟨0, Nat.zero_le _, rfl, rfl, Drawn.refl w, fun j hj => absurd hj (Nat.not_lt_zero _)⟩
  case round =>
    obtain ⟨k, hk, rfl, rfl, hD, hS⟩ := hrel
    have HS := Lib.hid hS
    clear hS
    by_cases hlt : k < m
    · obtain ⟨b1, o1, rfl, hc1⟩ := ha (by rw [HX.out]; omega)
      obtain ⟨b2, o2, rfl, hc2⟩ := hb (by rw [HY.out]; omega)
      have c1 := hc1 k (by rw [HX.out]; exact hlt)
      have c2 := hc2 k (by rw [HY.out]; exact hlt)
      obtain ⟨p, hp⟩ : ∃ p, x.getD k 0 = p := ⟨_, rfl⟩
      obtain ⟨q, hq⟩ : ∃ q, y.getD k 0 = q := ⟨_, rfl⟩
      rw [hp] at c1
      rw [hq] at c2
      rw [← hD.cell] at c1 c2
      have HP := Lib.hid hp
      have HQ := Lib.hid hq
      clear hp hq hc1 hc2 ha hb
      by_cases hpq : p = q
      · subst hpq
        go_wp2
        go_quiet (fail)
        go_wp2
        go_roundg (m - (k + 1))
        case measure => omega
        case rel => exact ⟨k + 1, by omega, rfl, by go_num, hD.trans (Drawn.mk _ _), fun j hj => by
          by_cases e : j = k
          · subst e; rw [HP.out, HQ.out]
          · exact HS.out j (by omega)⟩
      · have hne : (p != q) = true := by simp [hpq]
        go_wp2
        go_quiet (fail)
        go_wp2
        go_ret
        refine ⟨ret_bool (decide_eq_false fun e => ?_).symm, hD.trans (Drawn.mk _ _)⟩
        subst e
        exact hpq (by rw [← HP.out, ← HQ.out])
    · have : k = m := by omega
      subst this
      have HXY := Lib.hid (HEXT.out HS.out)
      go_wp2
      go_ret
      exact ⟨ret_bool (decide_eq_true HXY.out).symm, hD⟩

theorem rows_eq {l u : List (List Int)} {n : Nat} (hn : l.length = n) (hu : u.length = n) (h : ∀ r, r < n → l.getD r [] = u.getD r []) : l = u := by
  refine List.ext_getElem (by omega) fun c g1 g2 => ?_
  have := h c (by omega)
  simpa [List.getD, g1, g2] using this

attribute [local go_sem] Oper.semAt_some

set_option maxRecDepth 100000 in
set_option maxHeartbeats 2000000 in
theorem same_any (a a2 : Option Addr) (cap cap2 n n2 : Nat) (l u : List (List Int)) (w : World) (hn : l.length = n) (hu : u.length = n2) (hm : MatR w a l) (hmu : MatR w a2 u) (hT : TabIn l) (hTu : TabIn u) :
    Calls Tryd.prog 71 #[.slice a n cap, .slice a2 n2 cap2] w fun e w' => e = .returned (.bool (decide (l = u))) ∧ w.Since w.heap.size w' := by
  have h6 := hT.2.1
  have h1 := hT.1
  rw [hn] at h1 h6
  have hw := hT.width
  have E := Lib.hid (fun (W : World) (hs : Below w.heap.size w W) => alike_any a a2 cap cap2 n n2 l u W hn hu hT hTu (hm.since (below_since hs)) (hmu.since (below_since hs)))
  refine (callsIn_wide (n := 9)).1 ?_
  refine callsIn_of_wp_marks Tryd.func71 rfl trivial ?_ rfl
  simp only [Tryd.ntmps71, List.size_toArray, List.length_cons, List.length_nil, Nat.reduceAdd, Nat.reduceSub, Array.replicate_succ, Array.replicate_zero, List.push_toArray, List.append_toArray, List.nil_append, List.cons_append]
  have hB2 : Below w.heap.size w ((w.alloc (.cells #[.slice a2 n2 cap2] 39)).alloc (.cells #[.bool false] 4)) := ((Below.refl _ w).alloc (Nat.le_refl _) _).alloc (by simp) _
  have HB2 := Lib.hid hB2
  clear hB2
  cases hal : alikeB l u with
  | false =>
    rw [hal] at E
    have hno : l ≠ u := by
      rintro rfl
      unfold alikeB at hal
      simp at hal
    have HNO := Lib.hid hno
    clear hm hmu hT hTu hn hu hno hal
    gi_wp2_with (refine ⟨trivial, ?_⟩; gi_at_call 87; refine (callsIn_wide.2 (E.out _ HB2.out)).mono ?_; rintro e w' ⟨rfl, rfl⟩)
    refine ⟨.bool false, ?_, ret_bool (decide_eq_false HNO.out).symm, below_since HB2.out⟩
    simp [results, Tryd.f71, go_sem]
  | true =>
    rw [hal] at E
    unfold alikeB at hal
    rw [Bool.and_eq_true, beq_iff_eq, beq_iff_eq] at hal
    obtain rfl : n2 = n := by omega
    obtain ⟨m, hmm⟩ : ∃ m, (l.getD 0 []).length = m := ⟨_, rfl⟩
    have hrow : ∀ r, r < n2 → (l.getD r []).length = m := fun r hr => by rw [hT.row (by omega), hmm]
    have hrowu : ∀ r, r < n2 → (u.getD r []).length = m := fun r hr => by rw [hTu.row (by omega), ← hal.2, hmm]
    rw [hmm] at hw
    obtain ⟨b, o, A, C, ha, hc⟩ := hm (by omega)
    obtain ⟨d, q, A2, C2, ha2, hc2⟩ := hmu (by omega)
    have hbl : b < w.heap.size := World.block_lt_of_cell? _ _ (hc 0 (by omega)).1
    have hdl : d < w.heap.size := World.block_lt_of_cell? _ _ (hc2 0 (by omega)).1
    have hc1 : ∀ r, r < n2 → w.cell? ⟨b, o + r, none⟩ = some (.slice (A r) m (C r)) ∧ RowR w (A r) (l.getD r []) := fun r hr => by
      have := hc r (by omega); rw [hrow r hr] at this; exact this
    have hc3 : ∀ r, r < n2 → w.cell? ⟨d, q + r, none⟩ = some (.slice (A2 r) m (C2 r)) ∧ RowR w (A2 r) (u.getD r []) := fun r hr => by
      have := hc2 r (by omega); rw [hrowu r hr] at this; exact this
    subst ha
    subst ha2
    have HC := Lib.hid hc1
    have HC2 := Lib.hid hc3
    have HROW := Lib.hid hrow
    have HROWU := Lib.hid hrowu
    have HEQ := Lib.hid (rows_eq hn hu)
    have hpow : 2 ^ n2 - 1 ≤ 63 := by have : 2 ^ n2 ≤ 2 ^ 6 := Nat.pow_le_pow_right (by omega) h6; omega
    clear hm hmu hT hTu hn hu hal hmm hc hc2 hc1 hc3 hrow hrowu
    gi_wp2_with (first
      | (refine ⟨trivial, ?_⟩; gi_at_call 87; refine (callsIn_wide.2 (E.out _ HB2.out)).mono ?_; rintro e w' ⟨rfl, rfl⟩)
      | (refine ⟨trivial, ?_⟩; gi_at_call 58; refine (callsIn_wide.2 (allRows_any _ _ _ _ h6)).mono ?_; rintro e w' ⟨rfl, rfl⟩)
      | (refine ⟨trivial, ?_⟩; gi_at_call 68; refine (callsIn_wide.2 (rows_any _ _ _ _ _)).mono ?_; rintro e w' ⟨rfl, rfl⟩))
    obtain ⟨W0, hW0⟩ : ∃ W0, W0 = (((w.alloc (.cells #[.slice (some ⟨d, q, none⟩) n2 cap2] 39)).alloc (.cells #[.bool false] 4)).alloc (.cells #[.slice (some ⟨b, o, none⟩) n2 cap] 39)).alloc (.cells #[.int .i64 (2 ^ n2 - 1 : Nat)] 3) := ⟨_, rfl⟩
    rw [← hW0]
    have hsz0 : W0.heap.size = w.heap.size + 1 + 1 + 1 + 1 := by rw [hW0]; simp
    have hB0 : Below w.heap.size w W0 := by rw [hW0]; exact (HB2.out.alloc (by simp; omega) _).alloc (by simp; omega) _
    have c0 := cell_new_l w (.slice (some ⟨d, q, none⟩) n2 cap2) 39
    have c1 := cell_new_l (w.alloc (.cells #[.slice (some ⟨d, q, none⟩) n2 cap2] 39)) (.bool false) 4
    have c2 := cell_new_l ((w.alloc (.cells #[.slice (some ⟨d, q, none⟩) n2 cap2] 39)).alloc (.cells #[.bool false] 4)) (.slice (some ⟨b, o, none⟩) n2 cap) 39
    have c3 := cell_new_l (((w.alloc (.cells #[.slice (some ⟨d, q, none⟩) n2 cap2] 39)).alloc (.cells #[.bool false] 4)).alloc (.cells #[.slice (some ⟨b, o, none⟩) n2 cap] 39)) (.int .i64 (2 ^ n2 - 1 : Nat)) 3
    simp only [World.size_alloc] at c1 c2 c3
    have d0 : W0.cell? ⟨w.heap.size, 0, none⟩ = some (.slice (some ⟨d, q, none⟩) n2 cap2) := by rw [hW0]; exact cell_alloc_l _ (cell_alloc_l _ (cell_alloc_l _ c0.1))
    have d1 : W0.cell? ⟨w.heap.size + 1, 0, none⟩ = some (.bool false) := by rw [hW0]; exact cell_alloc_l _ (cell_alloc_l _ c1.1)
    have d1f : W0.frozen? ⟨w.heap.size + 1, 0, none⟩ = false := by rw [hW0]; exact frozen_alloc_l _ (cell_alloc_l _ c1.1) (frozen_alloc_l _ c1.1 c1.2)
    have d2 : W0.cell? ⟨w.heap.size + 1 + 1, 0, none⟩ = some (.slice (some ⟨b, o, none⟩) n2 cap) := by rw [hW0]; exact cell_alloc_l _ c2.1
    have d3 : W0.cell? ⟨w.heap.size + 1 + 1 + 1, 0, none⟩ = some (.int .i64 (2 ^ n2 - 1 : Nat)) := by rw [hW0]; exact c3.1
    clear c0 c1 c2 c3
    have hc0' : ∀ k, k < n2 → W0.cell? ⟨b, o + k, none⟩ = some (.slice (A k) m (C k)) := fun k hk => (hB0.cell (p := ⟨b, o + k, none⟩) hbl).trans (HC.out k hk).1
    have hstops := rows_stops 8 (by omega) (w.heap.size + 1 + 1) (w.heap.size + 1 + 1 + 1) b o n2 cap (2 ^ n2 - 1) W0.heap.size (by omega) hpow A (fun _ => m) C W0 (Nat.le_refl _) (by omega) (by omega) (by omega) d2 d3 hc0'
    clear hc0' d2 d3
    refine wpIn_rangeFunc_ownF (F := Fence.wide) (n := 9) rfl (by omega) (gf := 86) (lb := #[.pointer (some ⟨w.heap.size + 1 + 1, 0, none⟩), .pointer (some ⟨w.heap.size + 1 + 1 + 1, 0, none⟩)]) rfl trivial (enters_of Tryd.func86 (by kernel_rfl) rfl)
      hstops belowK_t (belowK_b (Nat.le_refl _)) (Below.refl _ _) (fun _ => rfl)
      (fun pre W => (W.cell? ⟨w.heap.size, 0, none⟩ = some (.slice (some ⟨d, q, none⟩) n2 cap2) ∧ W.cell? ⟨w.heap.size + 1, 0, none⟩ = some (.bool false) ∧ W.frozen? ⟨w.heap.size + 1, 0, none⟩ = false ∧ ∀ x ∈ pre, l.getD x.1 [] = u.getD x.1 []) ∧ Below w.heap.size w W)
      (fun c _ W => (c = .ret ∧ l ≠ u ∧ W.cell? ⟨w.heap.size + 1, 0, none⟩ = some (.bool false)) ∧ Below w.heap.size w W)
      (OwnFrom.and (Own.from (fun s A B row hs hg hr => ⟨cell_kept hs.1 hg hr, cell_kept hs.2.1 hg hr, (frozen_kept hs.2.1 hg hr).trans hs.2.2.1, hs.2.2.2⟩) _) (ownFrom_below (Nat.le_refl _) (by omega)))
      (fun c => OwnFrom.and (Own.from (fun s A B row hs hg hr => ⟨hs.1, hs.2.1, cell_kept hs.2.2 hg hr⟩) _) (ownFrom_below (Nat.le_refl _) (by omega)))
      ⟨⟨d0, d1, d1f, by simp⟩, hB0⟩
      (fun x => { tmps := #[.slice (some ⟨b, o, none⟩) n2 cap, .slice (some ⟨d, q, none⟩) n2 cap2, undef, .pointer (some ⟨w.heap.size, 0, none⟩), .pointer (some ⟨w.heap.size + 1, 0, none⟩), .int .i64 x.1, .slice (A x.1) m (C x.1), .slice (some ⟨b, o, none⟩) n2 cap, .slice (some ⟨d, q, none⟩) n2 cap2,
          .bool true, .bool false, .slice (some ⟨b, o, none⟩) n2 cap, .slice (some ⟨b, o, none⟩) n2 cap, .int .i64 (2 ^ n2 - 1 : Nat),
          .func (.func 86) #[] #[.pointer (some ⟨w.heap.size + 1 + 1, 0, none⟩), .pointer (some ⟨w.heap.size + 1 + 1 + 1, 0, none⟩)],
          .int .i64 x.1, .slice (A x.1) m (C x.1), undef, undef, undef, undef, undef, undef, undef], defers := [] }) ?assign ?body ?done ?stop
    case assign =>
      intro lp x W K hK
      gi_wp2
      exact hK
    case body =>
      rintro lp pre x W ⟨⟨g0, g1, g2, g3⟩, gB⟩ hlen
      obtain ⟨_, r1⟩ := HC.out x.1 x.2
      obtain ⟨e2, r2⟩ := HC2.out x.1 x.2
      rw [← gB.cell (p := ⟨d, q + x.1, none⟩) hdl] at e2
      have hx2 := x.2
      obtain ⟨X, hX⟩ : ∃ X, l.getD x.1 [] = X := ⟨_, rfl⟩
      obtain ⟨Y, hY⟩ : ∃ Y, u.getD x.1 [] = Y := ⟨_, rfl⟩
      have hXm := HROW.out x.1 x.2
      have hYm := HROWU.out x.1 x.2
      rw [hX] at r1 hXm
      rw [hY] at r2 hYm
      have E5 := slicesEqual_any (A x.1) (A2 x.1) (C x.1) (C2 x.1) m X Y W hXm hYm (by omega) (r1.since (below_since gB)) (r2.since (below_since gB))
      have HX := Lib.hid hX
      have HY := Lib.hid hY
      obtain ⟨bb, hbb⟩ : ∃ bb, decide (X = Y) = bb := ⟨_, rfl⟩
      rw [hbb] at E5
      have HBB := Lib.hid hbb
      replace E5 := Lib.hid E5
      clear hX hY hXm hYm r1 r2 hbb
      cases bb with
      | true =>
        gi_wp2_with (refine ⟨trivial, ?_⟩; gi_at_call 88; refine (CallsIn.inRound lp (callsIn_wide.2 E5.out)).mono ?_; rintro e w' ⟨rfl, qq, rfl⟩)
        have hxy : X = Y := of_decide_eq_true HBB.out
        refine ⟨⟨Nat.le_refl _, fun _ _ h _ => h⟩, ⟨rfl, rfl, rfl, Nat.le_refl _, fun _ _ => rfl⟩, ⟨g0, g1, g2, fun y hy => ?_⟩, ⟨gB.os, gB.tape, gB.output, gB.size, gB.block⟩⟩
        rcases List.mem_append.1 hy with hy | hy
        · exact g3 y hy
        · simp at hy
          subst hy
          rw [HX.out, HY.out]; exact hxy
      | false =>
        gi_wp2_with (refine ⟨trivial, ?_⟩; gi_at_call 88; refine (CallsIn.inRound lp (callsIn_wide.2 E5.out)).mono ?_; rintro e w' ⟨rfl, qq, rfl⟩)
        have hxy : X ≠ Y := of_decide_eq_false HBB.out
        have gB' : Below w.heap.size w (W.drewN qq) := ⟨gB.os, gB.tape, gB.output, gB.size, gB.block⟩
        have g1' : (W.drewN qq).cell? ⟨w.heap.size + 1, 0, none⟩ = some (.bool false) := g1
        have hk0 : KeepsOthers W (W.drewN qq) := ⟨Nat.le_refl _, fun _ _ h _ => h⟩
        exact ⟨hk0.trans (KeepsOthers.setCell _ _ _), ⟨rfl, fun e => hxy (by rw [← HX.out, ← HY.out, e]), World.cell?_setCell_same' _ _ _ (by rw [g1']; rfl)⟩, gB'.setCell (p := ⟨w.heap.size + 1, 0, none⟩) (by simp) _⟩
    case done =>
      rintro D ys W hD rfl ⟨⟨g0, g1, g2, g3⟩, gB⟩ hK
      have hlu : l = u := HEQ.out fun r hr => g3 ⟨r, hr⟩ (sel_mem (2 ^ n2 - 1) n2 hr (Nat.le_refl _) (by rw [Nat.testBit_two_pow_sub_one]; simpa using hr))
      have HLU := Lib.hid hlu
      clear hlu
      gi_wp2
      have hK' := (KeepsOthers.setCell W ⟨w.heap.size + 1, 0, none⟩ (.bool true)).same D _ hK rfl
      refine ⟨by simp, .inl ⟨_, _, rfl, run_takeDeferred hK', ?_⟩⟩
      have hc5 := cell_kept (World.cell?_setCell_same' W ⟨w.heap.size + 1, 0, none⟩ (.bool true) (by rw [g1]; rfl)) (grownBy_putObj' _ D (.deferred none)) (fun r e => by cases e; exact ⟨_, hK', rfl⟩)
      refine ⟨.bool true, ?_, ret_bool (decide_eq_true HLU.out).symm, below_since ((gB.setCell (p := ⟨w.heap.size + 1, 0, none⟩) (by simp) _).trans (belowK_b (w := w) (Nat.le_refl _) _ D _ _ (by omega) hK' rfl rfl))⟩
      simp [results, Tryd.f71, go_sem, hc5]
    case stop =>
      rintro D c pre W hD hpre ⟨⟨rfl, hnot, hcr⟩, gB⟩ hK
      have HNOT := Lib.hid hnot
      clear hnot
      gi_wp2
      refine ⟨by simp, .inl ⟨_, _, rfl, run_takeDeferred hK, ?_⟩⟩
      have hc5 := cell_kept hcr (grownBy_putObj' _ D (.deferred none)) (fun r e => by cases e; exact ⟨_, hK, rfl⟩)
      refine ⟨.bool false, ?_, ret_bool (decide_eq_false HNOT.out).symm, below_since (gB.trans (belowK_b (w := w) (Nat.le_refl _) W D _ _ (by omega) hK rfl rfl))⟩
      simp [results, Tryd.f71, go_sem, hc5]

end Go.Proofs.YtpimdgijjljejaaDoor
end

section
namespace Go.Proofs.YtpimdgijjljejaaDoor
open Go.RowKit Go.Deep

theorem same_ext {l u : List (List Int)} {n m : Nat} (hn : l.length = n) (hu : u.length = n) (hl : ∀ r, r < n → (l.getD r []).length = m) (hul : ∀ r, r < n → (u.getD r []).length = m) (h : ∀ r c, r < n → c < m → at2 l r c = at2 u r c) : l = u := by
  refine List.ext_getElem (by omega) fun r h1 h2 => ?_
  have e1 : l.getD r [] = l[r] := by simp [List.getD, h1]
  have e2 : u.getD r [] = u[r] := by simp [List.getD, h2]
  have l1 := hl r (by omega)
  have l2 := hul r (by omega)
  rw [e1] at l1
  rw [e2] at l2
  refine List.ext_getElem (by omega) fun c g1 g2 => ?_
  have := h r c (by omega) (by omega)
  unfold at2 at this
  rw [e1, e2] at this
  simpa [List.getD, g1, g2] using this

def SameTo (l u : List (List Int)) (m r c : Nat) : Prop := (∀ i j, i < r → j < m → at2 l i j = at2 u i j) ∧ ∀ j, j < c → at2 l r j = at2 u r j
theorem SameTo.next {l u : List (List Int)} {m r : Nat} (h : SameTo l u m r m) : SameTo l u m (r + 1) 0 :=
  ⟨fun i j hi hj => by
    by_cases e : i = r
    · subst e; exact h.2 j hj
    · exact h.1 i j (by omega) hj, fun j hj => absurd hj (Nat.not_lt_zero _)⟩
theorem SameTo.step {l u : List (List Int)} {m r c : Nat} (h : SameTo l u m r c) (e : at2 l r c = at2 u r c) : SameTo l u m r (c + 1) :=
  ⟨h.1, fun j hj => by
    by_cases e' : j = c
    · subst e'; exact e
    · exact h.2 j (by omega)⟩

end Go.Proofs.YtpimdgijjljejaaDoor
end

section
namespace Go.Proofs.YtpimdgijjljejaaDoor
open Go.RowKit Go.Deep

theorem neg_tab {l : List (List Int)} (hT : TabIn l) : TabIn (timesL l (-1)) := by
  refine tabIn_tabF hT.1 hT.2.1 hT.width.1 hT.width.2 (fun i k hi hk => ?_)
  have := hT.at hi hk
  omega
theorem about_same {l : List (List Int)} {n : Nat} (hT : TabIn l) (hn : l.length = n) (hw : (l.getD 0 []).length = n) : (decide (l = timesL (turnL l) (-1))) = decide (AboutP l n) := by
  have hat : ∀ i k, i < n → k < n → at2 (timesL (turnL l) (-1)) i k = -at2 l k i := fun i k hi hk => by
    rw [timesL_at (by rw [turnL_length]; omega) (by rw [turnL_width hT]; omega), turnL_at (by omega) (by omega)]
    omega
  by_cases h : AboutP l n
  · rw [decide_eq_true h]
    refine decide_eq_true ?_
    have hTt := tabIn_of (tabIn_turn hT)
    have hlt : (turnL l).length = n := (turnL_length l).trans hw
    have hN := neg_tab hTt
    have hlN : (timesL (turnL l) (-1)).length = n := (timesL_length _ _).trans hlt
    have hwN : ((timesL (turnL l) (-1)).getD 0 []).length = n := by rw [timesL_width _ (by have := hT.1; omega), turnL_width hT]; exact hn
    refine same_ext (n := n) (m := n) hn hlN (fun r hr => by rw [hT.row (by omega), hw]) (fun r hr => by rw [hN.row (by omega), hwN]) fun i k hi hk => ?_
    rw [hat i k hi hk]
    by_cases e : k ≤ i
    · have := h i hi k (by omega); omega
    · have := h k hk i (by omega); omega
  · rw [decide_eq_false h]
    refine decide_eq_false fun e => h fun i hi k hk => ?_
    have this : at2 l i k = at2 (timesL (turnL l) (-1)) i k := congrArg (fun m => at2 m i k) e
    rw [hat i k hi (by omega)] at this
    omega

set_option maxRecDepth 100000 in
set_option maxHeartbeats 1000000 in
theorem turnedAbout_any (a : Option Addr) (cap n : Nat) (l : List (List Int)) (w : World) (hn : l.length = n) (hsz : szL l ≤ 1048576) (hm : MatR w a l) :
    Calls Tryd.prog 51 #[.slice a n cap] w fun e w' => e = .returned (.bool (pairB l)) ∧ w.Since w.heap.size w' := by
  have E := isSquare_any a cap n l w hn hsz hm
  cases hs : sqB l with
  | false =>
    have hok : pairB l = false := by unfold pairB; rw [hs]; rfl
    rw [hs] at E
    rw [hok]
    replace E := Lib.hid E
    clear hs hm hn hsz hok
    go_enter Tryd.func51, Tryd.ntmps51
    go_wp2_with (first
      | (go_at_call 56; refine (E.out).mono ?_; rintro e w1 ⟨rfl, hd⟩; have HD := Lib.hid hd; clear hd))
    go_ret
    exact ⟨rfl, HD.out⟩
  | true =>
    obtain ⟨hT, hw⟩ := sqB_of hs
    rw [hn] at hw
    have hok : pairB l = decide (l = timesL (turnL l) (-1)) := by rw [about_same hT hn hw.symm]; unfold pairB; rw [hs, hn]; rfl
    rw [hs] at E
    rw [hok]
    have hTt := tabIn_of (tabIn_turn hT)
    have hlt : (turnL l).length = n := (turnL_length l).trans hw.symm
    have ET := fun (W : World) (hd : w.Since w.heap.size W) => turned_any a cap n l W hn hT (hm.since hd)
    simp only [← hw] at ET
    have EM := fun (b : Option Addr) (W : World) (hd : MatR W b (turnL l)) => times_any b n n (turnL l) (-1) W hlt hTt hd (by omega) (by omega)
    have ES := fun (b : Option Addr) (W : World) (hd : w.Since w.heap.size W) (hb : MatR W b (timesL (turnL l) (-1))) => same_any a b cap n n n l (timesL (turnL l) (-1)) W hn ((timesL_length _ _).trans hlt) (hm.since hd) hb hT (neg_tab hTt)
    obtain ⟨r, hr⟩ : ∃ r, decide (l = timesL (turnL l) (-1)) = r := ⟨_, rfl⟩
    simp only [hr] at ES
    rw [hr]
    replace E := Lib.hid E
    replace ET := Lib.hid ET
    replace EM := Lib.hid EM
    replace ES := Lib.hid ES
    clear hs hm hn hsz hok hT hw hTt hlt hr
    go_enter Tryd.func51, Tryd.ntmps51
    go_wp2_with (first
      | (go_at_call 56; refine (E.out).mono ?_; rintro e w1 ⟨rfl, hd⟩; have HD := Lib.hid hd; clear hd)
      | (go_at_call 43; refine (ET.out w1 HD.out).mono ?_; rintro e w2 ⟨rfl, hs2, ho2⟩; have HS2 := Lib.hid (HD.out.trans (since_mono hs2 HD.out.size)); have HO2 := Lib.hid ho2.matR; clear hs2 ho2)
      | (go_at_call 72; refine (EM.out _ w2 HO2.out).mono ?_; rintro e w3 ⟨rfl, hs3, ho3⟩; have HS3 := Lib.hid (HS2.out.trans (since_mono hs3 HS2.out.size)); have HO3 := Lib.hid ho3.matR; clear hs3 ho3)
      | (go_at_call 71; refine (ES.out _ w3 HS3.out HO3.out).mono ?_; rintro e w4 ⟨rfl, hs4⟩; have HS4 := Lib.hid (HS3.out.trans (since_mono hs4 HS3.out.size)); clear hs4))
    go_ret
    exact ⟨rfl, HS4.out⟩

theorem implPairIn_any (a : Option Addr) (cap n : Nat) (l : List (List Int)) (w : World) (hn : l.length = n) (hsz : szL l ≤ 1048576) (hm : MatR w a l) :
    Calls Tryd.prog 24 #[.slice a n cap] w fun e w' => e = .returned (.bool (pairB l)) ∧ w.Since w.heap.size w' := by
  have E := Lib.hid (turnedAbout_any a cap n l w hn hsz hm)
  clear hm hn hsz
  go_enter Tryd.func24, Tryd.ntmps24
  go_wp2_with fail
  refine (E.out).mono ?_
  rintro e w1 ⟨rfl, hd⟩
  have HD := Lib.hid hd
  clear hd
  go_wp2
  go_ret
  exact ⟨rfl, HD.out⟩

end Go.Proofs.YtpimdgijjljejaaDoor
end

section
namespace Go.Proofs.YtpimdgijjljejaaDoor
open Go.RowKit Go.Deep

set_option maxHeartbeats 1000000 in
theorem implPairMake_any (a a2 : Option Addr) (cap cap2 n n2 : Nat) (l u : List (List Int)) (w : World) (hn : l.length = n) (hu : u.length = n2) (hsz : szL l ≤ 1048576) (hszu : szL u ≤ 1048576) (hm : MatR w a l) (hmu : MatR w a2 u) :
    Calls Tryd.prog 20 #[.slice a n cap, .slice a2 n2 cap2] w (ImplT w (pmOk l u) (pmL l u)) := by
  have E := Lib.hid (implTableIn_any a cap n l w hn hsz hm)
  have E2 := Lib.hid (fun (W : World) (hs : w.Since w.heap.size W) => implPairIn_any a2 cap2 n2 u W hu hszu (hmu.since hs))
  cases hT : tabIn l with
  | false =>
    have hok : pmOk l u = false := by unfold pmOk; rw [hT]; rfl
    rw [hT] at E
    rw [hok]
    clear hT hsz hm hn hok E2 hszu hmu hu
    go_enter Tryd.func20, Tryd.ntmps20
    go_wp2_with fail
    refine (E.out).mono ?_
    rintro e w1 ⟨rfl, hs⟩
    go_wp2
    go_ret2
    exact ⟨_, _, rfl, hs, OwnT.nil _ _ _ _⟩
  | true =>
    have hTT := tabIn_of hT
    rw [hT] at E
    cases hTu : pairB u with
    | false =>
      have hok : pmOk l u = false := by unfold pmOk; rw [hT, hTu]; rfl
      rw [hTu] at E2
      rw [hok]
      clear hT hsz hm hn hok hTT hTu hszu hmu hu
      go_enter Tryd.func20, Tryd.ntmps20
      go_wp2_with fail
      refine (E.out).mono ?_
      rintro e w1 ⟨rfl, hs⟩
      go_wp2_with fail
      refine (E2.out w1 hs).mono ?_
      rintro e w2 ⟨rfl, hs2⟩
      go_wp2
      go_ret2
      exact ⟨_, _, rfl, hs.trans (since_mono hs2 hs.size), OwnT.nil _ _ _ _⟩
    | true =>
      obtain ⟨hTTu, hwu, _⟩ := pairB_of hTu hu
      rw [hTu] at E2
      have h6 := hTT.2.1
      have h1 := hTT.1
      have g6 := hTTu.2.1
      rw [hn] at h6 h1
      rw [hu] at g6
      have E3 := Lib.hid (fun (W : World) (hs : w.Since w.heap.size W) => width_any a cap n l W hn (by omega) (by omega) (hm.since hs))
      have hw := hTT.width
      obtain ⟨m, hmm⟩ : ∃ m, (l.getD 0 []).length = m := ⟨_, rfl⟩
      rw [hmm] at E3 hw
      by_cases hal : m = n2
      · subst hal
        have hok : pmOk l u = tabIn (pmL l u) := by unfold pmOk; rw [hT, hTu, hmm, hu]; simp
        have hmw : ((makeL l u).getD 0 []).length = m := by rw [makeP_wid u hTT.1]; exact hwu
        have htl : (turnL l).length = m := (turnL_length l).trans hmm
        have hT2 := turnL_tab hTT
        have hB : ∀ i j k, i < n → j < m → k < ((turnL l).getD 0 []).length → -1000000000000 ≤ at2 (makeL l u) i j * at2 (turnL l) j k ∧ at2 (makeL l u) i j * at2 (turnL l) j k ≤ 1000000000000 := fun i j k hi hj hk => by
          obtain ⟨p1, p2⟩ := makeL_bd hTT hTTu (by rw [hmm, hu]) (i := i) (k := j) (by omega) (by omega)
          obtain ⟨q1, q2⟩ := hT2.at (i := j) (k := k) (by omega) hk
          have := mul_bdAB p1 p2 q1 q2
          omega
        have HE3 := Lib.hid (fun (W : World) (hs : w.Since w.heap.size W) => product_any a cap n l a2 cap2 m u W hn hTT (hm.since hs) hu hTTu hmm (hmu.since hs))
        have HE4 := fun (W : World) (hs : w.Since w.heap.size W) => turned_any a cap n l W hn hTT (hm.since hs)
        simp only [hmm] at HE4
        replace HE4 := Lib.hid HE4
        have HE5 := Lib.hid (fun (a3 a4 : Option Addr) (W : World) (h3 : MatR W a3 (makeL l u)) (h4 : MatR W a4 (turnL l)) => productT_any a3 n n (makeL l u) a4 m m (turnL l) W ((makeL_length l u).trans hn) (rec_make hTT hTTu) h3 htl hT2.rec hmw h4 hB)
        have HTL := Lib.hid ((pmL_length l u).trans hn)
        have hszl := szL_pm u hTT
        rw [hok]
        clear hT hsz hm hn hok hTT hTu hszu hmu hu hTTu hmm hmw htl hT2 hB hwu
        go_enter Tryd.func20, Tryd.ntmps20
        go_wp2_with fail
        refine (E.out).mono ?_
        rintro e w1 ⟨rfl, hs⟩
        go_wp2_with fail
        refine (E2.out w1 hs).mono ?_
        rintro e w2 ⟨rfl, hs2⟩
        have hs12 := hs.trans (since_mono hs2 hs.size)
        clear hs2
        go_wp2_with fail
        refine (E3.out w2 hs12).mono ?_
        rintro e w3 ⟨rfl, rfl⟩
        go_wp2_with fail
        refine (HE3.out w2 hs12).mono ?_
        rintro e w3 ⟨rfl, hs3, ho3⟩
        have hs13 : w.Since w.heap.size w3 := hs12.trans (since_mono hs3 hs12.size)
        have HZ3 := Lib.hid hs3.size
        clear hs3
        go_wp2_with fail
        refine (HE4.out w3 hs13).mono ?_
        rintro e w4 ⟨rfl, hs4, ho4⟩
        have hs14 : w.Since w.heap.size w4 := hs13.trans (since_mono hs4 hs13.size)
        have HO3 := Lib.hid (ho3.matR.since hs4)
        have HO4 := Lib.hid ho4.matR
        clear hs4 ho3 ho4
        go_wp2_with fail
        refine (HE5.out _ _ w4 HO3.out HO4.out).mono ?_
        rintro e w5 ⟨rfl, hs5, ho5⟩
        have hs15 : w.Since w.heap.size w5 := hs14.trans (since_mono hs5 hs14.size)
        have hz := hs14.size
        clear hs5
        go_wp2_with fail
        refine (result_any _ _ _ _ _ (pmL l u) w5 HTL.out hszl ho5).mono ?_
        rintro e w6 ⟨a', cap', rfl, hs6, ho6⟩
        go_wp2
        go_ret2
        exact ⟨a', cap', rfl, hs15.trans (since_mono hs6 hs15.size), ho6.mono hz hs6.size⟩
      · have hb : ((m : Int) != (n2 : Int)) = true := by simp; omega
        have hok : pmOk l u = false := by unfold pmOk; rw [hT, hTu, hmm, hu]; simp [hal]
        rw [hok]
        clear hT hsz hm hn hok hTT hTu hszu hmu hu hTTu hmm hal
        go_enter Tryd.func20, Tryd.ntmps20
        go_wp2_with fail
        refine (E.out).mono ?_
        rintro e w1 ⟨rfl, hs⟩
        go_wp2_with fail
        refine (E2.out w1 hs).mono ?_
        rintro e w2 ⟨rfl, hs2⟩
        have hs12 := hs.trans (since_mono hs2 hs.size)
        go_wp2_with fail
        refine (E3.out w2 hs12).mono ?_
        rintro e w3 ⟨rfl, rfl⟩
        go_wp2
        go_ret2
        exact ⟨_, _, rfl, hs12, OwnT.nil _ _ _ _⟩

end Go.Proofs.YtpimdgijjljejaaDoor
end

section
namespace Go.Proofs.YtpimdgijjljejaaDoor
open Go.RowKit Go.Deep Go.Shelf

def FromB {β : Type} (B : Nat) (J : β → World → Prop) : Prop := ∀ s W W' row, J s W → W.grownBy W' row → (∀ r, row = some r → B ≤ r) → J s W'
theorem FromB.and {β : Type} {B : Nat} {I J : β → World → Prop} (h : FromB B I) (k : FromB B J) : FromB B (fun s W => I s W ∧ J s W) := fun s W W' row hs hg hr => ⟨h s W W' row hs.1 hg hr, k s W W' row hs.2 hg hr⟩
theorem FromB.alloc {β : Type} {B : Nat} {J : β → World → Prop} (h : FromB B J) {s : β} {W : World} (o : Obj) (hs : J s W) : J s (W.alloc o) := h s W _ none hs (World.grownBy_alloc W o none) (fun r e => by cases e)
theorem FromB.put {β : Type} {B : Nat} {J : β → World → Prop} (h : FromB B J) {s : β} {W : World} {l : Nat} (o : Obj) (hs : J s W) (hl : B ≤ l) : J s (W.putObj l o) := h s W _ (some l) hs (grownBy_putObj' W l o) (fun r e => by cases e; exact hl)

structure Keeps (own : Nat → Prop) (W W' : World) : Prop where
  size : W.heap.size ≤ W'.heap.size
  same : ∀ k o, ¬ own k → W.heap[k]? = some o → W'.heap[k]? = some o
theorem Keeps.refl (own : Nat → Prop) (W : World) : Keeps own W W := ⟨Nat.le_refl _, fun _ _ _ h => h⟩
theorem Keeps.trans {own : Nat → Prop} {A B C : World} (h : Keeps own A B) (k : Keeps own B C) : Keeps own A C := ⟨Nat.le_trans h.size k.size, fun i o hi ho => k.same i o hi (h.same i o hi ho)⟩
theorem Keeps.mono {own own' : Nat → Prop} {A B : World} (h : Keeps own A B) (hw : ∀ k, own k → own' k) : Keeps own' A B := ⟨h.size, fun k o hk ho => h.same k o (fun h => hk (hw k h)) ho⟩
theorem Keeps.grown {own : Nat → Prop} {A B : World} {row : Option Nat} (h : A.grownBy B row) (hr : ∀ r, row = some r → own r) : Keeps own A B :=
  ⟨h.size, fun k _ hk ho => (h.block k (Array.getElem?_eq_some_iff.1 ho).1 (fun e => hk (hr k e.symm))).trans ho⟩
theorem Keeps.cell {own : Nat → Prop} {A B : World} (h : Keeps own A B) {a : Addr} {v : Value} (ha : ¬ own a.block) (hc : A.cell? a = some v) : B.cell? a = some v := by
  obtain ⟨o, ho, _⟩ := cells_of_cell hc
  have := h.same _ _ ha ho
  unfold World.cell? at hc ⊢
  rw [ho] at hc
  rw [this]
  exact hc

def SeqC {α : Type} (F : Fence) (n : Nat) (P : Program) (g : Nat) (lb : Array Value) (encs : α → Array Value) (Px : α → World → Prop) (need : Nat → Prop) (S : List α → Prop) (N : Nat) (w : World) : Prop :=
  ∀ (l : Nat) (J : List α → World → Prop) (own : Nat → Prop) (W : World), Below w.heap.size w W → (∀ k, own k → k < W.heap.size ∧ ¬ need k) → FromB W.heap.size J →
    (∀ pre x W1, J pre W1 → Px x W1 → pre.length < N → YieldAt F (n - 1) P l (encs x) W1 fun e W' => e = .returned (.bool true) ∧ J (pre ++ [x]) W' ∧ Keeps own W1 W') →
    J [] W →
    CallsIn F n P g (#[.func (.yield l) #[] #[]] ++ lb) W fun e W' => (∃ v, e = .returned v) ∧ ∃ xs, S xs ∧ J xs W'

def roundC {α : Type} (own : Nat → Prop) (I : List α → World → Prop) (xs : List α) (W : World) : Exit → Act → World → Prop
  | .normal, _, W' => Keeps own W W' ∧ I xs W'
  | _, _, _ => False

theorem Keeps.put (own : Nat → Prop) (W : World) {l : Nat} (o : Obj) (hl : own l) : Keeps own W (W.putObj l o) := Keeps.grown (grownBy_putObj' W l o) (fun r e => by cases e; exact hl)

set_option maxHeartbeats 1000000 in
theorem rangeC {F : Fence} {n : Nat} {P : Program} {w : World} {α : Type} {g : Operand} {ps : Array Tmp} {assign body : Code} {Q : Exit → Act → World → Prop} {a : Act}
    (hro : F.round = none) (h1 : 1 ≤ n) {gf : Nat} {lb : Array Value} (hg : a.eval g = .func (.func gf) #[] lb) (hFg : F.fn gf) (eg : ∀ args w, (callFunc gf args).run P w = .ok (.enter gf args) w)
    {encs : α → Array Value} {Px : α → World → Prop} {need : Nat → Prop} {S : List α → Prop} {N : Nat} (hseq : SeqC F (n - 1) P gf lb encs Px need S N w) (hps : ∀ x, (encs x).size = ps.size)
    (hPx : ∀ x W l o o', Px x W → W.heap[l]? = some o → o.isCells = false → Px x (W.putObj l o'))
    (own : Nat → Prop) (hown : ∀ k, own k → k < w.heap.size ∧ ¬ need k) (hneed : ∀ k, need k → k < w.heap.size)
    (I : List α → World → Prop) (hI : FromB w.heap.size I) (h0 : I [] w) (a₁ : α → Act)
    (hassign : ∀ (l : Nat) (x : α) (W : World) (K : Act → World → Prop), K (a₁ x) W →
      assign.wpIn (F.inRound l) (n - 1 - 1) P (Exit.then K (fun _ _ _ => False)) { tmps := (ps.zip (encs x)).foldl (fun t (p, v) => t.setIfInBounds p v) a.tmps, defers := [] } W)
    (hbody : ∀ (l : Nat) (pre : List α) (x : α) (W : World), w.heap.size ≤ l → I pre W → Px x W → pre.length < N → body.wpIn (F.inRound l) (n - 1 - 1) P (roundC own I (pre ++ [x]) W) (a₁ x) W)
    (hdone : ∀ (D : Nat) (xs : List α) (W : World), w.heap.size ≤ D → S xs → I xs W → W.heap[D]? = some (.deferred (some [])) → Q .normal { a with defers := { target := .collected D, args := #[] } :: a.defers } W) :
    (Code.rangeFunc g ps assign body).wpIn F n P Q a w := by
  refine wpIn_rangeFunc fun fn hfn => ?_
  rw [hro]
  -- the two blocks of the loop: w.heap.size for deferred calls, L for its record
  obtain ⟨L, hL⟩ : ∃ L, L = w.heap.size + 1 := ⟨_, rfl⟩
  let R : LoopState → Option Code → Obj := fun st pe => .loop { state := st, pending := pe, fn := fn, tmps := a.tmps, params := ps, assign := assign, body := body, defers := w.heap.size }
  obtain ⟨V, hV⟩ : ∃ V, V = (w.alloc (.deferred (some []))).alloc (R .ready none) := ⟨_, rfl⟩
  have sV : V.heap.size = L + 1 := by rw [hV, hL]; simp
  have lV : V.heap[L]? = some (R .ready none) := by
    have := World.alloc_heap_new (w.alloc (.deferred (some []))) (R .ready none)
    rw [World.size_alloc] at this
    rw [hV, hL]; exact this
  have dV : V.heap[w.heap.size]? = some (.deferred (some [])) := by
    rw [hV]; exact (Below.heap_alloc _ _ _ (by simp)).trans (World.alloc_heap_new w _)
  have bV : Below w.heap.size w V := by rw [hV]; exact ((Below.refl _ w).alloc (Nat.le_refl _) _).alloc (by simp) _
  have iV : I [] V := by rw [hV]; exact hI.alloc _ (hI.alloc _ h0)
  have hen : (Instr.enterLoop fn a.tmps ps assign body none).run P w = .ok (L, [{ target := .collected w.heap.size, args := #[] }]) V := by
    rw [hV, hL]; exact run_enterLoop_outer _ _ _ _ _
  clear hV
  have hrec : FromB V.heap.size (fun (_ : Unit) W => W.heap[L]? = some (R .ready none) ∧ W.heap[w.heap.size]? = some (.deferred (some []))) := fun _ A B row hs hgr hr =>
    ⟨(hgr.block L (Array.getElem?_eq_some_iff.1 hs.1).1 (fun e => by have := hr L e.symm; omega)).trans hs.1, (hgr.block _ (Array.getElem?_eq_some_iff.1 hs.2).1 (fun e => by have := hr _ e.symm; omega)).trans hs.2⟩
  refine ⟨L, _, V, { target := .fn (.func gf) lb, args := #[.func (.yield L) #[] #[]] }, V, gf, #[.func (.yield L) #[] #[]] ++ lb, V, hen, ?_, ?_, ?_, fun _ => h1, ?_⟩
  · simp only [resolve, hg]
    simp [go_sem]
  · intro f' hf'
    simp [Target.leads] at hf'
    subst hf'
    exact hFg
  · simp [invoke, go_sem, eg]
  refine (hseq L (fun pre W => I pre W ∧ W.heap[L]? = some (R .ready none) ∧ W.heap[w.heap.size]? = some (.deferred (some [])))
    (fun k => own k ∨ k = L) V bV ?_ ?_ ?_ ⟨iV, lV, dV⟩).mono ?_
  · rintro k (hk | rfl)
    · exact ⟨by have := (hown k hk).1; omega, (hown k hk).2⟩
    · exact ⟨by omega, fun h => by have := hneed _ h; omega⟩
  · intro s A B row hs hgr hr
    exact ⟨hI s A B row hs.1 hgr (fun r e => by have := hr r e; omega), hrec () A B row hs.2 hgr hr⟩
  · rintro pre x W ⟨hi, hl, hd⟩ hpx hlen
    have lt : L < W.heap.size := (Array.getElem?_eq_some_iff.1 hl).1
    refine ⟨fn, _, assign, body, run_yield hl (hps x), roundIn_of_wpIn hfn (hassign L x W _ ⟨_, run_beginRound hl rfl, ?_⟩)⟩
    obtain ⟨X, hX⟩ : ∃ X, X = W.putObj L (R .busy none) := ⟨_, rfl⟩
    have lX : X.heap[L]? = some (R .busy none) := by rw [hX]; exact World.putObj_heap_same lt
    have dX : X.heap[w.heap.size]? = some (.deferred (some [])) := by rw [hX]; exact (World.putObj_heap_other (by omega)).trans hd
    have iX : I pre X := by rw [hX]; exact hI.put _ hi (by omega)
    have pX : Px x X := by rw [hX]; exact hPx x W L _ _ hpx hl rfl
    have kX : Keeps (fun k => own k ∨ k = L) W X := by rw [hX]; exact Keeps.put _ W _ (.inr rfl)
    have hno : ¬ own L := fun h => by have := (hown _ h).1; omega
    have hno2 : ¬ own w.heap.size := fun h => by have := (hown _ h).1; omega
    refine wpIn_mono (by rw [← hX]; exact hbody L pre x X (by omega) iX pX hlen) ?_
    rintro e b Y hp
    cases e with
    | normal =>
      have lY := hp.1.same _ _ hno lX
      have dY := hp.1.same _ _ hno2 dX
      exact ⟨_, _, run_endRound none lY, rfl, ⟨hI.put _ hp.2 (by omega), World.putObj_heap_same (Array.getElem?_eq_some_iff.1 lY).1, (World.putObj_heap_other (by omega)).trans dY⟩, (kX.trans (hp.1.mono fun _ h => .inl h)).trans (Keeps.put _ Y _ (.inr rfl))⟩
    | ret => exact hp.elim
    | exit id => exact hp.elim
    | goto t => exact hp.elim
    | panic ch => exact hp.elim
    | outgrown => exact hp.elim
  · rintro e Y ⟨⟨v, rfl⟩, xs, hS, hi, hl, hd⟩
    exact ⟨none, _, run_endLoop hl (by simp), hdone _ xs _ (Nat.le_refl _) hS (hI.put _ hi (by omega)) ((World.putObj_heap_other (by omega)).trans hd)⟩

end Go.Proofs.YtpimdgijjljejaaDoor
end

section
namespace Go.Proofs.YtpimdgijjljejaaDoor
open Go.RowKit Go.Deep Go.Shelf
attribute [local go_sem] Oper.semAt_some

theorem room_any (k : Nat) : Fence.wide.room k := fun d h => by cases h
theorem yieldAt_any {m m' : Nat} {P : Program} {l : Nat} {args : Array Value} {W : World} {R : Ending → World → Prop} (h : YieldAt Fence.wide m P l args W R) : YieldAt Fence.wide m' P l args W R := by
  obtain ⟨fn, tmps, assign, body, hy, hR⟩ := h
  exact ⟨fn, tmps, assign, body, hy, hR.1, fun c cs _ => hR.2 c cs (room_any _)⟩

theorem step_append_fitsG {P : Program} (w : World) {ops : Array Oper} {o : Oper} {a : Act} {K : Act → World → Prop} {Q : Exit → Act → World → Prop} {E : Prop} (hw : Region.wanted o (yielded ops a.tmps) = true) (s x : Operand) (t : TypeId)
    (hop : o.op = Op.call { callee := Callee.builtin Builtin.append, args := #[s, x], argTypes := #[t, t] })
    (base : Nat) (e : TypeId) (i : TypeInfo) (size : Nat) (h1 : P.underlying t = some (.slice e)) (h2 : P.info? e = some i) (h4 : i.size = size)
    (g k cap : Nat) (xs : List Value) (hs : a.eval s = .slice (some ⟨g, 0, none⟩) k cap) (hown : w.ownsRow base e size (.slice (some ⟨g, 0, none⟩) k cap) k xs) (ad : Addr) (m c : Nat) (news : List Value) (hx : a.eval x = .slice (some ad) m c) (hn : news.length = m * size)
    (hc : ∀ j u, news[j]? = some u → w.cell? (ad.add j) = some u) (h1c : ∀ u ∈ news, u.oneCell' = true) (b1 : k + m ≤ cap)
    (hK : ∀ w', w'.ownsRow base e size (.slice (some ⟨g, 0, none⟩) (k + m) cap) (k + m) (xs ++ news) → w.grownBy w' (some g) → K (a.put o.dst (.slice (some ⟨g, 0, none⟩) (k + m) cap)) w') :
    if Region.wanted o (yielded ops a.tmps) = true then Oper.wp P o a w K Q else E := by
  rw [if_pos hw]
  obtain ⟨w', hrun, r1, r2⟩ := run_append_fits (P := P) w base t o.type e i size h1 h2 h4 g k cap xs hown ad m c news hn hc h1c b1
  unfold Oper.wp
  simp [execOp, hop, resolve, invoke, builtin, hs, hx, hrun, Result.andThen]
  exact hK w' r1 r2

theorem grown_drewC (w : World) (n : Nat) : w.grownBy (w.drewN n) none := ⟨rfl, rfl, rfl, Nat.le_refl _, fun _ _ _ => rfl⟩
theorem undrew {a b : World} {row : Option Nat} (h : a.drew.grownBy b row) : a.grownBy b row := ⟨h.os, h.tape, h.output, h.size, h.block⟩

theorem map_snd {α : Type} (g : Nat) (L : List α) : (([] : List (Nat × α)) ++ L.map (Prod.mk g)).map (fun x => x.2) = L := by
  rw [List.nil_append]
  induction L with
  | nil => rfl
  | cons x L ih => rw [List.map_cons, List.map_cons, ih]

theorem since_rowC {w X Y : World} {row : Option Nat} (h : w.Since w.heap.size X) (hg : X.grownBy Y row) (hr : ∀ r, row = some r → w.heap.size ≤ r) : w.Since w.heap.size Y :=
  ⟨hg.os.trans h.os, hg.tape.trans h.tape, hg.output.trans h.output, Nat.le_trans h.size hg.size, fun k hk => (hg.block k (by have := h.size; omega) (fun e => by have := hr k e.symm; omega)).trans (h.block k hk)⟩

end Go.Proofs.YtpimdgijjljejaaDoor
end

section
namespace Go.Proofs.YtpimdgijjljejaaDoor
open Go.RowKit Go.Deep

def prodC (l : List (List Int)) (cs : List Nat) : Int := prodN 1 (fun i => at2 l i (cs.getD i 0)) cs.length
def plS (l : List (List Int)) (n : Nat) : Nat → List Nat → Int
  | 0, cs => prodC l cs
  | m + 1, cs => sumN (fun k => if k ∈ cs then 0 else plS l n m (cs ++ [k])) n
theorem plS_succ (l : List (List Int)) (n m : Nat) (cs : List Nat) : plS l n (m + 1) cs = sumN (fun k => if k ∈ cs then 0 else plS l n m (cs ++ [k])) n := rfl
theorem plS_eq (l : List (List Int)) (n : Nat) (hn : n ≤ 6) : ∀ (m : Nat) (cs : List Nat), cs.length + m = n → (∀ c ∈ cs, c < n) → plS l n m cs = prodC l cs * plF l n m (setOf cs)
  | 0, cs, _, _ => by rw [plF_zero, Int.mul_one]; rfl
  | m + 1, cs, hl, hc => by
    rw [plS_succ, plF_succ, ← sumN_mul]
    refine sumN_congr _ fun k hk => ?_
    by_cases hm : k ∈ cs
    · rw [if_pos hm, plT_yes _ (by rw [setOf_bit]; simpa using hm), Int.mul_zero]
    · rw [if_neg hm, plT_no _ (by rw [setOf_bit]; simpa using hm),
        plS_eq l n hn m (cs ++ [k]) (by simp; omega) (fun c h => by
          rcases List.mem_append.1 h with h | h
          · exact hc c h
          · simp at h; omega), setOf_snoc]
      have e : prodC l (cs ++ [k]) = prodC l cs * at2 l cs.length k := by
        unfold prodC
        rw [List.length_append, List.length_singleton]
        show prodN _ _ cs.length * at2 l cs.length ((cs ++ [k]).getD cs.length 0) = _
        rw [show (cs ++ [k]).getD cs.length 0 = k by simp [List.getD], prodN_congr (g := fun i => at2 l i (cs.getD i 0)) cs.length (fun j hj => by simp [List.getD, List.getElem?_append, hj])]
      rw [e, show n - (m + 1) = cs.length by omega, Int.mul_assoc]
theorem plS_all (l : List (List Int)) (n : Nat) (hn : n ≤ 6) : plS l n n [] = plF l n n 0 := by
  rw [plS_eq l n hn n [] (by simp) (by simp)]
  show 1 * plF l n n 0 = _
  omega

def ordL (n : Nat) : Nat → List Nat → List (List Nat)
  | 0, cs => [cs]
  | m + 1, cs => (List.range n).flatMap fun k => if k ∈ cs then [] else ordL n m (cs ++ [k])
def ordLT (n m : Nat) (cs : List Nat) (k : Nat) : List (List Nat) := (List.range k).flatMap fun k => if k ∈ cs then [] else ordL n m (cs ++ [k])
theorem ordLT_zero (n m : Nat) (cs : List Nat) : ordLT n m cs 0 = [] := rfl
theorem ordLT_step (n m : Nat) (cs : List Nat) (k : Nat) : ordLT n m cs (k + 1) = ordLT n m cs k ++ (if k ∈ cs then [] else ordL n m (cs ++ [k])) := by
  unfold ordLT
  rw [List.range_succ, List.flatMap_append]
  simp
theorem ordLT_le (n m : Nat) (cs : List Nat) (k : Nat) : ∀ q, k ≤ q → (ordLT n m cs k).length ≤ (ordLT n m cs q).length := by
  intro q
  induction q with
  | zero => intro h; obtain rfl : k = 0 := by omega
            exact Nat.le_refl _
  | succ q ih =>
    intro h
    by_cases e : k = q + 1
    · rw [e]; exact Nat.le_refl _
    · have := ih (by omega)
      rw [ordLT_step, List.length_append]
      omega
theorem ordL_succ (n m : Nat) (cs : List Nat) : ordL n (m + 1) cs = ordLT n m cs n := rfl

def lsumI {α : Type} (f : α → Int) (xs : List α) : Int := xs.foldl (fun s x => s + f x) 0
theorem lsumI_snoc {α : Type} (f : α → Int) (xs : List α) (x : α) : lsumI f (xs ++ [x]) = lsumI f xs + f x := by simp [lsumI]
theorem lsumI_from {α : Type} (f : α → Int) : ∀ (xs : List α) (s : Int), xs.foldl (fun s x => s + f x) s = s + lsumI f xs
  | [], s => by simp [lsumI]
  | x :: xs, s => by
    unfold lsumI
    rw [List.foldl_cons, List.foldl_cons, lsumI_from f xs, lsumI_from f xs (0 + f x)]
    omega
theorem lsumI_append {α : Type} (f : α → Int) (xs ys : List α) : lsumI f (xs ++ ys) = lsumI f xs + lsumI f ys := by
  unfold lsumI
  rw [List.foldl_append, lsumI_from]
  rfl
theorem lsumI_map {α β : Type} (g : β → α) (f : α → Int) (xs : List β) : lsumI f (xs.map g) = lsumI (fun x => f (g x)) xs := by simp [lsumI, List.foldl_map]
theorem lsumI_congr {α : Type} {f g : α → Int} : ∀ (xs : List α), (∀ x ∈ xs, f x = g x) → lsumI f xs = lsumI g xs
  | [], _ => rfl
  | x :: xs, h => by
    rw [show x :: xs = [x] ++ xs from rfl, lsumI_append, lsumI_append, lsumI_congr xs (fun y hy => h y (by simp [hy]))]
    simp [lsumI, h x (by simp)]
theorem lsumI_bd {α : Type} {f : α → Int} {B : Int} (hB : 0 ≤ B) : ∀ (xs : List α), (∀ x ∈ xs, -B ≤ f x ∧ f x ≤ B) → -(xs.length * B) ≤ lsumI f xs ∧ lsumI f xs ≤ xs.length * B
  | [], _ => by simp [lsumI]
  | x :: xs, h => by
    have ih := lsumI_bd hB xs (fun y hy => h y (by simp [hy]))
    have h1 := h x (by simp)
    rw [show x :: xs = [x] ++ xs from rfl, lsumI_append]
    have e : lsumI f [x] = f x := by simp [lsumI]
    rw [e, List.length_append, List.length_singleton, Int.natCast_add, Int.add_mul]
    omega
theorem ordL_sum (l : List (List Int)) (n : Nat) : ∀ (m : Nat) (cs : List Nat), lsumI (prodC l) (ordL n m cs) = plS l n m cs
  | 0, cs => by simp [ordL, lsumI, plS]
  | m + 1, cs => by
    rw [ordL_succ, plS_succ]
    have H : ∀ k, lsumI (prodC l) (ordLT n m cs k) = sumN (fun k => if k ∈ cs then 0 else plS l n m (cs ++ [k])) k := by
      intro k
      induction k with
      | zero => rfl
      | succ k ih =>
        rw [ordLT_step, lsumI_append, ih]
        show _ = _ + (if k ∈ cs then (0 : Int) else plS l n m (cs ++ [k]))
        split
        · simp [lsumI]
        · rw [ordL_sum l n m]
    exact H n
theorem ordL_mem {n : Nat} : ∀ (m : Nat) (cs : List Nat), (∀ c ∈ cs, c < n) → ∀ x ∈ ordL n m cs, x.length = cs.length + m ∧ ∀ c ∈ x, c < n
  | 0, cs, h, x, hx => by
    simp only [ordL, List.mem_singleton] at hx
    subst hx
    exact ⟨rfl, h⟩
  | m + 1, cs, h, x, hx => by
    simp only [ordL, List.mem_flatMap, List.mem_range] at hx
    obtain ⟨k, hk, hx⟩ := hx
    by_cases hm : k ∈ cs
    · rw [if_pos hm] at hx; simp at hx
    · rw [if_neg hm] at hx
      obtain ⟨h1, h2⟩ := ordL_mem m (cs ++ [k]) (fun c h' => by
        rcases List.mem_append.1 h' with h' | h'
        · exact h c h'
        · simp at h'; omega) x hx
      exact ⟨by rw [h1, List.length_append, List.length_singleton]; omega, h2⟩
theorem ordL_len {n : Nat} (hn : n ≤ 6) : ∀ (m : Nat) (cs : List Nat), (ordL n m cs).length ≤ 6 ^ m
  | 0, cs => by simp [ordL]
  | m + 1, cs => by
    rw [ordL_succ]
    have H : ∀ k, (ordLT n m cs k).length ≤ k * 6 ^ m := by
      intro k
      induction k with
      | zero => simp [ordLT]
      | succ k ih =>
        rw [ordLT_step, List.length_append, Nat.add_mul, Nat.one_mul]
        have hp : 0 < 6 ^ m := Nat.pow_pos (by omega)
        obtain ⟨X, hX⟩ : ∃ X, X = 6 ^ m := ⟨_, rfl⟩
        have h3 := ordL_len hn m (cs ++ [k])
        rw [← hX] at hp h3 ih ⊢
        split
        · rw [List.length_nil]; omega
        · omega
    have h1 := H n
    have h2 : n * 6 ^ m ≤ 6 * 6 ^ m := Nat.mul_le_mul_right _ hn
    rw [Nat.pow_succ]
    omega
theorem ordLT_len {n : Nat} (hn : n ≤ 6) {m : Nat} (hm : m + 1 ≤ 6) (cs : List Nat) : (ordLT n m cs n).length ≤ 46656 := by
  have := ordL_len hn (m + 1) cs
  have h2 : 6 ^ (m + 1) ≤ 6 ^ 6 := Nat.pow_le_pow_right (by omega) hm
  rw [ordL_succ] at this
  omega

end Go.Proofs.YtpimdgijjljejaaDoor
end

section
namespace Go.Proofs.YtpimdgijjljejaaDoor
open Go.RowKit Go.Deep

def pqL (n : Nat) : Nat → Nat → List (List (Nat × Nat))
  | 0, s => if s = 0 then [[]] else []
  | d + 1, s => if s = 0 then [[]] else (List.range n).flatMap fun k => if lowB s < k ∧ s.testBit k = true then (pqL n d (s - 2 ^ lowB s - 2 ^ k)).map (List.cons (lowB s, k)) else []
def pqT (n d s k : Nat) : List (List (Nat × Nat)) := (List.range k).flatMap fun k => if lowB s < k ∧ s.testBit k = true then (pqL n d (s - 2 ^ lowB s - 2 ^ k)).map (List.cons (lowB s, k)) else []
theorem pqL_none (n d : Nat) : pqL n d 0 = [[]] := by cases d <;> rfl
theorem pqL_some (n d : Nat) {s : Nat} (h : s ≠ 0) : pqL n (d + 1) s = pqT n d s n := if_neg h
theorem pqT_step (n d s k : Nat) : pqT n d s (k + 1) = pqT n d s k ++ (if lowB s < k ∧ s.testBit k = true then (pqL n d (s - 2 ^ lowB s - 2 ^ k)).map (List.cons (lowB s, k)) else []) := by
  unfold pqT
  rw [List.range_succ, List.flatMap_append]
  simp
theorem pqT_start (n d s : Nat) : ∀ k, k ≤ lowB s + 1 → pqT n d s k = []
  | 0, _ => rfl
  | k + 1, h => by rw [pqT_step, pqT_start n d s k (by omega), if_neg (by omega)]; rfl
theorem pqT_le (n d s : Nat) (k : Nat) : ∀ q, k ≤ q → (pqT n d s k).length ≤ (pqT n d s q).length := by
  intro q
  induction q with
  | zero => intro h; obtain rfl : k = 0 := by omega
            exact Nat.le_refl _
  | succ q ih =>
    intro h
    by_cases e : k = q + 1
    · rw [e]; exact Nat.le_refl _
    · have := ih (by omega)
      rw [pqT_step, List.length_append]
      omega

def crB (p q : Nat × Nat) : Bool := decide (q.1 < p.2) && decide (p.2 < q.2)
def crN (p : Nat × Nat) : List (Nat × Nat) → Nat
  | [] => 0
  | q :: qs => (if crB p q = true then 1 else 0) + crN p qs
def crs : List (Nat × Nat) → Nat
  | [] => 0
  | p :: qs => crN p qs + crs qs
def entP (l : List (List Int)) : List (Nat × Nat) → Int
  | [] => 1
  | p :: qs => at2 l p.1 p.2 * entP l qs
def valP (l : List (List Int)) (q : List (Nat × Nat)) : Int := sn (crs q) * entP l q

def blw (s k : Nat) : Nat := popcS (s % 2 ^ k)
theorem blw_zero (k : Nat) : blw 0 k = 0 := by unfold blw; rw [Nat.zero_mod]; decide
theorem blw_fin : ∀ s : Fin 64, ∀ i j k : Fin 6, i.val < j.val → s.val.testBit i.val = true → s.val.testBit j.val = true → k.val ≠ i.val → k.val ≠ j.val →
    blw s.val k.val = blw (s.val - 2 ^ i.val - 2 ^ j.val) k.val + (if i.val < k.val then 1 else 0) + (if j.val < k.val then 1 else 0) ∧ (s.val - 2 ^ i.val - 2 ^ j.val).testBit k.val = s.val.testBit k.val := by decide +kernel
theorem btw_blw : ∀ s : Fin 64, ∀ k : Fin 6, lowB s.val < k.val → s.val.testBit k.val = true → s.val ≠ 0 → btw s.val (lowB s.val) k.val = blw (s.val - 2 ^ lowB s.val - 2 ^ k.val) k.val ∧ (s.val - 2 ^ lowB s.val - 2 ^ k.val).testBit k.val = false := by decide +kernel
theorem cr_par {n : Nat} (hn : n ≤ 6) (i k : Nat) (hk : k < n) : ∀ (d s : Nat), s < 2 ^ n → s.testBit k = false → ∀ q ∈ pqL n d s, crN (i, k) q % 2 = blw s k % 2 := by
  have h64 : 2 ^ n ≤ 2 ^ 6 := Nat.pow_le_pow_right (by omega) hn
  intro d
  induction d with
  | zero =>
    intro s _ _ q hq
    unfold pqL at hq
    split at hq
    · rename_i h0
      subst h0
      simp only [List.mem_singleton] at hq
      subst hq
      rw [blw_zero]; rfl
    · simp at hq
  | succ d ih =>
    intro s hs hb q hq
    by_cases h0 : s = 0
    · subst h0
      rw [pqL_none] at hq
      simp only [List.mem_singleton] at hq
      subst hq
      rw [blw_zero]; rfl
    · rw [pqL_some n d h0] at hq
      simp only [pqT, List.mem_flatMap, List.mem_range] at hq
      obtain ⟨j, hj, hq⟩ := hq
      by_cases hc : lowB s < j ∧ s.testBit j = true
      · rw [if_pos hc] at hq
        obtain ⟨q', hq', rfl⟩ := List.mem_map.1 hq
        obtain ⟨l1, l2, _⟩ := lowB_fin ⟨s, by omega⟩ h0
        simp only at l1 l2
        have hkl : k ≠ lowB s := fun e => by rw [e, l1] at hb; simp at hb
        have hkj : k ≠ j := fun e => by rw [e, hc.2] at hb; simp at hb
        obtain ⟨e1, e2⟩ := blw_fin ⟨s, by omega⟩ ⟨lowB s, l2⟩ ⟨j, by omega⟩ ⟨k, by omega⟩ hc.1 l1 hc.2 hkl hkj
        simp only at e1 e2
        have := ih (s - 2 ^ lowB s - 2 ^ j) (two_less hs) (by rw [e2]; exact hb) q' hq'
        unfold crN
        rw [e1]
        have hB : crB (i, k) (lowB s, j) = (decide (lowB s < k) && decide (k < j)) := rfl
        rw [hB]
        by_cases a1 : lowB s < k
        · by_cases a2 : k < j
          · rw [if_pos (by simp [a1, a2]), if_pos a1, if_neg (by omega)]; omega
          · rw [if_neg (by simp [a2]), if_pos a1, if_pos (by omega)]; omega
        · rw [if_neg (by simp [a1]), if_neg a1, if_neg (by omega)]; omega
      · rw [if_neg hc] at hq
        simp at hq
theorem sn_par {a b : Nat} (h : a % 2 = b % 2) : sn a = sn b := by unfold sn; rw [h]
theorem lsumI_mulL {α : Type} (c : Int) (f : α → Int) (xs : List α) : lsumI (fun x => c * f x) xs = c * lsumI f xs := by
  induction xs with
  | nil => simp [lsumI]
  | cons x xs ih =>
    rw [show x :: xs = [x] ++ xs from rfl, lsumI_append, lsumI_append, ih, Int.mul_add]
    simp [lsumI]

theorem pq_half (l : List (List Int)) {n : Nat} (hn : n ≤ 6) : ∀ (d s : Nat), s < 2 ^ n → lsumI (valP l) (pqL n d s) = halfF l n d s := by
  have h64 : 2 ^ n ≤ 2 ^ 6 := Nat.pow_le_pow_right (by omega) hn
  intro d
  induction d with
  | zero =>
    intro s _
    unfold pqL halfF
    split
    · simp [lsumI, valP, crs, entP, sn]
    · rfl
  | succ d ih =>
    intro s hs
    by_cases h0 : s = 0
    · subst h0
      rw [pqL_none, halfF_none]
      simp [lsumI, valP, crs, entP, sn]
    · rw [pqL_some n d h0, halfF_some l n d h0]
      have H : ∀ k, k ≤ n → lsumI (valP l) (pqT n d s k) = sumN (halfT l (lowB s) s (halfF l n d)) k := by
        intro k
        induction k with
        | zero => intro _; rfl
        | succ k ihk =>
          intro hk
          rw [pqT_step, lsumI_append, ihk (by omega)]
          show _ = _ + halfT l (lowB s) s (halfF l n d) k
          congr 1
          by_cases hc : lowB s < k ∧ s.testBit k = true
          · obtain ⟨b1, b2⟩ := btw_blw ⟨s, by omega⟩ ⟨k, by omega⟩ hc.1 hc.2 h0
            simp only at b1 b2
            rw [if_pos hc, halfT_yes _ hc.1 hc.2, lsumI_map, ← ih _ (two_less hs), sg_sn, ← Int.mul_assoc, ← lsumI_mulL]
            refine lsumI_congr _ fun q hq => ?_
            have hp := cr_par hn (lowB s) k (by omega) d _ (two_less hs) b2 q hq
            show sn (crN (lowB s, k) q + crs q) * (at2 l (lowB s) k * entP l q) = sn (btw s (lowB s) k) * at2 l (lowB s) k * (sn (crs q) * entP l q)
            rw [sn_add, sn_par hp, b1]
            grind
          · rw [if_neg hc, halfT_no _ hc]
            rfl
      exact H n (Nat.le_refl _)

def nzP (l : List (List Int)) (q : List (Nat × Nat)) : Bool := q.all fun p => decide (at2 l p.1 p.2 ≠ 0)
def prL (l : List (List Int)) (qs : List (List (Nat × Nat))) : List Int := (qs.filter (nzP l)).map (valP l)
theorem prL_snoc (l : List (List Int)) (qs : List (List (Nat × Nat))) (q : List (Nat × Nat)) : prL l (qs ++ [q]) = prL l qs ++ (if nzP l q = true then [valP l q] else []) := by
  unfold prL
  rw [List.filter_append, List.map_append]
  congr 1
  cases h : nzP l q <;> simp [h]
theorem entP_zero (l : List (List Int)) : ∀ q, nzP l q = false → entP l q = 0
  | [], h => by simp [nzP] at h
  | p :: q, h => by
    unfold entP
    by_cases e : at2 l p.1 p.2 = 0
    · rw [e, Int.zero_mul]
    · have : nzP l q = false := by simpa [nzP, e] using h
      rw [entP_zero l q this, Int.mul_zero]
theorem prL_sum (l : List (List Int)) : ∀ qs, lsumI id (prL l qs) = lsumI (valP l) qs
  | [] => rfl
  | q :: qs => by
    have ih := prL_sum l qs
    rw [show q :: qs = [q] ++ qs from rfl, lsumI_append]
    cases h : nzP l q with
    | true =>
      have e : prL l ([q] ++ qs) = [valP l q] ++ prL l qs := by simp [prL, h]
      rw [e, lsumI_append, ih]
      simp [lsumI]
    | false =>
      have e : prL l ([q] ++ qs) = prL l qs := by simp [prL, h]
      rw [e, ih]
      simp [lsumI, valP, entP_zero l q h]
theorem prL_count (l : List (List Int)) {n : Nat} : ∀ (d s : Nat), (prL l (pqL n d s)).length = cntF l n d s := by
  intro d
  have HL : ∀ qs, (prL l qs).length = (qs.filter (nzP l)).length := fun qs => by simp [prL]
  induction d with
  | zero =>
    intro s
    unfold pqL cntF
    split
    · rfl
    · rfl
  | succ d ih =>
    intro s
    by_cases h0 : s = 0
    · subst h0
      rw [pqL_none, cntF_none]; rfl
    · rw [pqL_some n d h0, cntF_some l n d h0]
      have H : ∀ k, (prL l (pqT n d s k)).length = sumM (cntT l (lowB s) s (cntF l n d)) k := by
        intro k
        induction k with
        | zero => rfl
        | succ k ihk =>
          rw [HL, pqT_step, List.filter_append, List.length_append, ← HL, ihk]
          show _ = _ + cntT l (lowB s) s (cntF l n d) k
          congr 1
          by_cases hc : lowB s < k ∧ s.testBit k = true
          · rw [if_pos hc]
            by_cases e : at2 l (lowB s) k = 0
            · rw [cntT_no _ (by simp [e])]
              have : ((pqL n d (s - 2 ^ lowB s - 2 ^ k)).map (List.cons (lowB s, k))).filter (nzP l) = [] := by
                rw [List.filter_eq_nil_iff]
                intro q hq
                obtain ⟨q', _, rfl⟩ := List.mem_map.1 hq
                simp [nzP, e]
              rw [this]; rfl
            · rw [cntT_yes _ ⟨hc, e⟩, ← ih, HL, List.filter_map, List.length_map]
              congr 1
              refine List.filter_congr fun q _ => ?_
              simp [nzP, e]
          · rw [if_neg hc, cntT_no _ (fun h => hc h.1)]; rfl
      exact H n
theorem pqL_len : ∀ n : Fin 7, (pqL n.val 3 (2 ^ n.val - 1)).length ≤ 15 := by decide +kernel
theorem pqL_mem {n : Nat} (hn : n ≤ 6) : ∀ (d s : Nat), s < 2 ^ n → ∀ q ∈ pqL n d s, 2 * q.length = popcS s ∧ ∀ p ∈ q, p.1 < p.2 ∧ p.2 < n := by
  have h64 : 2 ^ n ≤ 2 ^ 6 := Nat.pow_le_pow_right (by omega) hn
  have hp0 : popcS 0 = 0 := by decide
  intro d
  induction d with
  | zero =>
    intro s _ q hq
    unfold pqL at hq
    split at hq
    · rename_i h0
      subst h0
      simp only [List.mem_singleton] at hq
      subst hq
      exact ⟨hp0.symm, by simp⟩
    · simp at hq
  | succ d ih =>
    intro s hs q hq
    by_cases h0 : s = 0
    · subst h0
      rw [pqL_none] at hq
      simp only [List.mem_singleton] at hq
      subst hq
      exact ⟨hp0.symm, by simp⟩
    · rw [pqL_some n d h0] at hq
      simp only [pqT, List.mem_flatMap, List.mem_range] at hq
      obtain ⟨j, hj, hq⟩ := hq
      by_cases hc : lowB s < j ∧ s.testBit j = true
      · rw [if_pos hc] at hq
        obtain ⟨q', hq', rfl⟩ := List.mem_map.1 hq
        obtain ⟨l1, l2, _⟩ := lowB_fin ⟨s, by omega⟩ h0
        simp only at l1 l2
        obtain ⟨_, _, t3⟩ := two_off ⟨s, by omega⟩ ⟨lowB s, l2⟩ ⟨j, by omega⟩ hc.1 l1 hc.2
        simp only at t3
        obtain ⟨i1, i2⟩ := ih _ (two_less hs) q' hq'
        refine ⟨by rw [List.length_cons]; omega, fun p hp => ?_⟩
        rcases List.mem_cons.1 hp with rfl | hp
        · exact ⟨hc.1, hj⟩
        · exact i2 p hp
      · rw [if_neg hc] at hq
        simp at hq

end Go.Proofs.YtpimdgijjljejaaDoor
end

section
namespace Go.Proofs.YtpimdgijjljejaaDoor
open Go.RowKit Go.Deep

def TZ (w : World) : Prop := ∀ i : Nat, i < 6 → w.cell? ⟨1, 2 ^ i - 1, none⟩ = some (.int .u8 i)
theorem TZ.kept {w w' : World} (h : TZ w) (hk : w'.heap[1]? = w.heap[1]?) : TZ w' := fun i hi => (World.cell?_of_block hk).trans (h i hi)

theorem tz_fin : ∀ s : Fin 64, s.val ≠ 0 → IntKind.u64.wrap (bits BinOp.and IntKind.u64 (s.val : Int) (IntKind.u64.wrap (-(s.val : Int))) * 285870213051353865) / 288230376151711744 = ((2 ^ lowB s.val - 1 : Nat) : Int) ∧ lowB s.val < 6 := by decide +kernel

set_option maxRecDepth 100000 in
set_option maxHeartbeats 1000000 in
theorem trailing64_any (s : Nat) (h : s < 64) (h0 : s ≠ 0) (w : World) (hT : TZ w) :
    Calls Tryd.prog 101 #[.int .u64 s] w fun e w' => e = .returned (.int .i64 (lowB s)) ∧ w = w' := by
  have hne : ((s : Int) == 0) = false := by simp; omega
  obtain ⟨hf, h6⟩ := tz_fin ⟨s, h⟩ h0
  simp only at hf h6
  obtain ⟨i, hi⟩ : ∃ i, lowB s = i := ⟨_, rfl⟩
  rw [hi] at hf h6 ⊢
  have hc := hT i h6
  have hq : 2 ^ i - 1 < 64 := by have : 2 ^ i ≤ 2 ^ 6 := Nat.pow_le_pow_right (by omega) (by omega); omega
  obtain ⟨q, hqq⟩ : ∃ q, 2 ^ i - 1 = q := ⟨_, rfl⟩
  rw [hqq] at hf hc hq
  have hq1 : (q : Int) < 64 := by omega
  have hwi : IntKind.i64.wrap (i : Int) = (i : Int) := IntWalk.i64_in _ ⟨by omega, by omega⟩
  clear hT hi hqq h h0
  go_enter Tryd.func101, Tryd.ntmps101
  go_wp2
  go_ret
  exact ⟨rfl, rfl⟩

set_option maxHeartbeats 400000 in
theorem trailing_any (s : Nat) (h : s < 64) (h0 : s ≠ 0) (w : World) (hT : TZ w) :
    Calls Tryd.prog 82 #[.int .u64 s] w fun e w' => e = .returned (.int .i64 (lowB s)) ∧ w = w' := by
  have E := Lib.hid (trailing64_any s h h0 w hT)
  clear hT
  go_enter Tryd.func82, Tryd.ntmps82
  go_wp2_with fail
  refine (E.out).mono ?_
  rintro e w' ⟨rfl, rfl⟩
  go_wp2
  go_ret
  exact ⟨rfl, rfl⟩

end Go.Proofs.YtpimdgijjljejaaDoor
end

section
namespace Go.Proofs.YtpimdgijjljejaaDoor
open Go.RowKit Go.Deep Go.Shelf
attribute [local go_sem] Oper.semAt_some

theorem infoP : (Tryd.prog.info? 72).map (fun i => (i.size, i.bytes)) = some (2, 16) := by kernel_rfl
theorem infoP_parts : ∃ i, Tryd.prog.info? 72 = some i ∧ i.size = 2 ∧ i.bytes = 16 := by
  have h := infoP
  cases e : Tryd.prog.info? 72 with
  | none => rw [e] at h; cases h
  | some i =>
    rw [e] at h
    simp only [Option.map_some, Option.some.injEq, Prod.mk.injEq] at h
    exact ⟨i, rfl, h.1, h.2⟩

def pr2 (ps : List (Nat × Nat)) : List Value := ps.flatMap fun p => [.int .i64 (p.1 : Int), .int .i64 (p.2 : Int)]
theorem pr2_length : ∀ ps, (pr2 ps).length = ps.length * 2
  | [] => rfl
  | p :: ps => by
    have := pr2_length ps
    unfold pr2 at this ⊢
    rw [List.flatMap_cons, List.length_append, this, List.length_cons]
    simp only [List.length_cons, List.length_nil]
    omega
theorem pr2_snoc (ps : List (Nat × Nat)) (p : Nat × Nat) : pr2 (ps ++ [p]) = pr2 ps ++ [.int .i64 (p.1 : Int), .int .i64 (p.2 : Int)] := by simp [pr2]
theorem pr2_get : ∀ (ps : List (Nat × Nat)) (i : Nat), i < ps.length → (pr2 ps)[i * 2]? = some (.int .i64 ((ps.getD i (0, 0)).1 : Int)) ∧ (pr2 ps)[i * 2 + 1]? = some (.int .i64 ((ps.getD i (0, 0)).2 : Int))
  | [], i, h => by simp at h
  | p :: ps, 0, _ => ⟨rfl, rfl⟩
  | p :: ps, i + 1, h => by
    have := pr2_get ps i (by simp at h; omega)
    rw [show (i + 1) * 2 = i * 2 + 2 by omega]
    exact this
def PairsR (w : World) (g : Nat) (ps : List (Nat × Nat)) : Prop := ∀ i, i < ps.length → w.cell? ⟨g, i * 2, none⟩ = some (.int .i64 ((ps.getD i (0, 0)).1 : Int)) ∧ w.cell? ⟨g, i * 2 + 1, none⟩ = some (.int .i64 ((ps.getD i (0, 0)).2 : Int))
def PairsAt (w : World) (g cap : Nat) (ps : List (Nat × Nat)) : Prop := w.ownsRow 0 72 2 (.slice (some ⟨g, 0, none⟩) ps.length cap) ps.length (pr2 ps)
theorem PairsAt.init {w : World} {g cap : Nat} {ps : List (Nat × Nat)} {p : Nat × Nat} (h : PairsAt w g cap (ps ++ [p])) : PairsAt w g cap ps := by
  unfold PairsAt at h ⊢
  rw [show (ps ++ [p]).length = ps.length + 1 by simp, pr2_snoc] at h
  refine ⟨pr2_length ps, ?_⟩
  rcases h.2 with ⟨h', _⟩ | ⟨g', cap', cur, h', hb, hg, hle, hm, hs, ht⟩
  · simp at h'
  · simp only [Value.slice.injEq, Option.some.injEq, Addr.mk.injEq, and_true, true_and] at h'
    obtain ⟨rfl, rfl⟩ := h'
    refine .inr ⟨g, cap, cur, rfl, hb, hg, by omega, hm, hs, ?_⟩
    have e := congrArg (List.take (ps.length * 2)) ht
    rw [List.take_take, Nat.min_eq_left (by omega)] at e
    rw [e, List.take_append_of_le_length (by rw [pr2_length]; exact Nat.le_refl _), ← pr2_length ps, List.take_length]
theorem PairsAt.read {w : World} {g cap : Nat} {ps : List (Nat × Nat)} (h : PairsAt w g cap ps) : PairsR w g ps := fun i hi => by
  obtain ⟨e1, e2⟩ := pr2_get ps i hi
  exact ⟨(World.ownsRow.cellAt h (i * 2) (by omega)).trans e1, (World.ownsRow.cellAt h (i * 2 + 1) (by omega)).trans e2⟩
theorem PairsAt.keeps {own : Nat → Prop} {w w' : World} {g cap : Nat} {ps : List (Nat × Nat)} (h : PairsAt w g cap ps) (hk : Keeps own w w') (hg : ¬ own g) : PairsAt w' g cap ps := by
  refine ⟨h.1, ?_⟩
  rcases h.2 with h' | ⟨g', cap', cur, h', hb, hgg, rest⟩
  · exact .inl h'
  · simp only [Value.slice.injEq, Option.some.injEq, Addr.mk.injEq, and_true, true_and] at h'
    obtain ⟨rfl, rfl⟩ := h'
    exact .inr ⟨g, cap, cur, rfl, hb, hk.same _ _ hg hgg, rest⟩

abbrev PX := Nat × List (Nat × Nat)
def pxP (n : Nat) (x : PX) (W : World) : Prop := (2 * x.2.length = n ∧ ∀ p ∈ x.2, p.1 < p.2 ∧ p.2 < n) ∧ PairsR W x.1 x.2
def pxV (n : Nat) (x : PX) : Array Value := #[.slice (some ⟨x.1, 0, none⟩) x.2.length (n / 2)]

structure PB (By Bn Bg n l : Nat) (W : World) : Prop where
  yb : W.cell? ⟨By, 0, none⟩ = some (.func (.yield l) #[] #[])
  bn : W.cell? ⟨Bn, 0, none⟩ = some (.int .i64 n)
  bg : W.cell? ⟨Bg, 0, none⟩ = some (.func (.func 81) #[] #[.pointer (some ⟨By, 0, none⟩), .pointer (some ⟨Bn, 0, none⟩), .pointer (some ⟨Bg, 0, none⟩)])
  tz : TZ W
theorem PB.keeps {By Bn Bg n l : Nat} {W W' : World} {own : Nat → Prop} (h : PB By Bn Bg n l W) (hk : Keeps own W W') (h1 : ¬ own Bn) (h2 : ¬ own By) (h3 : ¬ own Bg) (h4 : ¬ own 1) : PB By Bn Bg n l W' :=
  ⟨hk.cell (a := ⟨By, 0, none⟩) h2 h.yb, hk.cell (a := ⟨Bn, 0, none⟩) h1 h.bn, hk.cell (a := ⟨Bg, 0, none⟩) h3 h.bg, fun i hi => hk.cell (a := ⟨1, 2 ^ i - 1, none⟩) h4 (h.tz i hi)⟩

theorem or2_fin : ∀ i k : Fin 6, i.val < k.val → bits BinOp.or IntKind.i64 (2 ^ i.val) (2 ^ k.val) = ((2 ^ i.val + 2 ^ k.val : Nat) : Int) := by decide +kernel
theorem off2_fin : ∀ s : Fin 64, ∀ i k : Fin 6, i.val < k.val → s.val.testBit i.val = true → s.val.testBit k.val = true → bits BinOp.andNot IntKind.i64 (s.val : Int) ((2 ^ i.val + 2 ^ k.val : Nat) : Int) = ((s.val - 2 ^ i.val - 2 ^ k.val : Nat) : Int) := by decide +kernel
theorem popcS_one : ∀ s : Fin 64, 0 < s.val → 1 ≤ popcS s.val := by decide +kernel

set_option maxRecDepth 100000 in
set_option maxHeartbeats 4000000 in
theorem goP_any (l By Bn Bg g n N B : Nat) (own : Nat → Prop) (J : List PX → World → Prop) (h6 : n ≤ 6) (hJ : FromB B J) (hBy : B ≤ By) (hBg : B ≤ Bg) (hB : B ≤ g) (hny : By ≠ g) (hng : Bg ≠ g) (hnn : Bn ≠ g) (h1B : 1 < B) (hown : ∀ k, own k → k < B ∧ k ≠ Bn ∧ k ≠ 1)
    (hY : ∀ m pre x W, J pre W → pxP n x W → pre.length < N → YieldAt Fence.wide m Tryd.prog l (pxV n x) W fun e W' => e = .returned (.bool true) ∧ J (pre ++ [x]) W' ∧ Keeps own W W') :
    ∀ (d s : Nat) (ps : List (Nat × Nat)) (pre : List PX) (W : World), s < 2 ^ n → popcS s ≤ 2 * d → popcS s + 2 * ps.length = n → (∀ p ∈ ps, p.1 < p.2 ∧ p.2 < n) → PB By Bn Bg n l W → PairsAt W g (n / 2) ps → J pre W → pre.length + (pqL n d s).length ≤ N →
      Calls Tryd.prog 81 #[.slice (some ⟨g, 0, none⟩) ps.length (n / 2), .int .i64 s, .pointer (some ⟨By, 0, none⟩), .pointer (some ⟨Bn, 0, none⟩), .pointer (some ⟨Bg, 0, none⟩)] W fun e W' =>
        e = .returned (.bool true) ∧ J (pre ++ (pqL n d s).map (fun q => (g, ps ++ q))) W' ∧ Keeps (fun k => own k ∨ k = g) W W' ∧ PairsAt W' g (n / 2) ps := by
  have h64 : 2 ^ n ≤ 2 ^ 6 := Nat.pow_le_pow_right (by omega) h6
  have hzero : ∀ (d : Nat) (ps : List (Nat × Nat)) (pre : List PX) (W : World), 2 * ps.length = n → (∀ p ∈ ps, p.1 < p.2 ∧ p.2 < n) → PB By Bn Bg n l W → PairsAt W g (n / 2) ps → J pre W → pre.length + (pqL n d 0).length ≤ N →
      Calls Tryd.prog 81 #[.slice (some ⟨g, 0, none⟩) ps.length (n / 2), .int .i64 0, .pointer (some ⟨By, 0, none⟩), .pointer (some ⟨Bn, 0, none⟩), .pointer (some ⟨Bg, 0, none⟩)] W fun e W' =>
        e = .returned (.bool true) ∧ J (pre ++ (pqL n d 0).map (fun q => (g, ps ++ q))) W' ∧ Keeps (fun k => own k ∨ k = g) W W' ∧ PairsAt W' g (n / 2) ps := by
    intro d ps pre W hl hp hob hps hj hN
    rw [pqL_none] at hN ⊢
    obtain ⟨fn, tmps, assign, body, hy, hR⟩ := hY 7 pre (g, ps) W hj ⟨⟨hl, hp⟩, hps.read⟩ (by simp at hN; omega)
    obtain ⟨hb1, _, _, _⟩ := hob
    dsimp only [pxV] at hy
    have HC := Lib.hid hps
    clear hps hp hN hj
    refine (callsIn_wide (n := 8)).1 ?_
    refine callsIn_of_wp Tryd.func81 rfl trivial ?_ rfl
    simp only [Tryd.ntmps81, List.size_toArray, List.length_cons, List.length_nil, Nat.reduceAdd, Nat.reduceSub, Array.replicate_succ, Array.replicate_zero, List.push_toArray, List.append_toArray, List.nil_append, List.cons_append]
    gi_wp2
    refine hR.mono ?_
    rintro e W3 ⟨rfl, hJ3, hk3⟩
    gi_wp2
    go_ret
    exact ⟨rfl, by simpa using hJ3, hk3.mono fun _ h => .inl h, HC.out.keeps hk3 (fun h => by have := (hown _ h).1; omega)⟩
  intro d
  induction d with
  | zero =>
    intro s ps pre W hs hp hpl hps hob hat hj hN
    have h0 : s = 0 := Nat.eq_zero_of_not_pos (fun h => absurd (popcS_one ⟨s, by omega⟩ h) (by simp; omega))
    subst h0
    exact hzero 0 ps pre W (by rw [show popcS 0 = 0 by decide] at hpl; omega) hps hob hat hj hN
  | succ d ih =>
    intro s ps pre W hs hp hpl hps hob hat hj hN
    by_cases h0 : s = 0
    · subst h0
      exact hzero (d + 1) ps pre W (by rw [show popcS 0 = 0 by decide] at hpl; omega) hps hob hat hj hN
    · clear hzero
      obtain ⟨ip, hip⟩ := infoP_parts
      have HJ := Lib.hid hip
      obtain ⟨l1, l2, l3⟩ := lowB_fin ⟨s, by omega⟩ h0
      clear l3
      have l4 := lowB_in ⟨n, by omega⟩ ⟨s, by omega⟩ hs h0
      simp only at l1 l2 l4
      rw [pqL_some n d h0] at hN ⊢
      have hT0 := pqT_start n d s (lowB s + 1) (Nat.le_refl _)
      have hTS := fun k => pqT_step n d s k
      have hTL := fun k (hk : k ≤ n) => pqT_le n d s k n hk
      obtain ⟨i, hi⟩ : ∃ i, lowB s = i := ⟨_, rfl⟩
      have ETZ := fun (V : World) (hT : TZ V) => trailing_any s (by omega) h0 V hT
      simp only [hi] at l1 l2 l4 hT0 hTS ETZ
      have hne : ((s : Int) == 0) = false := by simp; omega
      have HN := Lib.hid (fun (k : Nat) (hk : k < n) (hc : i < k ∧ s.testBit k = true) => show (pre ++ (pqT n d s k).map (fun q => (g, ps ++ q))).length + (pqL n d (s - 2 ^ i - 2 ^ k)).length ≤ N from by
        have h1 := hTS k
        rw [if_pos hc] at h1
        have h2 := hTL (k + 1) (by omega)
        rw [h1] at h2
        simp only [List.length_append, List.length_map] at h2 ⊢
        omega)
      have HIH := Lib.hid (fun (k : Nat) (hk : k < n) (hc : i < k ∧ s.testBit k = true) (V : World) (h1 : PairsAt V g (n / 2) (ps ++ [(i, k)])) (h2 : PB By Bn Bg n l V) (h3 : J (pre ++ (pqT n d s k).map (fun q => (g, ps ++ q))) V) => by
        obtain ⟨_, _, t3⟩ := two_off ⟨s, by omega⟩ ⟨i, l2⟩ ⟨k, by omega⟩ hc.1 l1 hc.2
        simp only at t3
        exact ih (s - 2 ^ i - 2 ^ k) (ps ++ [(i, k)]) (pre ++ (pqT n d s k).map (fun q => (g, ps ++ q))) V (two_less hs) (by omega) (by rw [List.length_append, List.length_singleton]; omega) (fun p hp => by
          rcases List.mem_append.1 hp with hp | hp
          · exact hps p hp
          · simp at hp; subst hp; exact ⟨hc.1, hk⟩) h2 h1 h3 (HN.out k hk hc))
      have hTS0 := fun (k : Nat) (hc : ¬(i < k ∧ s.testBit k = true)) => show pqT n d s (k + 1) = pqT n d s k from by rw [hTS, if_neg hc, List.append_nil]
      have HTS0 := Lib.hid hTS0
      have HTS1 := Lib.hid (fun (k : Nat) (hc : i < k ∧ s.testBit k = true) => show (pre ++ (pqT n d s (k + 1)).map (fun q => (g, ps ++ q))) = pre ++ (pqT n d s k).map (fun q => (g, ps ++ q)) ++ (pqL n d (s - 2 ^ i - 2 ^ k)).map (fun q => (g, ps ++ [(i, k)] ++ q)) from by
        rw [hTS, if_pos hc, List.map_append, List.map_map, ← List.append_assoc]
        congr 2
        funext q
        simp)
      have HO := Lib.hid (show ∀ (V V' : World), PB By Bn Bg n l V → Keeps (fun k => own k ∨ k = g) V V' → PB By Bn Bg n l V' from fun V V' h hk => h.keeps hk (fun h => h.elim (fun h => (hown _ h).2.1 rfl) hnn) (fun h => h.elim (fun h => by have := (hown _ h).1; omega) hny) (fun h => h.elim (fun h => by have := (hown _ h).1; omega) hng) (fun h => h.elim (fun h => (hown _ h).2.2 rfl) (fun h => by omega)))
      have HIN := Lib.hid (fun (k : Nat) (hk : k < n) (V : World) => inSet_any s k (by omega) (by omega) V)
      have HT0 := Lib.hid hT0
      have HFJ := Lib.hid hJ
      have HC := Lib.hid hat
      have HPJ := Lib.hid hj
      have HOB := Lib.hid hob
      have HOR := Lib.hid (show ∀ k : Nat, k < n → i < k → bits BinOp.or IntKind.i64 (2 ^ i) (2 ^ k) = ((2 ^ i + 2 ^ k : Nat) : Int) from fun k hk hik => or2_fin ⟨i, l2⟩ ⟨k, by omega⟩ hik)
      have HOF := Lib.hid (show ∀ k : Nat, k < n → i < k → s.testBit k = true → bits BinOp.andNot IntKind.i64 (s : Int) ((2 ^ i + 2 ^ k : Nat) : Int) = ((s - 2 ^ i - 2 ^ k : Nat) : Int) from fun k hk hik hb => off2_fin ⟨s, by omega⟩ ⟨i, l2⟩ ⟨k, by omega⟩ hik l1 hb)
      have hs64 : s < 64 := by omega
      have ET := Lib.hid (ETZ W hob.tz)
      have hws : IntKind.u64.wrap (s : Int) = (s : Int) := IntWalk.u64_in _ ⟨by omega, by omega⟩
      have hwi : IntKind.i64.wrap ((i : Int) + 1) = ((i + 1 : Nat) : Int) := (IntWalk.i64_in _ ⟨by omega, by omega⟩).trans (by omega)
      have hpi := pow_in ⟨i, l2⟩
      simp only at hpi
      have hmi : min i 64 = i := by omega
      obtain ⟨m, hmm⟩ : ∃ m, ps.length = m := ⟨_, rfl⟩
      have HM := Lib.hid hmm
      have HM2 := Lib.hid (fun (k : Nat) (hk : k < n) (hc : i < k ∧ s.testBit k = true) => show m + 1 ≤ n / 2 from by
        obtain ⟨_, _, t3⟩ := two_off ⟨s, by omega⟩ ⟨i, l2⟩ ⟨k, by omega⟩ hc.1 l1 hc.2
        simp only at t3
        omega)
      rw [hmm]
      clear ih hTS hTL hT0 ETZ hN hj hat hob hJ hY hown hip hpl hp hs hps hi hmm hTS0
      go_enter Tryd.func81, Tryd.ntmps81
      go_wp2_with (go_at_call 82; refine (ET.out).mono ?_; rintro e w' ⟨rfl, rfl⟩)
      go_loopg [9, 10] (n - (i + 1)) (fun q kv _ wr => ∃ k : Nat, i < k ∧ k ≤ n ∧ q = n - k ∧ kv = .int .i64 k ∧ J (pre ++ (pqT n d s k).map (fun q => (g, ps ++ q))) wr ∧ Keeps (fun k => own k ∨ k = g) W wr ∧ PairsAt wr g (n / 2) ps)
      case atStart => exact ⟨i + 1, by omega, by omega, rfl, rfl, by rw [HT0.out]; simpa using HPJ.out, Keeps.refl _ _, HC.out⟩
      case round =>
        obtain ⟨k, hik, hk, rfl, rfl, hj, hK, hAt⟩ := hrel
        have hob' := HO.out _ _ HOB.out hK
        have cn := hob'.bn
        by_cases hlt : k < n
        · have hor := HOR.out k hlt hik
          have hpk := pow_in ⟨k, by omega⟩
          simp only at hpk
          have hmk : min k 64 = k := by omega
          have hwk : IntKind.i64.wrap ((k : Int) + 1) = ((k + 1 : Nat) : Int) := (IntWalk.i64_in _ ⟨by omega, by omega⟩).trans (by omega)
          obtain ⟨u, hu⟩ : ∃ u, 2 ^ i + 2 ^ k = u := ⟨_, rfl⟩
          rw [hu] at hor
          have HUU := Lib.hid hu
          have HOB' := Lib.hid hob'
          have HPJ' := Lib.hid hj
          have HK := Lib.hid hK
          have HAt := Lib.hid hAt
          clear hob' hj hK hAt hu
          go_wp2
          go_quiet (fail)
          have hobV := HO.out _ _ HOB'.out (Keeps.grown (grown_drewC wr nq) (fun r e => by cases e))
          have hjV := HFJ.out _ _ _ none HPJ'.out (grown_drewC wr nq) (fun r e => by cases e)
          have hKV := HK.out.trans (Keeps.grown (grown_drewC wr nq) (fun r e => by cases e))
          have hAt : PairsAt (wr.drewN nq) g (n / 2) ps := HAt.out
          obtain ⟨V1, hV1⟩ : ∃ V1, wr.drewN nq = V1 := ⟨_, rfl⟩
          rw [hV1] at hobV hjV hKV hAt ⊢
          clear HOB' HPJ' HK HAt hV1 cn
          have HOB' := Lib.hid hobV
          have HPJ' := Lib.hid hjV
          have HK := Lib.hid hKV
          have HAt := Lib.hid hAt
          clear hobV hjV hKV
          have E1 := HIN.out k hlt
          cases hb : s.testBit k with
          | false =>
            simp only [hb] at E1
            have hst := HTS0.out k (by rw [hb]; simp)
            have HST := Lib.hid hst
            replace E1 := Lib.hid (fun (p : Nat) => E1 (V1.drewN p))
            clear hst hAt hb
            go_wp2
            go_quiet ((go_at_call 83; exact Calls.quiet_of_same ((E1.out _).mono fun _ _ h => ⟨h.1, h.2.symm⟩)))
            go_wp2
            go_roundg (n - (k + 1))
            case measure => omega
            case rel => exact ⟨k + 1, by omega, by omega, rfl, by go_num, by rw [HST.out]; exact HFJ.out _ _ _ none HPJ'.out (grown_drewC V1 nq) (fun r e => by cases e), HK.out.trans (Keeps.grown (grown_drewC V1 nq) (fun r e => by cases e)), HAt.out⟩
          | true =>
            have e1 := E1 V1.drew
            rw [hb] at e1
            have hof := HOF.out k hlt hik hb
            rw [HUU.out] at hof
            have hst := HTS1.out k ⟨hik, hb⟩
            have hm2 := HM2.out k hlt ⟨hik, hb⟩
            have EI := HIH.out k hlt ⟨hik, hb⟩
            rw [show (ps ++ [(i, k)]).length = m + 1 by rw [List.length_append, HM.out]; rfl] at EI
            obtain ⟨r, hr⟩ : ∃ r, s - 2 ^ i - 2 ^ k = r := ⟨_, rfl⟩
            rw [hr] at hof EI hst
            replace E1 := Lib.hid e1
            replace EI := Lib.hid EI
            rw [hof]
            have HST := Lib.hid hst
            have c3 : V1.drew.cell? ⟨Bg, 0, none⟩ = _ := HOB'.out.bg
            have hown : V1.drew.ownsRow 0 72 2 (.slice (some ⟨g, 0, none⟩) m (n / 2)) m (pr2 ps) := by rw [← HM.out]; exact hAt
            have HOWN := Lib.hid hown
            clear hst hAt hown e1 hr hb
            go_wp2
            go_region_held3 (fun w' => w'.cell? ⟨Bg, 0, none⟩ = some (.func (.func 81) #[] #[.pointer (some ⟨By, 0, none⟩), .pointer (some ⟨Bn, 0, none⟩), .pointer (some ⟨Bg, 0, none⟩)]))
              (first | exact c3 | exact cell_alloc_l _ c3 | exact c4 | exact c5)
              (first
                | (go_at_call 83; refine (E1.out).mono ?_; rintro e w' ⟨rfl, rfl⟩)
                | (refine step_append_fitsG _ (by rfl) (.tmp 38) (.tmp 42) 69 rfl 0 72 ip 2 Tryd.underlying69 HJ.out.1 HJ.out.2.1 g m (n / 2) (pr2 ps) rfl (HOWN.out.alloc _) ⟨V1.heap.size, 0, none⟩ 1 1 [.int .i64 i, .int .i64 k] rfl rfl (World.news_of_block (World.alloc_heap_new V1.drew _)) (fun x hx => by simp at hx; rcases hx with rfl | rfl <;> rfl) hm2 ?_; intro w1 hown' hgrow; have hg1 : V1.grownBy w1 (some g) := (World.grownBy_alloc V1 _ _).trans (undrew hgrow); have c4 : w1.cell? ⟨Bg, 0, none⟩ = _ := (hg1.cell_far ⟨Bg, 0, none⟩ (World.block_lt_of_cell? _ _ c3) (fun e => hng (by injection e))).trans c3; have HC1 := Lib.hid (show PairsAt w1 g (n / 2) (ps ++ [(i, k)]) by unfold PairsAt; rw [pr2_snoc, show (ps ++ [(i, k)]).length = m + 1 by rw [List.length_append, HM.out]; rfl]; exact hown'); have HG1 := Lib.hid hg1; clear hown' hgrow hg1)
                | (go_at_call 81; refine (EI.out w1 HC1.out (HO.out _ _ HOB'.out (Keeps.grown HG1.out (fun r e => by cases e; exact Or.inr rfl))) (HFJ.out _ _ _ _ HPJ'.out HG1.out (fun r e => by cases e; exact hB))).mono ?_; rintro e w2 ⟨rfl, hj2, hk2, hc2⟩; have c5 : w2.cell? ⟨Bg, 0, none⟩ = _ := (HO.out _ _ (HO.out _ _ HOB'.out (Keeps.grown HG1.out (fun r e => by cases e; exact Or.inr rfl))) hk2).bg; have HJ2 := Lib.hid hj2; have HK2 := Lib.hid ((Keeps.grown HG1.out (fun r e => by cases e; exact Or.inr rfl)).trans hk2); have HC2 := Lib.hid hc2.init; clear hj2 hk2 hc2))
            go_wp2
            go_roundg (n - (k + 1))
            case measure => omega
            case rel => exact ⟨k + 1, by omega, by omega, rfl, by go_num, by rw [HST.out]; exact HJ2.out, HK.out.trans HK2.out, HC2.out⟩
        · have hqn : n = k := by omega
          subst hqn
          go_wp2
          go_ret
          exact ⟨rfl, hj, hK, hAt⟩

end Go.Proofs.YtpimdgijjljejaaDoor
end

section
namespace Go.Proofs.YtpimdgijjljejaaDoor
open Go.RowKit Go.Deep Go.Shelf
attribute [local go_sem] Oper.semAt_some

theorem pairings_any (n : Int) (w : World) :
    Calls Tryd.prog 63 #[.int .i64 n] w fun e w' => e = .returned (.func (.func 80) #[] #[.pointer (some ⟨w.heap.size, 0, none⟩)]) ∧ w' = w.alloc (.cells #[.int .i64 n] 3) := by
  go_enter Tryd.func63, Tryd.ntmps63
  go_wp2
  go_ret
  exact ⟨rfl, rfl⟩

theorem infoP0 : ((Tryd.prog.info? 72).bind (·.zero)).isSome = true := by kernel_rfl
theorem infoP_zero {i : TypeInfo} (h : Tryd.prog.info? 72 = some i) : ∃ z, i.zero = some z := by
  have h0 := infoP0
  rw [h] at h0
  exact Option.isSome_iff_exists.1 h0

theorem full_pop : ∀ n : Fin 7, 2 ^ n.val - 1 < 2 ^ n.val ∧ popcS (2 ^ n.val - 1) = n.val ∧ n.val ≤ 6 := by decide +kernel

set_option maxRecDepth 100000 in
set_option maxHeartbeats 2000000 in
theorem pairings_stops (k Bn n : Nat) (h6 : n ≤ 6) (w : World) (hlt : Bn < w.heap.size) (h1lt : 1 < w.heap.size) (hb : w.cell? ⟨Bn, 0, none⟩ = some (.int .i64 n)) (hT : TZ w) :
    SeqC Fence.wide k Tryd.prog 80 #[.pointer (some ⟨Bn, 0, none⟩)] (pxV n) (pxP n) (fun b => b = Bn ∨ b = 1) (fun ys => ys.map (fun x => x.2) = pqL n 3 (2 ^ n - 1)) 16 w := by
  intro l J own W hW hown hJ hY hj
  refine callsIn_wide.2 ?_
  obtain ⟨ip, hip⟩ := infoP_parts
  obtain ⟨zp, hzp⟩ := infoP_zero hip.1
  have cn := (hW.cell (p := ⟨Bn, 0, none⟩) hlt).trans hb
  have hlW : Bn < W.heap.size := World.block_lt_of_cell? _ _ cn
  have h1W : 1 < W.heap.size := Nat.lt_of_lt_of_le h1lt hW.size
  have hTW : TZ W := fun i hi => (hW.cell (p := ⟨1, 2 ^ i - 1, none⟩) h1lt).trans (hT i hi)
  have hlen := pqL_len ⟨n, by omega⟩
  obtain ⟨f1, f2, f3⟩ := full_pop ⟨n, by omega⟩
  simp only at hlen f1 f2 f3
  have HG := Lib.hid (fun (V : World) (hob : PB W.heap.size Bn (W.heap.size + 1) n l V) (hc : PairsAt V (W.heap.size + 1 + 1) (n / 2) []) (hjv : J [] V) =>
    goP_any l W.heap.size Bn (W.heap.size + 1) (W.heap.size + 1 + 1) n 16 W.heap.size own J h6 hJ (by omega) (by omega) (by omega) (by omega) (by omega) (by omega) h1W (fun k hk => ⟨(hown k hk).1, fun e => (hown k hk).2 (.inl e), fun e => (hown k hk).2 (.inr e)⟩) (fun m pre x V' hp hx hl => yieldAt_any (hY pre x V' hp hx hl)) 3 (2 ^ n - 1) [] [] V f1 (by omega) (by simp; exact f2) (by simp) hob hc hjv (by simp; omega))
  have oy : (W.alloc (.cells #[.func (.yield l) #[] #[]] 85)).cell? ⟨W.heap.size, 0, none⟩ = _ := (cell_new_l W _ _).1
  have og := (cell_new_l (W.alloc (.cells #[.func (.yield l) #[] #[]] 85)) (.func (.func 81) #[] #[.pointer (some ⟨W.heap.size, 0, none⟩), .pointer (some ⟨Bn, 0, none⟩), .pointer (some ⟨W.heap.size + 1, 0, none⟩)]) 86).1
  obtain ⟨V, hV⟩ : ∃ V, V = (W.alloc (.cells #[.func (.yield l) #[] #[]] 85)).alloc (.cells #[.func (.func 81) #[] #[.pointer (some ⟨W.heap.size, 0, none⟩), .pointer (some ⟨Bn, 0, none⟩), .pointer (some ⟨W.heap.size + 1, 0, none⟩)]] 86) := ⟨_, rfl⟩
  have hz : V.drew.heap.size = W.heap.size + 1 + 1 := by show V.heap.size = _; rw [hV]; simp
  rw [World.size_alloc, ← hV] at og
  have hjV : J [] V.drew := by
    have h := hJ.alloc (.cells #[.func (.func 81) #[] #[.pointer (some ⟨W.heap.size, 0, none⟩), .pointer (some ⟨Bn, 0, none⟩), .pointer (some ⟨W.heap.size + 1, 0, none⟩)]] 86) (hJ.alloc (.cells #[.func (.yield l) #[] #[]] 85) hj)
    rw [← hV] at h
    exact hJ _ _ _ none h (grown_drewC V 1) (fun r e => by cases e)
  have hob : PB W.heap.size Bn (W.heap.size + 1) n l V.drew := ⟨by
      show V.cell? _ = _
      rw [hV]; exact cell_alloc_l _ oy, by
      show V.cell? _ = _
      rw [hV]; exact cell_alloc_l _ (cell_alloc_l _ cn), og, fun i hi => by
      show V.cell? _ = _
      rw [hV]; exact cell_alloc_l _ (cell_alloc_l _ (hTW i hi))⟩
  have c1 : V.drew.cell? ⟨W.heap.size + 1, 0, none⟩ = _ := hob.bg
  have c2 : V.drew.cell? ⟨Bn, 0, none⟩ = _ := hob.bn
  obtain ⟨w', hm1, hm2, hm3⟩ := run_make_own (P := Tryd.prog) V.drew 0 69 72 ip zp 2 Tryd.underlying69 hip.1 hzp hip.2.1 .i64 .i64 (n / 2) (by rw [hip.2.2]; omega) (by unfold maxLen; omega) (Nat.zero_le _)
  rw [hz] at hm1 hm2
  have d1 := (hm3.cell_far ⟨W.heap.size + 1, 0, none⟩ (by rw [hz]; show W.heap.size + 1 < _; omega) (by simp)).trans c1
  have d2 := (hm3.cell_far ⟨Bn, 0, none⟩ (by rw [hz]; show Bn < _; omega) (by simp)).trans c2
  have E := Lib.hid (HG.out w' (hob.keeps (own := fun _ => False) (Keeps.grown hm3 (fun r e => by cases e)) (fun h => h) (fun h => h) (fun h => h) (fun h => h)) hm2 (hJ _ _ _ none hjV hm3 (fun r e => by cases e)))
  have HKC := Lib.hid (fun (w2 : World) (h : Keeps (fun k => own k ∨ k = W.heap.size + 1 + 1) w' w2) => And.intro (h.cell (a := ⟨W.heap.size + 1, 0, none⟩) (fun h => h.elim (fun h => absurd (hown _ h).1 (show ¬ (W.heap.size + 1 < W.heap.size) by omega)) (fun h => absurd h (show ¬ (W.heap.size + 1 = W.heap.size + 1 + 1) by omega))) d1) (h.cell (a := ⟨Bn, 0, none⟩) (fun h => h.elim (fun h => (hown _ h).2 (.inl rfl)) (fun h => absurd h (show ¬ (Bn = W.heap.size + 1 + 1) by omega))) d2))
  have EF := Lib.hid (fun (X : World) => fullSet_any n h6 X)
  obtain ⟨cp, hcp⟩ : ∃ c, n / 2 = c := ⟨_, rfl⟩
  have hquo : (n : Int) / 2 = (cp : Int) := by omega
  have hwc : IntKind.i64.wrap (cp : Int) = (cp : Int) := IntWalk.i64_in _ ⟨by omega, by omega⟩
  rw [hcp] at hm1
  simp only [hcp] at E
  clear HG hob hm2 hm3 hjV hj hJ hY hown hlen hip oy og cn hb hTW f1 f2 f3 hzp hcp
  have HV := Lib.hid hV
  clear hV
  go_enter Tryd.func80, Tryd.ntmps80
  go_wp2
  rw [← HV.out]
  go_region_held3 (fun w'' => w''.cell? ⟨W.heap.size + 1, 0, none⟩ = some (.func (.func 81) #[] #[.pointer (some ⟨W.heap.size, 0, none⟩), .pointer (some ⟨Bn, 0, none⟩), .pointer (some ⟨W.heap.size + 1, 0, none⟩)]) ∧ w''.cell? ⟨Bn, 0, none⟩ = some (.int .i64 n))
    (first | exact ⟨e1, e2⟩ | exact ⟨d1, d2⟩ | exact ⟨c1, c2⟩)
    (first
      | (go_at_call 78; refine (EF.out _).mono ?_; rintro e w2 ⟨rfl, rfl⟩)
      | (go_at_call 81; refine (E.out).mono ?_; rintro e w2 ⟨rfl, hj2, hk2, _⟩; have HJ2 := Lib.hid hj2; obtain ⟨e1, e2⟩ := HKC.out _ hk2; clear hj2 hk2))
  all_goals
    go_end0
    exact ⟨⟨_, rfl⟩, _, map_snd _ _, by simpa using HJ2.out⟩

end Go.Proofs.YtpimdgijjljejaaDoor
end

section
namespace Go.Proofs.YtpimdgijjljejaaDoor
open Go.RowKit Go.Deep

theorem crN_snoc (p : Nat × Nat) : ∀ (qs : List (Nat × Nat)) (q : Nat × Nat), crN p (qs ++ [q]) = crN p qs + (if crB p q = true then 1 else 0)
  | [], q => by simp [crN]
  | x :: qs, q => by simp only [List.cons_append, crN, crN_snoc p qs q]; omega
theorem crN_le (p : Nat × Nat) : ∀ qs : List (Nat × Nat), crN p qs ≤ qs.length
  | [] => by simp [crN]
  | x :: qs => by have := crN_le p qs; simp only [crN, List.length_cons]; split <;> omega
def crA (ps : List (Nat × Nat)) : Nat → Nat
  | 0 => 0
  | k + 1 => crA ps k + crN (ps.getD k (0, 0)) (ps.drop (k + 1))
theorem crA_cons (p : Nat × Nat) (ps : List (Nat × Nat)) : ∀ k, crA (p :: ps) (k + 1) = crN p ps + crA ps k
  | 0 => by simp [crA]
  | k + 1 => by
    show crA (p :: ps) (k + 1) + crN (ps.getD k (0, 0)) (ps.drop (k + 1)) = _
    rw [crA_cons p ps k]
    show _ = crN p ps + (crA ps k + crN (ps.getD k (0, 0)) (ps.drop (k + 1)))
    omega
theorem crA_all : ∀ ps : List (Nat × Nat), crA ps ps.length = crs ps
  | [] => rfl
  | p :: ps => by rw [List.length_cons, crA_cons, crA_all ps]; rfl
theorem crA_le (ps : List (Nat × Nat)) : ∀ k, crA ps k ≤ k * ps.length
  | 0 => by simp [crA]
  | k + 1 => by
    have h1 := crA_le ps k
    have h2 := crN_le (ps.getD k (0, 0)) (ps.drop (k + 1))
    have h3 : (ps.drop (k + 1)).length ≤ ps.length := by simp
    unfold crA
    rw [Nat.add_mul]
    omega

structure Boxed2 (W : World) (P : Nat) (x y : Nat) : Prop where
  c0 : W.cell? ⟨P, 0, none⟩ = some (.int .i64 (x : Int))
  c1 : W.cell? ⟨P, 1, none⟩ = some (.int .i64 (y : Int))
  f0 : W.frozen? ⟨P, 0, none⟩ = false
  lt : P < W.heap.size
theorem Boxed2.new (W : World) (x y : Nat) : Boxed2 (W.alloc (.cells #[.int .i64 (x : Int), .int .i64 (y : Int)] 72)) W.heap.size x y := by
  have h := World.alloc_heap_new W (.cells #[.int .i64 (x : Int), .int .i64 (y : Int)] 72)
  exact ⟨by unfold World.cell?; rw [h]; rfl, by unfold World.cell?; rw [h]; rfl, by unfold World.frozen?; rw [h]; rfl, by simp⟩
theorem Boxed2.alloc {W : World} {P x y : Nat} (h : Boxed2 W P x y) (o : Obj) : Boxed2 (W.alloc o) P x y :=
  ⟨cell_alloc_l _ h.c0, cell_alloc_l _ h.c1, frozen_alloc_l _ h.c0 h.f0, by have := h.lt; simp; omega⟩

set_option maxRecDepth 100000 in
set_option maxHeartbeats 2000000 in
theorem crossings_any (g cap m : Nat) (ps : List (Nat × Nat)) (W : World) (hm : ps.length = m) (h3 : m ≤ 3) (hcap : m ≤ cap) (hc6 : cap ≤ 3) (hr : PairsR W g ps) :
    Calls Tryd.prog 64 #[.slice (some ⟨g, 0, none⟩) m cap] W fun e w' => e = .returned (.int .i64 (crs ps)) ∧ W.Since W.heap.size w' := by
  have HX := Lib.hid hm
  have HR := Lib.hid hr
  rw [← crA_all ps, hm]
  have HB := Lib.hid (fun k => crA_le ps k)
  clear hm hr
  go_enter Tryd.func64, Tryd.ntmps64
  go_wp2
  go_loopg [3, 4, 5, 7, 10] m (fun q s _ _ _ i wr => ∃ k : Nat, k ≤ m ∧ q = m - k ∧ i = .int .i64 k ∧ s = .int .i64 (crA ps k) ∧ W.Since W.heap.size wr)
  case atStart => exact ⟨0, Nat.zero_le _, rfl, rfl, rfl, World.Since.refl _ _⟩
  case round =>
    obtain ⟨k, hk, rfl, rfl, rfl, hS⟩ := hrel
    by_cases hlt : k < m
    · obtain ⟨r1, r2⟩ := HR.out k (by rw [HX.out]; exact hlt)
      have c1 := (hS.cell (a := ⟨g, k * 2, none⟩) (World.block_lt_of_cell? _ _ r1)).trans r1
      have c2 := (hS.cell (a := ⟨g, k * 2 + 1, none⟩) (World.block_lt_of_cell? _ _ r2)).trans r2
      obtain ⟨pa, hpa⟩ : ∃ x, (ps.getD k (0, 0)).1 = x := ⟨_, rfl⟩
      obtain ⟨pb, hpb⟩ : ∃ x, (ps.getD k (0, 0)).2 = x := ⟨_, rfl⟩
      rw [hpa] at c1
      rw [hpb] at c2
      have HPA := Lib.hid hpa
      have HPB := Lib.hid hpb
      clear r1 r2 hpa hpb
      have hak : crA ps (k + 1) = crA ps k + crN (pa, pb) (ps.drop (k + 1)) := by rw [← HPA.out, ← HPB.out]; rfl
      have HAK := Lib.hid hak
      have hal := HB.out k
      rw [HX.out] at hal
      have hal2 : k * m ≤ 3 * 3 := Nat.mul_le_mul (by omega) h3
      obtain ⟨A, hA⟩ : ∃ A, crA ps k = A := ⟨_, rfl⟩
      rw [hA] at hak hal ⊢
      have HA := Lib.hid hA
      have hwk : IntKind.i64.wrap ((k : Int) + 1) = (k : Int) + 1 := IntWalk.i64_in _ ⟨by omega, by omega⟩
      have HS := Lib.hid hS
      clear hak hA
      by_cases hcc : cap = k + 1
      · have hmk : m = k + 1 := by omega
        subst hmk
        subst hcc
        have he : crA ps (k + 1) = A := by
          rw [HAK.out, HA.out, List.drop_eq_nil_of_le (by rw [HX.out]; exact Nat.le_refl _)]; rfl
        have HE := Lib.hid he
        clear he hS
        go_wp2
        go_loopg [3, 7, 20] 0 (fun q s _ i wi => q = 0 ∧ i = .int .i64 0 ∧ s = .int .i64 A ∧ W.Since W.heap.size wi)
        case atStart => exact ⟨rfl, rfl, rfl, HS.out.alloc HS.out.size _⟩
        case round =>
          obtain ⟨rfl, rfl, rfl, hSi⟩ := hrel
          go_wp2
          go_roundg 0
          case measure => omega
          case rel => exact ⟨k + 1, by omega, by omega, by go_num, by rw [HE.out], hSi⟩
      · have hn1 := Boxed2.new wr pa pb
        obtain ⟨P, hP⟩ : ∃ P, wr.heap.size = P := ⟨_, rfl⟩
        rw [hP] at hn1
        have HN1 := Lib.hid hn1
        have HS1 := Lib.hid (HS.out.alloc HS.out.size (.cells #[.int .i64 pa, .int .i64 pb] 72))
        have hPl : W.heap.size ≤ P := by rw [← hP]; exact HS.out.size
        clear hn1 hS
        go_wp2
        clear hP c1 c2
        go_loopg [3, 7, 20] (m - (k + 1)) (fun q s _ i wi => ∃ j : Nat, j ≤ m - (k + 1) ∧ q = m - (k + 1) - j ∧ i = .int .i64 j ∧ s = .int .i64 ((A + crN (pa, pb) ((ps.drop (k + 1)).take j) : Nat) : Int) ∧ W.Since W.heap.size wi ∧ Boxed2 wi P pa pb)
        case atStart => exact ⟨0, Nat.zero_le _, rfl, rfl, by simp [crN], HS1.out, HN1.out⟩
        case round =>
          obtain ⟨j, hj, rfl, rfl, rfl, hSi, hBi⟩ := hrel
          by_cases hjl : j < m - (k + 1)
          · obtain ⟨r1, r2⟩ := HR.out (k + 1 + j) (by rw [HX.out]; omega)
            have d1 := (hSi.cell (a := ⟨g, (k + 1 + j) * 2, none⟩) (World.block_lt_of_cell? _ _ r1)).trans r1
            have d2 := (hSi.cell (a := ⟨g, (k + 1 + j) * 2 + 1, none⟩) (World.block_lt_of_cell? _ _ r2)).trans r2
            rw [show (k + 1 + j) * 2 = (k + 1) * 2 + j * 2 by omega] at d1 d2
            have ht : (ps.drop (k + 1)).take (j + 1) = (ps.drop (k + 1)).take j ++ [ps.getD (k + 1 + j) (0, 0)] := by
              rw [List.take_add_one]
              simp [List.getD, show k + 1 + j < ps.length by rw [HX.out]; omega]
            have hcn := crN_snoc (pa, pb) ((ps.drop (k + 1)).take j) (ps.getD (k + 1 + j) (0, 0))
            rw [← ht] at hcn
            have hcl := crN_le (pa, pb) ((ps.drop (k + 1)).take j)
            have hcl2 : ((ps.drop (k + 1)).take j).length ≤ j := by simp; omega
            obtain ⟨qp, hqp⟩ : ∃ x, ps.getD (k + 1 + j) (0, 0) = x := ⟨_, rfl⟩
            rw [hqp] at d1 d2 hcn
            obtain ⟨qa, qb⟩ := qp
            simp only at d1 d2
            have hcr : crB (pa, pb) (qa, qb) = (decide (qa < pb) && decide (pb < qb)) := rfl
            rw [hcr] at hcn
            obtain ⟨S, hSS⟩ : ∃ S, A + crN (pa, pb) ((ps.drop (k + 1)).take j) = S := ⟨_, rfl⟩
            rw [hSS]
            have hSb : S ≤ 20 := by omega
            have hwS : IntKind.i64.wrap ((S : Int) + 1) = ((S + 1 : Nat) : Int) := (IntWalk.i64_in _ ⟨by omega, by omega⟩).trans (by omega)
            have hwj : IntKind.i64.wrap ((j : Int) + 1) = ((j + 1 : Nat) : Int) := (IntWalk.i64_in _ ⟨by omega, by omega⟩).trans (by omega)
            obtain ⟨b1, b2, _, _⟩ := hBi.alloc (.cells #[.int .i64 qa, .int .i64 qb] 72)
            have hjl2 : (j : Int) < ((m - (k + 1) : Nat) : Int) := by omega
            have HF1 := Lib.hid (hSi.alloc hSi.size (.cells #[.int .i64 qa, .int .i64 qb] 72))
            have HF2 := Lib.hid (hBi.alloc (.cells #[.int .i64 qa, .int .i64 qb] 72))
            by_cases h1 : qa < pb
            · have h1' : (qa : Int) < (pb : Int) := by omega
              by_cases h2 : pb < qb
              · have h2' : (pb : Int) < (qb : Int) := by omega
                have hN : A + crN (pa, pb) ((ps.drop (k + 1)).take (j + 1)) = S + 1 := by rw [hcn, if_pos (by simp [h1, h2])]; omega
                have HN := Lib.hid hN
                clear hN hcn hSS hcl hcl2 ht r1 r2 hSi hBi hqp
                go_wp2
                go_roundg (m - (k + 1) - (j + 1))
                case measure => omega
                case rel => exact ⟨j + 1, by omega, rfl, by go_num, by rw [HN.out]; go_num, HF1.out, HF2.out⟩
              · have h2' : ¬ (pb : Int) < (qb : Int) := by omega
                have hN : A + crN (pa, pb) ((ps.drop (k + 1)).take (j + 1)) = S := by rw [hcn, if_neg (by simp [h2])]; omega
                have HN := Lib.hid hN
                clear hN hcn hSS hcl hcl2 ht r1 r2 hSi hBi hqp
                go_wp2
                go_roundg (m - (k + 1) - (j + 1))
                case measure => omega
                case rel => exact ⟨j + 1, by omega, rfl, by go_num, by rw [HN.out], HF1.out, HF2.out⟩
            · have h1' : ¬ (qa : Int) < (pb : Int) := by omega
              have hN : A + crN (pa, pb) ((ps.drop (k + 1)).take (j + 1)) = S := by rw [hcn, if_neg (by simp [h1])]; omega
              have HN := Lib.hid hN
              clear hN hcn hSS hcl hcl2 ht r1 r2 hSi hBi hqp
              go_wp2
              go_roundg (m - (k + 1) - (j + 1))
              case measure => omega
              case rel => exact ⟨j + 1, by omega, rfl, by go_num, by rw [HN.out], HF1.out, HF2.out⟩
          · have hje : j = m - (k + 1) := by omega
            have hjl2 : ¬ (j : Int) < ((m - (k + 1) : Nat) : Int) := by omega
            have he : A + crN (pa, pb) ((ps.drop (k + 1)).take j) = crA ps (k + 1) := by
              rw [HAK.out, HA.out, List.take_of_length_le (by rw [List.length_drop, HX.out]; omega)]
            rw [he]
            go_wp2
            go_roundg (m - (k + 1))
            case measure => omega
            case rel => exact ⟨k + 1, by omega, rfl, by go_num, rfl, hSi⟩
    · have : m = k := by omega
      subst this
      go_wp2
      go_ret
      exact ⟨rfl, hS⟩

end Go.Proofs.YtpimdgijjljejaaDoor
end

section
namespace Go.Proofs.YtpimdgijjljejaaDoor
open Go.RowKit Go.Deep Go.Shelf
attribute [local go_sem] Oper.semAt_some

theorem entP_snoc (l : List (List Int)) : ∀ (qs : List (Nat × Nat)) (p : Nat × Nat), entP l (qs ++ [p]) = entP l qs * at2 l p.1 p.2
  | [], p => by simp [entP]
  | x :: qs, p => by
    show at2 l x.1 x.2 * entP l (qs ++ [p]) = at2 l x.1 x.2 * entP l qs * _
    rw [entP_snoc l qs p, Int.mul_assoc]
theorem entP_bd {l : List (List Int)} {n : Nat} (hE : EntB l n) : ∀ (qs : List (Nat × Nat)), (∀ p ∈ qs, p.1 < p.2 ∧ p.2 < n) → -(p180 qs.length) ≤ entP l qs ∧ entP l qs ≤ p180 qs.length
  | [], _ => by simp [entP, p180]
  | p :: qs, h => by
    have ih := entP_bd hE qs (fun x hx => h x (by simp [hx]))
    have hp := h p (by simp)
    have he := hE.2 p.1 p.2 (by omega) hp.2
    have hb := mul_bdB he.1 he.2 ih.1 ih.2
    have := p180_pos qs.length
    show _ ≤ at2 l p.1 p.2 * entP l qs ∧ at2 l p.1 p.2 * entP l qs ≤ _
    rw [List.length_cons]
    have e : p180 (qs.length + 1) = 180 * p180 qs.length := rfl
    omega
theorem sn_mul_bd {p : Nat} {x B : Int} (h : -B ≤ x ∧ x ≤ B) : -B ≤ sn p * x ∧ sn p * x ≤ B := by
  rw [← sg_sn]; exact sg_bd h

theorem sn_bd' (p : Nat) : -1 ≤ sn p ∧ sn p ≤ 1 := by unfold sn; split <;> omega
def OldS (n₀ : Nat) (w0 W : World) : Prop := ∀ k, k < n₀ → W.heap[k]? = w0.heap[k]?
theorem OldS.cell {n₀ : Nat} {w0 W : World} (h : OldS n₀ w0 W) {a : Addr} (ha : a.block < n₀) : W.cell? a = w0.cell? a := World.cell?_of_block (h _ ha)
theorem OldS.grown {n₀ : Nat} {w0 X Y : World} {row : Option Nat} (h : OldS n₀ w0 X) (hz : n₀ ≤ X.heap.size) (hg : X.grownBy Y row) (hr : ∀ r, row = some r → n₀ ≤ r) : OldS n₀ w0 Y :=
  fun k hk => (hg.block k (by omega) (fun e => by have := hr k e.symm; omega)).trans (h k hk)
theorem OldS.keeps {n₀ : Nat} {w0 X Y : World} {own : Nat → Prop} (h : OldS n₀ w0 X) (hz : n₀ ≤ X.heap.size) (hk : Keeps own X Y) (ho : ∀ k, own k → n₀ ≤ k) : OldS n₀ w0 Y := fun k hlt => by
  have hx : k < X.heap.size := by omega
  have e := hk.same k X.heap[k] (fun o => by have := ho k o; omega) (Array.getElem?_eq_getElem hx)
  rw [e, ← h k hlt]
  exact (Array.getElem?_eq_getElem hx).symm

theorem pairProducts_any (tv : Value) (a : Option Addr) (len cap : Nat) (w : World) (ht : tv = .slice a len cap) :
    Calls Tryd.prog 36 #[tv] w fun e w' => e = .returned (.func (.func 62) #[] #[.pointer (some ⟨w.heap.size, 0, none⟩)]) ∧ w' = w.alloc (.cells #[tv] 39) := by
  subst ht
  go_enter Tryd.func36, Tryd.ntmps36
  go_wp2
  go_ret
  exact ⟨rfl, rfl⟩

theorem pxP_put (n : Nat) (x : PX) (W : World) (l : Nat) (o o' : Obj) (h : pxP n x W) (hl : W.heap[l]? = some o) (ho : o.isCells = false) : pxP n x (W.putObj l o') := by
  refine ⟨h.1, fun i hi => ?_⟩
  obtain ⟨e1, e2⟩ := h.2 i hi
  exact ⟨cell_kept e1 (grownBy_putObj' W l o') (fun r e => by cases e; exact ⟨o, hl, ho⟩), cell_kept e2 (grownBy_putObj' W l o') (fun r e => by cases e; exact ⟨o, hl, ho⟩)⟩

theorem grownS {w w' : World} (h : w.Since w.heap.size w') : w.grownBy w' none := ⟨h.os, h.tape, h.output, h.size, fun k hk _ => h.block k hk⟩
theorem take_snocP (q : List (Nat × Nat)) {j : Nat} (h : j < q.length) : q.take (j + 1) = q.take j ++ [q.getD j (0, 0)] := by
  rw [List.take_succ_eq_append_getElem h]
  simp [List.getD, h]
theorem nzP_take (l : List (List Int)) (q : List (Nat × Nat)) {j : Nat} (h : j < q.length) (hn : nzP l (q.take j) = true) (hz : at2 l (q.getD j (0, 0)).1 (q.getD j (0, 0)).2 ≠ 0) : nzP l (q.take (j + 1)) = true := by
  rw [take_snocP q h]
  unfold nzP at hn ⊢
  rw [List.all_append, hn]
  simp only [List.all_cons, List.all_nil]
  rw [decide_eq_true hz]
  rfl
theorem nzP_zero (l : List (List Int)) (q : List (Nat × Nat)) {j : Nat} (h : j < q.length) (hz : at2 l (q.getD j (0, 0)).1 (q.getD j (0, 0)).2 = 0) : nzP l q = false := by
  cases e : nzP l q with
  | false => rfl
  | true =>
    unfold nzP at e
    have := List.all_eq_true.1 e (q.getD j (0, 0)) (by
      have : q.getD j (0, 0) = q[j] := by simp [List.getD, h]
      rw [this]; exact List.getElem_mem _)
    exact absurd hz (of_decide_eq_true this)
theorem p180_two : ∀ j : Fin 4, p180 j.val ≤ 5832000 := by decide

set_option maxRecDepth 100000 in
set_option maxHeartbeats 4000000 in
theorem prods_stops (k Bt n cap : Nat) (hk : 4 ≤ k) (a : Option Addr) (l : List (List Int)) (w0 w : World) (hn : l.length = n) (hT : TabIn l) (hw : (l.getD 0 []).length = n) (hm : MatR w0 a l) (h1 : 1 < w0.heap.size) (hTZ : TZ w0) (hold : OldS w0.heap.size w0 w) (_hz : w0.heap.size ≤ w.heap.size) (hBt : w0.heap.size ≤ Bt ∧ Bt < w.heap.size) (hb : w.cell? ⟨Bt, 0, none⟩ = some (.slice a n cap)) :
    SeqC Fence.wide k Tryd.prog 62 #[.pointer (some ⟨Bt, 0, none⟩)] (fun x : Int => #[.int .i64 x]) (fun x _ => -34012224000000 ≤ x ∧ x ≤ 34012224000000) (fun b => b < w0.heap.size ∨ b = Bt) (fun ys => ys = prL l (pqL n 3 (2 ^ n - 1))) 16 w := by
  intro lp J own W hW hown hJ hY hj
  have hE := entB_of hT hn hw
  have h6 := hE.1
  have c0 := (hW.cell (p := ⟨Bt, 0, none⟩) hBt.2).trans hb
  have hWz := hW.size
  have hOW : OldS w0.heap.size w0 W := fun k hk => (hW.block k (by omega)).trans (hold k hk)
  have hso : ∀ k, own k → w0.heap.size ≤ k := fun k hk => by
    have := (hown k hk).2
    by_cases e : k < w0.heap.size
    · exact absurd (.inl e) this
    · omega
  refine callsIn_of_wp_marks Tryd.func62 rfl trivial ?_ rfl
  simp only [Tryd.ntmps62, List.size_toArray, List.length_cons, List.length_nil, Nat.reduceAdd, Nat.reduceSub, Array.replicate_succ, Array.replicate_zero, List.push_toArray, List.append_toArray, List.nil_append, List.cons_append]
  gi_wp2
  refine wpIn_wide.2 (wp_scope_straight (wpIn_wide (n := k).1 ?_))
  refine wpIn_seq (wpIn_label ?_)
  show Code.wpIn _ _ _ _ (Exit.noGoto _) _ _
  obtain ⟨b, o, A, C, rfl, hlen, hcell⟩ := hm.grid hn hT hw
  have hbl : ∀ i, i < n → b < w0.heap.size := fun i hi => World.block_lt_of_cell? _ _ (hlen i hi)
  have c1 : (W.alloc (.cells #[.func (.yield lp) #[] #[]] 65)).cell? ⟨Bt, 0, none⟩ = _ := cell_alloc_l _ c0
  have y0 : (W.alloc (.cells #[.func (.yield lp) #[] #[]] 65)).cell? ⟨W.heap.size, 0, none⟩ = _ := (cell_new_l W _ _).1
  gi_wp2_with (refine ⟨trivial, fun _ => by omega, ?_⟩; gi_at_call 63; refine (callsIn_wide.2 (pairings_any _ _)).mono ?_; rintro e w' ⟨rfl, rfl⟩)
  have hbn := (cell_new_l (W.alloc (.cells #[.func (.yield lp) #[] #[]] 65)) (.int .i64 n) 3).1
  have c2 := cell_alloc_l (.cells #[.int .i64 (n : Int)] 3) c1
  have y2 := cell_alloc_l (.cells #[.int .i64 (n : Int)] 3) y0
  have hg2 := (World.grownBy_alloc W (.cells #[.func (.yield lp) #[] #[]] 65) none).trans (World.grownBy_alloc (W.alloc (.cells #[.func (.yield lp) #[] #[]] 65)) (.cells #[.int .i64 (n : Int)] 3) none)
  have hjV := hJ.alloc (.cells #[.int .i64 (n : Int)] 3) (hJ.alloc (.cells #[.func (.yield lp) #[] #[]] 65) hj)
  have zV : ((W.alloc (.cells #[.func (.yield lp) #[] #[]] 65)).alloc (.cells #[.int .i64 (n : Int)] 3)).heap.size = W.heap.size + 2 := by simp
  rw [World.size_alloc] at hbn
  obtain ⟨V, hV⟩ : ∃ V, (W.alloc (.cells #[.func (.yield lp) #[] #[]] 65)).alloc (.cells #[.int .i64 (n : Int)] 3) = V := ⟨_, rfl⟩
  rw [hV] at hbn c2 y2 hg2 hjV zV ⊢
  clear hV c1 y0
  have hOV := hOW.grown (by omega) hg2 (fun r e => by cases e)
  have hTV : TZ V := hTZ.kept (hOV 1 h1)
  refine rangeC (F := Fence.wide) (n := k) rfl (by omega) (gf := 80) (lb := #[.pointer (some ⟨W.heap.size + 1, 0, none⟩)]) rfl trivial (enters_of Tryd.func80 (by kernel_rfl) rfl)
    (pairings_stops (k - 1) (W.heap.size + 1) n h6 V (by omega) (by omega) hbn hTV) (fun _ => rfl) (pxP_put n) own (fun k hk => ⟨by have := (hown k hk).1; omega, fun h => by
      rcases h with h | h
      · have := (hown k hk).1; omega
      · have := hso k hk; omega⟩) (by rintro k (rfl | rfl) <;> omega)
    (fun (pre : List PX) X => (J (prL l (pre.map (fun x : PX => x.2))) X ∧ X.cell? ⟨Bt, 0, none⟩ = some (.slice (some ⟨b, o, none⟩) n cap) ∧ X.cell? ⟨W.heap.size, 0, none⟩ = some (.func (.yield lp) #[] #[])) ∧ OldS w0.heap.size w0 X ∧ V.heap.size ≤ X.heap.size)
    (fun pre X Y row hs hg hr => ⟨⟨hJ _ X Y row hs.1.1 hg (fun r e => by have := hr r e; omega), (hg.cell_far ⟨Bt, 0, none⟩ (by show Bt < _; have := hs.2.2; omega) (fun e => by have := hr Bt e.symm; omega)).trans hs.1.2.1, (hg.cell_far ⟨W.heap.size, 0, none⟩ (by show W.heap.size < _; have := hs.2.2; omega) (fun e => by have := hr W.heap.size e.symm; omega)).trans hs.1.2.2⟩, hs.2.1.grown (by have := hs.2.2; omega) hg (fun r e => by have := hr r e; omega), Nat.le_trans hs.2.2 hg.size⟩)
    ⟨⟨hjV, c2, y2⟩, hOV, Nat.le_refl _⟩
    (fun x => { tmps := #[.func (.yield lp) #[] #[], .pointer (some ⟨Bt, 0, none⟩), .pointer (some ⟨W.heap.size, 0, none⟩), .slice (some ⟨x.1, 0, none⟩) x.2.length (n / 2), undef, undef, undef, undef, .slice (some ⟨b, o, none⟩) n cap, .int .i64 n, .func (.func 80) #[] #[.pointer (some ⟨W.heap.size + 1, 0, none⟩)], .slice (some ⟨x.1, 0, none⟩) x.2.length (n / 2), undef, undef, undef, undef, undef, undef, undef, undef, undef, undef, undef, undef, undef, undef, undef, undef, undef, undef, undef, undef, undef, undef, undef, undef, undef, undef, undef, undef], defers := [] }) ?assign ?body ?done
  case assign =>
    intro lq x X K hK
    simp only [pxV]
    gi_wp2
    exact hK
  case body =>
    rintro lq pre x X hl ⟨⟨hjx, cb, yb⟩, hOX, hzX⟩ hpx hln
    obtain ⟨⟨q1, q2⟩, hpr⟩ := hpx
    obtain ⟨g, q⟩ := x
    simp only at q1 q2 hpr ⊢
    have hnL : ∀ k, own k → k < W.heap.size ∧ k ≠ Bt := fun k hk => ⟨(hown k hk).1, fun e => (hown k hk).2 (.inr e)⟩
    have HKEEP := Lib.hid (show ∀ (ys : List Int) (W' : World), J ys X → X.Since X.heap.size W' → Keeps own X W' ∧ (J ys W' ∧ W'.cell? ⟨Bt, 0, none⟩ = some (.slice (some ⟨b, o, none⟩) n cap) ∧ W'.cell? ⟨W.heap.size, 0, none⟩ = some (.func (.yield lp) #[] #[])) ∧ OldS w0.heap.size w0 W' ∧ V.heap.size ≤ W'.heap.size from fun ys W' hj hs => by
      have hg := grownS hs
      exact ⟨Keeps.grown hg (fun r e => by cases e), ⟨hJ _ X W' none hj hg (fun r e => by cases e), (hs.cell (World.block_lt_of_cell? _ _ cb)).trans cb, (hs.cell (World.block_lt_of_cell? _ _ yb)).trans yb⟩, hOX.grown (by omega) hg (fun r e => by cases e), by have := hs.size; omega⟩)
    have HTHEN := Lib.hid (show ∀ (ys : List Int) (A B : World), Keeps own X A ∧ (J (prL l (pre.map (fun x : PX => x.2))) A ∧ A.cell? ⟨Bt, 0, none⟩ = some (.slice (some ⟨b, o, none⟩) n cap) ∧ A.cell? ⟨W.heap.size, 0, none⟩ = some (.func (.yield lp) #[] #[])) ∧ OldS w0.heap.size w0 A ∧ V.heap.size ≤ A.heap.size → Keeps own A B → J ys B →
        Keeps own X B ∧ (J ys B ∧ B.cell? ⟨Bt, 0, none⟩ = some (.slice (some ⟨b, o, none⟩) n cap) ∧ B.cell? ⟨W.heap.size, 0, none⟩ = some (.func (.yield lp) #[] #[])) ∧ OldS w0.heap.size w0 B ∧ V.heap.size ≤ B.heap.size from fun ys A B h hk hj =>
      ⟨h.1.trans hk, ⟨hj, hk.cell (fun e => (hnL _ e).2 rfl) h.2.1.2.1, hk.cell (fun e => by have := (hnL _ e).1; simp only at this; omega) h.2.1.2.2⟩, h.2.2.1.keeps (by omega) hk hso, Nat.le_trans h.2.2.2 hk.size⟩)
    have hmp : (pre ++ [(g, q)]).map (fun x : PX => x.2) = pre.map (fun x : PX => x.2) ++ [q] := by rw [List.map_append]; rfl
    have HM0 := Lib.hid (show nzP l q = false → prL l ((pre ++ [(g, q)]).map (fun x : PX => x.2)) = prL l (pre.map (fun x : PX => x.2)) from fun h => by rw [hmp, prL_snoc, h]; simp)
    have HM1 := Lib.hid (show nzP l q = true → prL l ((pre ++ [(g, q)]).map (fun x : PX => x.2)) = prL l (pre.map (fun x : PX => x.2)) ++ [valP l q] from fun h => by rw [hmp, prL_snoc, if_pos h])
    have hplen : (prL l (pre.map (fun x : PX => x.2))).length < 16 := by
      have := List.length_filter_le (nzP l) (pre.map (fun x : PX => x.2))
      unfold prL
      rw [List.length_map]
      rw [List.length_map] at this
      omega
    have HYY := Lib.hid (fun (W1 : World) (h : J (prL l (pre.map (fun x : PX => x.2))) W1) (hx : -34012224000000 ≤ valP l q ∧ valP l q ≤ 34012224000000) => hY (prL l (pre.map (fun x : PX => x.2))) (valP l q) W1 h hx hplen)
    have HJX := Lib.hid hjx
    clear hmp hplen hY hJ hjx hown hso
    obtain ⟨m, hm⟩ : ∃ m, q.length = m := ⟨_, rfl⟩
    rw [hm] at q1 ⊢
    have hcl := crA_le q m
    rw [← hm, crA_all, hm] at hcl
    have hmm : m * m ≤ 3 * 3 := Nat.mul_le_mul (by omega) (by omega)
    have EC := Lib.hid (crossings_any g (n / 2) m q X hm (by omega) (by omega) (by omega) hpr)
    obtain ⟨c, hc⟩ : ∃ c, crs q = c := ⟨_, rfl⟩
    rw [hc] at EC hcl
    have ES := fun (Y : World) => signOf_any c (by omega) Y
    have hsb := sn_bd' c
    obtain ⟨s0, hs0⟩ : ∃ s, sn c = s := ⟨_, rfl⟩
    simp only [hs0] at ES hsb
    replace ES := Lib.hid ES
    have HQ := Lib.hid q2
    have HM := Lib.hid hm
    have HPR := Lib.hid hpr
    have HSC := Lib.hid (show sn (crs q) = s0 by rw [hc, hs0])
    clear q2 hpr hm hc hs0
    gi_wp2_with (first
      | (refine ⟨trivial, fun _ => by omega, ?_⟩; gi_at_call 64; refine (CallsIn.inRound lq (callsIn_wide.2 (EC.out))).mono ?_; rintro e w2 ⟨rfl, hs2⟩; have HS2 := Lib.hid hs2; clear hs2)
      | (refine ⟨trivial, fun _ => by omega, ?_⟩; gi_at_call 59; refine (CallsIn.inRound lq (callsIn_wide.2 (ES.out _))).mono ?_; rintro e w3 ⟨rfl, rfl⟩))
    gi_loopw [4, 6, 7, 17] (fun pr _ _ i wr => ∃ j : Nat, j ≤ m ∧ i = .int .i64 j ∧ pr = .int .i64 (s0 * entP l (q.take j)) ∧ nzP l (q.take j) = true ∧ X.Since X.heap.size wr) (fun _ _ _ i _ => m - (intOf i).toNat)
    case atStart => exact ⟨0, Nat.zero_le _, rfl, by simp [entP], by simp [nzP], HS2.out⟩
    case round =>
      obtain ⟨j, hj, rfl, rfl, hnz, hS⟩ := hrel
      by_cases hlt : j < m
      · have hjq : j < q.length := by rw [HM.out]; exact hlt
        obtain ⟨r1, r2⟩ := HPR.out j hjq
        have c1 := (hS.cell (a := ⟨g, j * 2, none⟩) (World.block_lt_of_cell? _ _ r1)).trans r1
        have c2 := (hS.cell (a := ⟨g, j * 2 + 1, none⟩) (World.block_lt_of_cell? _ _ r2)).trans r2
        have hmem := HQ.out (q.getD j (0, 0)) (by
          have : q.getD j (0, 0) = q[j] := by simp [List.getD, hjq]
          rw [this]; exact List.getElem_mem _)
        have htk : entP l (q.take (j + 1)) = entP l (q.take j) * at2 l (q.getD j (0, 0)).1 (q.getD j (0, 0)).2 := by rw [take_snocP q hjq, entP_snoc]
        have hn1 := nzP_take l q hjq hnz
        have hn0 := fun h => nzP_zero l q hjq h
        have heb := entP_bd hE (q.take j) (fun p hp => HQ.out p (List.mem_of_mem_take hp))
        have hlen2 : (q.take j).length = j := by rw [List.length_take]; omega
        have hp2 := p180_two ⟨j, by omega⟩
        simp only at hp2
        rw [hlen2] at heb
        have hsb2 := sn_mul_bd (p := crs q) heb
        rw [HSC.out] at hsb2
        obtain ⟨pa, hpa⟩ : ∃ x, (q.getD j (0, 0)).1 = x := ⟨_, rfl⟩
        obtain ⟨pb, hpb⟩ : ∃ x, (q.getD j (0, 0)).2 = x := ⟨_, rfl⟩
        rw [hpa] at c1
        rw [hpb] at c2
        simp only [hpa, hpb] at hmem htk hn1 hn0
        obtain ⟨b', o', e1, e2, e3⟩ := hcell pa pb (by omega) (by omega)
        have d0 := cell_alloc_l (.cells #[.int .i64 (pa : Int), .int .i64 (pb : Int)] 72) ((hS.cell (a := ⟨Bt, 0, none⟩) (World.block_lt_of_cell? _ _ cb)).trans cb)
        have d1 := cell_alloc_l (.cells #[.int .i64 (pa : Int), .int .i64 (pb : Int)] 72) ((hS.cell (a := ⟨b, o + pa, none⟩) (by have := World.block_lt_of_cell? _ _ e1; simp only at this ⊢; omega)).trans ((hOX.cell (World.block_lt_of_cell? _ _ e1)).trans e1))
        have d2 := cell_alloc_l (.cells #[.int .i64 (pa : Int), .int .i64 (pb : Int)] 72) ((hS.cell (a := ⟨b', o' + pb, none⟩) (by have := World.block_lt_of_cell? _ _ e2; simp only at this ⊢; omega)).trans ((hOX.cell (World.block_lt_of_cell? _ _ e2)).trans e2))
        have hB := Boxed2.new wr pa pb
        have f0 := hB.c0
        have f1 := hB.c1
        obtain ⟨E, hEE⟩ : ∃ E, at2 l pa pb = E := ⟨_, rfl⟩
        obtain ⟨T, hTT⟩ : ∃ T, s0 * entP l (q.take j) = T := ⟨_, rfl⟩
        rw [hEE] at d2 e3 htk hn1 hn0
        rw [hTT] at hsb2 ⊢
        have hb3 := mul_bdB (a := E) (b := T) (B := 5832000) e3.1 e3.2 (by omega) (by omega)
        rw [Int.mul_comm E T] at hb3
        have hwp : IntKind.i64.wrap (T * E) = T * E := IntWalk.i64_in _ ⟨by omega, by omega⟩
        have hwj : IntKind.i64.wrap ((j : Int) + 1) = (j : Int) + 1 := IntWalk.i64_in _ ⟨by omega, by omega⟩
        have HTE := Lib.hid (show T * E = s0 * entP l (q.take (j + 1)) from by rw [htk, ← hTT, Int.mul_assoc])
        have HN1 := Lib.hid hn1
        have HN0 := Lib.hid hn0
        have HS := Lib.hid hS
        clear hn1 hn0 htk hsb2 heb hb3 r1 r2 e1 hB hTT hEE hpa hpb hp2 hlen2 hjq hcl hmm hlen hcell hS
        have HSU := Lib.hid ((HS.out.alloc HS.out.size (.cells #[.int .i64 (pa : Int), .int .i64 (pb : Int)] 72)).drew)
        have hpn : pa < n := by omega
        have hpbn : pb < n := hmem.2
        have hmix : Tryd.prog.follows .mixedOrders = true := by kernel_rfl
        by_cases hz : E = 0
        · have HN2 := Lib.hid (HN0.out hz)
          clear HN0 HN1 HTE
          subst hz
          gi_wp2
          obtain ⟨U, hU⟩ : ∃ U, wr.alloc (.cells #[.int .i64 (pa : Int), .int .i64 (pb : Int)] 72) = U := ⟨_, rfl⟩
          rw [hU] at d0 d1 d2 f0 f1 HSU ⊢
          clear hU
          refine round_still_tail 9 hmix (by kernel_rfl) (by kernel_rfl) ?hno ?_
          case hno =>
            rintro ⟨a, w, h⟩
            exact h
          simp only [List.take_succ_cons, List.take_zero, List.drop_succ_cons, List.drop_zero]
          repeat still_step
          refine wpStill_nil ?_
          go_wp2
          gi_wp2
          show Keeps own X _ ∧ (J (prL l ((pre ++ [(g, q)]).map (fun x : PX => x.2))) _ ∧ _) ∧ _
          rw [HM0.out HN2.out]
          exact HKEEP.out _ _ HJX.out HSU.out
        · have HN2 := Lib.hid (HN1.out hz)
          clear HN0 HN1
          have hzb : (E == 0) = false := by simp [hz]
          gi_wp2
          obtain ⟨U, hU⟩ : ∃ U, wr.alloc (.cells #[.int .i64 (pa : Int), .int .i64 (pb : Int)] 72) = U := ⟨_, rfl⟩
          rw [hU] at d0 d1 d2 f0 f1 HSU ⊢
          clear hU
          refine round_still_tail 9 hmix (by kernel_rfl) (by kernel_rfl) ?hno ?_
          case hno =>
            rintro ⟨a, w, h⟩
            exact h
          simp only [List.take_succ_cons, List.take_zero, List.drop_succ_cons, List.drop_zero]
          repeat still_step
          refine wpStill_nil ?_
          go_wp2
          gi_wp2
          exact ⟨⟨j + 1, by omega, by go_num, by rw [HTE.out], HN2.out, HSU.out⟩, by simp only [intOf]; omega⟩
      · obtain rfl : j = m := by omega
        have hqq : q.take j = q := by rw [← HM.out]; exact List.take_length
        have hnq : nzP l q = true := by rw [← hqq]; exact hnz
        have heb := entP_bd hE q HQ.out
        rw [HM.out] at heb
        have hp3 := p180_two ⟨j, by omega⟩
        simp only at hp3
        have hvb := sn_mul_bd (p := crs q) heb
        have hveq : s0 * entP l (q.take j) = valP l q := by rw [hqq, ← HSC.out]; rfl
        have hvq : sn (crs q) * entP l q = valP l q := rfl
        rw [hvq] at hvb
        have HA := Lib.hid (HKEEP.out _ wr HJX.out hS)
        obtain ⟨fn, tmps, assign, body, hy, hR⟩ := yieldAt_any (m' := k - 1 - 1 - 1) (HYY.out wr HA.out.2.1.1 ⟨by omega, by omega⟩)
        have yc := HA.out.2.1.2.2
        rw [hveq]
        have HN1 := Lib.hid (HM1.out hnq)
        obtain ⟨v, hv⟩ : ∃ v, valP l q = v := ⟨_, rfl⟩
        rw [hv] at hy hR hvb ⊢
        have HV := Lib.hid hv
        clear hveq hvq hv hnq hqq heb hp3 hS hnz hcell hlen
        gi_wp2
        refine ⟨fun h => by omega, ?_⟩
        refine RoundIn.mono (F := Fence.wide.inRound lq) hR ?_
        rintro e W3 ⟨rfl, hJ3, hk3⟩
        gi_wp2
        show Keeps own X _ ∧ (J (prL l ((pre ++ [(g, q)]).map (fun x : PX => x.2))) _ ∧ _) ∧ _
        rw [HN1.out, HV.out]
        exact HTHEN.out _ wr W3 HA.out hk3 hJ3
  case done =>
    rintro D ys X hD hS ⟨⟨hjx, cb, yb⟩, hOX, hzX⟩ hK
    rw [hS] at hjx
    show LeavesInM _ _ _ _ _ _ _ _ _
    refine ⟨by simp, .inl ⟨_, _, rfl, run_takeDeferred hK, ?_⟩⟩
    have hjz := hJ.put (.deferred none) hjx (show W.heap.size ≤ D by omega)
    refine ⟨.tuple #[], ?_, ⟨_, rfl⟩, _, rfl, hjz⟩
    simp [results, Tryd.f62, go_sem]

end Go.Proofs.YtpimdgijjljejaaDoor
end

section
namespace Go.Proofs.YtpimdgijjljejaaDoor
open Go.RowKit Go.Deep Go.Shelf
attribute [local go_sem] Oper.semAt_some

structure SBI (w : World) (y : Int) (W : World) : Prop where
  bs : Boxed W w.heap.size 3 (.int .i64 y)
  sn : w.Since w.heap.size W
theorem SBI.kept {w W W' : World} {y : Int} {row : Option Nat} (h : SBI w y W) (hg : W.grownBy W' row) (hr : ∀ r, row = some r → w.heap.size + 1 ≤ r) : SBI w y W' :=
  ⟨h.bs.kept hg (fun e => by have := hr _ e.symm; omega), since_rowC h.sn hg (fun r e => by have := hr r e; omega)⟩
theorem SBI.set {w W : World} {y : Int} (h : SBI w y W) (z : Int) : SBI w z (W.setCell ⟨w.heap.size, 0, none⟩ (.int .i64 z)) :=
  ⟨h.bs.set _, since_rowC h.sn (grownBy_setCell' W _ _) (fun r e => by cases e; omega)⟩
theorem sbi_start (w : World) (y : Int) : SBI w y (w.alloc (.cells #[.int .i64 y] 3)) := ⟨Boxed.new w 3 (.int .i64 y), (World.Since.refl _ w).alloc (Nat.le_refl _) _⟩
theorem oldS_alloc2 (w : World) (o o' : Obj) : OldS w.heap.size w ((w.alloc o).alloc o') := fun k hk => by
  have h := (World.grownBy_alloc w o none).trans (World.grownBy_alloc (w.alloc o) o' none)
  exact h.block k hk (by simp)

set_option maxRecDepth 100000 in
set_option maxHeartbeats 2000000 in
theorem halfByPairings_any (a : Option Addr) (cap n : Nat) (l : List (List Int)) (w : World) (hn : l.length = n) (hT : TabIn l) (hw : (l.getD 0 []).length = n) (hm : MatR w a l) (h1 : 1 < w.heap.size) (hTZ : TZ w) :
    Calls Tryd.prog 30 #[.slice a n cap] w fun e w' => e = .returned (.int .i64 (halfF l n 3 (2 ^ n - 1))) ∧ w.Since w.heap.size w' := by
  have h6 := hT.2.1
  rw [hn] at h6
  refine (callsIn_wide (n := 9)).1 ?_
  refine callsIn_of_wp_marks Tryd.func30 rfl trivial ?_ rfl
  simp only [Tryd.ntmps30, List.size_toArray, List.length_cons, List.length_nil, Nat.reduceAdd, Nat.reduceSub, Array.replicate_succ, Array.replicate_zero, List.push_toArray, List.append_toArray, List.nil_append, List.cons_append]
  have HM := Lib.hid hm
  have HT := Lib.hid hT
  clear hm hT
  gi_wp2_with (refine ⟨trivial, ?_⟩; gi_at_call 36; refine (callsIn_wide.2 (pairProducts_any _ a n cap _ rfl)).mono ?_; rintro e w' ⟨rfl, rfl⟩)
  have hP := sbi_start w 0
  have hbt := (Boxed.new (w.alloc (.cells #[.int .i64 0] 3)) 39 (.slice a n cap)).cell
  have hP2 := hP.kept (World.grownBy_alloc (w.alloc (.cells #[.int .i64 0] 3)) (.cells #[.slice a n cap] 39) none) (fun r e => by cases e)
  have hO := oldS_alloc2 w (.cells #[.int .i64 0] 3) (.cells #[.slice a n cap] 39)
  have hz2 : ((w.alloc (.cells #[.int .i64 0] 3)).alloc (.cells #[.slice a n cap] 39)).heap.size = w.heap.size + 2 := by simp
  rw [World.size_alloc] at hbt
  obtain ⟨W0, hW0⟩ : ∃ W0, (w.alloc (.cells #[.int .i64 0] 3)).alloc (.cells #[.slice a n cap] 39) = W0 := ⟨_, rfl⟩
  rw [hW0] at hbt hP2 hO hz2 ⊢
  clear hW0 hP
  refine rangeC (F := Fence.wide) (n := 9) rfl (by omega) (gf := 62) (lb := #[.pointer (some ⟨w.heap.size + 1, 0, none⟩)]) rfl trivial (enters_of Tryd.func62 (by kernel_rfl) rfl)
    (prods_stops 8 (w.heap.size + 1) n cap (by omega) a l w W0 hn HT.out hw HM.out h1 hTZ hO (by omega) ⟨by omega, by omega⟩ hbt) (fun _ => rfl) (fun _ _ _ _ _ h _ _ => h) (fun k => k = w.heap.size) (by rintro k rfl; exact ⟨by omega, by omega⟩) (by rintro k (h | rfl) <;> omega)
    (fun (pre : List Int) W => SBI w (lsumI (fun x : Int => x) pre) W ∧ pre.length ≤ 16 ∧ ∀ x ∈ pre, -34012224000000 ≤ x ∧ x ≤ 34012224000000)
    (fun pre X Y row hs hg hr => ⟨hs.1.kept hg (fun r e => by have := hr r e; omega), hs.2⟩)
    ⟨hP2, by simp⟩
    (fun x => { tmps := #[.slice a n cap, undef, .int .i64 0, .pointer (some ⟨w.heap.size, 0, none⟩), .int .i64 x, .slice a n cap, .func (.func 62) #[] #[.pointer (some ⟨w.heap.size + 1, 0, none⟩)], .int .i64 x, undef, undef, undef, undef], defers := [] }) ?assign ?body ?done
  case assign =>
    intro lp x W K hK
    gi_wp2
    exact hK
  case body =>
    rintro lp pre x W hl ⟨hv, hpl, hpre⟩ hpx hlen
    have hyb := lsumI_bd (f := fun x : Int => x) (B := 34012224000000) (by omega) pre hpre
    have hsn := lsumI_snoc (fun x : Int => x) pre x
    have hmul : (pre.length : Int) * 34012224000000 ≤ 16 * 34012224000000 := Int.mul_le_mul (by omega) (by omega) (by omega) (by omega)
    obtain ⟨y, hy⟩ : ∃ y, lsumI (fun x : Int => x) pre = y := ⟨_, rfl⟩
    rw [hy] at hv hyb hsn
    have hws : IntKind.i64.wrap (y + x) = y + x := IntWalk.i64_in _ ⟨by omega, by omega⟩
    have cS : W.cell? ⟨w.heap.size, 0, none⟩ = _ := hv.bs.cell
    have fS : W.frozen? ⟨w.heap.size, 0, none⟩ = _ := hv.bs.frozen
    have HSN := Lib.hid hsn
    have HV := Lib.hid hv
    have HPRE := Lib.hid (show ∀ x' ∈ pre ++ [x], -34012224000000 ≤ x' ∧ x' ≤ 34012224000000 from fun x' hx' => by
      rcases List.mem_append.1 hx' with h | h
      · exact hpre x' h
      · simp at h; subst h; exact hpx)
    clear hyb hmul hsn hv hpre hy
    gi_wp2
    have hl2 : (pre ++ [x]).length ≤ 16 := by rw [List.length_append, List.length_singleton]; omega
    exact ⟨Keeps.grown (grownBy_setCell' W w.heap.size _) (fun r e => by cases e; rfl), by rw [HSN.out]; exact HV.out.set _, hl2, HPRE.out⟩
  case done =>
    rintro D ys W hD hS ⟨hv, _⟩ hK
    have hy : lsumI (fun x : Int => x) ys = halfF l n 3 (2 ^ n - 1) := by
      rw [hS, ← pq_half l h6 3 (2 ^ n - 1) (by have := Nat.two_pow_pos n; omega)]
      exact prL_sum l _
    rw [hy] at hv
    have cS := hv.bs.cell
    have hlt := hv.bs.lt
    have HS := Lib.hid (since_rowC hv.sn (grownBy_putObj' W D (.deferred none)) (fun r e => by cases e; omega))
    obtain ⟨y, hyy⟩ : ∃ y, halfF l n 3 (2 ^ n - 1) = y := ⟨_, rfl⟩
    rw [hyy] at cS
    have HYY := Lib.hid hyy
    clear hv hS hy hyy
    gi_wp2
    refine ⟨by simp, .inl ⟨_, _, rfl, run_takeDeferred hK, ?_⟩⟩
    refine ⟨.int .i64 y, ?_, by rw [HYY.out], HS.out⟩
    simp [results, Tryd.f30, go_sem]

end Go.Proofs.YtpimdgijjljejaaDoor
end

section
namespace Go.Proofs.YtpimdgijjljejaaDoor
open Go.RowKit Go.Deep

theorem TZ.since {w W : World} (h : TZ w) (h1 : 1 < w.heap.size) (hs : w.Since w.heap.size W) : TZ W := h.kept (hs.block 1 h1)

set_option maxHeartbeats 1000000 in
theorem implPairHalf_any (a : Option Addr) (cap n : Nat) (l : List (List Int)) (w : World) (hn : l.length = n) (hsz : szL l ≤ 1048576) (hm : MatR w a l) (h1 : 1 < w.heap.size) (hTZ : TZ w) :
    Calls Tryd.prog 10 #[.slice a n cap] w (SpecW w (pairB l) (halfF l n 3 (2 ^ n - 1))) := by
  have E := implPairIn_any a cap n l w hn hsz hm
  cases hs : pairB l with
  | false =>
    rw [hs] at E
    replace E := Lib.hid E
    clear hs hm hn hsz hTZ
    go_enter Tryd.func10, Tryd.ntmps10
    go_wp2_with fail
    refine (E.out).mono ?_
    rintro e w1 ⟨rfl, hd⟩
    have HD := Lib.hid hd
    clear hd
    go_wp2
    go_ret2
    exact ⟨rfl, HD.out⟩
  | true =>
    rw [hs] at E
    replace E := Lib.hid E
    obtain ⟨hT, hw, hab⟩ := pairB_of hs hn
    have E2 := Lib.hid (fun (W : World) (hd : w.Since w.heap.size W) => halfByPairings_any a cap n l W hn hT hw (hm.since hd) (Nat.lt_of_lt_of_le h1 hd.size) (hTZ.since h1 hd))
    clear hs hm hn hsz hT hw hab hTZ h1
    go_enter Tryd.func10, Tryd.ntmps10
    go_wp2_with fail
    refine (E.out).mono ?_
    rintro e w1 ⟨rfl, hd⟩
    have HD := Lib.hid hd
    clear hd
    go_wp2_with fail
    refine (E2.out w1 HD.out).mono ?_
    rintro e w2 ⟨rfl, hs2⟩
    have HS2 := Lib.hid (HD.out.trans (since_mono hs2 HD.out.size))
    clear hs2
    go_wp2
    go_ret2
    exact ⟨rfl, HS2.out⟩

end Go.Proofs.YtpimdgijjljejaaDoor
end

section
namespace Go.Proofs.YtpimdgijjljejaaDoor
open Go.RowKit Go.Deep

theorem since_of_map {W w' : World} {o : Obj} (hg : (W.alloc o).grownBy w' (some W.heap.size)) : W.Since W.heap.size w' := by
  have h0 := (World.Since.refl W.heap.size W).alloc (Nat.le_refl _) o
  have h1 := hg.size
  simp only [World.size_alloc] at h1
  exact ⟨hg.os.trans h0.os, hg.tape.trans h0.tape, hg.output.trans h0.output, by omega, fun k hk => (hg.block k (by simp; omega) (by intro e; injection e with e; omega)).trans (h0.block k hk)⟩

set_option maxHeartbeats 800000 in
theorem square_0 (a : Option Addr) (cap n : Nat) (l : List (List Int)) (x : Int) (w : World) (hn : l.length = n) (hsz : szL l ≤ 1048576) (hm : MatR w a l) (ht : sqB l = true → ∀ W', MatR W' a l → Calls Tryd.prog 74 #[.slice a n cap] W' (fun e w' => e = .returned (.int .i64 x) ∧ W'.Since W'.heap.size w')) :
    Calls Tryd.prog 33 #[.slice a n cap, .int .i64 0] w (SpecW w (sqB l) x) := by
  have E := isSquare_any a cap n l w hn hsz hm
  cases hs : sqB l with
  | false =>
    rw [hs] at E
    replace E := Lib.hid E
    clear hs hm hn hsz ht
    go_enter Tryd.func33, Tryd.ntmps33
    go_wp2_with fail
    refine (E.out).mono ?_
    rintro e w1 ⟨rfl, hd⟩
    have HD := Lib.hid hd
    clear hd
    go_wp2
    go_ret2
    exact ⟨rfl, HD.out⟩
  | true =>
    rw [hs] at E
    replace E := Lib.hid E
    have E2 := Lib.hid (fun (W : World) (hd : w.Since w.heap.size W) => roads_0 W.heap.size a n cap x (W.alloc (.map #[] 0)) (roads_made W) (fun W' hg => ht hs W' (hm.since (hd.trans (since_mono (since_of_map hg) hd.size)))))
    clear hs hm hn hsz ht
    have hmm := @run_makeMap Tryd.prog
    go_enter Tryd.func33, Tryd.ntmps33
    go_wp2_with fail
    refine (E.out).mono ?_
    rintro e w1 ⟨rfl, hd⟩
    have HD := Lib.hid hd
    clear hd
    go_wp2_with fail
    refine (E2.out w1 HD.out).mono ?_
    rintro e w2 ⟨rfl, hg, hr⟩
    have HS2 := Lib.hid (HD.out.trans (since_mono (since_of_map hg) HD.out.size))
    clear hg hr
    go_wp2
    go_ret2
    exact ⟨rfl, HS2.out⟩

set_option maxHeartbeats 400000 in
theorem implValueOrders_of (a : Option Addr) (cap n : Nat) (l : List (List Int)) (x : Int) (w : World) (hn : l.length = n) (hsz : szL l ≤ 1048576) (hm : MatR w a l) (ht : sqB l = true → ∀ W', MatR W' a l → Calls Tryd.prog 74 #[.slice a n cap] W' (fun e w' => e = .returned (.int .i64 x) ∧ W'.Since W'.heap.size w')) :
    Calls Tryd.prog 23 #[.slice a n cap] w (SpecW w (sqB l) x) := by
  have E := square_0 a cap n l x w hn hsz hm ht
  unfold SpecW at E ⊢
  generalize (if (sqB l) = true then x else 0) = y at E ⊢
  generalize (sqB l) = b at E ⊢
  replace E := Lib.hid E
  clear hn hsz hm ht
  go_enter Tryd.func23, Tryd.ntmps23
  go_wp2_with fail
  refine (E.out).mono ?_
  rintro e w1 ⟨rfl, hd⟩
  go_wp2
  go_ret2
  exact ⟨rfl, hd⟩

set_option maxHeartbeats 800000 in
theorem square_1 (a : Option Addr) (cap n : Nat) (l : List (List Int)) (x : Int) (w : World) (hn : l.length = n) (hsz : szL l ≤ 1048576) (hm : MatR w a l) (ht : sqB l = true → ∀ W', MatR W' a l → Calls Tryd.prog 75 #[.slice a n cap] W' (fun e w' => e = .returned (.int .i64 x) ∧ W'.Since W'.heap.size w')) :
    Calls Tryd.prog 33 #[.slice a n cap, .int .i64 1] w (SpecW w (sqB l) x) := by
  have E := isSquare_any a cap n l w hn hsz hm
  cases hs : sqB l with
  | false =>
    rw [hs] at E
    replace E := Lib.hid E
    clear hs hm hn hsz ht
    go_enter Tryd.func33, Tryd.ntmps33
    go_wp2_with fail
    refine (E.out).mono ?_
    rintro e w1 ⟨rfl, hd⟩
    have HD := Lib.hid hd
    clear hd
    go_wp2
    go_ret2
    exact ⟨rfl, HD.out⟩
  | true =>
    rw [hs] at E
    replace E := Lib.hid E
    have E2 := Lib.hid (fun (W : World) (hd : w.Since w.heap.size W) => roads_1 W.heap.size a n cap x (W.alloc (.map #[] 0)) (roads_made W) (fun W' hg => ht hs W' (hm.since (hd.trans (since_mono (since_of_map hg) hd.size)))))
    clear hs hm hn hsz ht
    have hmm := @run_makeMap Tryd.prog
    go_enter Tryd.func33, Tryd.ntmps33
    go_wp2_with fail
    refine (E.out).mono ?_
    rintro e w1 ⟨rfl, hd⟩
    have HD := Lib.hid hd
    clear hd
    go_wp2_with fail
    refine (E2.out w1 HD.out).mono ?_
    rintro e w2 ⟨rfl, hg, hr⟩
    have HS2 := Lib.hid (HD.out.trans (since_mono (since_of_map hg) HD.out.size))
    clear hg hr
    go_wp2
    go_ret2
    exact ⟨rfl, HS2.out⟩

set_option maxHeartbeats 800000 in
theorem square_2 (a : Option Addr) (cap n : Nat) (l : List (List Int)) (x : Int) (w : World) (hn : l.length = n) (hsz : szL l ≤ 1048576) (hm : MatR w a l) (ht : sqB l = true → ∀ W', MatR W' a l → Calls Tryd.prog 76 #[.slice a n cap] W' (fun e w' => e = .returned (.int .i64 x) ∧ W'.Since W'.heap.size w')) :
    Calls Tryd.prog 33 #[.slice a n cap, .int .i64 2] w (SpecW w (sqB l) x) := by
  have E := isSquare_any a cap n l w hn hsz hm
  cases hs : sqB l with
  | false =>
    rw [hs] at E
    replace E := Lib.hid E
    clear hs hm hn hsz ht
    go_enter Tryd.func33, Tryd.ntmps33
    go_wp2_with fail
    refine (E.out).mono ?_
    rintro e w1 ⟨rfl, hd⟩
    have HD := Lib.hid hd
    clear hd
    go_wp2
    go_ret2
    exact ⟨rfl, HD.out⟩
  | true =>
    rw [hs] at E
    replace E := Lib.hid E
    have E2 := Lib.hid (fun (W : World) (hd : w.Since w.heap.size W) => roads_2 W.heap.size a n cap x (W.alloc (.map #[] 0)) (roads_made W) (fun W' hg => ht hs W' (hm.since (hd.trans (since_mono (since_of_map hg) hd.size)))))
    clear hs hm hn hsz ht
    have hmm := @run_makeMap Tryd.prog
    go_enter Tryd.func33, Tryd.ntmps33
    go_wp2_with fail
    refine (E.out).mono ?_
    rintro e w1 ⟨rfl, hd⟩
    have HD := Lib.hid hd
    clear hd
    go_wp2_with fail
    refine (E2.out w1 HD.out).mono ?_
    rintro e w2 ⟨rfl, hg, hr⟩
    have HS2 := Lib.hid (HD.out.trans (since_mono (since_of_map hg) HD.out.size))
    clear hg hr
    go_wp2
    go_ret2
    exact ⟨rfl, HS2.out⟩

set_option maxHeartbeats 400000 in
theorem implValuePivots_of (a : Option Addr) (cap n : Nat) (l : List (List Int)) (x : Int) (w : World) (hn : l.length = n) (hsz : szL l ≤ 1048576) (hm : MatR w a l) (ht : sqB l = true → ∀ W', MatR W' a l → Calls Tryd.prog 76 #[.slice a n cap] W' (fun e w' => e = .returned (.int .i64 x) ∧ W'.Since W'.heap.size w')) :
    Calls Tryd.prog 12 #[.slice a n cap] w (SpecW w (sqB l) x) := by
  have E := square_2 a cap n l x w hn hsz hm ht
  unfold SpecW at E ⊢
  generalize (if (sqB l) = true then x else 0) = y at E ⊢
  generalize (sqB l) = b at E ⊢
  replace E := Lib.hid E
  clear hn hsz hm ht
  go_enter Tryd.func12, Tryd.ntmps12
  go_wp2_with fail
  refine (E.out).mono ?_
  rintro e w1 ⟨rfl, hd⟩
  go_wp2
  go_ret2
  exact ⟨rfl, hd⟩

set_option maxHeartbeats 800000 in
theorem square_3 (a : Option Addr) (cap n : Nat) (l : List (List Int)) (x : Int) (ok : Bool) (w : World) (hn : l.length = n) (hsz : szL l ≤ 1048576) (hm : MatR w a l) (ht : sqB l = true → ∀ W', MatR W' a l → Calls Tryd.prog 77 #[.slice a n cap] W' (fun e w' => e = .returned (.tuple #[.int .i64 (if ok then x else 0), .bool ok]) ∧ W'.Since W'.heap.size w')) :
    Calls Tryd.prog 33 #[.slice a n cap, .int .i64 3] w (SpecW w (sqB l && ok) x) := by
  have E := isSquare_any a cap n l w hn hsz hm
  cases hs : sqB l with
  | false =>
    rw [hs] at E
    replace E := Lib.hid E
    clear hs hm hn hsz ht
    go_enter Tryd.func33, Tryd.ntmps33
    go_wp2_with fail
    refine (E.out).mono ?_
    rintro e w1 ⟨rfl, hd⟩
    have HD := Lib.hid hd
    clear hd
    go_wp2
    go_ret2
    exact ⟨rfl, HD.out⟩
  | true =>
    rw [hs] at E
    replace E := Lib.hid E
    have E2 := Lib.hid (fun (W : World) (hd : w.Since w.heap.size W) => roads_3 W.heap.size a n cap (if ok then x else 0) ok (W.alloc (.map #[] 0)) (roads_made W) (fun W' hg => ht hs W' (hm.since (hd.trans (since_mono (since_of_map hg) hd.size)))))
    clear hs hm hn hsz ht
    generalize hy : (if ok = true then x else 0) = y at E2
    have hmm := @run_makeMap Tryd.prog
    go_enter Tryd.func33, Tryd.ntmps33
    go_wp2_with fail
    refine (E.out).mono ?_
    rintro e w1 ⟨rfl, hd⟩
    have HD := Lib.hid hd
    clear hd
    go_wp2_with fail
    refine (E2.out w1 HD.out).mono ?_
    rintro e w2 ⟨rfl, hg, hr⟩
    have HS2 := Lib.hid (HD.out.trans (since_mono (since_of_map hg) HD.out.size))
    clear hg hr
    go_wp2
    go_ret2
    exact ⟨by rw [← hy]; cases ok <;> rfl, HS2.out⟩

end Go.Proofs.YtpimdgijjljejaaDoor
end

section
namespace Go.Proofs.YtpimdgijjljejaaDoor
open Go.RowKit Go.Deep

def ColsAt (w : World) (g n : Nat) (cs : List Nat) : Prop := w.ownsRow 0 3 1 (.slice (some ⟨g, 0, none⟩) cs.length n) cs.length ((ints cs).map (Value.int .i64))
theorem ColsAt.init {w : World} {g n : Nat} {cs : List Nat} {k : Nat} (h : ColsAt w g n (cs ++ [k])) : ColsAt w g n cs := by
  unfold ColsAt at h ⊢
  rw [show (cs ++ [k]).length = cs.length + 1 by simp] at h
  refine ⟨by simp [ints], ?_⟩
  rcases h.2 with ⟨h', _⟩ | ⟨g', cap', cur, h', hb, hg, hle, hm, hs, ht⟩
  · simp at h'
  · simp only [Value.slice.injEq, Option.some.injEq, Addr.mk.injEq, and_true, true_and] at h'
    obtain ⟨rfl, rfl⟩ := h'
    refine .inr ⟨g, n, cur, rfl, hb, hg, by omega, hm, hs, ?_⟩
    have e := congrArg (List.take cs.length) ht
    rw [List.take_take, Nat.min_eq_left (by omega)] at e
    rw [Nat.mul_one, e]
    simp [ints]
theorem ColsAt.row {w : World} {g n : Nat} {cs : List Nat} (h : ColsAt w g n cs) : RowR w (some ⟨g, 0, none⟩) (ints cs) := fun _ =>
  ⟨g, 0, rfl, fun i hi => by
    have e := World.ownsRow.cellAt h i (by rw [ints_length] at hi; omega)
    rw [Nat.zero_add, e, List.getElem?_map]
    simp [List.getD, hi]⟩
theorem ColsAt.kept {w w' : World} {g n : Nat} {cs : List Nat} (h : ColsAt w g n cs) (hs : w.Since w.heap.size w') : ColsAt w' g n cs := World.ownsRow.kept h (grown_of_since (row := none) hs) (by simp [Value.ownBlock])
theorem ints_snoc (cs : List Nat) (k : Nat) : (ints (cs ++ [k])).map (Value.int .i64) = (ints cs).map (Value.int .i64) ++ [.int .i64 (k : Int)] := by simp [ints]

set_option maxRecDepth 100000 in
set_option maxHeartbeats 4000000 in
theorem sumOfOrders_any (a : Option Addr) (cap n : Nat) (l : List (List Int)) (g : Nat) (hn : l.length = n) (hT : TabIn l) (hw : (l.getD 0 []).length = n) : ∀ (m : Nat) (cs : List Nat) (W : World), cs.length + m = n → (∀ c ∈ cs, c < n) → ColsAt W g n cs → (∀ W', W.grownBy W' (some g) → MatR W' a l) →
    Calls Tryd.prog 91 #[.slice a n cap, .slice (some ⟨g, 0, none⟩) cs.length n] W fun e w' => e = .returned (.int .i64 (ordS l n m cs)) ∧ W.grownBy w' (some g) ∧ ColsAt w' g n cs := by
  have h6 := hT.2.1
  rw [hn] at h6
  intro m
  induction m with
  | zero =>
    intro cs W hl hc hcols hmat
    have hx : cs.length = n := by omega
    have E := orderedProduct_any a cap n l g n cs W hn hT hw (hmat W (World.grownBy.refl _ _)) hx hc (Nat.le_refl _) (by omega) hcols.row
    rw [hx]
    replace E := Lib.hid E
    have HC := Lib.hid hcols
    clear hmat hcols hl hc hx
    go_enter Tryd.func91, Tryd.ntmps91
    go_wp2_with fail
    refine (E.out).mono ?_
    rintro e w1 ⟨rfl, hs⟩
    have HK := HC.out.kept hs
    go_wp2
    go_ret
    exact ⟨rfl, grown_of_since hs, HK⟩
  | succ m ih =>
    intro cs W hl hc hcols hmat
    obtain ⟨i3, hi3⟩ := info3_parts
    have HJ := Lib.hid hi3
    have hbd := fun q (hq : q ≤ n) => ordP_bd (l := l) (n := n) (m := m) (cs := cs) h6 (fun i j hi hj => hT.at (by omega) (by omega)) hl hc hq
    have hb6 := b6_le (m + 1) (by omega)
    have hb6' : b6 (m + 1) = 6 * b6 m := rfl
    rw [ordS_succ]
    obtain ⟨F, hF⟩ : ∃ F : Nat → Int, F = fun k => if k ∈ cs then 0 else ordS l n m (cs ++ [k]) := ⟨_, rfl⟩
    simp only [← hF] at hbd ⊢
    have hd : cs.length < n := by omega
    have hne : ((cs.length : Int) == (n : Int)) = false := by simp; omega
    have HIH := Lib.hid (fun (k : Nat) (hk : k < n) (V : World) (h1 : ColsAt V g n (cs ++ [k])) (h2 : ∀ W', V.grownBy W' (some g) → MatR W' a l) => ih (cs ++ [k]) V (by simp; omega) (fun c h => by
      rcases List.mem_append.1 h with h | h
      · exact hc c h
      · simp at h; omega) h1 h2)
    have HIN := Lib.hid (fun (k : Nat) (V : World) (h1 : ColsAt V g n cs) => contains_any (some ⟨g, 0, none⟩) n cs.length (ints cs) k V (ints_length cs) (by omega) h1.row)
    have HM := Lib.hid hmat
    have HC := Lib.hid hcols
    have HF := Lib.hid hF
    have HB := Lib.hid hbd
    have HMEM : ∀ k : Nat, ((k : Int) ∈ ints cs) ↔ k ∈ cs := fun k => by
      simp only [ints, List.mem_map]
      constructor
      · rintro ⟨c, h1, h2⟩
        have : c = k := by omega
        exact this ▸ h1
      · exact fun h => ⟨k, h, rfl⟩
    have HME := Lib.hid HMEM
    obtain ⟨d, hdd⟩ : ∃ d, d = cs.length := ⟨_, rfl⟩
    have HD := Lib.hid hdd
    rw [← hdd] at hd hne ⊢
    simp only [← hdd] at HIN
    clear ih hmat hcols hF hbd hc hi3 HMEM hdd hT hw hn
    go_enter Tryd.func91, Tryd.ntmps91
    go_wp2
    go_loopg [5, 6, 17] n (fun q s _ i wr => ∃ k : Nat, k ≤ n ∧ q = n - k ∧ i = .int .i64 k ∧ s = .int .i64 (sumN F k) ∧ W.grownBy wr (some g) ∧ ColsAt wr g n cs)
    case atStart => exact ⟨0, Nat.zero_le _, rfl, rfl, rfl, World.grownBy.refl _ _, HC.out⟩
    case round =>
      obtain ⟨k, hk, rfl, rfl, rfl, hG, hCo⟩ := hrel
      obtain ⟨s0, hs0⟩ : ∃ s, s = sumN F k := ⟨_, rfl⟩
      have e : sumN F (k + 1) = s0 + F k := by rw [hs0]; rfl
      rw [← hs0]
      by_cases hlt : k < n
      · have hsb := HB.out (k + 1) (by omega)
        rw [e] at hsb
        have E1 := HIN.out k wr hCo
        have HE := Lib.hid e
        have HG := Lib.hid hG
        have HCo := Lib.hid hCo
        clear e hs0 hG
        by_cases hmem : k ∈ cs
        · rw [decide_eq_true ((HME.out k).2 hmem)] at E1
          replace E1 := Lib.hid E1
          have hF0 : F k = 0 := by rw [HF.out]; exact if_pos hmem
          clear hCo
          go_wp2_with fail
          refine (E1.out).mono ?_
          rintro e w' ⟨rfl, rfl⟩
          go_wp2
          go_roundg (n - (k + 1))
          case measure => omega
          case rel => exact ⟨k + 1, by omega, rfl, by go_num, by rw [HE.out, hF0]; simp, HG.out, HCo.out⟩
        · rw [decide_eq_false (fun h => hmem ((HME.out k).1 h))] at E1
          replace E1 := Lib.hid E1
          obtain ⟨f2, hf2⟩ : ∃ f, f = F k := ⟨_, rfl⟩
          rw [← hf2] at hsb
          have hF0 : f2 = ordS l n m (cs ++ [k]) := by rw [hf2, HF.out]; exact if_neg hmem
          have hws : IntKind.i64.wrap (s0 + f2) = s0 + f2 := IntWalk.i64_in _ ⟨by omega, by omega⟩
          have HH := Lib.hid hf2
          have EI := fun (V : World) (h1 : ColsAt V g n (cs ++ [k])) (h2 : V.heap.size ≥ 0 ∧ W.grownBy V (some g)) => HIH.out k hlt V h1 (fun W' hW' => HM.out W' (h2.2.trans hW'))
          rw [show (cs ++ [k]).length = d + 1 by rw [HD.out]; simp, ← hF0] at EI
          replace EI := Lib.hid EI
          have hown : wr.ownsRow 0 3 1 (.slice (some ⟨g, 0, none⟩) d n) d ((ints cs).map (Value.int .i64)) := by rw [HD.out]; exact hCo
          have HOWN := Lib.hid hown
          clear hf2 hsb hF0 hCo hown
          go_wp2_with (first
            | (go_at_call 104; refine (E1.out).mono ?_; rintro e w' ⟨rfl, rfl⟩)
            | (at_builtin; (refine wpList_append_fits _ rfl _ _ 47 rfl 0 3 i3 1 Tryd.underlying47 HJ.out.1 HJ.out.2.2.1 g d n ((ints cs).map (Value.int .i64)) rfl (HOWN.out.alloc _) ⟨wr.heap.size, 0, none⟩ 1 1 [.int .i64 k] rfl rfl (cell_one_at _ _ _ rfl) (fun x hx => by simp at hx; subst hx; rfl) (by omega) ?_); intro w1 hown' hgrow; have hc1 : ColsAt w1 g n (cs ++ [k]) := (by unfold ColsAt; rw [ints_snoc, show (cs ++ [k]).length = d + 1 by rw [HD.out]; simp]; exact hown'); have hg1 : W.grownBy w1 (some g) := HG.out.trans ((World.grownBy_alloc wr _ _).trans hgrow); clear hown' hgrow; have HC1 := Lib.hid hc1; have HG1 := Lib.hid hg1; clear hc1 hg1)
            | (go_at_call 91; refine (EI.out w1 HC1.out ⟨Nat.zero_le _, HG1.out⟩).mono ?_; rintro e w2 ⟨rfl, hg2, hc2⟩; have HG2 := Lib.hid (HG1.out.trans hg2); have HC2 := Lib.hid hc2.init; clear hg2 hc2))
          go_roundg (n - (k + 1))
          case measure => omega
          case rel => exact ⟨k + 1, by omega, rfl, by go_num, by rw [HE.out, ← HH.out], HG2.out, HC2.out⟩
      · have hqn : n = k := by omega
        subst hqn
        go_wp2
        go_ret
        exact ⟨by rw [hs0]; rfl, hG, hCo⟩

theorem since_fresh {W w1 w2 : World} (h : W.grownBy w1 none) (h2 : w1.grownBy w2 (some W.heap.size)) : W.Since W.heap.size w2 :=
  ⟨h2.os.trans h.os, h2.tape.trans h.tape, h2.output.trans h.output, Nat.le_trans h.size h2.size, fun k hk => (h2.block k (by have := h.size; omega) (by intro e; injection e with e; omega)).trans (h.block k hk (by simp))⟩

set_option maxRecDepth 100000 in
set_option maxHeartbeats 1000000 in
theorem byOrders_any (a : Option Addr) (cap n : Nat) (l : List (List Int)) (w : World) (hn : l.length = n) (hT : TabIn l) (hw : (l.getD 0 []).length = n) (hm : MatR w a l) :
    Calls Tryd.prog 74 #[.slice a n cap] w fun e w' => e = .returned (.int .i64 (ordF l n n 0)) ∧ w.Since w.heap.size w' := by
  have h6 := hT.2.1
  rw [hn] at h6
  obtain ⟨i3, hi3⟩ := info3_parts
  have HJ := Lib.hid hi3
  have E := fun (V : World) (hc : ColsAt V w.heap.size n []) (hg : w.grownBy V none) => sumOfOrders_any a cap n l w.heap.size hn hT hw n [] V (by simp) (by simp) hc (fun W' hW' => hm.since (since_fresh hg hW'))
  rw [ordS_all l n h6] at E
  replace E := Lib.hid E
  clear hi3 hn hT hw hm
  go_enter Tryd.func74, Tryd.ntmps74
  go_wp2_with (first
    | (at_make; (refine wpList_make_own _ rfl _ _ 47 rfl 0 3 i3 (.int .i64 0) 1 Tryd.underlying47 HJ.out.1 HJ.out.2.1 HJ.out.2.2.1 .i64 .i64 n n rfl rfl rfl (by rw [HJ.out.2.2.2]; omega) (by unfold maxLen; omega) (Nat.zero_le _) ?_); intro w1 hown hgrow; have HO := Lib.hid (show ColsAt w1 w.heap.size n [] from hown); have HG := Lib.hid hgrow; clear hown hgrow)
    | (go_at_call 91; refine (E.out w1 HO.out HG.out).mono ?_; rintro e w2 ⟨rfl, hg2, hc2⟩; have HS := Lib.hid (since_fresh HG.out hg2); clear hg2 hc2))
  go_ret
  exact ⟨rfl, HS.out⟩

theorem implValueOrders_any (a : Option Addr) (cap n : Nat) (l : List (List Int)) (w : World) (hn : l.length = n) (hsz : szL l ≤ 1048576) (hm : MatR w a l) :
    Calls Tryd.prog 23 #[.slice a n cap] w (SpecW w (sqB l) (ordF l n n 0)) :=
  implValueOrders_of a cap n l (ordF l n n 0) w hn hsz hm fun hs W' hm' => by
    obtain ⟨hT, hw⟩ := sqB_of hs
    exact byOrders_any a cap n l W' hn hT (by rw [← hw, hn]) hm'

end Go.Proofs.YtpimdgijjljejaaDoor
end

section
namespace Go.Proofs.YtpimdgijjljejaaDoor
open Go.RowKit Go.Deep

theorem pmR_at {l u : List (List Int)} {p n : Nat} (hT : TabIn l) (hl : l.length = p) (hw : (l.getD 0 []).length = n) (hu : u.length = n) (hwu : (u.getD 0 []).length = n) {i k : Nat} (hi : i < p) (hk : k < p) :
    at2 (pmL l u) i k = sumN (fun j => sumN (fun m => at2 l i m * at2 u m j * at2 l k j) n) n := by
  unfold pmL
  have htl : (turnL l).length = n := (turnL_length l).trans hw
  rw [makeP_at (by rw [makeL_length]; omega) (by rw [turnL_width hT]; omega), htl]
  refine sumN_congr n fun j hj => ?_
  show at2 (makeL l u) i j * at2 (turnL l) j k = _
  rw [makeP_at (by omega) (by omega), hu, turnL_at (by omega) (by omega), ← sumN_mulR]
  rfl
theorem pmR_skew {l u : List (List Int)} {p n : Nat} (hT : TabIn l) (hl : l.length = p) (hw : (l.getD 0 []).length = n) (hu : u.length = n) (hwu : (u.getD 0 []).length = n) (h : Skew n (at2 u)) : Skew p (at2 (pmL l u)) := fun i k hi hk => by
  rw [pmR_at hT hl hw hu hwu hi hk, pmR_at hT hl hw hu hwu hk hi, sumN_comm, ← sumN_neg]
  refine sumN_congr n fun m hm => ?_
  rw [← sumN_neg]
  refine sumN_congr n fun j hj => ?_
  rw [h m j hm hj]
  grind
theorem pmOk_of {l u : List (List Int)} (h : pmOk l u = true) : TabIn l ∧ pairB u = true ∧ (l.getD 0 []).length = u.length ∧ tabIn (pmL l u) = true := by
  unfold pmOk at h
  simp only [Bool.and_eq_true, beq_iff_eq] at h
  exact ⟨tabIn_of h.1, h.2.1, h.2.2.1, h.2.2.2⟩
theorem pm_pairB {l u : List (List Int)} (h : pmOk l u = true) : pairB (pmL l u) = true := by
  obtain ⟨hT, hb, hw, hM⟩ := pmOk_of h
  obtain ⟨hTu, hwu, hab⟩ := pairB_of hb rfl
  have hsk := pmR_skew hT rfl hw rfl hwu (aboutP_skew hab)
  have hlen := pmL_length l u
  have hwid : ((pmL l u).getD 0 []).length = l.length := by
    unfold pmL
    rw [makeP_wid (turnL l) (by rw [makeL_length]; exact hT.1), turnL_width hT]
  unfold pairB sqB
  rw [hM, hwid, hlen]
  simp only [Bool.true_and, beq_self_eq_true]
  exact decide_eq_true (fun i hi k hk => by have := hsk i k hi (by omega); omega)

set_option maxRecDepth 100000 in
set_option maxHeartbeats 4000000 in
theorem fnPairMake (a : Option Addr) (cap n : Nat) (w : World) (hc : n ≤ cap) (h63 : cap ≤ 9223372036854775807) (hb : BytR w a n) (h1w : 1 < w.heap.size) (hTZ : TZ w) :
    Calls Tryd.prog 6 #[.slice a n cap] w fun e w' => e = .returned (.bool true) ∧ w.Since w.heap.size w' := by
  by_cases hlen : 1048576 < n
  · have hl' : decide ((1048576 : Int) < (n : Int)) = true := by simp; omega
    clear hb hTZ
    go_enter Tryd.func6, Tryd.ntmps6
    go_wp2
    go_ret
    exact ⟨rfl, World.Since.refl _ _⟩
  · have hl' : decide ((1048576 : Int) < (n : Int)) = false := by simp; omega
    have ED := Lib.hid (drawPairMake_any a n cap w hc h63 hb)
    have HZ := Lib.hid (fun (W : World) (h : w.Since w.heap.size W) => show 1 < W.heap.size ∧ TZ W from ⟨Nat.lt_of_lt_of_le h1w h.size, hTZ.since h1w h⟩)
    clear hb hTZ
    go_enter Tryd.func6, Tryd.ntmps6
    go_wp2_with fail
    refine (ED.out).mono ?_
    rintro e w1 ⟨a1, c1, l, a6, c6, u, rfl, hs1, ⟨h1, h5, hlens, hit⟩, ⟨g1, g5, glens, git⟩⟩
    have hsz : szL l ≤ 1048576 := szL_of h5 (fun j hj => (hlens j hj).2) (by decide)
    obtain ⟨nn, hn⟩ : ∃ nn, l.length = nn := ⟨_, rfl⟩
    rw [hn]
    have HN := Lib.hid hn
    have HSZ := Lib.hid hsz
    have HM := Lib.hid (fun (W : World) (h : w1.Since w1.heap.size W) => hit.matR.since h)
    have hszu : szL u ≤ 1048576 := szL_of g5 (fun j hj => (glens j hj).2) (by decide)
    obtain ⟨nu, hu⟩ : ∃ nu, u.length = nu := ⟨_, rfl⟩
    rw [hu]
    have HU := Lib.hid hu
    have HU4 := Lib.hid (show nu ≤ 4 by omega)
    have HSZU := Lib.hid hszu
    have HMU := Lib.hid (fun (W : World) (h : w1.Since w1.heap.size W) => git.matR.since h)
    have HS1 := Lib.hid hs1
    have HZ1 := Lib.hid (fun (W : World) (h : w1.Since w1.heap.size W) => HZ.out W (hs1.trans (since_mono h hs1.size)))
    obtain ⟨ok, hok⟩ : ∃ ok, pmOk l u = ok := ⟨_, rfl⟩
    obtain ⟨M, hM⟩ : ∃ M, resT ok (pmL l u) = M := ⟨_, rfl⟩
    have E1 := implPairMake_any a1 a6 c1 c6 nn nu l u w1 hn hu hsz hszu (hit.matR) (git.matR)
    have E2 := fun (W : World) (h : w1.Since w1.heap.size W) => specPairMake_any a1 a6 c1 c6 nn nu l u W hn hu hsz hszu (hit.matR.since h) (git.matR.since h)
    have hMsz : szL M ≤ 1048576 := by
      rw [← hM]
      cases hok' : ok with
      | false => simp [resT, szL, sumTo]
      | true => rw [hok'] at hok; exact szL_pm u (pmOk_of hok).1
    unfold ImplT at E1
    unfold SpecT at E2
    rw [hok, hM] at E1
    simp only [hok, hM] at E2
    obtain ⟨q, hq⟩ : ∃ q, M.length = q := ⟨_, rfl⟩
    rw [hq] at E1
    simp only [hq] at E2
    have hq63 : q ≤ 9223372036854775807 := by unfold szL at hMsz; omega
    replace E1 := Lib.hid E1
    replace E2 := Lib.hid E2
    have HQ := Lib.hid hq
    have HMS := Lib.hid hMsz
    have HOK := Lib.hid hok
    have HMM := Lib.hid hM
    clear hn hsz hit hs1 h1 h5 hlens hq hMsz hok hM hu hszu git g1 g5 glens
    go_wp2_with fail
    refine (E1.out).mono ?_
    rintro e w2 ⟨a2, c2, rfl, hs2, ho2⟩
    have HO := Lib.hid (fun (W : World) (h : w2.Since w2.heap.size W) => ho2.matR.since h)
    have HS2 := Lib.hid hs2
    clear ho2 hs2
    go_wp2_with fail
    refine (E2.out w2 HS2.out).mono ?_
    rintro e w3 ⟨a3, c3, rfl, hs3, hi3⟩
    have ES := Lib.hid (fun (W : World) (h : w3.Since w3.heap.size W) => sameRows_same a2 a3 c2 c3 q M W HQ.out hq63 (rows_le HMS.out) (HO.out W (hs3.trans (since_mono h hs3.size))) (hi3.matR.since h))
    have HS3 := Lib.hid hs3
    clear hi3 hs3
    go_wp2_with fail
    refine (ES.out w3 (World.Since.refl _ _)).mono ?_
    rintro e w4 ⟨rfl, hd4⟩
    have hs4 := hd4.since w3.heap.size
    have hs14 : w1.Since w1.heap.size w4 := (HS2.out.trans (since_mono HS3.out HS2.out.size)).trans (since_mono hs4 (by have := HS2.out.size; have := HS3.out.size; omega))
    have HS4 := Lib.hid hs14
    have hs24 : w2.Since w2.heap.size w4 := HS3.out.trans (since_mono hs4 HS3.out.size)
    have HS24 := Lib.hid hs24
    cases ok with
    | false =>
      clear hs14 hs24 hd4
      go_wp2_with fail
      refine (ES.out w4 hs4).mono ?_
      rintro e w5 ⟨rfl, hd5⟩
      have HS5 := Lib.hid (hd5.since w4.heap.size)
      clear hd5
      go_wp2
      go_ret
      exact ⟨rfl, HS1.out.trans (since_mono (HS4.out.trans (since_mono HS5.out HS4.out.size)) HS1.out.size)⟩
    | true =>
      have hMl : M = pmL l u := HMM.out.symm
      clear hs4 hd4 hs14 hs24
      have hmb : pairB M = true := by rw [hMl]; exact pm_pairB HOK.out
      obtain ⟨hT, hpu, hwl, hMT⟩ := pmOk_of HOK.out
      obtain ⟨hTu, hwu, hab⟩ := pairB_of hpu HU.out
      rw [HU.out] at hwl
      have hqn : q = nn := by rw [← HQ.out, hMl, pmL_length, HN.out]
      obtain ⟨p, hp⟩ : ∃ p, sqB l = p := ⟨_, rfl⟩
      obtain ⟨v, hv⟩ : ∃ v : Int, (if p = true then ordF l nn nn 0 else 0) = v := ⟨_, rfl⟩
      obtain ⟨x, hx⟩ : ∃ x, halfF u nu 3 (2 ^ nu - 1) = x := ⟨_, rfl⟩
      obtain ⟨y, hy⟩ : ∃ y, halfF M q 3 (2 ^ q - 1) = y := ⟨_, rfl⟩
      have hyp : p = true → y = v * x := fun e => by
        rw [e] at hp hv
        rw [if_pos rfl] at hv
        obtain ⟨_, hlw⟩ := sqB_of hp
        rw [HN.out, hwl] at hlw
        subst hlw
        rw [← hy, ← hv, ← hx, hqn, hMl, ordF_all l (by have := HU4.out; omega)]
        exact pm_half HU4.out (by have := hT.1; rw [HN.out] at this; exact this) hT HN.out hwl HU.out hwu (aboutP_skew hab)
      have hyb : -5832000 ≤ y ∧ y ≤ 5832000 := by
        obtain ⟨hTM, hwM, _⟩ := pairB_of hmb HQ.out
        have hE := entB_of hTM HQ.out hwM
        have := halfF_bd hE 3 (2 ^ q - 1) (by have := Nat.two_pow_pos q; omega)
        rw [hy, show p180 3 = 5832000 by decide] at this
        exact this
      have E5 := fun (W : World) (h : w1.Since w1.heap.size W) => implValueOrders_any a1 c1 nn l W HN.out HSZ.out (HM.out W h)
      have E6 := fun (W : World) (h : w1.Since w1.heap.size W) => implPairHalf_any a6 c6 nu u W HU.out HSZU.out (HMU.out W h) (HZ1.out W h).1 (HZ1.out W h).2
      have E7 := fun (W : World) (h : w2.Since w2.heap.size W) => implPairHalf_any a2 c2 q M W HQ.out HMS.out (HO.out W h) (HZ1.out W (HS2.out.trans (since_mono h HS2.out.size))).1 (HZ1.out W (HS2.out.trans (since_mono h HS2.out.size))).2
      have E8 := fun (W : World) (h : w2.Since w2.heap.size W) => implPairIn_any a2 c2 q M W HQ.out HMS.out (HO.out W h)
      unfold SpecW at E5 E6 E7
      simp only [hp, hv] at E5
      simp only [hpu, if_true, hx] at E6
      simp only [hmb, if_true, hy] at E7
      simp only [hmb] at E8
      replace E5 := Lib.hid E5
      replace E6 := Lib.hid E6
      replace E7 := Lib.hid E7
      replace E8 := Lib.hid E8
      have HYP := Lib.hid hyp
      clear hMl hmb hT hpu hwl hMT hTu hwu hab hqn hp hv hx hy hyp
      go_wp2_with fail
      refine (E5.out w4 HS4.out).mono ?_
      rintro e w5 ⟨rfl, hs5⟩
      have HS5 := Lib.hid (HS4.out.trans (since_mono hs5 HS4.out.size))
      have HS25 := Lib.hid (HS24.out.trans (since_mono hs5 HS24.out.size))
      clear hs5
      go_wp2_with fail
      refine (E6.out w5 HS5.out).mono ?_
      rintro e w6 ⟨rfl, hs6⟩
      have HS6 := Lib.hid (HS5.out.trans (since_mono hs6 HS5.out.size))
      have HS26 := Lib.hid (HS25.out.trans (since_mono hs6 HS25.out.size))
      clear hs6
      go_wp2_with fail
      refine (E7.out w6 HS26.out).mono ?_
      rintro e w7 ⟨rfl, hs7⟩
      have HS7 := Lib.hid (HS6.out.trans (since_mono hs7 HS6.out.size))
      have HS27 := Lib.hid (HS26.out.trans (since_mono hs7 HS26.out.size))
      clear hs7
      go_wp2_with fail
      refine (E8.out w7 HS27.out).mono ?_
      rintro e w8 ⟨rfl, hs8⟩
      have HS8 := Lib.hid (HS7.out.trans (since_mono hs8 HS7.out.size))
      clear hs8
      cases p with
      | false =>
        clear hyb
        go_wp2
        go_ret
        exact ⟨rfl, HS1.out.trans (since_mono HS8.out HS1.out.size)⟩
      | true =>
        have hyv := HYP.out rfl
        have hwy : IntKind.i64.wrap (v * x) = y := by rw [← hyv]; exact IntWalk.i64_in _ ⟨by omega, by omega⟩
        clear hyb hyv
        go_wp2
        go_ret
        exact ⟨rfl, HS1.out.trans (since_mono HS8.out HS1.out.size)⟩

end Go.Proofs.YtpimdgijjljejaaDoor
end

section
namespace Go.Proofs.YtpimdgijjljejaaDoor
open Go.ChangeShapes Go.WideShapes Go.ChangeAt Go.RowKit Go.Deep

theorem below_since' {B : Nat} {w w' : World} (h : Below B w w') : w.Since B w' := ⟨h.os, h.tape, h.output, h.size, h.block⟩
theorem since_below' {B : Nat} {w w' : World} (h : w.Since B w') : Below B w w' := ⟨h.os, h.tape, h.output, h.size, h.block⟩

section
variable {H : Type} {enc : TypeId × Value → H} {P : Program}
theorem post_of_below {f : Func} {s : ChangeSpec} {apart fresh handsOn again : Bool} {W W' : World} {args : Array Value} {v : Value} {ds gs : List (DataW H)} {before pa pv : List MemPlace}
    (hW : DataW.Whole enc P f.params.toList s.vars apart W args.toList ds gs before)
    (hres : ∀ (b : Nat) (sp : Nat → Bool) (hd : Bool), DataW.TrodAll enc P W' b sp hd f.resultTypes.toList (v.resultList f.resultTypes.size) (s.fn H (ds ++ gs)).results [])
    (hargs : ∀ sp : Nat → Bool, (∀ p ∈ before, sp p.block = true) → DataW.TrodAll enc P W' 0 sp true f.params.toList args.toList (s.fn H (ds ++ gs)).args pa)
    (hvars : ∀ sp : Nat → Bool, (∀ p ∈ before, sp p.block = true) → DataW.TrodVars enc P W' sp s.vars (s.fn H (ds ++ gs)).vars pv)
    (hps : before = pa ++ pv) (hb : Below W.heap.size W W') (hag : again = false) :
    s.post enc P f apart fresh handsOn again W args v W' := by
  have hlt : ∀ p ∈ before, p.block < W.heap.size := fun p hp => hW.lt p hp
  have hold : ∀ p ∈ before, (fun b => decide (b < W.heap.size)) p.block = true := fun p hp => by simpa using hlt p hp
  refine ⟨ds, gs, before, [], pa, pv, hW, hres _ _ _, hargs _ hold, hvars _ hold, World.keptBut_mono (fun p hp => ⟨hp, ?_⟩) (hb.frame (· ∈ before)), fun h => ?_⟩
  · rw [hps, List.mem_append] at hp
    exact Or.inr hp
  · rw [hag] at h; cases h

theorem open_mat {W : World} {t e q : TypeId} {a : Option Addr} {n cap : Nat} {d : DataW H} {p : List MemPlace} (ht : P.underlying t = some (.slice e)) (he : P.underlying e = some (.slice q)) (hq : P.underlying q = some (.int .i64))
    (ce : P.cellsOf e = 1) (cq : P.cellsOf q = 1) (h : DataW.Trod enc P W 0 (fun _ => true) true t (.slice a n cap) d p) :
    ∃ l : List (List Int), l.length = n ∧ MatR W a l ∧ n ≤ 9223372036854775807 ∧ ∀ r, r < l.length → (l.getD r []).length ≤ 9223372036854775807 := by
  obtain ⟨fuel, hf⟩ := h
  rcases open_int_rows ht he hq ce cq hf with ⟨hcs, _⟩ | ⟨a', len', cap', A, L, C, Z, hcs, _, hl, hm, _, hrows⟩
  · simp [Value.cells] at hcs
    obtain ⟨rfl, rfl, rfl⟩ := hcs
    exact ⟨[], rfl, (fun h => by simp at h), by omega, fun r hr => by simp at hr⟩
  · simp [Value.cells] at hcs
    obtain ⟨rfl, rfl, rfl⟩ := hcs
    have hmx : maxLen = 9223372036854775807 := rfl
    have hlen : ∀ r, r < n → ((Z r).take (L r)).length = L r := fun r hr => by
      obtain ⟨_, h1, _, h2, _⟩ := hrows r (by omega)
      rw [List.length_take]; omega
    have hget : ∀ r, r < n → ((List.range n).map fun r => (Z r).take (L r)).getD r [] = (Z r).take (L r) := fun r hr => by simp [List.getD, hr]
    refine ⟨(List.range n).map fun r => (Z r).take (L r), by simp, fun h => ?_, by omega, fun r hr => ?_⟩
    · obtain ⟨b, o, spot⟩ := a'
      simp at h
      have hspot : spot = none := by simpa [Addr.add] using World.cell?_spot (hrows 0 (by omega)).1
      subst hspot
      refine ⟨b, o, A, C, rfl, fun r hr => ?_⟩
      simp at hr
      rw [hget r hr, hlen r hr]
      obtain ⟨g1, g2, g3, g4, g5, g6, g7⟩ := hrows r (by omega)
      refine ⟨by rw [← add_plain]; exact g1, fun h0 => ?_⟩
      rw [hlen r hr] at h0
      cases hA : A r with
      | none => have := g6 hA; omega
      | some a'' =>
        obtain ⟨_, hcell⟩ := g7 a'' hA
        obtain ⟨b', o', sp⟩ := a''
        have hs : sp = none := by simpa [Addr.add] using World.cell?_spot (hcell 0 (by omega))
        subst hs
        refine ⟨b', o', rfl, fun i hi => ?_⟩
        rw [hlen r hr] at hi
        rw [← add_plain, hcell i (by omega)]
        congr 2
        simp [List.getD, hi]
    · simp at hr
      rw [hget r hr, hlen r hr]
      obtain ⟨_, h1, h2, _⟩ := hrows r (by omega)
      omega
end

theorem Tryd.own : ownKnob Tryd.prog.godebug = none := by kernel_rfl
theorem Tryd.laidOut : laidOutB Tryd.prog = true := by kernel_rfl
theorem Tryd.cellsR : Tryd.prog.cellsOf 47 = 1 := by kernel_rfl
theorem Tryd.cellsI : Tryd.prog.cellsOf 3 = 1 := by kernel_rfl

end Go.Proofs.YtpimdgijjljejaaDoor
end

section
namespace Go.Proofs.YtpimdgijjljejaaDoor
open Go.ChangeShapes Go.WideShapes Go.ChangeAt Go.RowKit Go.Deep

theorem wf_u8_of {n : Int} (h : (Lit.int .u8 n).wf = true) : 0 ≤ n ∧ n ≤ 255 := by
  have h2 : (0 : Int) ≤ n ∧ n ≤ 255 := by simpa [Lit.wf, IntKind.min, IntKind.max, IntKind.signed, IntKind.bits] using h
  exact h2

theorem open_bytes {H : Type} {enc : TypeId × Value → H} {P : Program} {W : World} {t e : TypeId} {a : Option Addr} {n cap : Nat} {d : DataW H} {p : List MemPlace} (ht : P.underlying t = some (.slice e)) (he : P.underlying e = some (.int .u8)) (ce : P.cellsOf e = 1)
    (h : DataW.Trod enc P W 0 (fun _ => true) true t (.slice a n cap) d p) : BytR W a n ∧ n ≤ cap ∧ cap ≤ 9223372036854775807 := by
  obtain ⟨fuel, hf⟩ := h
  rcases open_ints ht he ce hf with ⟨hcs, _⟩ | ⟨a', len, cap', zs, hcs, _, hl, hm, hlen, _, hcell, hwf⟩
  · simp [Value.cells] at hcs
    obtain ⟨rfl, rfl, rfl⟩ := hcs
    exact ⟨fun h => absurd h (by omega), by omega, by omega⟩
  · simp [Value.cells] at hcs
    obtain ⟨rfl, rfl, rfl⟩ := hcs
    have hmx : maxLen = 9223372036854775807 := rfl
    have hzl : zs.length = cap := by simpa using hlen
    refine ⟨fun h0 => ?_, by omega, by omega⟩
    obtain ⟨b, o, spot⟩ := a'
    have hspot : spot = none := by simpa [Addr.add] using World.cell?_spot (hcell 0 (by omega))
    subst hspot
    refine ⟨b, o, rfl, fun i hi => ?_⟩
    have hi' : i < zs.length := by omega
    have hw := wf_u8_of (hwf (zs.getD i 0) (by simp [List.getD, hi']))
    obtain ⟨z, hz⟩ := Int.eq_ofNat_of_zero_le hw.1
    refine ⟨z, by omega, ?_⟩
    rw [← add_plain, hcell i hi', hz]

theorem Tryd.cellsB : Tryd.prog.cellsOf 5 = 1 := by kernel_rfl

end Go.Proofs.YtpimdgijjljejaaDoor
end

section
namespace Go.Proofs.YtpimdgijjljejaaDoor
open Go.ChangeShapes Go.WideShapes Go.ChangeAt Go.WideMaps Go.WideElems Go.RowKit

def laidT : List (String × DataW Unit) := [("math/bits.deBruijn32tab", Rows.laid_math_bits_deBruijn32tab), ("math/bits.deBruijn64tab", Rows.laid_math_bits_deBruijn64tab)]

theorem gT32 : Tryd.prog.globalNamed "math/bits.deBruijn32tab" = some 0 := by kernel_rfl
theorem gT64 : Tryd.prog.globalNamed "math/bits.deBruijn64tab" = some 1 := by kernel_rfl
theorem tT64 : (Tryd.prog.globals[1]?).map (·.type) = some 101 := by kernel_rfl
theorem uT64 : Tryd.prog.underlying 101 = some (.array 64 5) := by kernel_rfl
theorem uT8 : Tryd.prog.underlying 5 = some (.int .u8) := by kernel_rfl
theorem cT8 : Tryd.prog.cellsOf 5 = 1 := by kernel_rfl

theorem tab_cell {H : Type} {enc : TypeId × Value → H} {P : Program} {w : World} {sp : Nat → Bool} {m n : Nat} {e : TypeId} {cs : List Value} {xs : List (DataW H × List MemPlace)} {L : List (DataW H)} (he : P.underlying e = some (.int .u8)) (hc : P.cellsOf e = 1)
    (hel : ∀ (i : Nat), i < n → DataW.trod enc P w 0 sp false m e ((cs.drop (i * P.cellsOf e)).take (P.cellsOf e)) = xs[i]?) (hx : xs.map (·.1) = L) (i : Nat) (hi : i < n) (v : Int) (hL : L[i]? = some (.lit (.int .u8 v))) : cs[i]? = some (.int .u8 v) := by
  have h1 : (xs.map (·.1))[i]? = some (.lit (.int .u8 v)) := by rw [hx]; exact hL
  rw [List.getElem?_map, Option.map_eq_some_iff] at h1
  obtain ⟨y, hy, hy1⟩ := h1
  have h := hel i hi
  rw [hy, hc, Nat.mul_one] at h
  obtain ⟨k, e1, e2, _⟩ := DataW.trod_int he h
  rw [e2] at hy1
  have hk : k = v := by simpa using hy1
  subst hk
  have := congrArg (fun q : List Value => q[0]?) e1
  simpa using this

theorem door_met (os : Os) (args : Array Value) : laidMetH Tryd.prog laidT ((World.doorLaid Tryd.prog 400 os).forCall (fun _ _ => 0) ⟨#[], args, []⟩).memory :=
  laidMetH_of_parts3 (fuel := 8) (laidMet_of_run' 8 (by kernel_rfl) (by kernel_rfl)) (by kernel_rfl) (by kernel_rfl)

theorem tz_of_laid {W : World} (h : laidMetH Tryd.prog laidT W) : TZ W ∧ 1 < W.heap.size := by
  rw [MakeChecks.laidMetH_plain _ _ _ (by kernel_rfl)] at h
  obtain ⟨ps, ⟨g0, t0, cs0, f0, p0, q0, hg0, ht0, hv0, hd0, ⟨g1, t1, cs1, f1, p1, q1, hg1, ht1, hv1, hd1, _, _⟩, _⟩, _, _⟩ := h
  obtain rfl := Option.some.inj (gT64.symm.trans hg1)
  obtain rfl := Option.some.inj (tT64.symm.trans ht1)
  obtain ⟨xs, m1, rfl, hx1, hlen, hn3, hel⟩ := DataW.trod_array uT64 hd1
  have hx : xs.map (·.1) = _ := (DataW.agg.inj (Prod.mk.inj hx1).1).symm
  have hz : TZ W := fun i hi => by
    have key : ∀ (j : Nat), j < 64 → ∀ v : Int, _ → W.cell? ⟨1, j, none⟩ = some (.int .u8 v) := fun j hj v hL => by
      have h1 := tab_cell uT8 cT8 hel hx j hj v hL
      have h2 := World.var?_cell hg1 hv1 j
      rw [h2]
      simpa using h1
    match i, hi with
    | 0, _ => exact key 0 (by decide) 0 rfl
    | 1, _ => exact key 1 (by decide) 1 rfl
    | 2, _ => exact key 3 (by decide) 2 rfl
    | 3, _ => exact key 7 (by decide) 3 rfl
    | 4, _ => exact key 15 (by decide) 4 rfl
    | 5, _ => exact key 31 (by decide) 5 rfl
  exact ⟨hz, World.block_lt_of_cell? _ _ (hz 0 (by decide))⟩

end Go.Proofs.YtpimdgijjljejaaDoor
end

section
namespace Go.Proofs.YtpimdgijjljejaaDoor
open Go.ChangeShapes Go.WideShapes Go.ChangeAt Go.RowKit Go.Deep

set_option maxRecDepth 100000 in
theorem lifted_FnPairMake (os : Os) (started : os.Started) (H : Type) (enc : TypeId × Value → H) :
    ReturnsInHanded {} Tryd.checked os 6 .any (fun w args => (Rows.fnPairMakeSpec.pre enc Tryd.prog Tryd.f6 [] false w args ∧ laidMetH Tryd.prog laidT w) ∧ sizedMet enc Tryd.prog Tryd.f6 (OpenSpec.ofChange Rows.fnPairMakeSpec) false w args)
      (Rows.fnPairMakeSpec.post enc Tryd.prog Tryd.f6 false true false false) := by
  refine returnsInHanded_of_change_and (C := Tryd.checked) (X := fun w _ => laidMetH Tryd.prog laidT w) (fun _ _ _ hh h => h.of_heap hh) Tryd.own started (by kernel_rfl) Tryd.func6
    (ChangeSpec.witness_shaped (enc := enc) (C := Tryd.checked) (os := os) (X := fun w _ => laidMetH Tryd.prog laidT w) false (World.doorLaid Tryd.prog 400 os) #[.slice none 0 0] 8 rfl (World.shaped_of_RefB (by kernel_rfl) (by kernel_rfl)) (by kernel_rfl) (by kernel_rfl) (by kernel_rfl) (door_met os _)) ?_
  intro W base args ds gs before hval0 hW _ _ hL _
  obtain ⟨hTZ, h1W⟩ := tz_of_laid hL
  have hval : ∀ (j : Nat) t v, Tryd.f6.params[j]? = some t → args[j]? = some v → Value.okWide Tryd.prog W .any base t v := hval0
  have hW' := hW
  obtain ⟨p, q, hA0, hV, rfl, hfz, hnd⟩ := hW
  have hA : DataW.TrodAll enc Tryd.prog W 0 (fun _ => true) true Tryd.f6.params.toList args.toList ds p := hA0
  rw [Tryd.params6] at hA hval
  obtain ⟨v0, d0, rfl, rfl, h0⟩ := trodAll_one hA
  obtain ⟨p0, hp0⟩ : ∃ p0, p0 = p := ⟨_, rfl⟩
  subst hp0
  obtain ⟨rfl, rfl⟩ := trodVars_none hV
  obtain ⟨a0, n0, cap0, rfl⟩ := okWide_slice Tryd.underlying22 (hval 0 22 v0 rfl rfl)
  obtain ⟨hb0, hc0, h630⟩ := open_bytes Tryd.underlying22 Tryd.underlying5 Tryd.cellsB h0
  clear hA0 hval0
  simp only [List.append_nil] at hW'
  have hlt0 : ∀ x ∈ p0, x.block < W.heap.size := fun x hx => hW'.lt x (by simp [hx])
  refine (fnPairMake a0 cap0 n0 W hc0 h630 hb0 h1W hTZ).mono fun e W' ⟨he, hs⟩ => ?_
  subst he
  have hb := since_below' hs
  have ht0 : ∀ sp : Nat → Bool, (∀ x ∈ p0, sp x.block = true) → DataW.Trod enc Tryd.prog W' 0 sp true 22 (.slice a0 n0 cap0) d0 p0 := fun sp hsp =>
    WideElems.Trod_stays Tryd.laidOut (by kernel_rfl) (of_decide_eq_true (by kernel_rfl)) h0 (fun x hx => hb.same (hlt0 x hx)) hsp
  have hargs : ∀ sp : Nat → Bool, (∀ x ∈ (p0), sp x.block = true) → DataW.TrodAll enc Tryd.prog W' 0 sp true [22] [.slice a0 n0 cap0] [d0] (p0) := fun sp hsp => by
    have := trodAll_mk1 (enc := enc) (P := Tryd.prog) (w := W') (base := 0) (spare := sp) (held := true) (ht0 sp (fun x hx => hsp x (by simp [hx])))
    simpa using this
  exact ⟨_, rfl, post_of_below (pa := p0) (pv := []) hW' (fun _ _ _ => trodAll_mk1 (shut_bool Tryd.underlying4 true)) (fun sp hsp => hargs sp (fun x hx => hsp x (by simpa using hx))) (fun _ _ => rfl) (by simp) hb rfl⟩

theorem FnPairMake_holds : Rows.FnPairMakeSaid :=
  OpenClaim.holds_of_wide 6 Tryd.f6 rfl rfl rfl rfl rfl rfl rfl ⟨rfl, rfl, rfl, rfl, rfl⟩ rfl rfl rfl rfl rfl (by kernel_rfl) Tryd.func6 (by kernel_rfl)
    (of_decide_eq_true (by kernel_rfl)) (by unfold Func.isWrapper; first | (rw [if_pos (by decide +kernel)]; kernel_rfl) | (rw [if_neg (by decide +kernel)]; exact ⟨rfl, rfl⟩))
    (fun os started H enc _ => lifted_FnPairMake os started H enc)

theorem FnPairMakeCard_holds : Rows.FnPairMakeCardSaid :=
  Claim7.holds_tied_plain_at .later [] [.data, .data] true _ false
    FnPairMake_holds (fun _ h => by cases h) (by kernel_rfl) (fun _ h => by cases h) fnPairMake_row_tie rfl ⟨rfl, rfl⟩ (by kernel_rfl) rfl
    (fun f fn hf hfn => by
      obtain rfl : f = 6 := Option.some.inj ((show Tryd.prog.funcNamed "loop.example/tableminors/laws.FnPairMake" = some 6 by kernel_rfl).symm.trans hf) |>.symm
      obtain rfl : fn = Tryd.f6 := (Option.some.inj (Tryd.func6.symm.trans hfn)).symm
      exact ⟨by kernel_rfl, fun j t ht => by
        rw [Tryd.params6] at ht
        have hm : t ∈ [22] := by simpa using Array.mem_of_getElem? ht
        have hall : ([22].all fun u => !Tryd.prog.wantsStandIn u) = true := by kernel_rfl
        exact (show Tryd.prog.wantsStandIn t = false by simpa using List.all_eq_true.1 hall t hm)⟩)
    (by kernel_rfl)

end Go.Proofs.YtpimdgijjljejaaDoor
end

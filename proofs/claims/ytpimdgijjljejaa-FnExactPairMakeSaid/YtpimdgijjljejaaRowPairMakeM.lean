import Derived.Test.YtpimdgijjljejaaOrders
import Derived.Test.YtpimdgijjljejaaRowsF
import Derived.Test.YtpimdgijjljejaaL1Part
import Derived.Deep.RegionHeld3
import Derived.Test.YtpimdgijjljejaaHalfF
import Derived.Test.YtpimdgijjljejaaSome0
import Derived.Test.YtpimdgijjljejaaHarn2
import Derived.Test.YtpimdgijjljejaaPartImpl
import Derived.Test.YtpimdgijjljejaaSwapped
import Derived.Test.YtpimdgijjljejaaAddImpl
import Derived.Test.YtpimdgijjljejaaAddSpec
import Derived.Test.YtpimdgijjljejaaTimesSpec
import Derived.Test.YtpimdgijjljejaaSumSpec
import Derived.Test.YtpimdgijjljejaaMakeR
import Derived.Test.YtpimdgijjljejaaSameDef
import Derived.Test.YtpimdgijjljejaaDet
import Derived.Test.YtpimdgijjljejaaSameImpl
import Derived.Test.YtpimdgijjljejaaTimesImpl
import Derived.Test.YtpimdgijjljejaaTurnImpl
import Derived.Test.YtpimdgijjljejaaMakeImplR
import Derived.Test.YtpimdgijjljejaaUnitSpec
import Derived.Test.YtpimdgijjljejaaLawPairMake
import Derived.Test.YtpimdgijjljejaaRows
import Derived.Test.YtpimdgijjljejaaData
import Derived.ProofKit
import Derived.Deep.Matrix

section
/- The contracts of spec.l2Value, spec.ValueOrders and spec.ValueTrace. -/
namespace Go.Proofs.Ytpimdgijjljejaa
open Go.RowKit Go.Deep

/-- A number and whether there is one. -/
def SpecV (w : World) (ok : Bool) (x : Int) (e : Ending) (w' : World) : Prop := e = .returned (.tuple #[.int .i64 (if ok then x else 0), .bool ok]) ∧ Drawn w w'

/-- The sum of the middle. -/
def trF (l : List (List Int)) (i : Nat) : Int := at2 l i i

end Go.Proofs.Ytpimdgijjljejaa
end

section
/- The contracts of spec.l2Rows and spec.ValueRows. -/
namespace Go.Proofs.Ytpimdgijjljejaa
open Go.RowKit Go.Deep

theorem andNot_fin : ∀ n : Fin 7, ∀ k : Fin 6, k.val < n.val → bits BinOp.andNot IntKind.i64 ((2 ^ n.val - 1 : Nat) : Int) (2 ^ k.val) = ((2 ^ n.val - 1 - 2 ^ k.val : Nat) : Int) := by decide +kernel
theorem less_fin : ∀ n : Fin 7, 1 ≤ n.val → IntKind.i64.wrap (((2 ^ n.val - 1 : Nat) : Int) - 1) = ((2 ^ n.val - 2 : Nat) : Int) := by decide +kernel
theorem pow63 : ∀ n : Fin 7, 2 ^ n.val - 1 ≤ 63 := by decide +kernel

/-- A number and whether there is one; other blocks may have come. -/
def SpecW (w : World) (ok : Bool) (x : Int) (e : Ending) (w' : World) : Prop := e = .returned (.tuple #[.int .i64 (if ok then x else 0), .bool ok]) ∧ w.Since w.heap.size w'

end Go.Proofs.Ytpimdgijjljejaa
end

section
/- The contracts of spec.l5Half and spec.l5Count. -/
namespace Go.Proofs.Ytpimdgijjljejaa
open Go.RowKit Go.Deep

theorem halfS_start (l : List (List Int)) (i s : Nat) (f : Nat → Int) : ∀ m, m ≤ i + 1 → sumN (halfT l i s f) m = 0
  | 0, _ => rfl
  | m + 1, h => by
    show sumN (halfT l i s f) m + halfT l i s f m = 0
    rw [halfS_start l i s f m (by omega), halfT_no f (by omega)]
    rfl
theorem popcS_oneH' : ∀ s : Fin 64, 0 < s.val → 1 ≤ popcS s.val := by decide +kernel
theorem btw_le (s i k : Nat) : btw s i k ≤ 6 := popcS_le _

end Go.Proofs.Ytpimdgijjljejaa
end

section
/- The contract of spec.l5Count. -/
namespace Go.Proofs.Ytpimdgijjljejaa
open Go.RowKit Go.Deep

theorem cntS_start (l : List (List Int)) (i s : Nat) (f : Nat → Nat) : ∀ m, m ≤ i + 1 → sumM (cntT l i s f) m = 0
  | 0, _ => rfl
  | m + 1, h => by
    show sumM (cntT l i s f) m + cntT l i s f m = 0
    rw [cntS_start l i s f m (by omega), cntT_no f (by omega)]
theorem p6_le : ∀ d, d ≤ 4 → p6 d ≤ 1296 := by
  intro d hd
  have h : d = 0 ∨ d = 1 ∨ d = 2 ∨ d = 3 ∨ d = 4 := by omega
  rcases h with rfl | rfl | rfl | rfl | rfl <;> decide
theorem cntS_bd {l : List (List Int)} {i s n : Nat} {f : Nat → Nat} {B : Nat} (h : ∀ u, f u ≤ B) : sumM (cntT l i s f) n ≤ n * B :=
  sumM_le (fun k => by
    unfold cntT
    split
    · exact h _
    · omega) n

end Go.Proofs.Ytpimdgijjljejaa
end

section
/- The contracts of spec.PairIn, spec.PairHalf and spec.PairCount. -/
namespace Go.Proofs.Ytpimdgijjljejaa
open Go.RowKit Go.Deep

/-- Each number is the one with row and column exchanged, with its sign turned. -/
def AboutP (l : List (List Int)) (n : Nat) : Prop := ∀ i, i < n → ∀ k, k < i + 1 → at2 l i k + at2 l k i = 0
instance (l : List (List Int)) (n : Nat) : Decidable (AboutP l n) := inferInstanceAs (Decidable (∀ i, i < n → ∀ k, k < i + 1 → _))
/-- Is it a square turned about? -/
noncomputable def pairB (l : List (List Int)) : Bool := sqB l && decide (AboutP l l.length)
theorem pairB_of {l : List (List Int)} {n : Nat} (h : pairB l = true) (hn : l.length = n) : TabIn l ∧ (l.getD 0 []).length = n ∧ AboutP l n := by
  unfold pairB at h
  simp only [Bool.and_eq_true, decide_eq_true_eq] at h
  obtain ⟨h1, h2⟩ := sqB_of h.1
  rw [hn] at h h2
  exact ⟨h1, h2.symm, h.2⟩
theorem pairB_sq {l : List (List Int)} (h : pairB l = true) : sqB l = true := by
  unfold pairB at h
  simp only [Bool.and_eq_true] at h
  exact h.1

set_option maxRecDepth 100000 in
set_option maxHeartbeats 2000000 in
theorem specPairIn_any (a : Option Addr) (cap n : Nat) (l : List (List Int)) (w : World) (hn : l.length = n) (hsz : szL l ≤ 1048576) (hm : MatR w a l) :
    Calls Try.prog 11 #[.slice a n cap] w fun e w' => e = .returned (.bool (pairB l)) ∧ Drawn w w' := by
  have E := l2Square_any a cap n l w hn hsz hm
  cases hs : sqB l with
  | false =>
    have hok : pairB l = false := by unfold pairB; rw [hs]; rfl
    rw [hs] at E
    rw [hok]
    replace E := Lib.hid E
    clear hs hm hn hsz hok
    go_enter Try.func11, Try.ntmps11
    go_wp2_with fail
    refine (E.out).mono ?_
    rintro e w1 ⟨rfl, hd⟩
    go_wp2
    go_ret
    exact ⟨rfl, hd⟩
  | true =>
    have hok : pairB l = decide (AboutP l n) := by unfold pairB; rw [hs, hn]; rfl
    rw [hs] at E
    rw [hok]
    replace E := Lib.hid E
    obtain ⟨hT, hw⟩ := sqB_of hs
    have h6 := hT.2.1
    rw [hn] at h6 hw
    obtain ⟨b, o, A, C, rfl, hrow, hcell⟩ := hm.grid hn hT hw.symm
    have HROW := Lib.hid hrow
    have HC := Lib.hid hcell
    obtain ⟨r, hr⟩ : ∃ r, decide (AboutP l n) = r := ⟨_, rfl⟩
    have HYES := Lib.hid (fun (h : AboutP l n) => show r = true by rw [← hr]; exact decide_eq_true h)
    have HNO := Lib.hid (fun (h : ¬ AboutP l n) => show r = false by rw [← hr]; exact decide_eq_false h)
    rw [hr]
    clear hs hm hn hsz hok hT hw hrow hcell hr
    go_enter Try.func11, Try.ntmps11
    go_wp2_with fail
    refine (E.out).mono ?_
    rintro e w1 ⟨rfl, hd⟩
    have HD1 := Lib.hid hd
    clear hd
    go_wp2
    go_loopg [3, 4] n (fun g i _ wr => ∃ i0 : Nat, i0 ≤ n ∧ g = n - i0 ∧ i = .int .i64 i0 ∧ AboutP l i0 ∧ Drawn w wr)
    case atStart => exact ⟨0, Nat.zero_le _, rfl, rfl, fun i hi => absurd hi (Nat.not_lt_zero _), HD1.out⟩
    case round =>
      obtain ⟨i0, hi0, rfl, rfl, hA, hD⟩ := hrel
      have HA := Lib.hid hA
      clear hA
      by_cases hlt : i0 < n
      · have HDR := Lib.hid hD
        clear hD
        go_wp2
        go_loopg [4] (i0 + 1) (fun g k wr => ∃ k0 : Nat, k0 ≤ i0 + 1 ∧ g = i0 + 1 - k0 ∧ k = .int .i64 k0 ∧ (∀ k, k < k0 → at2 l i0 k + at2 l k i0 = 0) ∧ Drawn w wr)
        case atStart => exact ⟨0, Nat.zero_le _, rfl, rfl, fun k hk => absurd hk (Nat.not_lt_zero _), HDR.out⟩
        case round =>
          obtain ⟨k0, hk0, rfl, rfl, hK, hD⟩ := hrel
          clear HDR
          have HK := Lib.hid hK
          clear hK
          by_cases hltk : k0 < i0 + 1
          · obtain ⟨b1, o1, c1, c2, c3, c4⟩ := HC.out i0 k0 hlt (by omega)
            obtain ⟨b2, o2, d1, d2, d3, d4⟩ := HC.out k0 i0 (by omega) hlt
            have hle : decide ((k0 : Int) ≤ (i0 : Int)) = true := by simp; omega
            rw [← hD.cell] at c1 c2 d1 d2
            obtain ⟨x, hx⟩ : ∃ x, at2 l i0 k0 = x := ⟨_, rfl⟩
            obtain ⟨y, hy⟩ : ∃ y, at2 l k0 i0 = y := ⟨_, rfl⟩
            rw [hx] at c2 c3 c4
            rw [hy] at d2 d3 d4
            have hw1 : IntKind.i64.wrap (x + y) = x + y := IntWalk.i64_in _ ⟨by omega, by omega⟩
            have HDR := Lib.hid hD
            by_cases h0 : x + y = 0
            · have hz : (x + y != 0) = false := by simp [h0]
              have HK2 := Lib.hid (show ∀ k, k < k0 + 1 → at2 l i0 k + at2 l k i0 = 0 from fun k hk => by
                by_cases e : k = k0
                · subst e; rw [hx, hy]; exact h0
                · exact HK.out k (by omega))
              clear hD hx hy h0
              go_wp2
              go_quiet (fail)
              go_wp2
              go_roundg (i0 + 1 - (k0 + 1))
              case measure => omega
              case rel => exact ⟨k0 + 1, by omega, rfl, by go_num, HK2.out, HDR.out.trans (Drawn.mk _ _)⟩
            · have hz : (x + y != 0) = true := by simp [h0]
              have HN := Lib.hid (HNO.out (fun h => h0 (by have := h i0 hlt k0 hltk; rw [hx, hy] at this; exact this)))
              clear hD hx hy h0
              go_wp2
              go_quiet (fail)
              go_wp2
              go_ret
              exact ⟨by rw [HN.out] <;> rfl, HDR.out.trans (Drawn.mk _ _)⟩
          · have hki : k0 = i0 + 1 := by omega
            have hle : decide ((k0 : Int) ≤ (i0 : Int)) = false := by simp; omega
            have HA2 := Lib.hid (show AboutP l (i0 + 1) from fun i hi k hk => by
              by_cases e : i = i0
              · subst e; exact HK.out k (by omega)
              · exact HA.out i (by omega) k hk)
            have HDR := Lib.hid hD
            subst hki
            clear hD
            go_wp2
            go_roundg (n - (i0 + 1))
            case measure => omega
            case rel => exact ⟨i0 + 1, by omega, rfl, by go_num, HA2.out, HDR.out⟩
      · have hin : i0 = n := by omega
        subst hin
        have HY := Lib.hid (HYES.out HA.out)
        go_wp2
        go_ret
        exact ⟨by rw [HY.out] <;> rfl, hD⟩

theorem full_in : ∀ n : Fin 7, 2 ^ n.val - 1 < 2 ^ n.val ∧ popcS (2 ^ n.val - 1) ≤ 2 * 3 := by decide +kernel

end Go.Proofs.Ytpimdgijjljejaa
end

section
/- The contract of spec.l91Some. -/
namespace Go.Proofs.Ytpimdgijjljejaa
open Go.RowKit Go.Deep

/-- A table that a call has drawn: at least one row, no row empty. -/
def Drawn0 (w w' : World) (R K : Nat) (a : Option Addr) (l : List (List Int)) : Prop :=
  1 ≤ l.length ∧ l.length ≤ R ∧ (∀ j, j < l.length → 1 ≤ (l.getD j []).length ∧ (l.getD j []).length ≤ K + 1) ∧ InT w.heap.size w'.heap.size w' a l

theorem lens_set {l : List (List Int)} {r : Nat} {y : List Int} {n m K : Nat} (hl : l.length = n) (h : ∀ j, j < n → (l.getD j []).length = m) (hm : 1 ≤ m ∧ m ≤ K) (hy : 1 ≤ y.length ∧ y.length ≤ K + 1) : ∀ j, j < (l.set r y).length → 1 ≤ ((l.set r y).getD j []).length ∧ ((l.set r y).getD j []).length ≤ K + 1 := by
  intro j hj
  rw [List.length_set] at hj
  by_cases e : j = r
  · subst e
    rw [show (l.set j y).getD j [] = y by simp [List.getD, hj]]
    exact hy
  · rw [show (l.set r y).getD j [] = l.getD j [] by simp [List.getD, List.getElem?_set_ne (Ne.symm e)], h j (by omega)]
    omega

end Go.Proofs.Ytpimdgijjljejaa
end

section
/- The contract of spec.l6Open, and of what draws one table. -/
namespace Go.Proofs.Ytpimdgijjljejaa
open Go.RowKit Go.Deep

set_option maxHeartbeats 1000000 in
theorem l6Open_any (a : Option Addr) (nb cb : Nat) (w : World) (hc : nb ≤ cb) (h63 : cb ≤ 9223372036854775807) (hb : BytR w a nb) :
    Calls Try.prog 27 #[.slice a nb cb] w fun e w' => ∃ n' c', e = .returned (.pointer (some ⟨w.heap.size, 0, none⟩)) ∧ w.Since w.heap.size w' ∧ w'.heap.size = w.heap.size + 1 ∧ RD w w' w.heap.size a n' c' 57 0 := by
  by_cases hl : 2000 < nb
  · have hl' : decide ((2000 : Int) < (nb : Int)) = true := by simp; omega
    have h2 : (2000 : Int) ≤ (cb : Int) := by omega
    obtain ⟨b, o, rfl, hcell⟩ := hb (by omega)
    go_enter Try.func27, Try.ntmps27
    go_wp2
    go_ret
    exact ⟨_, _, rfl, (World.Since.refl _ _).alloc (Nat.le_refl _) _, by simp, ⟨heap_alloc_new _ _, Nat.le_refl _, (World.Since.refl _ _).alloc (Nat.le_refl _) _, fun _ => ⟨b, o, rfl, fun i hi => hcell i (by omega)⟩, by omega⟩⟩
  · have hl' : decide ((2000 : Int) < (nb : Int)) = false := by simp; omega
    go_enter Try.func27, Try.ntmps27
    go_wp2
    go_ret
    exact ⟨_, _, rfl, (World.Since.refl _ _).alloc (Nat.le_refl _) _, by simp, ⟨heap_alloc_new _ _, Nat.le_refl _, (World.Since.refl _ _).alloc (Nat.le_refl _) _, hb, by omega⟩⟩

/-- A call has drawn a table. -/
def DrawnT (w w' : World) (R K : Nat) (a : Option Addr) (l : List (List Int)) : Prop :=
  1 ≤ l.length ∧ l.length ≤ R ∧ (∀ j, j < l.length → 1 ≤ (l.getD j []).length ∧ (l.getD j []).length ≤ K + 1) ∧ InT w.heap.size w'.heap.size w' a l

end Go.Proofs.Ytpimdgijjljejaa
end

section
/- The contracts of laws.sameInts and laws.sameRows. -/
namespace Go.Proofs.Ytpimdgijjljejaa
open Go.RowKit Go.Deep

end Go.Proofs.Ytpimdgijjljejaa
end

section
/- The walk of laws.FnTurn. -/
namespace Go.Proofs.Ytpimdgijjljejaa
open Go.RowKit Go.Deep

theorem szL_of {l : List (List Int)} {n k : Nat} (h1 : l.length ≤ n) (h2 : ∀ j, j < l.length → (l.getD j []).length ≤ k) (hnk : n * k + n ≤ 1048576) : szL l ≤ 1048576 := by
  have h3 := sumTo_le_mul l k h2 l.length (Nat.le_refl _)
  have h4 : l.length * k ≤ n * k := Nat.mul_le_mul_right _ h1
  have h5 : k * l.length = l.length * k := Nat.mul_comm _ _
  unfold szL
  omega
theorem rows_le {l : List (List Int)} (h : szL l ≤ 1048576) : ∀ r, r < l.length → (l.getD r []).length ≤ 9223372036854775807 := fun r hr => by
  have := row_le l hr
  unfold szL at h
  omega

theorem tab_self {l : List (List Int)} {n m : Nat} (hn : l.length = n) (hm : ∀ r, r < n → (l.getD r []).length = m) : tabF n m (at2 l) = l := by
  refine List.ext_getElem (by rw [tabF_length, hn]) fun r h1 h2 => ?_
  have hr : r < n := by rw [tabF_length] at h1; exact h1
  have e1 : (tabF n m (at2 l))[r] = (tabF n m (at2 l)).getD r [] := by simp [List.getD, h1]
  have e2 : l[r] = l.getD r [] := by simp [List.getD, h2]
  rw [e1, e2, tabF_get _ _ _ _ hr]
  refine List.ext_getElem (by rw [List.length_map, List.length_range, hm r hr]) fun k h3 h4 => ?_
  rw [List.getElem_map, List.getElem_range]
  unfold at2
  obtain ⟨x, hx⟩ : ∃ x, x = l.getD r [] := ⟨_, rfl⟩
  subst hx
  generalize l.getD r [] = x at *
  simp [List.getD, h4]

theorem turnL_turnL {l : List (List Int)} (hT : TabIn l) : turnL (turnL l) = l := by
  have h1 := hT.1
  have hw := hT.width
  have e0 : ((turnL l).getD 0 []).length = l.length := tabF_len _ _ _ _ hw.1
  have e1 : turnL (turnL l) = tabF l.length (l.getD 0 []).length fun k i => at2 (turnL l) i k := by
    show tabF ((turnL l).getD 0 []).length (turnL l).length _ = _
    rw [e0, turnL_length]
  rw [e1]
  have e2 : tabF l.length (l.getD 0 []).length (fun k i => at2 (turnL l) i k) = tabF l.length (l.getD 0 []).length (at2 l) := by
    unfold tabF
    refine List.map_congr_left fun r hr => List.map_congr_left fun k hk => ?_
    exact tabF_at _ _ _ _ _ (List.mem_range.1 hk) (List.mem_range.1 hr)
  rw [e2]
  exact tab_self rfl (fun r hr => hT.row hr)

end Go.Proofs.Ytpimdgijjljejaa
end

section
/- The part of a table is a table; the contract of impl.TablePart. -/
namespace Go.Proofs.Ytpimdgijjljejaa
open Go.RowKit Go.Deep

/-- Does TablePart succeed? -/
noncomputable def partOk (l : List (List Int)) (s c : Int) : Bool := tabIn l && (inB s 1 (2 ^ l.length - 1 : Nat) && inB c 1 (2 ^ (l.getD 0 []).length - 1 : Nat))
theorem partOk_tab {l : List (List Int)} {s c : Int} (h : partOk l s c = true) : TabIn (partL l s.toNat c.toNat) := by
  unfold partOk at h
  rw [Bool.and_eq_true, Bool.and_eq_true] at h
  have h2 := of_decide_eq_true h.2.1
  have h3 := of_decide_eq_true h.2.2
  have p1 := Nat.one_le_two_pow (n := l.length)
  have p2 := Nat.one_le_two_pow (n := (l.getD 0 []).length)
  exact partL_tab (tabIn_of h.1) (by omega) (by omega) (by omega) (by omega)

end Go.Proofs.Ytpimdgijjljejaa
end

section
/- The contract of impl.TableSwap. -/
namespace Go.Proofs.Ytpimdgijjljejaa
open Go.RowKit Go.Deep


/-- Does TableSwap succeed? -/
noncomputable def swapOk (l : List (List Int)) (i k : Int) : Bool := tabIn l && (rowB i l.length && rowB k l.length)
theorem swapOk_tab {l : List (List Int)} {i k : Int} (h : swapOk l i k = true) : TabIn (swapL l i.toNat k.toNat) := by
  unfold swapOk at h
  rw [Bool.and_eq_true, Bool.and_eq_true] at h
  obtain ⟨i, rfl, hi⟩ := rowB_of h.2.1
  obtain ⟨k, rfl, hk⟩ := rowB_of h.2.2
  exact swapL_tab (tabIn_of h.1) hi hk
theorem szL_swapOk (l : List (List Int)) (i k : Int) (h : swapOk l i k = true) : szL (swapL l i.toNat k.toNat) ≤ 1048576 := szL_tab (swapOk_tab h)



end Go.Proofs.Ytpimdgijjljejaa
end

section
/- The contract of spec.TableSwap. -/
namespace Go.Proofs.Ytpimdgijjljejaa
open Go.RowKit Go.Deep

/-- A table of one's own whose outer row is written. -/
structure SW (w1 w' : World) (b n m : Nat) (A : Nat → Option Addr) (G C : Nat → Nat) (Z : Nat → Nat → Int) (hi : Nat) : Prop where
  since : w1.Since w1.heap.size w'
  size : hi ≤ w'.heap.size
  own : OwnD w1.heap.size hi w' b A G C n (fun _ => m) Z
  free : ∀ r, r < n → w'.frozen? ⟨b, r, none⟩ = false
  inb : w1.heap.size ≤ b ∧ b < hi

theorem SW.later {w1 w' w2 : World} {b n m : Nat} {A : Nat → Option Addr} {G C : Nat → Nat} {Z : Nat → Nat → Int} {hi : Nat} (h : SW w1 w' b n m A G C Z hi) (hs : w'.Since w'.heap.size w2) : SW w1 w2 b n m A G C Z hi :=
  ⟨h.since.trans (since_mono hs h.since.size), Nat.le_trans h.size hs.size, h.own.later hs, fun r hr => by rw [hs.frozen (a := ⟨b, r, none⟩) (World.block_lt_of_cell? _ _ (h.own.top r hr))]; exact h.free r hr, h.inb⟩

/-- One row is replaced by a new one. -/
theorem SW.put {w1 w2 w3 : World} {b n m : Nat} {A : Nat → Option Addr} {G C : Nat → Nat} {Z : Nat → Nat → Int} {hi : Nat} (h : SW w1 w2 b n m A G C Z hi) (hs : w2.Since w2.heap.size w3) {g cp : Nat} {x : List Int} (hg : w2.heap.size ≤ g) (hx : RowB w3 g x) (hxl : x.length = m)
    (hm : 0 < m) {i : Nat} (hi' : i < n) : SW w1 (w3.setCell ⟨b, i, none⟩ (.slice (some ⟨g, 0, none⟩) m cp)) b n m (fun r => if r = i then some ⟨g, 0, none⟩ else A r) (fun r => if r = i then g else G r) (fun r => if r = i then cp else C r) (fun r c => if r = i then x.getD c 0 else Z r c) w3.heap.size := by
  have h3 := h.later hs
  have hgl := hx.lt
  have hsz := h.size
  have hb := h.inb
  have hss := h.since.size
  have hsz3 := hs.size
  have hgb : g ≠ b := by omega
  refine ⟨h3.since.setCell hb.1 _, by simp, ⟨fun r hr => ?_, fun r hr h0 => ?_, fun r hr h0 => ?_, fun r hr c hc => ?_, fun r hr c hc => ?_, fun r r' hr hr' h0 h0' e => ?_⟩, fun r hr => by rw [World.frozen?_setCell]; exact h3.free r hr, hb.1, by omega⟩
  · by_cases e : r = i
    · subst e
      rw [if_pos rfl, if_pos rfl]
      exact World.cell?_setCell_same' _ _ _ (by rw [h3.own.top r hr]; rfl)
    · rw [if_neg e, if_neg e, World.cell?_setCell_other _ _ _ _ (fun e' => e (by injection e' with _ e'; exact e'.symm))]
      exact h3.own.top r hr
  · by_cases e : r = i
    · rw [if_pos e, if_pos e]
    · rw [if_neg e, if_neg e]; exact h3.own.addr r hr h0
  · by_cases e : r = i
    · rw [if_pos e]; exact ⟨by omega, hgl, hgb⟩
    · rw [if_neg e]; have := h3.own.inside r hr h0; exact ⟨this.1, by omega, this.2.2⟩
  · by_cases e : r = i
    · rw [if_pos e, if_pos e, World.cell?_setCell_other _ _ _ _ (fun e' => hgb (by injection e' with e'; exact e'.symm))]
      exact hx.cell (by rw [hxl]; exact hc)
    · rw [if_neg e, if_neg e, World.cell?_setCell_other _ _ _ _ (fun e' => (h3.own.inside r hr (by omega)).2.2 (by injection e' with e'; exact e'.symm))]
      exact h3.own.cell r hr c hc
  · rw [World.frozen?_setCell]
    by_cases e : r = i
    · rw [if_pos e]; exact hx.frozen c
    · rw [if_neg e]; exact h3.own.free r hr c hc
  · by_cases e1 : r = i <;> by_cases e2 : r' = i
    · omega
    · rw [if_pos e1, if_neg e2] at e
      have := (h.own.inside r' hr' h0').2.1
      omega
    · rw [if_neg e1, if_pos e2] at e
      have := (h.own.inside r hr h0).2.1
      omega
    · rw [if_neg e1, if_neg e2] at e
      exact h3.own.apart r r' hr hr' h0 h0' e

theorem OwnT.sw {w w1 : World} {a : Option Addr} {l : List (List Int)} {n m : Nat} (h : OwnT w.heap.size w1.heap.size w1 a l) (hn : l.length = n) (h1 : 0 < n) (hm : ∀ r, r < n → (l.getD r []).length = m) (hs : w.Since w.heap.size w1) (hf : FreeTop w1 a n) :
    ∃ b A G C, a = some ⟨b, 0, none⟩ ∧ SW w w1 b n m A G C (fun r c => at2 l r c) w1.heap.size := by
  obtain ⟨b, A, G, C, e, hb, hW⟩ := h.wr hn h1 hm hs (fun _ _ => 0)
  exact ⟨b, A, G, C, e, hs, Nat.le_refl _, hW.own.congr fun r _ c _ => by unfold updF; rw [if_neg (by omega)], fun r hr => hf b r e hr, hb⟩

theorem SW.ownT {w1 w' : World} {b n m : Nat} {A : Nat → Option Addr} {G C : Nat → Nat} {Z : Nat → Nat → Int} {hi : Nat} {l : List (List Int)} (h : SW w1 w' b n m A G C Z hi) (hn : l.length = n) (hm : ∀ r, r < n → (l.getD r []).length = m) (hZ : ∀ r c, r < n → c < m → at2 l r c = Z r c) : OwnT w1.heap.size w'.heap.size w' (some ⟨b, 0, none⟩) l :=
  (h.own.ownT h.inb hn hm fun r hr c hc => hZ r c hr hc).mono (Nat.le_refl _) h.size

/-- The row that was made by append, and what may be kept of the world before. -/
theorem own_row (W : World) : (W.alloc (.cells #[] 3)).ownsRow W.heap.size 3 1 (.slice (some ⟨W.heap.size, 0, none⟩) 0 0) 0 [] := World.ownsRow_made W #[] 0 (Nat.le_refl _) (Nat.zero_le _) rfl
theorem row_cells {w W : World} {b' o' m : Nat} {x : List Int} (hx : x.length = m) (hs : w.Since w.heap.size W) (hce : ∀ j, j < m → w.cell? ⟨b', o' + j, none⟩ = some (.int .i64 (x.getD j 0))) (o : Obj) : ∀ (j : Nat) (u : Value), (x.map (Value.int .i64))[j]? = some u → (W.alloc o).cell? ((⟨b', o', none⟩ : Addr).add j) = some u := fun j u hj => by
  rw [Go.WideShapes.add_plain]
  obtain ⟨hjl, he⟩ := List.getElem?_eq_some_iff.1 hj
  have hjx : j < m := by rw [← hx]; simpa using hjl
  have h2 := hce j hjx
  refine cell_alloc_l _ ?_
  rw [hs.cell (a := ⟨b', o' + j, none⟩) (World.block_lt_of_cell? _ _ h2), h2, ← he]
  simp [List.getD, show j < x.length by omega]

end Go.Proofs.Ytpimdgijjljejaa
end

section
/- What is exchanged twice, or added and taken off, is as it was. -/
namespace Go.Proofs.Ytpimdgijjljejaa
open Go.RowKit Go.Deep

theorem swap_back {l : List (List Int)} {i k : Int} (h : swapOk l i k = true) : swapOk (swapL l i.toNat k.toNat) i k = true ∧ swapL (swapL l i.toNat k.toNat) i.toNat k.toNat = l := by
  have hT := swapOk_tab h
  unfold swapOk at h ⊢
  rw [Bool.and_eq_true, Bool.and_eq_true] at h
  refine ⟨by rw [tabIn_true hT, swapL_length, h.2.1, h.2.2]; rfl, ?_⟩
  obtain ⟨i, rfl, hi⟩ := rowB_of h.2.1
  obtain ⟨k, rfl, hk⟩ := rowB_of h.2.2
  rw [Int.toNat_natCast, Int.toNat_natCast]
  have e : swapL (swapL l i k) i k = (List.range l.length).map fun r => l.getD r [] := by
    show (List.range (swapL l i k).length).map (fun r => (swapL l i k).getD (sw i k r) []) = _
    rw [swapL_length]
    refine List.map_congr_left fun r hr => ?_
    rw [swapL_get l i k (sw_lt hi hk (List.mem_range.1 hr)), sw_sw]
  rw [e, range_getD]

theorem tabF_congr {n m : Nat} {f g : Nat → Nat → Int} (h : ∀ i k, i < n → k < m → f i k = g i k) : tabF n m f = tabF n m g := by
  unfold tabF
  exact List.map_congr_left fun r hr => List.map_congr_left fun k hk => h r k (List.mem_range.1 hr) (List.mem_range.1 hk)

theorem add_back {l : List (List Int)} {fr tq f : Int} (h : addOk l fr tq f = true) : addOk (addL l fr.toNat tq.toNat f) fr tq (-f) = true ∧ addL (addL l fr.toNat tq.toNat f) fr.toNat tq.toNat (-f) = l := by
  unfold addOk at h ⊢
  simp only [Bool.and_eq_true, Bool.not_eq_true'] at h
  obtain ⟨h1, h2, h3, h4, h5, h6⟩ := h
  have hT := tabIn_of h1
  obtain ⟨fr, rfl, hfr⟩ := rowB_of h2
  obtain ⟨tq, rfl, hto⟩ := rowB_of h3
  rw [Int.toNat_natCast, Int.toNat_natCast] at *
  have hne : fr ≠ tq := by rintro rfl; simp at h4
  have hw := hT.width
  have h0 := hT.1
  have e0 : ((addL l fr tq f).getD 0 []).length = (l.getD 0 []).length := tabF_len _ _ _ _ (by omega)
  have e : addL (addL l fr tq f) fr tq (-f) = l := by
    show tabF (addL l fr tq f).length ((addL l fr tq f).getD 0 []).length (addF (addL l fr tq f) fr tq (-f)) = l
    rw [addL_length, e0]
    refine Eq.trans (tabF_congr fun i k hi hk => ?_) (tab_self rfl (fun r hr => hT.row hr))
    have a1 : at2 (addL l fr tq f) i k = addF l fr tq f i k := tabF_at _ _ _ _ _ hi hk
    have a2 : at2 (addL l fr tq f) fr k = addF l fr tq f fr k := tabF_at _ _ _ _ _ hfr hk
    show (if i = tq then at2 (addL l fr tq f) i k + (-f) * at2 (addL l fr tq f) fr k else at2 (addL l fr tq f) i k) = at2 l i k
    rw [a1, a2]
    unfold addF
    by_cases hi : i = tq
    · rw [if_pos hi, if_pos hi, if_neg hne, Int.neg_mul]; omega
    · rw [if_neg hi, if_neg hi]
  refine ⟨?_, e⟩
  have h5' := of_decide_eq_true h5
  rw [h6, addL_length, h2, h3, h4, e, h1]
  have : inB (-f) (-30) 30 = true := by unfold inB at *; simp at *; omega
  rw [this]; rfl
theorem addOk_num {l : List (List Int)} {fr tq f : Int} (h : addOk l fr tq f = true) : -30 ≤ f ∧ f ≤ 30 := by
  unfold addOk at h
  simp only [Bool.and_eq_true] at h
  exact of_decide_eq_true h.2.2.2.2.1

end Go.Proofs.Ytpimdgijjljejaa
end

section
/- Times, sums: what is so of tables. -/
namespace Go.Proofs.Ytpimdgijjljejaa
open Go.RowKit Go.Deep

theorem tabF_tab {n m : Nat} {f : Nat → Nat → Int} (hn : 1 ≤ n ∧ n ≤ 6) (hm : 1 ≤ m ∧ m ≤ 6) (h : ∀ i k, i < n → k < m → -30 ≤ f i k ∧ f i k ≤ 30) : TabIn (tabF n m f) := by
  refine ⟨by rw [tabF_length]; exact hn.1, by rw [tabF_length]; exact hn.2, fun r hr => ?_⟩
  rw [tabF_length] at hr
  refine ⟨by rw [tabF_len _ _ _ _ hr, tabF_len _ _ _ _ (by omega)], by rw [tabF_len _ _ _ _ hr]; exact hm.1, by rw [tabF_len _ _ _ _ hr]; exact hm.2, fun k hk => ?_⟩
  rw [tabF_len _ _ _ _ hr] at hk
  rw [tabF_at _ _ _ _ _ hr hk]
  exact h r k hr hk
theorem tab_bd {n m : Nat} {f : Nat → Nat → Int} (hn : 1 ≤ n) (h : TabIn (tabF n m f)) : ∀ i k, i < n → k < m → -30 ≤ f i k ∧ f i k ≤ 30 := by
  intro i k hi hk
  have h1 := h.at (i := i) (k := k) (by rw [tabF_length]; exact hi) (by rw [tabF_len _ _ _ _ (by omega)]; exact hk)
  have h2 : at2 (tabF n m f) i k = f i k := tabF_at _ _ _ _ _ hi hk
  rw [h2] at h1
  exact h1
theorem TabIn.sides {l : List (List Int)} (h : TabIn l) : (1 ≤ l.length ∧ l.length ≤ 6) ∧ (1 ≤ (l.getD 0 []).length ∧ (l.getD 0 []).length ≤ 6) := ⟨⟨h.1, h.2.1⟩, h.width⟩
theorem timesL_at {l : List (List Int)} {z : Int} {i k : Nat} (hi : i < l.length) (hk : k < (l.getD 0 []).length) : at2 (timesL l z) i k = at2 l i k * z := tabF_at _ _ _ _ _ hi hk
theorem timesL_width {l : List (List Int)} (z : Int) (h : 1 ≤ l.length) : ((timesL l z).getD 0 []).length = (l.getD 0 []).length := tabF_len _ _ _ _ (by omega)

theorem less_bd {x z : Int} (hz : 1 ≤ z) (h1 : -30 ≤ x * z) (h2 : x * z ≤ 30) : -30 ≤ x * (z - 1) ∧ x * (z - 1) ≤ 30 := by
  rw [Int.mul_sub, Int.mul_one]
  by_cases hx : 0 ≤ x
  · have := Int.mul_le_mul_of_nonneg_left hz hx
    rw [Int.mul_one] at this
    omega
  · have := Int.mul_le_mul_of_nonneg_left hz (show 0 ≤ -x by omega)
    rw [Int.mul_one, Int.neg_mul] at this
    omega

theorem timesOk_of {l : List (List Int)} {z : Int} (h : timesOk l z = true) : TabIn l ∧ (-30 ≤ z ∧ z ≤ 30) ∧ TabIn (timesL l z) := by
  unfold timesOk at h
  simp only [Bool.and_eq_true] at h
  exact ⟨tabIn_of h.1, of_decide_eq_true h.2.1, tabIn_of h.2.2⟩

theorem times_less {l : List (List Int)} {z : Int} (h : timesOk l z = true) (hz : 1 ≤ z) : timesOk l (z - 1) = true ∧ sumOk (timesL l (z - 1)) l = true ∧ sumL (timesL l (z - 1)) l = timesL l z := by
  obtain ⟨hT, hzb, hM⟩ := timesOk_of h
  have hs := hT.sides
  have hb := tab_bd hs.1.1 hM
  have hL : TabIn (timesL l (z - 1)) := tabF_tab hs.1 hs.2 fun i k hi hk => less_bd hz (hb i k hi hk).1 (hb i k hi hk).2
  have hin : inB (z - 1) (-30) 30 = true := by unfold inB; simp; omega
  have e : sumL (timesL l (z - 1)) l = timesL l z := by
    show tabF (timesL l (z - 1)).length ((timesL l (z - 1)).getD 0 []).length (fun i k => at2 (timesL l (z - 1)) i k + at2 l i k) = tabF l.length (l.getD 0 []).length fun i k => at2 l i k * z
    rw [timesL_length, timesL_width _ hs.1.1]
    refine tabF_congr fun i k hi hk => ?_
    rw [timesL_at hi hk, Int.mul_sub, Int.mul_one]
    omega
  refine ⟨?_, ?_, e⟩
  · unfold timesOk
    rw [tabIn_true hT, hin, tabIn_true hL]; rfl
  · unfold sumOk alikeB
    rw [e, tabIn_true hT, tabIn_true hL, tabIn_true hM, timesL_length, timesL_width _ hs.1.1]
    simp

end Go.Proofs.Ytpimdgijjljejaa
end

section
/- Sums both ways and turned. -/
namespace Go.Proofs.Ytpimdgijjljejaa
open Go.RowKit Go.Deep

theorem turnL_at {l : List (List Int)} {i k : Nat} (hi : i < l.length) (hk : k < (l.getD 0 []).length) : at2 (turnL l) k i = at2 l i k := tabF_at _ _ _ _ _ hk hi
theorem turnL_width {l : List (List Int)} (h : TabIn l) : ((turnL l).getD 0 []).length = l.length := tabF_len _ _ _ _ (by have := h.width; omega)
theorem turnL_tab {l : List (List Int)} (h : TabIn l) : TabIn (turnL l) := tabIn_of (tabIn_turn h)

theorem sumOk_of {l u : List (List Int)} (h : sumOk l u = true) : TabIn l ∧ TabIn u ∧ l.length = u.length ∧ (l.getD 0 []).length = (u.getD 0 []).length ∧ TabIn (sumL l u) := by
  unfold sumOk alikeB at h
  simp only [Bool.and_eq_true, beq_iff_eq] at h
  exact ⟨tabIn_of h.1, tabIn_of h.2.1, h.2.2.1.1, h.2.2.1.2, tabIn_of h.2.2.2⟩
theorem sumOk_mk {l u : List (List Int)} (h1 : TabIn l) (h2 : TabIn u) (h3 : l.length = u.length) (h4 : (l.getD 0 []).length = (u.getD 0 []).length) (h5 : TabIn (sumL l u)) : sumOk l u = true := by
  unfold sumOk alikeB
  rw [tabIn_true h1, tabIn_true h2, tabIn_true h5, h3, h4]
  simp

theorem sum_comm {l u : List (List Int)} (h : sumOk l u = true) : sumOk u l = true ∧ sumL u l = sumL l u := by
  obtain ⟨h1, h2, h3, h4, h5⟩ := sumOk_of h
  have e : sumL u l = sumL l u := by
    unfold sumL
    rw [← h3, ← h4]
    exact tabF_congr fun i k _ _ => Int.add_comm _ _
  exact ⟨sumOk_mk h2 h1 h3.symm h4.symm (by rw [e]; exact h5), e⟩

theorem sumL_at {l u : List (List Int)} {i k : Nat} (hi : i < l.length) (hk : k < (l.getD 0 []).length) : at2 (sumL l u) i k = at2 l i k + at2 u i k := tabF_at _ _ _ _ _ hi hk
theorem sumL_width {l : List (List Int)} (u : List (List Int)) (h : 1 ≤ l.length) : ((sumL l u).getD 0 []).length = (l.getD 0 []).length := tabF_len _ _ _ _ (by omega)

theorem sum_turn {l u : List (List Int)} (h : sumOk l u = true) : sumOk (turnL l) (turnL u) = true ∧ sumL (turnL l) (turnL u) = turnL (sumL l u) := by
  obtain ⟨h1, h2, h3, h4, h5⟩ := sumOk_of h
  have e : sumL (turnL l) (turnL u) = turnL (sumL l u) := by
    show tabF (turnL l).length ((turnL l).getD 0 []).length (fun i k => at2 (turnL l) i k + at2 (turnL u) i k) = tabF ((sumL l u).getD 0 []).length (sumL l u).length fun k i => at2 (sumL l u) i k
    rw [turnL_length, turnL_width h1, sumL_width u h1.1, sumL_length]
    refine tabF_congr fun k i hk hi => ?_
    rw [turnL_at hi hk, turnL_at (l := u) (by omega) (by omega), sumL_at hi hk]
  exact ⟨sumOk_mk (turnL_tab h1) (turnL_tab h2) (by rw [turnL_length, turnL_length, h4]) (by rw [turnL_width h1, turnL_width h2, h3]) (by rw [e]; exact turnL_tab h5), e⟩

end Go.Proofs.Ytpimdgijjljejaa
end

section
/- The contract of spec.PairMake. -/
namespace Go.Proofs.Ytpimdgijjljejaa
open Go.RowKit Go.Deep

/-- t, u and t turned, multiplied. -/
def pmL (l u : List (List Int)) : List (List Int) := makeL (makeL l u) (turnL l)
noncomputable def pmOk (l u : List (List Int)) : Bool := tabIn l && (pairB u && (((l.getD 0 []).length == u.length) && tabIn (pmL l u)))
theorem pmL_length (l u : List (List Int)) : (pmL l u).length = l.length := by unfold pmL; rw [makeL_length, makeL_length]

theorem mul_bdAB {a b A B : Int} (h1 : -A ≤ a) (h2 : a ≤ A) (h3 : -B ≤ b) (h4 : b ≤ B) : -(A * B) ≤ a * b ∧ a * b ≤ A * B := by
  have k1 : 0 ≤ (A - a) * (B + b) := Int.mul_nonneg (by omega) (by omega)
  have k2 : 0 ≤ (A + a) * (B - b) := Int.mul_nonneg (by omega) (by omega)
  have k3 : 0 ≤ (A - a) * (B - b) := Int.mul_nonneg (by omega) (by omega)
  have k4 : 0 ≤ (A + a) * (B + b) := Int.mul_nonneg (by omega) (by omega)
  simp only [Int.add_mul, Int.sub_mul, Int.mul_add, Int.mul_sub] at k1 k2 k3 k4
  omega

theorem makeP_at {l u : List (List Int)} {i k : Nat} (hi : i < l.length) (hk : k < (u.getD 0 []).length) : at2 (makeL l u) i k = sumN (dotF l u i k) u.length := tabF_at _ _ _ _ _ hi hk
theorem makeP_wid {l : List (List Int)} (u : List (List Int)) (h : 1 ≤ l.length) : ((makeL l u).getD 0 []).length = (u.getD 0 []).length := tabF_len _ _ _ _ (by omega)
theorem makeL_bd {l u : List (List Int)} (hT : TabIn l) (hTu : TabIn u) (hm : (l.getD 0 []).length = u.length) {i k : Nat} (hi : i < l.length) (hk : k < (u.getD 0 []).length) : -5400 ≤ at2 (makeL l u) i k ∧ at2 (makeL l u) i k ≤ 5400 := by
  rw [makeP_at hi hk]
  have := sumN_bd (dotF l u i k) u.length (fun j hj => by
    unfold dotF
    exact mul_bd2 _ _ (hT.at hi (by rw [hm]; exact hj)) (hTu.at hj hk))
  have := hTu.2.1
  omega
theorem rec_make {l u : List (List Int)} (hT : TabIn l) (hTu : TabIn u) : Rec (makeL l u) := by
  refine ⟨by rw [makeL_length]; exact hT.1, by rw [makeL_length]; exact hT.2.1, by rw [makeP_wid u hT.1]; exact hTu.width, fun {r} hr => ?_⟩
  rw [makeP_wid u hT.1]
  rw [makeL_length] at hr
  exact tabF_len _ _ _ _ hr
theorem szL_pm {l : List (List Int)} (u : List (List Int)) (hT : TabIn l) : szL (pmL l u) ≤ 1048576 := by
  refine szL_tabF _ _ _ (by rw [makeL_length]; have := hT.2.1; omega) (by rw [turnL_width hT]; have := hT.2.1; omega)

set_option maxRecDepth 100000 in
set_option maxHeartbeats 2000000 in
theorem specPairMake_any (a a2 : Option Addr) (cap cap2 n n2 : Nat) (l u : List (List Int)) (w : World) (hn : l.length = n) (hu : u.length = n2) (hsz : szL l ≤ 1048576) (hszu : szL u ≤ 1048576) (hm : MatR w a l) (hmu : MatR w a2 u) :
    Calls Try.prog 19 #[.slice a n cap, .slice a2 n2 cap2] w (SpecT w (pmOk l u) (pmL l u)) := by
  have E1 := specTableIn_any a cap n l w hn hsz hm
  have E2 := fun (W : World) (hs : w.Since w.heap.size W) => specPairIn_any a2 cap2 n2 u W hu hszu (hmu.since hs)
  cases hT : tabIn l with
  | false =>
    have hok : pmOk l u = false := by unfold pmOk; rw [hT]; rfl
    rw [hok]
    rw [hT] at E1
    replace E1 := Lib.hid E1
    replace E2 := Lib.hid E2
    clear hT hsz hm hn hok hszu hmu hu
    go_enter Try.func19, Try.ntmps19
    go_wp2_with fail
    refine (E1.out).mono ?_
    rintro e w1 ⟨rfl, hd⟩
    have hs1 := hd.since w.heap.size
    clear hd
    go_wp2_with fail
    refine (l1None_any _).mono ?_
    rintro e w3 ⟨rfl, hs3⟩
    go_wp2
    go_ret2
    exact ⟨_, _, rfl, hs1.trans (since_mono hs3 hs1.size), InT.nil _ _ _ _⟩
  | true =>
    cases hTu : pairB u with
    | false =>
      have hok : pmOk l u = false := by unfold pmOk; rw [hT, hTu]; rfl
      rw [hok]
      rw [hT] at E1
      rw [hTu] at E2
      replace E1 := Lib.hid E1
      replace E2 := Lib.hid E2
      clear hT hTu hsz hm hn hok hszu hmu hu
      go_enter Try.func19, Try.ntmps19
      go_wp2_with fail
      refine (E1.out).mono ?_
      rintro e w1 ⟨rfl, hd⟩
      have hs1 := hd.since w.heap.size
      clear hd
      go_wp2_with fail
      refine (E2.out w1 hs1).mono ?_
      rintro e w2 ⟨rfl, hd⟩
      have hs2 := hs1.trans (hd.since _)
      clear hd
      go_wp2_with fail
      refine (l1None_any _).mono ?_
      rintro e w3 ⟨rfl, hs3⟩
      go_wp2
      go_ret2
      exact ⟨_, _, rfl, hs2.trans (since_mono hs3 hs2.size), InT.nil _ _ _ _⟩
    | true =>
      have hTT := tabIn_of hT
      obtain ⟨hTTu, hwu, _⟩ := pairB_of hTu hu
      rw [hT] at E1
      rw [hTu] at E2
      have h1 := hTT.1
      have h6 := hTT.2.1
      have g6 := hTTu.2.1
      have hw := hTT.width
      rw [hn] at h1 h6
      rw [hu] at g6
      have hnm := hm
      obtain ⟨b1, o1, A1, C1, rfl, hc1⟩ := hm (by omega)
      have c1 := (hc1 0 (by omega)).1
      rw [Nat.add_zero] at c1
      obtain ⟨m, hmm⟩ : ∃ m, (l.getD 0 []).length = m := ⟨_, rfl⟩
      rw [hmm] at c1 hw
      replace E1 := Lib.hid E1
      replace E2 := Lib.hid E2
      by_cases hal : m = n2
      · subst hal
        have hok : pmOk l u = tabIn (pmL l u) := by unfold pmOk; rw [hT, hTu, hmm, hu]; simp
        rw [hok]
        have HE3 := Lib.hid (fun (W : World) (hs : w.Since w.heap.size W) => l1Make_any (some ⟨b1, o1, none⟩) a2 cap cap2 n m l u W hn hu (hnm.since hs) (hmu.since hs) hTT hTTu hmm)
        have HE4 := Lib.hid (fun (W : World) (hs : w.Since w.heap.size W) => l1Turn_any (some ⟨b1, o1, none⟩) cap n l W hn hTT (hnm.since hs))
        have hmw : ((makeL l u).getD 0 []).length = m := by rw [makeP_wid u hTT.1]; exact hwu
        have htl : (turnL l).length = m := (turnL_length l).trans hmm
        have hB : ∀ i j k, i < n → j < m → k < ((turnL l).getD 0 []).length → -1000000000000 ≤ at2 (makeL l u) i j * at2 (turnL l) j k ∧ at2 (makeL l u) i j * at2 (turnL l) j k ≤ 1000000000000 := fun i j k hi hj hk => by
          obtain ⟨p1, p2⟩ := makeL_bd hTT hTTu (by rw [hmm, hu]) (i := i) (k := j) (by omega) (by omega)
          have hT2 := turnL_tab hTT
          obtain ⟨q1, q2⟩ := hT2.at (i := j) (k := k) (by omega) hk
          have := mul_bdAB p1 p2 q1 q2
          omega
        have HE5 := Lib.hid (fun (a3 a4 : Option Addr) (c3 c4 : Nat) (W : World) (h3 : MatR W a3 (makeL l u)) (h4 : MatR W a4 (turnL l)) => l1MakeR_any a3 a4 c3 c4 n m (makeL l u) (turnL l) W ((makeL_length l u).trans hn) htl h3 h4 (rec_make hTT hTTu) (turnL_tab hTT).rec hmw hB)
        have HTL := Lib.hid ((pmL_length l u).trans hn)
        have hszl := szL_pm u hTT
        clear hT hTu hsz hm hn hok hszu hmu hu hc1 hTT hTTu hnm hmw htl hB hwu
        go_enter Try.func19, Try.ntmps19
        go_wp2_with fail
        refine (E1.out).mono ?_
        rintro e w1 ⟨rfl, hd⟩
        have hs1 := hd.since w.heap.size
        clear hd
        go_wp2_with fail
        refine (E2.out w1 hs1).mono ?_
        rintro e w2 ⟨rfl, hd⟩
        have hs2 := hs1.trans (hd.since _)
        clear hd
        have hcc := (hs2.cell (a := ⟨b1, o1, none⟩) (World.block_lt_of_cell? _ _ c1)).trans c1
        go_wp2_with fail
        refine (HE3.out w2 hs2).mono ?_
        rintro e w3 ⟨a3, cap3, rfl, hs3, ho3⟩
        have hz2 := hs2.size
        have hz3 := hs3.size
        have hs23 := hs2.trans (since_mono hs3 hz2)
        go_wp2_with fail
        refine (HE4.out w3 hs23).mono ?_
        rintro e w4 ⟨a4, cap4, rfl, hs4, ho4⟩
        have hz4 := hs4.size
        have hs24 := hs23.trans (since_mono hs4 hs23.size)
        rw [hmm]
        go_wp2_with fail
        refine (HE5.out a3 a4 cap3 cap4 w4 (ho3.matR.since hs4) ho4.matR).mono ?_
        rintro e w5 ⟨a5, cap5, rfl, hs5, ho5⟩
        have hz5 := hs5.size
        go_wp2_with fail
        refine (l1Done_any _ _ _ _ _ (pmL l u) w5 HTL.out hszl ho5.inT).mono ?_
        rintro e w6 ⟨a', cap', rfl, hs6, ho6⟩
        go_wp2
        go_ret2
        exact ⟨a', cap', rfl, (hs24.trans (since_mono hs5 hs24.size)).trans (since_mono hs6 (by omega)), ho6.mono (by omega) (by have := hs6.size; omega)⟩
      · have hb : ((m : Int) != (n2 : Int)) = true := by simp; omega
        have hok : pmOk l u = false := by unfold pmOk; rw [hT, hTu, hmm, hu]; simp [hal]
        rw [hok]
        clear hT hTu hsz hm hn hok hszu hmu hu hmm hc1 hTT hTTu hnm hal hwu
        go_enter Try.func19, Try.ntmps19
        go_wp2_with fail
        refine (E1.out).mono ?_
        rintro e w1 ⟨rfl, hd⟩
        have hs1 := hd.since w.heap.size
        clear hd
        go_wp2_with fail
        refine (E2.out w1 hs1).mono ?_
        rintro e w2 ⟨rfl, hd⟩
        have hs2 := hs1.trans (hd.since _)
        clear hd
        have hcc := (hs2.cell (a := ⟨b1, o1, none⟩) (World.block_lt_of_cell? _ _ c1)).trans c1
        go_wp2_with fail
        refine (l1None_any _).mono ?_
        rintro e w3 ⟨rfl, hs3⟩
        go_wp2
        go_ret2
        exact ⟨_, _, rfl, hs2.trans (since_mono hs3 hs2.size), InT.nil _ _ _ _⟩

theorem szL_pmOk (l u : List (List Int)) (h : pmOk l u = true) : szL (pmL l u) ≤ 1048576 := by
  unfold pmOk at h
  rw [Bool.and_eq_true, Bool.and_eq_true] at h
  exact szL_pm u (tabIn_of h.1)

end Go.Proofs.Ytpimdgijjljejaa
end

section
/- The contract of spec.TableSame. -/
namespace Go.Proofs.Ytpimdgijjljejaa
open Go.RowKit Go.Deep

/-- Two tables with the same entries are the same. -/
theorem same_ext {l u : List (List Int)} {n m : Nat} (hn : l.length = n) (hu : u.length = n) (hl : ∀ r, r < n → (l.getD r []).length = m) (hul : ∀ r, r < n → (u.getD r []).length = m) (h : ∀ r c, r < n → c < m → at2 l r c = at2 u r c) : l = u := by
  refine List.ext_getElem (by omega) fun r h1 h2 => ?_
  have e1 : l.getD r [] = l[r] := by simp [List.getD, h1]
  have e2 : u.getD r [] = u[r] := by simp [List.getD, h2]
  have l1 := hl r (by omega)
  have l2 := hul r (by omega)
  rw [e1] at l1
  rw [e2] at l2
  refine List.ext_getElem (by omega) fun c g1 g2 => ?_
  have := h r c (by omega) (by omega)
  unfold at2 at this
  rw [e1, e2] at this
  simpa [List.getD, g1, g2] using this

/-- The first r rows, and the first c numbers of row r, are the same. -/
def SameTo (l u : List (List Int)) (m r c : Nat) : Prop := (∀ i j, i < r → j < m → at2 l i j = at2 u i j) ∧ ∀ j, j < c → at2 l r j = at2 u r j
theorem SameTo.next {l u : List (List Int)} {m r : Nat} (h : SameTo l u m r m) : SameTo l u m (r + 1) 0 :=
  ⟨fun i j hi hj => by
    by_cases e : i = r
    · subst e; exact h.2 j hj
    · exact h.1 i j (by omega) hj, fun j hj => absurd hj (Nat.not_lt_zero _)⟩
theorem SameTo.step {l u : List (List Int)} {m r c : Nat} (h : SameTo l u m r c) (e : at2 l r c = at2 u r c) : SameTo l u m r (c + 1) :=
  ⟨h.1, fun j hj => by
    by_cases e' : j = c
    · subst e'; exact e
    · exact h.2 j (by omega)⟩

end Go.Proofs.Ytpimdgijjljejaa
end

section
/- The contracts of impl.signOf and of the methods isSquare and without. -/
namespace Go.Proofs.Ytpimdgijjljejaa
open Go.RowKit Go.Deep

theorem sn_tmod (k : Nat) (h : k < 64) : (Int.tmod (k : Int) 2 == 0) = !decide (k % 2 = 1) := by
  have h2 : ∀ k : Fin 64, (Int.tmod (k.val : Int) 2 == 0) = !decide (k.val % 2 = 1) := by decide +kernel
  exact h2 ⟨k, h⟩

set_option maxHeartbeats 400000 in
theorem signOf_any (k : Nat) (h : k < 64) (w : World) :
    Calls Try.prog 63 #[.int .i64 k] w fun e w' => e = .returned (.int .i64 (sn k)) ∧ w = w' := by
  have e := sn_tmod k h
  by_cases ho : k % 2 = 1
  · have e2 : sn k = -1 := if_pos ho
    rw [e2]
    have e3 : (Int.tmod (k : Int) 2 == 0) = false := by rw [e]; simp [ho]
    clear e h
    go_enter Try.func63, Try.ntmps63
    go_wp2
    go_ret
    exact ⟨rfl, rfl⟩
  · have e2 : sn k = 1 := if_neg ho
    rw [e2]
    have e3 : (Int.tmod (k : Int) 2 == 0) = true := by rw [e]; simp [ho]
    clear e h
    go_enter Try.func63, Try.ntmps63
    go_wp2
    go_ret
    exact ⟨rfl, rfl⟩

set_option maxHeartbeats 1000000 in
theorem isSquare_any (a : Option Addr) (cap n : Nat) (l : List (List Int)) (w : World) (hn : l.length = n) (hsz : szL l ≤ 1048576) (hm : MatR w a l) :
    Calls Try.prog 56 #[.slice a n cap] w fun e w' => e = .returned (.bool (sqB l)) ∧ w.Since w.heap.size w' := by
  have E := fits_any a cap n l w hn hsz hm
  cases hT : tabIn l with
  | false =>
    have hs : sqB l = false := by unfold sqB; rw [hT]; rfl
    rw [hs]
    rw [hT] at E
    replace E := Lib.hid E
    clear hs hT hn hsz hm
    go_enter Try.func56, Try.ntmps56
    go_wp2_with fail
    refine (E.out).mono ?_
    rintro e w1 ⟨rfl, hd⟩
    have HD := Lib.hid hd
    clear hd
    go_wp2
    go_ret
    exact ⟨rfl, HD.out⟩
  | true =>
    have hTT := tabIn_of hT
    have h1 := hTT.1
    have h6 := hTT.2.1
    rw [hn] at h1 h6
    obtain ⟨m, hmm⟩ : ∃ m, (l.getD 0 []).length = m := ⟨_, rfl⟩
    have hs : sqB l = (n == m) := by unfold sqB; rw [hT, hn, hmm]; rfl
    rw [hs]
    rw [hT] at E
    replace E := Lib.hid E
    have EW := fun (W : World) (h : w.Since w.heap.size W) => width_any a cap n l W hn (by omega) (by omega) (hm.since h)
    rw [hmm] at EW
    replace EW := Lib.hid EW
    clear hs hT hTT hn hsz hm hmm
    go_enter Try.func56, Try.ntmps56
    go_wp2_with fail
    refine (E.out).mono ?_
    rintro e w1 ⟨rfl, hd⟩
    have HD := Lib.hid hd
    clear hd
    go_wp2_with fail
    refine (EW.out w1 HD.out).mono ?_
    rintro e w2 ⟨rfl, rfl⟩
    have hb : ((n : Int) == (m : Int)) = (n == m) := by
      by_cases e : n = m
      · subst e; simp
      · rw [beq_eq_false_iff_ne.2 e, beq_eq_false_iff_ne.2 (by omega)]
    go_wp2
    go_ret
    refine ⟨?_, HD.out⟩
    rw [← hb]
    rfl

set_option maxHeartbeats 2000000 in
/-- A table without row r and column k. -/
theorem without_any (a : Option Addr) (cap n r k : Nat) (l : List (List Int)) (w : World) (hn : l.length = n) (hT : TabIn l) (hw : (l.getD 0 []).length = n) (hr : r < n) (hk : k < n) (hm : MatR w a l) :
    Calls Try.prog 94 #[.slice a n cap, .int .i64 r, .int .i64 k] w fun e w' => ∃ a' cap', e = .returned (.slice a' (partL l (2 ^ n - 1 - 2 ^ r) (2 ^ n - 1 - 2 ^ k)).length cap') ∧ w.Since w.heap.size w' ∧ OwnT w.heap.size w'.heap.size w' a' (partL l (2 ^ n - 1 - 2 ^ r) (2 ^ n - 1 - 2 ^ k)) := by
  have h6 := hT.2.1
  rw [hn] at h6
  have E1 := fun (W : World) => allRows_any a cap n W h6
  have E2 := fun (W : World) (h : w.Since w.heap.size W) => width_any a cap n l W hn (by omega) (by omega) (hm.since h)
  rw [hw] at E2
  have E3 := fun (W : World) => fullSet_any n h6 W
  have e1 := andNot_fin ⟨n, by omega⟩ ⟨r, by omega⟩ hr
  have e2 := andNot_fin ⟨n, by omega⟩ ⟨k, by omega⟩ hk
  have e3 := pow63 ⟨n, by omega⟩
  have w1 := pow_in ⟨r, by omega⟩
  have w2 := pow_in ⟨k, by omega⟩
  simp only at e1 e2 e3 w1 w2
  have hm1 : min r 64 = r := by omega
  have hm2 : min k 64 = k := by omega
  have E4 := fun (W : World) (h : w.Since w.heap.size W) => part_any a cap n (2 ^ n - 1 - 2 ^ r) (2 ^ n - 1 - 2 ^ k) l W hn hT (Nat.le_trans (Nat.sub_le _ _) e3) (Nat.le_trans (Nat.sub_le _ _) e3) (hm.since h)
  obtain ⟨s, hs⟩ : ∃ s, s = 2 ^ n - 1 - 2 ^ r := ⟨_, rfl⟩
  obtain ⟨c, hc⟩ : ∃ s, s = 2 ^ n - 1 - 2 ^ k := ⟨_, rfl⟩
  obtain ⟨Aa, hA⟩ : ∃ s, s = 2 ^ n - 1 := ⟨_, rfl⟩
  rw [← hs, ← hA] at e1
  rw [← hc, ← hA] at e2
  simp only [← hs, ← hc] at E4 ⊢
  simp only [← hA] at E1 E3
  have H1 := Lib.hid E1
  have H2 := Lib.hid E2
  have H3 := Lib.hid E3
  have H4 := Lib.hid E4
  clear E1 E2 E3 E4 hs hc hA hT hm hn hw e3
  go_enter Try.func94, Try.ntmps94
  go_wp2
  go_region_held3 (fun _ => True) (exact trivial)
    (first
      | (go_at_call 62; refine (H1.out _).mono ?_; rintro e w3 ⟨rfl, rfl⟩)
      | (go_at_call 45; refine (H2.out _ ?_).mono ?_; (exact (World.Since.refl _ _).drew); rintro e w3 ⟨rfl, rfl⟩)
      | (go_at_call 76; refine (H3.out _).mono ?_; rintro e w3 ⟨rfl, rfl⟩)
      | (go_at_call 64; refine (H4.out _ ?_).mono ?_; (exact (World.Since.refl _ _).drew); rintro e w3 ⟨a', cap', rfl, hs2, ho⟩))
  all_goals
    go_wp2
    go_ret
    exact ⟨a', cap', rfl, since_of_drew hs2, ho⟩

end Go.Proofs.Ytpimdgijjljejaa
end

section
/- The contracts of isTurnedAbout and of impl.PairIn. -/
namespace Go.Proofs.Ytpimdgijjljejaa
open Go.RowKit Go.Deep

theorem neg_tab {l : List (List Int)} (hT : TabIn l) : TabIn (timesL l (-1)) := by
  refine tabIn_tabF hT.1 hT.2.1 hT.width.1 hT.width.2 (fun i k hi hk => ?_)
  have := hT.at hi hk
  omega
theorem about_same {l : List (List Int)} {n : Nat} (hT : TabIn l) (hn : l.length = n) (hw : (l.getD 0 []).length = n) : (decide (l = timesL (turnL l) (-1))) = decide (AboutP l n) := by
  have hat : ∀ i k, i < n → k < n → at2 (timesL (turnL l) (-1)) i k = -at2 l k i := fun i k hi hk => by
    rw [timesL_at (by rw [turnL_length]; omega) (by rw [turnL_width hT]; omega), turnL_at (by omega) (by omega)]
    omega
  by_cases h : AboutP l n
  · rw [decide_eq_true h]
    refine decide_eq_true ?_
    have hTt := tabIn_of (tabIn_turn hT)
    have hlt : (turnL l).length = n := (turnL_length l).trans hw
    have hN := neg_tab hTt
    have hlN : (timesL (turnL l) (-1)).length = n := (timesL_length _ _).trans hlt
    have hwN : ((timesL (turnL l) (-1)).getD 0 []).length = n := by rw [timesL_width _ (by have := hT.1; omega), turnL_width hT]; exact hn
    refine same_ext (n := n) (m := n) hn hlN (fun r hr => by rw [hT.row (by omega), hw]) (fun r hr => by rw [hN.row (by omega), hwN]) fun i k hi hk => ?_
    rw [hat i k hi hk]
    by_cases e : k ≤ i
    · have := h i hi k (by omega); omega
    · have := h k hk i (by omega); omega
  · rw [decide_eq_false h]
    refine decide_eq_false fun e => h fun i hi k hk => ?_
    have this : at2 l i k = at2 (timesL (turnL l) (-1)) i k := congrArg (fun m => at2 m i k) e
    rw [hat i k hi (by omega)] at this
    omega

set_option maxRecDepth 100000 in
set_option maxHeartbeats 1000000 in
theorem turnedAbout_any (a : Option Addr) (cap n : Nat) (l : List (List Int)) (w : World) (hn : l.length = n) (hsz : szL l ≤ 1048576) (hm : MatR w a l) :
    Calls Try.prog 31 #[.slice a n cap] w fun e w' => e = .returned (.bool (pairB l)) ∧ w.Since w.heap.size w' := by
  have E := isSquare_any a cap n l w hn hsz hm
  cases hs : sqB l with
  | false =>
    have hok : pairB l = false := by unfold pairB; rw [hs]; rfl
    rw [hs] at E
    rw [hok]
    replace E := Lib.hid E
    clear hs hm hn hsz hok
    go_enter Try.func31, Try.ntmps31
    go_wp2_with (first
      | (go_at_call 56; refine (E.out).mono ?_; rintro e w1 ⟨rfl, hd⟩; have HD := Lib.hid hd; clear hd))
    go_ret
    exact ⟨rfl, HD.out⟩
  | true =>
    obtain ⟨hT, hw⟩ := sqB_of hs
    rw [hn] at hw
    have hok : pairB l = decide (l = timesL (turnL l) (-1)) := by rw [about_same hT hn hw.symm]; unfold pairB; rw [hs, hn]; rfl
    rw [hs] at E
    rw [hok]
    have hTt := tabIn_of (tabIn_turn hT)
    have hlt : (turnL l).length = n := (turnL_length l).trans hw.symm
    have ET := fun (W : World) (hd : w.Since w.heap.size W) => turned_any a cap n l W hn hT (hm.since hd)
    simp only [← hw] at ET
    have EM := fun (b : Option Addr) (W : World) (hd : MatR W b (turnL l)) => times_any b n n (turnL l) (-1) W hlt hTt hd (by omega) (by omega)
    have ES := fun (b : Option Addr) (W : World) (hd : w.Since w.heap.size W) (hb : MatR W b (timesL (turnL l) (-1))) => same_any a b cap n n n l (timesL (turnL l) (-1)) W hn ((timesL_length _ _).trans hlt) (hm.since hd) hb hT (neg_tab hTt)
    obtain ⟨r, hr⟩ : ∃ r, decide (l = timesL (turnL l) (-1)) = r := ⟨_, rfl⟩
    simp only [hr] at ES
    rw [hr]
    replace E := Lib.hid E
    replace ET := Lib.hid ET
    replace EM := Lib.hid EM
    replace ES := Lib.hid ES
    clear hs hm hn hsz hok hT hw hTt hlt hr
    go_enter Try.func31, Try.ntmps31
    go_wp2_with (first
      | (go_at_call 56; refine (E.out).mono ?_; rintro e w1 ⟨rfl, hd⟩; have HD := Lib.hid hd; clear hd)
      | (go_at_call 47; refine (ET.out w1 HD.out).mono ?_; rintro e w2 ⟨rfl, hs2, ho2⟩; have HS2 := Lib.hid (HD.out.trans (since_mono hs2 HD.out.size)); have HO2 := Lib.hid ho2.matR; clear hs2 ho2)
      | (go_at_call 58; refine (EM.out _ w2 HO2.out).mono ?_; rintro e w3 ⟨rfl, hs3, ho3⟩; have HS3 := Lib.hid (HS2.out.trans (since_mono hs3 HS2.out.size)); have HO3 := Lib.hid ho3.matR; clear hs3 ho3)
      | (go_at_call 57; refine (ES.out _ w3 HS3.out HO3.out).mono ?_; rintro e w4 ⟨rfl, hs4⟩; have HS4 := Lib.hid (HS3.out.trans (since_mono hs4 HS3.out.size)); clear hs4))
    go_ret
    exact ⟨rfl, HS4.out⟩

theorem implPairIn_any (a : Option Addr) (cap n : Nat) (l : List (List Int)) (w : World) (hn : l.length = n) (hsz : szL l ≤ 1048576) (hm : MatR w a l) :
    Calls Try.prog 10 #[.slice a n cap] w fun e w' => e = .returned (.bool (pairB l)) ∧ w.Since w.heap.size w' := by
  have E := Lib.hid (turnedAbout_any a cap n l w hn hsz hm)
  clear hm hn hsz
  go_enter Try.func10, Try.ntmps10
  go_wp2_with fail
  refine (E.out).mono ?_
  rintro e w1 ⟨rfl, hd⟩
  have HD := Lib.hid hd
  clear hd
  go_wp2
  go_ret
  exact ⟨rfl, HD.out⟩

end Go.Proofs.Ytpimdgijjljejaa
end

section
/- The contract of impl.PairMake. -/
namespace Go.Proofs.Ytpimdgijjljejaa
open Go.RowKit Go.Deep

set_option maxHeartbeats 1000000 in
theorem implPairMake_any (a a2 : Option Addr) (cap cap2 n n2 : Nat) (l u : List (List Int)) (w : World) (hn : l.length = n) (hu : u.length = n2) (hsz : szL l ≤ 1048576) (hszu : szL u ≤ 1048576) (hm : MatR w a l) (hmu : MatR w a2 u) :
    Calls Try.prog 20 #[.slice a n cap, .slice a2 n2 cap2] w (ImplT w (pmOk l u) (pmL l u)) := by
  have E := Lib.hid (implTableIn_any a cap n l w hn hsz hm)
  have E2 := Lib.hid (fun (W : World) (hs : w.Since w.heap.size W) => implPairIn_any a2 cap2 n2 u W hu hszu (hmu.since hs))
  cases hT : tabIn l with
  | false =>
    have hok : pmOk l u = false := by unfold pmOk; rw [hT]; rfl
    rw [hT] at E
    rw [hok]
    clear hT hsz hm hn hok E2 hszu hmu hu
    go_enter Try.func20, Try.ntmps20
    go_wp2_with fail
    refine (E.out).mono ?_
    rintro e w1 ⟨rfl, hs⟩
    go_wp2
    go_ret2
    exact ⟨_, _, rfl, hs, OwnT.nil _ _ _ _⟩
  | true =>
    have hTT := tabIn_of hT
    rw [hT] at E
    cases hTu : pairB u with
    | false =>
      have hok : pmOk l u = false := by unfold pmOk; rw [hT, hTu]; rfl
      rw [hTu] at E2
      rw [hok]
      clear hT hsz hm hn hok hTT hTu hszu hmu hu
      go_enter Try.func20, Try.ntmps20
      go_wp2_with fail
      refine (E.out).mono ?_
      rintro e w1 ⟨rfl, hs⟩
      go_wp2_with fail
      refine (E2.out w1 hs).mono ?_
      rintro e w2 ⟨rfl, hs2⟩
      go_wp2
      go_ret2
      exact ⟨_, _, rfl, hs.trans (since_mono hs2 hs.size), OwnT.nil _ _ _ _⟩
    | true =>
      obtain ⟨hTTu, hwu, _⟩ := pairB_of hTu hu
      rw [hTu] at E2
      have h6 := hTT.2.1
      have h1 := hTT.1
      have g6 := hTTu.2.1
      rw [hn] at h6 h1
      rw [hu] at g6
      have E3 := Lib.hid (fun (W : World) (hs : w.Since w.heap.size W) => width_any a cap n l W hn (by omega) (by omega) (hm.since hs))
      have hw := hTT.width
      obtain ⟨m, hmm⟩ : ∃ m, (l.getD 0 []).length = m := ⟨_, rfl⟩
      rw [hmm] at E3 hw
      by_cases hal : m = n2
      · subst hal
        have hok : pmOk l u = tabIn (pmL l u) := by unfold pmOk; rw [hT, hTu, hmm, hu]; simp
        have hmw : ((makeL l u).getD 0 []).length = m := by rw [makeP_wid u hTT.1]; exact hwu
        have htl : (turnL l).length = m := (turnL_length l).trans hmm
        have hT2 := turnL_tab hTT
        have hB : ∀ i j k, i < n → j < m → k < ((turnL l).getD 0 []).length → -1000000000000 ≤ at2 (makeL l u) i j * at2 (turnL l) j k ∧ at2 (makeL l u) i j * at2 (turnL l) j k ≤ 1000000000000 := fun i j k hi hj hk => by
          obtain ⟨p1, p2⟩ := makeL_bd hTT hTTu (by rw [hmm, hu]) (i := i) (k := j) (by omega) (by omega)
          obtain ⟨q1, q2⟩ := hT2.at (i := j) (k := k) (by omega) hk
          have := mul_bdAB p1 p2 q1 q2
          omega
        have HE3 := Lib.hid (fun (W : World) (hs : w.Since w.heap.size W) => product_any a cap n l a2 cap2 m u W hn hTT (hm.since hs) hu hTTu hmm (hmu.since hs))
        have HE4 := fun (W : World) (hs : w.Since w.heap.size W) => turned_any a cap n l W hn hTT (hm.since hs)
        simp only [hmm] at HE4
        replace HE4 := Lib.hid HE4
        have HE5 := Lib.hid (fun (a3 a4 : Option Addr) (W : World) (h3 : MatR W a3 (makeL l u)) (h4 : MatR W a4 (turnL l)) => productT_any a3 n n (makeL l u) a4 m m (turnL l) W ((makeL_length l u).trans hn) (rec_make hTT hTTu) h3 htl hT2.rec hmw h4 hB)
        have HTL := Lib.hid ((pmL_length l u).trans hn)
        have hszl := szL_pm u hTT
        rw [hok]
        clear hT hsz hm hn hok hTT hTu hszu hmu hu hTTu hmm hmw htl hT2 hB hwu
        go_enter Try.func20, Try.ntmps20
        go_wp2_with fail
        refine (E.out).mono ?_
        rintro e w1 ⟨rfl, hs⟩
        go_wp2_with fail
        refine (E2.out w1 hs).mono ?_
        rintro e w2 ⟨rfl, hs2⟩
        have hs12 := hs.trans (since_mono hs2 hs.size)
        clear hs2
        go_wp2_with fail
        refine (E3.out w2 hs12).mono ?_
        rintro e w3 ⟨rfl, rfl⟩
        go_wp2_with fail
        refine (HE3.out w2 hs12).mono ?_
        rintro e w3 ⟨rfl, hs3, ho3⟩
        have hs13 : w.Since w.heap.size w3 := hs12.trans (since_mono hs3 hs12.size)
        have HZ3 := Lib.hid hs3.size
        clear hs3
        go_wp2_with fail
        refine (HE4.out w3 hs13).mono ?_
        rintro e w4 ⟨rfl, hs4, ho4⟩
        have hs14 : w.Since w.heap.size w4 := hs13.trans (since_mono hs4 hs13.size)
        have HO3 := Lib.hid (ho3.matR.since hs4)
        have HO4 := Lib.hid ho4.matR
        clear hs4 ho3 ho4
        go_wp2_with fail
        refine (HE5.out _ _ w4 HO3.out HO4.out).mono ?_
        rintro e w5 ⟨rfl, hs5, ho5⟩
        have hs15 : w.Since w.heap.size w5 := hs14.trans (since_mono hs5 hs14.size)
        have hz := hs14.size
        clear hs5
        go_wp2_with fail
        refine (result_any _ _ _ _ _ (pmL l u) w5 HTL.out hszl ho5).mono ?_
        rintro e w6 ⟨a', cap', rfl, hs6, ho6⟩
        go_wp2
        go_ret2
        exact ⟨a', cap', rfl, hs15.trans (since_mono hs6 hs15.size), ho6.mono hz hs6.size⟩
      · have hb : ((m : Int) != (n2 : Int)) = true := by simp; omega
        have hok : pmOk l u = false := by unfold pmOk; rw [hT, hTu, hmm, hu]; simp [hal]
        rw [hok]
        clear hT hsz hm hn hok hTT hTu hszu hmu hu hTTu hmm hal
        go_enter Try.func20, Try.ntmps20
        go_wp2_with fail
        refine (E.out).mono ?_
        rintro e w1 ⟨rfl, hs⟩
        go_wp2_with fail
        refine (E2.out w1 hs).mono ?_
        rintro e w2 ⟨rfl, hs2⟩
        have hs12 := hs.trans (since_mono hs2 hs.size)
        go_wp2_with fail
        refine (E3.out w2 hs12).mono ?_
        rintro e w3 ⟨rfl, rfl⟩
        go_wp2
        go_ret2
        exact ⟨_, _, rfl, hs12, OwnT.nil _ _ _ _⟩

end Go.Proofs.Ytpimdgijjljejaa
end

section
/- The walk of laws.FnExactTableSum, over the contracts of spec.TableSum and impl.TableSum. -/
namespace Go.Proofs.Ytpimdgijjljejaa
open Go.RowKit Go.Deep

end Go.Proofs.Ytpimdgijjljejaa
end

section
/- The walk of laws.FnExactTableSum at any two tables. -/
namespace Go.Proofs.Ytpimdgijjljejaa
open Go.RowKit Go.Deep

theorem szL_res (ok : Bool) (l : List (List Int)) (h : ok = true → szL l ≤ 1048576) : szL (resT ok l) ≤ 1048576 := by
  cases ok
  · simp [resT, szL, sumTo]
  · exact h rfl

end Go.Proofs.Ytpimdgijjljejaa
end

section
/- The walk of laws.FnExactPairMake at any two lists. -/
namespace Go.Proofs.Ytpimdgijjljejaa
open Go.RowKit Go.Deep

theorem lawPairMake (a : Option Addr) (cap n : Nat) (l : List (List Int)) (a2 : Option Addr) (cap2 n2 : Nat) (u : List (List Int)) (w : World)
    (hn : l.length = n) (h63 : n ≤ 9223372036854775807) (hl : ∀ r, r < l.length → (l.getD r []).length ≤ 9223372036854775807) (hm : MatR w a l)
    (hn2 : u.length = n2) (h632 : n2 ≤ 9223372036854775807) (hl2 : ∀ r, r < u.length → (u.getD r []).length ≤ 9223372036854775807) (hm2 : MatR w a2 u) :
    Calls Try.prog 6 #[.slice a n cap, .slice a2 n2 cap2] w fun e w' => e = .returned (.bool true) ∧ w.Since w.heap.size w' :=
  lawPairMake_aux a cap n l a2 cap2 n2 u (pmOk l u) (resT (pmOk l u) (pmL l u)) w hn h63 hl hm hn2 h632 hl2 hm2 (szL_res _ _ fun h => szL_pmOk l u h)
    (fun hz W b c b2 c2 hb hb2 => specPairMake_any b b2 c c2 n n2 l u W hn hn2 hz.1 hz.2 hb hb2) (fun hz W b c b2 c2 hb hb2 => implPairMake_any b b2 c c2 n n2 l u W hn hn2 hz.1 hz.2 hb hb2)

end Go.Proofs.Ytpimdgijjljejaa
end

section
/- What an argument reads as, in the words of the walks; the last step of a row. -/
namespace Go.Proofs.Ytpimdgijjljejaa
open Go.ChangeShapes Go.WideShapes Go.ChangeAt Go.RowKit Go.Deep

theorem below_since' {B : Nat} {w w' : World} (h : Below B w w') : w.Since B w' := ⟨h.os, h.tape, h.output, h.size, h.block⟩
theorem since_below' {B : Nat} {w w' : World} (h : w.Since B w') : Below B w w' := ⟨h.os, h.tape, h.output, h.size, h.block⟩

section
variable {H : Type} {enc : TypeId × Value → H} {P : Program}
theorem post_of_below {f : Func} {s : ChangeSpec} {apart fresh handsOn again : Bool} {W W' : World} {args : Array Value} {v : Value} {ds gs : List (DataW H)} {before pa pv : List MemPlace}
    (hW : DataW.Whole enc P f.params.toList s.vars apart W args.toList ds gs before)
    (hres : ∀ (b : Nat) (sp : Nat → Bool) (hd : Bool), DataW.TrodAll enc P W' b sp hd f.resultTypes.toList (v.resultList f.resultTypes.size) (s.fn H (ds ++ gs)).results [])
    (hargs : ∀ sp : Nat → Bool, (∀ p ∈ before, sp p.block = true) → DataW.TrodAll enc P W' 0 sp true f.params.toList args.toList (s.fn H (ds ++ gs)).args pa)
    (hvars : ∀ sp : Nat → Bool, (∀ p ∈ before, sp p.block = true) → DataW.TrodVars enc P W' sp s.vars (s.fn H (ds ++ gs)).vars pv)
    (hps : before = pa ++ pv) (hb : Below W.heap.size W W') (hag : again = false) :
    s.post enc P f apart fresh handsOn again W args v W' := by
  have hlt : ∀ p ∈ before, p.block < W.heap.size := fun p hp => hW.lt p hp
  have hold : ∀ p ∈ before, (fun b => decide (b < W.heap.size)) p.block = true := fun p hp => by simpa using hlt p hp
  refine ⟨ds, gs, before, [], pa, pv, hW, hres _ _ _, hargs _ hold, hvars _ hold, World.keptBut_mono (fun p hp => ⟨hp, ?_⟩) (hb.frame (· ∈ before)), fun h => ?_⟩
  · rw [hps, List.mem_append] at hp
    exact Or.inr hp
  · rw [hag] at h; cases h

/-- An argument of slices of integers reads as a list of lists. -/
theorem open_mat {W : World} {t e q : TypeId} {a : Option Addr} {n cap : Nat} {d : DataW H} {p : List MemPlace} (ht : P.underlying t = some (.slice e)) (he : P.underlying e = some (.slice q)) (hq : P.underlying q = some (.int .i64))
    (ce : P.cellsOf e = 1) (cq : P.cellsOf q = 1) (h : DataW.Trod enc P W 0 (fun _ => true) true t (.slice a n cap) d p) :
    ∃ l : List (List Int), l.length = n ∧ MatR W a l ∧ n ≤ 9223372036854775807 ∧ ∀ r, r < l.length → (l.getD r []).length ≤ 9223372036854775807 := by
  obtain ⟨fuel, hf⟩ := h
  rcases open_int_rows ht he hq ce cq hf with ⟨hcs, _⟩ | ⟨a', len', cap', A, L, C, Z, hcs, _, hl, hm, _, hrows⟩
  · simp [Value.cells] at hcs
    obtain ⟨rfl, rfl, rfl⟩ := hcs
    exact ⟨[], rfl, (fun h => by simp at h), by omega, fun r hr => by simp at hr⟩
  · simp [Value.cells] at hcs
    obtain ⟨rfl, rfl, rfl⟩ := hcs
    have hmx : maxLen = 9223372036854775807 := rfl
    have hlen : ∀ r, r < n → ((Z r).take (L r)).length = L r := fun r hr => by
      obtain ⟨_, h1, _, h2, _⟩ := hrows r (by omega)
      rw [List.length_take]; omega
    have hget : ∀ r, r < n → ((List.range n).map fun r => (Z r).take (L r)).getD r [] = (Z r).take (L r) := fun r hr => by simp [List.getD, hr]
    refine ⟨(List.range n).map fun r => (Z r).take (L r), by simp, fun h => ?_, by omega, fun r hr => ?_⟩
    · obtain ⟨b, o, spot⟩ := a'
      simp at h
      have hspot : spot = none := by simpa [Addr.add] using World.cell?_spot (hrows 0 (by omega)).1
      subst hspot
      refine ⟨b, o, A, C, rfl, fun r hr => ?_⟩
      simp at hr
      rw [hget r hr, hlen r hr]
      obtain ⟨g1, g2, g3, g4, g5, g6, g7⟩ := hrows r (by omega)
      refine ⟨by rw [← add_plain]; exact g1, fun h0 => ?_⟩
      rw [hlen r hr] at h0
      cases hA : A r with
      | none => have := g6 hA; omega
      | some a'' =>
        obtain ⟨_, hcell⟩ := g7 a'' hA
        obtain ⟨b', o', sp⟩ := a''
        have hs : sp = none := by simpa [Addr.add] using World.cell?_spot (hcell 0 (by omega))
        subst hs
        refine ⟨b', o', rfl, fun i hi => ?_⟩
        rw [hlen r hr] at hi
        rw [← add_plain, hcell i (by omega)]
        congr 2
        simp [List.getD, hi]
    · simp at hr
      rw [hget r hr, hlen r hr]
      obtain ⟨_, h1, h2, _⟩ := hrows r (by omega)
      omega
end

theorem Try.own : ownKnob Try.prog.godebug = none := by kernel_rfl
theorem Try.laidOut : laidOutB Try.prog = true := by kernel_rfl
theorem Try.cellsR : Try.prog.cellsOf 43 = 1 := by kernel_rfl
theorem Try.cellsI : Try.prog.cellsOf 3 = 1 := by kernel_rfl

end Go.Proofs.Ytpimdgijjljejaa
end

section
/- The statement FnExactPairMake, proved: for every input the law returns true and each argument reads as before. No conditions. -/
namespace Go.Proofs.Ytpimdgijjljejaa
open Go.ChangeShapes Go.WideShapes Go.ChangeAt Go.RowKit Go.Deep

set_option maxRecDepth 100000 in
theorem lifted_PairMake (os : Os) (started : os.Started) (H : Type) (enc : TypeId × Value → H) :
    ReturnsInHanded {} Try.checked os 6 .any (Rows.fnExactPairMakeSpec.pre6 enc Try.prog Try.f6 Rows.fnExactPairMakeRow.domain false) (Rows.fnExactPairMakeSpec.post enc Try.prog Try.f6 false true false false) := by
  refine returnsInHanded_of_change (C := Try.checked) Try.own started (by kernel_rfl) Try.func6
    (ChangeSpec.witness6 (enc := enc) (C := Try.checked) false ⟨#[], #[.slice none 0 0, .slice none 0 0], []⟩ 8 (by kernel_rfl) (by kernel_rfl) (by kernel_rfl) (by kernel_rfl)) ?_
  intro W base args ds gs before hval0 hW _ _
  have hval : ∀ (j : Nat) t v, Try.f6.params[j]? = some t → args[j]? = some v → Value.okWide Try.prog W .any base t v := hval0
  have hW' := hW
  obtain ⟨p, q, hA0, hV, rfl, hfz, hnd⟩ := hW
  have hA : DataW.TrodAll enc Try.prog W 0 (fun _ => true) true Try.f6.params.toList args.toList ds p := hA0
  rw [Try.params6] at hA hval
  obtain ⟨v0, v1, d0, d1, p0, p1, rfl, rfl, rfl, h0, h1⟩ := trodAll_two hA
  obtain ⟨rfl, rfl⟩ := trodVars_none hV
  obtain ⟨a0, n0, cap0, rfl⟩ := okWide_slice Try.underlying23 (hval 0 23 v0 rfl rfl)
  obtain ⟨l0, hl0, hm0, h630, hls0⟩ := open_mat Try.underlying23 Try.underlying43 Try.underlying3 Try.cellsR Try.cellsI h0
  obtain ⟨a1, n1, cap1, rfl⟩ := okWide_slice Try.underlying23 (hval 1 23 v1 rfl rfl)
  obtain ⟨l1, hl1, hm1, h631, hls1⟩ := open_mat Try.underlying23 Try.underlying43 Try.underlying3 Try.cellsR Try.cellsI h1
  clear hA0 hval0
  simp only [List.append_nil] at hW'
  have hlt0 : ∀ x ∈ p0, x.block < W.heap.size := fun x hx => hW'.lt x (by simp [hx])
  have hlt1 : ∀ x ∈ p1, x.block < W.heap.size := fun x hx => hW'.lt x (by simp [hx])
  refine (lawPairMake a0 cap0 n0 l0 a1 cap1 n1 l1 W hl0 h630 hls0 hm0 hl1 h631 hls1 hm1).mono fun e W' ⟨he, hs⟩ => ?_
  subst he
  have hb := since_below' hs
  have ht0 : ∀ sp : Nat → Bool, (∀ x ∈ p0, sp x.block = true) → DataW.Trod enc Try.prog W' 0 sp true 23 (.slice a0 n0 cap0) d0 p0 := fun sp hsp =>
    WideElems.Trod_stays Try.laidOut (by kernel_rfl) (of_decide_eq_true (by kernel_rfl)) h0 (fun x hx => hb.same (hlt0 x hx)) hsp
  have ht1 : ∀ sp : Nat → Bool, (∀ x ∈ p1, sp x.block = true) → DataW.Trod enc Try.prog W' 0 sp true 23 (.slice a1 n1 cap1) d1 p1 := fun sp hsp =>
    WideElems.Trod_stays Try.laidOut (by kernel_rfl) (of_decide_eq_true (by kernel_rfl)) h1 (fun x hx => hb.same (hlt1 x hx)) hsp
  have hargs : ∀ sp : Nat → Bool, (∀ x ∈ (p0 ++ p1), sp x.block = true) → DataW.TrodAll enc Try.prog W' 0 sp true [23, 23] [.slice a0 n0 cap0, .slice a1 n1 cap1] [d0, d1] (p0 ++ p1) := fun sp hsp => by
    have := trodAll_mk2 (enc := enc) (P := Try.prog) (w := W') (base := 0) (spare := sp) (held := true) (ht0 sp (fun x hx => hsp x (by simp [hx]))) (ht1 sp (fun x hx => hsp x (by simp [hx])))
    simpa using this
  exact ⟨_, rfl, post_of_below (pa := p0 ++ p1) (pv := []) hW' (fun _ _ _ => trodAll_mk1 (shut_bool Try.underlying4 true)) (fun sp hsp => hargs sp (fun x hx => hsp x (by simpa using hx))) (fun _ _ => rfl) (by simp) hb rfl⟩

theorem FnExactPairMake_holds : Rows.FnExactPairMakeSaid :=
  OpenClaim.holds_of_wide 6 Try.f6 rfl rfl rfl rfl rfl rfl rfl ⟨rfl, rfl, rfl, rfl, rfl⟩ rfl rfl rfl rfl rfl (by kernel_rfl) Try.func6 (by kernel_rfl)
    (of_decide_eq_true (by kernel_rfl)) (by unfold Func.isWrapper; first | (rw [if_pos (by decide +kernel)]; kernel_rfl) | (rw [if_neg (by decide +kernel)]; exact ⟨rfl, rfl⟩))
    (fun os started H enc _ => lifted_PairMake os started H enc)

end Go.Proofs.Ytpimdgijjljejaa
end

import Derived.Test.YtpimdgijjljejaaUnitSpec
import Derived.Test.YtpimdgijjljejaaSameDef
import Derived.Test.YtpimdgijjljejaaSome0
import Derived.Test.YtpimdgijjljejaaHarn2
import Derived.Test.YtpimdgijjljejaaPartImpl
import Derived.Test.YtpimdgijjljejaaSwapped
import Derived.Test.YtpimdgijjljejaaAddImpl
import Derived.Test.YtpimdgijjljejaaAddSpec
import Derived.Test.YtpimdgijjljejaaTimesSpec
import Derived.Test.YtpimdgijjljejaaSumSpec
import Derived.Test.YtpimdgijjljejaaRowsV
import Derived.Test.YtpimdgijjljejaaDet
import Derived.Test.YtpimdgijjljejaaPairV
import Derived.Test.YtpimdgijjljejaaSameImpl
import Derived.Test.YtpimdgijjljejaaTimesImpl
import Derived.Test.YtpimdgijjljejaaTurnImpl
import Derived.Test.YtpimdgijjljejaaPairR
import Derived.Deep.QuietTactic
import Derived.BigQuiet
import Derived.Deep.RegionHeld3
import Derived.Test.YtpimdgijjljejaaRows
import Derived.Test.YtpimdgijjljejaaData
import Derived.ProofKit
import Derived.Deep.Matrix

section
/- The walk of laws.FnExactPairRows, over the contracts of spec.PairRows and impl.PairRows. -/
namespace Go.Proofs.Ytpimdgijjljejaa
open Go.RowKit Go.Deep

set_option maxRecDepth 100000 in
set_option maxHeartbeats 1000000 in
theorem lawPairRows_aux (a0 : Option Addr) (cap0 n0 : Nat) (l0 : List (List Int)) (ok : Bool) (v : Int) (w : World) (hn0 : l0.length = n0) (h630 : n0 ≤ 9223372036854775807) (hl0 : ∀ r, r < l0.length → (l0.getD r []).length ≤ 9223372036854775807) (hm0 : MatR w a0 l0)
    (hspec : szL l0 ≤ 1048576 → ∀ (W : World) (b0 : Option Addr) (c0 : Nat), MatR W b0 l0 → Calls Try.prog 17 #[.slice b0 n0 c0] W (fun e w' => e = .returned (.tuple #[.int .i64 v, .bool ok]) ∧ W.Since W.heap.size w'))
    (himpl : szL l0 ≤ 1048576 → ∀ (W : World) (b0 : Option Addr) (c0 : Nat), MatR W b0 l0 → Calls Try.prog 18 #[.slice b0 n0 c0] W (fun e w' => e = .returned (.tuple #[.int .i64 v, .bool ok]) ∧ W.Since W.heap.size w')) :
    Calls Try.prog 5 #[.slice a0 n0 cap0] w fun e w' => e = .returned (.bool true) ∧ w.Since w.heap.size w' := by
  have HN0 := Lib.hid hn0
  have HL0 := Lib.hid hl0
  have HM0 := Lib.hid hm0
  have HSPEC := Lib.hid hspec
  have HIMPL := Lib.hid himpl
  clear hspec himpl hn0 hl0 hm0
  go_enter Try.func5, Try.ntmps5
  have hz0 := szIntSS_any a0 cap0 l0 (1048576) w (by omega) (by omega) (by rw [HN0.out]; exact h630) HL0.out HM0.out
  rw [HN0.out] at hz0
  have HZ0 := Lib.hid hz0
  clear hz0
  go_wp2_with fail
  refine (HZ0.out).mono ?_
  rintro e w' ⟨r0, rfl, hra0, hrb0, rfl⟩
  by_cases hr00 : r0 < 0
  · go_wp2
    go_ret
    exact ⟨rfl, World.Since.refl _ _⟩
  have hs0 : r0 = 1048576 - szL l0 := hrb0 (by omega)
  have hle0 : r0 ≤ 1048576 := by omega
  have HS0 := Lib.hid hs0
  clear hrb0
  clear hs0
  have hzl0 : szL l0 ≤ 1048576 := by have e0 := HS0.out; omega
  have hst0 : sumTo l0 n0 ≤ 1048576 := by rw [← HN0.out]; unfold szL at hzl0; omega
  have hsum : sumTo l0 n0 ≤ 1048576 := by have e0 := HS0.out; have f0 : szL l0 = n0 + sumTo l0 n0 := (by unfold szL; rw [HN0.out]); omega
  have HCP0 := Lib.hid (fun (W : World) (hs : w.Since w.heap.size W) => toIntSS_any a0 cap0 n0 l0 W HN0.out hzl0 (HM0.out.since hs))
  have s0 : w.Since w.heap.size w := World.Since.refl _ _
  cases ok
  all_goals
    go_wp2_with fail
    refine (HCP0.out _ s0).mono ?_
    rintro e w1 ⟨rfl, c1⟩
    have o1 := c1.ownT HN0.out
    have t1 := c1.since
    clear c1
    have s1 : w.Since w.heap.size w1 := s0.trans (since_mono t1 s0.size)
    have z1 := t1.size
    go_wp2_with fail
    refine (HSPEC.out (hzl0) _ _ _ o1.matR).mono ?_
    rintro e w2 ⟨rfl, t2⟩
    have s2 : w.Since w.heap.size w2 := s1.trans (since_mono t2 s1.size)
    have z2 := t2.size
    replace o1 := o1.since t2
    clear o1
    go_wp2_with fail
    refine (HCP0.out _ s2).mono ?_
    rintro e w3 ⟨rfl, c3⟩
    have o3 := c3.ownT HN0.out
    have t3 := c3.since
    clear c3
    have s3 : w.Since w.heap.size w3 := s2.trans (since_mono t3 s2.size)
    have z3 := t3.size
    have gx0 := o3
    clear o3
    go_wp2_with fail
    refine (HIMPL.out (hzl0) _ _ _ gx0.matR).mono ?_
    rintro e w4 ⟨rfl, t4⟩
    have s4 : w.Since w.heap.size w4 := s3.trans (since_mono t4 s3.size)
    have z4 := t4.size
    replace gx0 := gx0.since t4
    go_wp2_with fail
    refine (HCP0.out _ s4).mono ?_
    rintro e w5 ⟨rfl, c5⟩
    have o5 := c5.ownT HN0.out
    have t5 := c5.since
    clear c5
    have s5 : w.Since w.heap.size w5 := s4.trans (since_mono t5 s4.size)
    have z5 := t5.size
    replace gx0 := gx0.since t5
    go_wp2_with fail
    refine (eqIntSS_same _ _ _ _ _ l0 _ HN0.out h630 HL0.out gx0.matR o5.matR).mono ?_
    rintro e w6 ⟨rfl, d6⟩
    have t6 := d6.since w5.heap.size
    clear d6
    have s6 : w.Since w.heap.size w6 := s5.trans (since_mono t6 s5.size)
    have z6 := t6.size
    replace gx0 := gx0.since t6
    replace o5 := o5.since t6
    clear o5
    go_wp2
    go_ret
    exact ⟨rfl, s6⟩

end Go.Proofs.Ytpimdgijjljejaa
end

section
/- The contract of spec.TableSame. -/
namespace Go.Proofs.Ytpimdgijjljejaa
open Go.RowKit Go.Deep

/-- Two tables with the same entries are the same. -/
theorem same_ext {l u : List (List Int)} {n m : Nat} (hn : l.length = n) (hu : u.length = n) (hl : ∀ r, r < n → (l.getD r []).length = m) (hul : ∀ r, r < n → (u.getD r []).length = m) (h : ∀ r c, r < n → c < m → at2 l r c = at2 u r c) : l = u := by
  refine List.ext_getElem (by omega) fun r h1 h2 => ?_
  have e1 : l.getD r [] = l[r] := by simp [List.getD, h1]
  have e2 : u.getD r [] = u[r] := by simp [List.getD, h2]
  have l1 := hl r (by omega)
  have l2 := hul r (by omega)
  rw [e1] at l1
  rw [e2] at l2
  refine List.ext_getElem (by omega) fun c g1 g2 => ?_
  have := h r c (by omega) (by omega)
  unfold at2 at this
  rw [e1, e2] at this
  simpa [List.getD, g1, g2] using this

/-- The first r rows, and the first c numbers of row r, are the same. -/
def SameTo (l u : List (List Int)) (m r c : Nat) : Prop := (∀ i j, i < r → j < m → at2 l i j = at2 u i j) ∧ ∀ j, j < c → at2 l r j = at2 u r j
theorem SameTo.next {l u : List (List Int)} {m r : Nat} (h : SameTo l u m r m) : SameTo l u m (r + 1) 0 :=
  ⟨fun i j hi hj => by
    by_cases e : i = r
    · subst e; exact h.2 j hj
    · exact h.1 i j (by omega) hj, fun j hj => absurd hj (Nat.not_lt_zero _)⟩
theorem SameTo.step {l u : List (List Int)} {m r c : Nat} (h : SameTo l u m r c) (e : at2 l r c = at2 u r c) : SameTo l u m r (c + 1) :=
  ⟨h.1, fun j hj => by
    by_cases e' : j = c
    · subst e'; exact e
    · exact h.2 j (by omega)⟩

end Go.Proofs.Ytpimdgijjljejaa
end

section
/- The contract of spec.l91Some. -/
namespace Go.Proofs.Ytpimdgijjljejaa
open Go.RowKit Go.Deep

/-- A table that a call has drawn: at least one row, no row empty. -/
def Drawn0 (w w' : World) (R K : Nat) (a : Option Addr) (l : List (List Int)) : Prop :=
  1 ≤ l.length ∧ l.length ≤ R ∧ (∀ j, j < l.length → 1 ≤ (l.getD j []).length ∧ (l.getD j []).length ≤ K + 1) ∧ InT w.heap.size w'.heap.size w' a l

theorem lens_set {l : List (List Int)} {r : Nat} {y : List Int} {n m K : Nat} (hl : l.length = n) (h : ∀ j, j < n → (l.getD j []).length = m) (hm : 1 ≤ m ∧ m ≤ K) (hy : 1 ≤ y.length ∧ y.length ≤ K + 1) : ∀ j, j < (l.set r y).length → 1 ≤ ((l.set r y).getD j []).length ∧ ((l.set r y).getD j []).length ≤ K + 1 := by
  intro j hj
  rw [List.length_set] at hj
  by_cases e : j = r
  · subst e
    rw [show (l.set j y).getD j [] = y by simp [List.getD, hj]]
    exact hy
  · rw [show (l.set r y).getD j [] = l.getD j [] by simp [List.getD, List.getElem?_set_ne (Ne.symm e)], h j (by omega)]
    omega

end Go.Proofs.Ytpimdgijjljejaa
end

section
/- The contract of spec.l6Open, and of what draws one table. -/
namespace Go.Proofs.Ytpimdgijjljejaa
open Go.RowKit Go.Deep

set_option maxHeartbeats 1000000 in
theorem l6Open_any (a : Option Addr) (nb cb : Nat) (w : World) (hc : nb ≤ cb) (h63 : cb ≤ 9223372036854775807) (hb : BytR w a nb) :
    Calls Try.prog 27 #[.slice a nb cb] w fun e w' => ∃ n' c', e = .returned (.pointer (some ⟨w.heap.size, 0, none⟩)) ∧ w.Since w.heap.size w' ∧ w'.heap.size = w.heap.size + 1 ∧ RD w w' w.heap.size a n' c' 57 0 := by
  by_cases hl : 2000 < nb
  · have hl' : decide ((2000 : Int) < (nb : Int)) = true := by simp; omega
    have h2 : (2000 : Int) ≤ (cb : Int) := by omega
    obtain ⟨b, o, rfl, hcell⟩ := hb (by omega)
    go_enter Try.func27, Try.ntmps27
    go_wp2
    go_ret
    exact ⟨_, _, rfl, (World.Since.refl _ _).alloc (Nat.le_refl _) _, by simp, ⟨heap_alloc_new _ _, Nat.le_refl _, (World.Since.refl _ _).alloc (Nat.le_refl _) _, fun _ => ⟨b, o, rfl, fun i hi => hcell i (by omega)⟩, by omega⟩⟩
  · have hl' : decide ((2000 : Int) < (nb : Int)) = false := by simp; omega
    go_enter Try.func27, Try.ntmps27
    go_wp2
    go_ret
    exact ⟨_, _, rfl, (World.Since.refl _ _).alloc (Nat.le_refl _) _, by simp, ⟨heap_alloc_new _ _, Nat.le_refl _, (World.Since.refl _ _).alloc (Nat.le_refl _) _, hb, by omega⟩⟩

/-- A call has drawn a table. -/
def DrawnT (w w' : World) (R K : Nat) (a : Option Addr) (l : List (List Int)) : Prop :=
  1 ≤ l.length ∧ l.length ≤ R ∧ (∀ j, j < l.length → 1 ≤ (l.getD j []).length ∧ (l.getD j []).length ≤ K + 1) ∧ InT w.heap.size w'.heap.size w' a l

end Go.Proofs.Ytpimdgijjljejaa
end

section
/- The contracts of laws.sameInts and laws.sameRows. -/
namespace Go.Proofs.Ytpimdgijjljejaa
open Go.RowKit Go.Deep

end Go.Proofs.Ytpimdgijjljejaa
end

section
/- The walk of laws.FnTurn. -/
namespace Go.Proofs.Ytpimdgijjljejaa
open Go.RowKit Go.Deep

theorem szL_of {l : List (List Int)} {n k : Nat} (h1 : l.length ≤ n) (h2 : ∀ j, j < l.length → (l.getD j []).length ≤ k) (hnk : n * k + n ≤ 1048576) : szL l ≤ 1048576 := by
  have h3 := sumTo_le_mul l k h2 l.length (Nat.le_refl _)
  have h4 : l.length * k ≤ n * k := Nat.mul_le_mul_right _ h1
  have h5 : k * l.length = l.length * k := Nat.mul_comm _ _
  unfold szL
  omega
theorem rows_le {l : List (List Int)} (h : szL l ≤ 1048576) : ∀ r, r < l.length → (l.getD r []).length ≤ 9223372036854775807 := fun r hr => by
  have := row_le l hr
  unfold szL at h
  omega

theorem tab_self {l : List (List Int)} {n m : Nat} (hn : l.length = n) (hm : ∀ r, r < n → (l.getD r []).length = m) : tabF n m (at2 l) = l := by
  refine List.ext_getElem (by rw [tabF_length, hn]) fun r h1 h2 => ?_
  have hr : r < n := by rw [tabF_length] at h1; exact h1
  have e1 : (tabF n m (at2 l))[r] = (tabF n m (at2 l)).getD r [] := by simp [List.getD, h1]
  have e2 : l[r] = l.getD r [] := by simp [List.getD, h2]
  rw [e1, e2, tabF_get _ _ _ _ hr]
  refine List.ext_getElem (by rw [List.length_map, List.length_range, hm r hr]) fun k h3 h4 => ?_
  rw [List.getElem_map, List.getElem_range]
  unfold at2
  obtain ⟨x, hx⟩ : ∃ x, x = l.getD r [] := ⟨_, rfl⟩
  subst hx
  generalize l.getD r [] = x at *
  simp [List.getD, h4]

theorem turnL_turnL {l : List (List Int)} (hT : TabIn l) : turnL (turnL l) = l := by
  have h1 := hT.1
  have hw := hT.width
  have e0 : ((turnL l).getD 0 []).length = l.length := tabF_len _ _ _ _ hw.1
  have e1 : turnL (turnL l) = tabF l.length (l.getD 0 []).length fun k i => at2 (turnL l) i k := by
    show tabF ((turnL l).getD 0 []).length (turnL l).length _ = _
    rw [e0, turnL_length]
  rw [e1]
  have e2 : tabF l.length (l.getD 0 []).length (fun k i => at2 (turnL l) i k) = tabF l.length (l.getD 0 []).length (at2 l) := by
    unfold tabF
    refine List.map_congr_left fun r hr => List.map_congr_left fun k hk => ?_
    exact tabF_at _ _ _ _ _ (List.mem_range.1 hk) (List.mem_range.1 hr)
  rw [e2]
  exact tab_self rfl (fun r hr => hT.row hr)

end Go.Proofs.Ytpimdgijjljejaa
end

section
/- The part of a table is a table; the contract of impl.TablePart. -/
namespace Go.Proofs.Ytpimdgijjljejaa
open Go.RowKit Go.Deep

/-- Does TablePart succeed? -/
noncomputable def partOk (l : List (List Int)) (s c : Int) : Bool := tabIn l && (inB s 1 (2 ^ l.length - 1 : Nat) && inB c 1 (2 ^ (l.getD 0 []).length - 1 : Nat))
theorem partOk_tab {l : List (List Int)} {s c : Int} (h : partOk l s c = true) : TabIn (partL l s.toNat c.toNat) := by
  unfold partOk at h
  rw [Bool.and_eq_true, Bool.and_eq_true] at h
  have h2 := of_decide_eq_true h.2.1
  have h3 := of_decide_eq_true h.2.2
  have p1 := Nat.one_le_two_pow (n := l.length)
  have p2 := Nat.one_le_two_pow (n := (l.getD 0 []).length)
  exact partL_tab (tabIn_of h.1) (by omega) (by omega) (by omega) (by omega)

end Go.Proofs.Ytpimdgijjljejaa
end

section
/- The contract of impl.TableSwap. -/
namespace Go.Proofs.Ytpimdgijjljejaa
open Go.RowKit Go.Deep


/-- Does TableSwap succeed? -/
noncomputable def swapOk (l : List (List Int)) (i k : Int) : Bool := tabIn l && (rowB i l.length && rowB k l.length)
theorem swapOk_tab {l : List (List Int)} {i k : Int} (h : swapOk l i k = true) : TabIn (swapL l i.toNat k.toNat) := by
  unfold swapOk at h
  rw [Bool.and_eq_true, Bool.and_eq_true] at h
  obtain ⟨i, rfl, hi⟩ := rowB_of h.2.1
  obtain ⟨k, rfl, hk⟩ := rowB_of h.2.2
  exact swapL_tab (tabIn_of h.1) hi hk
theorem szL_swapOk (l : List (List Int)) (i k : Int) (h : swapOk l i k = true) : szL (swapL l i.toNat k.toNat) ≤ 1048576 := szL_tab (swapOk_tab h)



end Go.Proofs.Ytpimdgijjljejaa
end

section
/- The contract of spec.TableSwap. -/
namespace Go.Proofs.Ytpimdgijjljejaa
open Go.RowKit Go.Deep

/-- A table of one's own whose outer row is written. -/
structure SW (w1 w' : World) (b n m : Nat) (A : Nat → Option Addr) (G C : Nat → Nat) (Z : Nat → Nat → Int) (hi : Nat) : Prop where
  since : w1.Since w1.heap.size w'
  size : hi ≤ w'.heap.size
  own : OwnD w1.heap.size hi w' b A G C n (fun _ => m) Z
  free : ∀ r, r < n → w'.frozen? ⟨b, r, none⟩ = false
  inb : w1.heap.size ≤ b ∧ b < hi

theorem SW.later {w1 w' w2 : World} {b n m : Nat} {A : Nat → Option Addr} {G C : Nat → Nat} {Z : Nat → Nat → Int} {hi : Nat} (h : SW w1 w' b n m A G C Z hi) (hs : w'.Since w'.heap.size w2) : SW w1 w2 b n m A G C Z hi :=
  ⟨h.since.trans (since_mono hs h.since.size), Nat.le_trans h.size hs.size, h.own.later hs, fun r hr => by rw [hs.frozen (a := ⟨b, r, none⟩) (World.block_lt_of_cell? _ _ (h.own.top r hr))]; exact h.free r hr, h.inb⟩

/-- One row is replaced by a new one. -/
theorem SW.put {w1 w2 w3 : World} {b n m : Nat} {A : Nat → Option Addr} {G C : Nat → Nat} {Z : Nat → Nat → Int} {hi : Nat} (h : SW w1 w2 b n m A G C Z hi) (hs : w2.Since w2.heap.size w3) {g cp : Nat} {x : List Int} (hg : w2.heap.size ≤ g) (hx : RowB w3 g x) (hxl : x.length = m)
    (hm : 0 < m) {i : Nat} (hi' : i < n) : SW w1 (w3.setCell ⟨b, i, none⟩ (.slice (some ⟨g, 0, none⟩) m cp)) b n m (fun r => if r = i then some ⟨g, 0, none⟩ else A r) (fun r => if r = i then g else G r) (fun r => if r = i then cp else C r) (fun r c => if r = i then x.getD c 0 else Z r c) w3.heap.size := by
  have h3 := h.later hs
  have hgl := hx.lt
  have hsz := h.size
  have hb := h.inb
  have hss := h.since.size
  have hsz3 := hs.size
  have hgb : g ≠ b := by omega
  refine ⟨h3.since.setCell hb.1 _, by simp, ⟨fun r hr => ?_, fun r hr h0 => ?_, fun r hr h0 => ?_, fun r hr c hc => ?_, fun r hr c hc => ?_, fun r r' hr hr' h0 h0' e => ?_⟩, fun r hr => by rw [World.frozen?_setCell]; exact h3.free r hr, hb.1, by omega⟩
  · by_cases e : r = i
    · subst e
      rw [if_pos rfl, if_pos rfl]
      exact World.cell?_setCell_same' _ _ _ (by rw [h3.own.top r hr]; rfl)
    · rw [if_neg e, if_neg e, World.cell?_setCell_other _ _ _ _ (fun e' => e (by injection e' with _ e'; exact e'.symm))]
      exact h3.own.top r hr
  · by_cases e : r = i
    · rw [if_pos e, if_pos e]
    · rw [if_neg e, if_neg e]; exact h3.own.addr r hr h0
  · by_cases e : r = i
    · rw [if_pos e]; exact ⟨by omega, hgl, hgb⟩
    · rw [if_neg e]; have := h3.own.inside r hr h0; exact ⟨this.1, by omega, this.2.2⟩
  · by_cases e : r = i
    · rw [if_pos e, if_pos e, World.cell?_setCell_other _ _ _ _ (fun e' => hgb (by injection e' with e'; exact e'.symm))]
      exact hx.cell (by rw [hxl]; exact hc)
    · rw [if_neg e, if_neg e, World.cell?_setCell_other _ _ _ _ (fun e' => (h3.own.inside r hr (by omega)).2.2 (by injection e' with e'; exact e'.symm))]
      exact h3.own.cell r hr c hc
  · rw [World.frozen?_setCell]
    by_cases e : r = i
    · rw [if_pos e]; exact hx.frozen c
    · rw [if_neg e]; exact h3.own.free r hr c hc
  · by_cases e1 : r = i <;> by_cases e2 : r' = i
    · omega
    · rw [if_pos e1, if_neg e2] at e
      have := (h.own.inside r' hr' h0').2.1
      omega
    · rw [if_neg e1, if_pos e2] at e
      have := (h.own.inside r hr h0).2.1
      omega
    · rw [if_neg e1, if_neg e2] at e
      exact h3.own.apart r r' hr hr' h0 h0' e

theorem OwnT.sw {w w1 : World} {a : Option Addr} {l : List (List Int)} {n m : Nat} (h : OwnT w.heap.size w1.heap.size w1 a l) (hn : l.length = n) (h1 : 0 < n) (hm : ∀ r, r < n → (l.getD r []).length = m) (hs : w.Since w.heap.size w1) (hf : FreeTop w1 a n) :
    ∃ b A G C, a = some ⟨b, 0, none⟩ ∧ SW w w1 b n m A G C (fun r c => at2 l r c) w1.heap.size := by
  obtain ⟨b, A, G, C, e, hb, hW⟩ := h.wr hn h1 hm hs (fun _ _ => 0)
  exact ⟨b, A, G, C, e, hs, Nat.le_refl _, hW.own.congr fun r _ c _ => by unfold updF; rw [if_neg (by omega)], fun r hr => hf b r e hr, hb⟩

theorem SW.ownT {w1 w' : World} {b n m : Nat} {A : Nat → Option Addr} {G C : Nat → Nat} {Z : Nat → Nat → Int} {hi : Nat} {l : List (List Int)} (h : SW w1 w' b n m A G C Z hi) (hn : l.length = n) (hm : ∀ r, r < n → (l.getD r []).length = m) (hZ : ∀ r c, r < n → c < m → at2 l r c = Z r c) : OwnT w1.heap.size w'.heap.size w' (some ⟨b, 0, none⟩) l :=
  (h.own.ownT h.inb hn hm fun r hr c hc => hZ r c hr hc).mono (Nat.le_refl _) h.size

/-- The row that was made by append, and what may be kept of the world before. -/
theorem own_row (W : World) : (W.alloc (.cells #[] 3)).ownsRow W.heap.size 3 1 (.slice (some ⟨W.heap.size, 0, none⟩) 0 0) 0 [] := World.ownsRow_made W #[] 0 (Nat.le_refl _) (Nat.zero_le _) rfl
theorem row_cells {w W : World} {b' o' m : Nat} {x : List Int} (hx : x.length = m) (hs : w.Since w.heap.size W) (hce : ∀ j, j < m → w.cell? ⟨b', o' + j, none⟩ = some (.int .i64 (x.getD j 0))) (o : Obj) : ∀ (j : Nat) (u : Value), (x.map (Value.int .i64))[j]? = some u → (W.alloc o).cell? ((⟨b', o', none⟩ : Addr).add j) = some u := fun j u hj => by
  rw [Go.WideShapes.add_plain]
  obtain ⟨hjl, he⟩ := List.getElem?_eq_some_iff.1 hj
  have hjx : j < m := by rw [← hx]; simpa using hjl
  have h2 := hce j hjx
  refine cell_alloc_l _ ?_
  rw [hs.cell (a := ⟨b', o' + j, none⟩) (World.block_lt_of_cell? _ _ h2), h2, ← he]
  simp [List.getD, show j < x.length by omega]

end Go.Proofs.Ytpimdgijjljejaa
end

section
/- What is exchanged twice, or added and taken off, is as it was. -/
namespace Go.Proofs.Ytpimdgijjljejaa
open Go.RowKit Go.Deep

theorem swap_back {l : List (List Int)} {i k : Int} (h : swapOk l i k = true) : swapOk (swapL l i.toNat k.toNat) i k = true ∧ swapL (swapL l i.toNat k.toNat) i.toNat k.toNat = l := by
  have hT := swapOk_tab h
  unfold swapOk at h ⊢
  rw [Bool.and_eq_true, Bool.and_eq_true] at h
  refine ⟨by rw [tabIn_true hT, swapL_length, h.2.1, h.2.2]; rfl, ?_⟩
  obtain ⟨i, rfl, hi⟩ := rowB_of h.2.1
  obtain ⟨k, rfl, hk⟩ := rowB_of h.2.2
  rw [Int.toNat_natCast, Int.toNat_natCast]
  have e : swapL (swapL l i k) i k = (List.range l.length).map fun r => l.getD r [] := by
    show (List.range (swapL l i k).length).map (fun r => (swapL l i k).getD (sw i k r) []) = _
    rw [swapL_length]
    refine List.map_congr_left fun r hr => ?_
    rw [swapL_get l i k (sw_lt hi hk (List.mem_range.1 hr)), sw_sw]
  rw [e, range_getD]

theorem tabF_congr {n m : Nat} {f g : Nat → Nat → Int} (h : ∀ i k, i < n → k < m → f i k = g i k) : tabF n m f = tabF n m g := by
  unfold tabF
  exact List.map_congr_left fun r hr => List.map_congr_left fun k hk => h r k (List.mem_range.1 hr) (List.mem_range.1 hk)

theorem add_back {l : List (List Int)} {fr tq f : Int} (h : addOk l fr tq f = true) : addOk (addL l fr.toNat tq.toNat f) fr tq (-f) = true ∧ addL (addL l fr.toNat tq.toNat f) fr.toNat tq.toNat (-f) = l := by
  unfold addOk at h ⊢
  simp only [Bool.and_eq_true, Bool.not_eq_true'] at h
  obtain ⟨h1, h2, h3, h4, h5, h6⟩ := h
  have hT := tabIn_of h1
  obtain ⟨fr, rfl, hfr⟩ := rowB_of h2
  obtain ⟨tq, rfl, hto⟩ := rowB_of h3
  rw [Int.toNat_natCast, Int.toNat_natCast] at *
  have hne : fr ≠ tq := by rintro rfl; simp at h4
  have hw := hT.width
  have h0 := hT.1
  have e0 : ((addL l fr tq f).getD 0 []).length = (l.getD 0 []).length := tabF_len _ _ _ _ (by omega)
  have e : addL (addL l fr tq f) fr tq (-f) = l := by
    show tabF (addL l fr tq f).length ((addL l fr tq f).getD 0 []).length (addF (addL l fr tq f) fr tq (-f)) = l
    rw [addL_length, e0]
    refine Eq.trans (tabF_congr fun i k hi hk => ?_) (tab_self rfl (fun r hr => hT.row hr))
    have a1 : at2 (addL l fr tq f) i k = addF l fr tq f i k := tabF_at _ _ _ _ _ hi hk
    have a2 : at2 (addL l fr tq f) fr k = addF l fr tq f fr k := tabF_at _ _ _ _ _ hfr hk
    show (if i = tq then at2 (addL l fr tq f) i k + (-f) * at2 (addL l fr tq f) fr k else at2 (addL l fr tq f) i k) = at2 l i k
    rw [a1, a2]
    unfold addF
    by_cases hi : i = tq
    · rw [if_pos hi, if_pos hi, if_neg hne, Int.neg_mul]; omega
    · rw [if_neg hi, if_neg hi]
  refine ⟨?_, e⟩
  have h5' := of_decide_eq_true h5
  rw [h6, addL_length, h2, h3, h4, e, h1]
  have : inB (-f) (-30) 30 = true := by unfold inB at *; simp at *; omega
  rw [this]; rfl
theorem addOk_num {l : List (List Int)} {fr tq f : Int} (h : addOk l fr tq f = true) : -30 ≤ f ∧ f ≤ 30 := by
  unfold addOk at h
  simp only [Bool.and_eq_true] at h
  exact of_decide_eq_true h.2.2.2.2.1

end Go.Proofs.Ytpimdgijjljejaa
end

section
/- Times, sums: what is so of tables. -/
namespace Go.Proofs.Ytpimdgijjljejaa
open Go.RowKit Go.Deep

theorem tabF_tab {n m : Nat} {f : Nat → Nat → Int} (hn : 1 ≤ n ∧ n ≤ 6) (hm : 1 ≤ m ∧ m ≤ 6) (h : ∀ i k, i < n → k < m → -30 ≤ f i k ∧ f i k ≤ 30) : TabIn (tabF n m f) := by
  refine ⟨by rw [tabF_length]; exact hn.1, by rw [tabF_length]; exact hn.2, fun r hr => ?_⟩
  rw [tabF_length] at hr
  refine ⟨by rw [tabF_len _ _ _ _ hr, tabF_len _ _ _ _ (by omega)], by rw [tabF_len _ _ _ _ hr]; exact hm.1, by rw [tabF_len _ _ _ _ hr]; exact hm.2, fun k hk => ?_⟩
  rw [tabF_len _ _ _ _ hr] at hk
  rw [tabF_at _ _ _ _ _ hr hk]
  exact h r k hr hk
theorem tab_bd {n m : Nat} {f : Nat → Nat → Int} (hn : 1 ≤ n) (h : TabIn (tabF n m f)) : ∀ i k, i < n → k < m → -30 ≤ f i k ∧ f i k ≤ 30 := by
  intro i k hi hk
  have h1 := h.at (i := i) (k := k) (by rw [tabF_length]; exact hi) (by rw [tabF_len _ _ _ _ (by omega)]; exact hk)
  have h2 : at2 (tabF n m f) i k = f i k := tabF_at _ _ _ _ _ hi hk
  rw [h2] at h1
  exact h1
theorem TabIn.sides {l : List (List Int)} (h : TabIn l) : (1 ≤ l.length ∧ l.length ≤ 6) ∧ (1 ≤ (l.getD 0 []).length ∧ (l.getD 0 []).length ≤ 6) := ⟨⟨h.1, h.2.1⟩, h.width⟩
theorem timesL_at {l : List (List Int)} {z : Int} {i k : Nat} (hi : i < l.length) (hk : k < (l.getD 0 []).length) : at2 (timesL l z) i k = at2 l i k * z := tabF_at _ _ _ _ _ hi hk
theorem timesL_width {l : List (List Int)} (z : Int) (h : 1 ≤ l.length) : ((timesL l z).getD 0 []).length = (l.getD 0 []).length := tabF_len _ _ _ _ (by omega)

theorem less_bd {x z : Int} (hz : 1 ≤ z) (h1 : -30 ≤ x * z) (h2 : x * z ≤ 30) : -30 ≤ x * (z - 1) ∧ x * (z - 1) ≤ 30 := by
  rw [Int.mul_sub, Int.mul_one]
  by_cases hx : 0 ≤ x
  · have := Int.mul_le_mul_of_nonneg_left hz hx
    rw [Int.mul_one] at this
    omega
  · have := Int.mul_le_mul_of_nonneg_left hz (show 0 ≤ -x by omega)
    rw [Int.mul_one, Int.neg_mul] at this
    omega

theorem timesOk_of {l : List (List Int)} {z : Int} (h : timesOk l z = true) : TabIn l ∧ (-30 ≤ z ∧ z ≤ 30) ∧ TabIn (timesL l z) := by
  unfold timesOk at h
  simp only [Bool.and_eq_true] at h
  exact ⟨tabIn_of h.1, of_decide_eq_true h.2.1, tabIn_of h.2.2⟩

theorem times_less {l : List (List Int)} {z : Int} (h : timesOk l z = true) (hz : 1 ≤ z) : timesOk l (z - 1) = true ∧ sumOk (timesL l (z - 1)) l = true ∧ sumL (timesL l (z - 1)) l = timesL l z := by
  obtain ⟨hT, hzb, hM⟩ := timesOk_of h
  have hs := hT.sides
  have hb := tab_bd hs.1.1 hM
  have hL : TabIn (timesL l (z - 1)) := tabF_tab hs.1 hs.2 fun i k hi hk => less_bd hz (hb i k hi hk).1 (hb i k hi hk).2
  have hin : inB (z - 1) (-30) 30 = true := by unfold inB; simp; omega
  have e : sumL (timesL l (z - 1)) l = timesL l z := by
    show tabF (timesL l (z - 1)).length ((timesL l (z - 1)).getD 0 []).length (fun i k => at2 (timesL l (z - 1)) i k + at2 l i k) = tabF l.length (l.getD 0 []).length fun i k => at2 l i k * z
    rw [timesL_length, timesL_width _ hs.1.1]
    refine tabF_congr fun i k hi hk => ?_
    rw [timesL_at hi hk, Int.mul_sub, Int.mul_one]
    omega
  refine ⟨?_, ?_, e⟩
  · unfold timesOk
    rw [tabIn_true hT, hin, tabIn_true hL]; rfl
  · unfold sumOk alikeB
    rw [e, tabIn_true hT, tabIn_true hL, tabIn_true hM, timesL_length, timesL_width _ hs.1.1]
    simp

end Go.Proofs.Ytpimdgijjljejaa
end

section
/- Sums both ways and turned. -/
namespace Go.Proofs.Ytpimdgijjljejaa
open Go.RowKit Go.Deep

theorem turnL_at {l : List (List Int)} {i k : Nat} (hi : i < l.length) (hk : k < (l.getD 0 []).length) : at2 (turnL l) k i = at2 l i k := tabF_at _ _ _ _ _ hk hi
theorem turnL_width {l : List (List Int)} (h : TabIn l) : ((turnL l).getD 0 []).length = l.length := tabF_len _ _ _ _ (by have := h.width; omega)
theorem turnL_tab {l : List (List Int)} (h : TabIn l) : TabIn (turnL l) := tabIn_of (tabIn_turn h)

theorem sumOk_of {l u : List (List Int)} (h : sumOk l u = true) : TabIn l ∧ TabIn u ∧ l.length = u.length ∧ (l.getD 0 []).length = (u.getD 0 []).length ∧ TabIn (sumL l u) := by
  unfold sumOk alikeB at h
  simp only [Bool.and_eq_true, beq_iff_eq] at h
  exact ⟨tabIn_of h.1, tabIn_of h.2.1, h.2.2.1.1, h.2.2.1.2, tabIn_of h.2.2.2⟩
theorem sumOk_mk {l u : List (List Int)} (h1 : TabIn l) (h2 : TabIn u) (h3 : l.length = u.length) (h4 : (l.getD 0 []).length = (u.getD 0 []).length) (h5 : TabIn (sumL l u)) : sumOk l u = true := by
  unfold sumOk alikeB
  rw [tabIn_true h1, tabIn_true h2, tabIn_true h5, h3, h4]
  simp

theorem sum_comm {l u : List (List Int)} (h : sumOk l u = true) : sumOk u l = true ∧ sumL u l = sumL l u := by
  obtain ⟨h1, h2, h3, h4, h5⟩ := sumOk_of h
  have e : sumL u l = sumL l u := by
    unfold sumL
    rw [← h3, ← h4]
    exact tabF_congr fun i k _ _ => Int.add_comm _ _
  exact ⟨sumOk_mk h2 h1 h3.symm h4.symm (by rw [e]; exact h5), e⟩

theorem sumL_at {l u : List (List Int)} {i k : Nat} (hi : i < l.length) (hk : k < (l.getD 0 []).length) : at2 (sumL l u) i k = at2 l i k + at2 u i k := tabF_at _ _ _ _ _ hi hk
theorem sumL_width {l : List (List Int)} (u : List (List Int)) (h : 1 ≤ l.length) : ((sumL l u).getD 0 []).length = (l.getD 0 []).length := tabF_len _ _ _ _ (by omega)

theorem sum_turn {l u : List (List Int)} (h : sumOk l u = true) : sumOk (turnL l) (turnL u) = true ∧ sumL (turnL l) (turnL u) = turnL (sumL l u) := by
  obtain ⟨h1, h2, h3, h4, h5⟩ := sumOk_of h
  have e : sumL (turnL l) (turnL u) = turnL (sumL l u) := by
    show tabF (turnL l).length ((turnL l).getD 0 []).length (fun i k => at2 (turnL l) i k + at2 (turnL u) i k) = tabF ((sumL l u).getD 0 []).length (sumL l u).length fun k i => at2 (sumL l u) i k
    rw [turnL_length, turnL_width h1, sumL_width u h1.1, sumL_length]
    refine tabF_congr fun k i hk hi => ?_
    rw [turnL_at hi hk, turnL_at (l := u) (by omega) (by omega), sumL_at hi hk]
  exact ⟨sumOk_mk (turnL_tab h1) (turnL_tab h2) (by rw [turnL_length, turnL_length, h4]) (by rw [turnL_width h1, turnL_width h2, h3]) (by rw [e]; exact turnL_tab h5), e⟩

end Go.Proofs.Ytpimdgijjljejaa
end

section
/- The contracts of impl.signOf and of the methods isSquare and without. -/
namespace Go.Proofs.Ytpimdgijjljejaa
open Go.RowKit Go.Deep

theorem sn_tmod (k : Nat) (h : k < 64) : (Int.tmod (k : Int) 2 == 0) = !decide (k % 2 = 1) := by
  have h2 : ∀ k : Fin 64, (Int.tmod (k.val : Int) 2 == 0) = !decide (k.val % 2 = 1) := by decide +kernel
  exact h2 ⟨k, h⟩

set_option maxHeartbeats 400000 in
theorem signOf_any (k : Nat) (h : k < 64) (w : World) :
    Calls Try.prog 63 #[.int .i64 k] w fun e w' => e = .returned (.int .i64 (sn k)) ∧ w = w' := by
  have e := sn_tmod k h
  by_cases ho : k % 2 = 1
  · have e2 : sn k = -1 := if_pos ho
    rw [e2]
    have e3 : (Int.tmod (k : Int) 2 == 0) = false := by rw [e]; simp [ho]
    clear e h
    go_enter Try.func63, Try.ntmps63
    go_wp2
    go_ret
    exact ⟨rfl, rfl⟩
  · have e2 : sn k = 1 := if_neg ho
    rw [e2]
    have e3 : (Int.tmod (k : Int) 2 == 0) = true := by rw [e]; simp [ho]
    clear e h
    go_enter Try.func63, Try.ntmps63
    go_wp2
    go_ret
    exact ⟨rfl, rfl⟩

set_option maxHeartbeats 1000000 in
theorem isSquare_any (a : Option Addr) (cap n : Nat) (l : List (List Int)) (w : World) (hn : l.length = n) (hsz : szL l ≤ 1048576) (hm : MatR w a l) :
    Calls Try.prog 56 #[.slice a n cap] w fun e w' => e = .returned (.bool (sqB l)) ∧ w.Since w.heap.size w' := by
  have E := fits_any a cap n l w hn hsz hm
  cases hT : tabIn l with
  | false =>
    have hs : sqB l = false := by unfold sqB; rw [hT]; rfl
    rw [hs]
    rw [hT] at E
    replace E := Lib.hid E
    clear hs hT hn hsz hm
    go_enter Try.func56, Try.ntmps56
    go_wp2_with fail
    refine (E.out).mono ?_
    rintro e w1 ⟨rfl, hd⟩
    have HD := Lib.hid hd
    clear hd
    go_wp2
    go_ret
    exact ⟨rfl, HD.out⟩
  | true =>
    have hTT := tabIn_of hT
    have h1 := hTT.1
    have h6 := hTT.2.1
    rw [hn] at h1 h6
    obtain ⟨m, hmm⟩ : ∃ m, (l.getD 0 []).length = m := ⟨_, rfl⟩
    have hs : sqB l = (n == m) := by unfold sqB; rw [hT, hn, hmm]; rfl
    rw [hs]
    rw [hT] at E
    replace E := Lib.hid E
    have EW := fun (W : World) (h : w.Since w.heap.size W) => width_any a cap n l W hn (by omega) (by omega) (hm.since h)
    rw [hmm] at EW
    replace EW := Lib.hid EW
    clear hs hT hTT hn hsz hm hmm
    go_enter Try.func56, Try.ntmps56
    go_wp2_with fail
    refine (E.out).mono ?_
    rintro e w1 ⟨rfl, hd⟩
    have HD := Lib.hid hd
    clear hd
    go_wp2_with fail
    refine (EW.out w1 HD.out).mono ?_
    rintro e w2 ⟨rfl, rfl⟩
    have hb : ((n : Int) == (m : Int)) = (n == m) := by
      by_cases e : n = m
      · subst e; simp
      · rw [beq_eq_false_iff_ne.2 e, beq_eq_false_iff_ne.2 (by omega)]
    go_wp2
    go_ret
    refine ⟨?_, HD.out⟩
    rw [← hb]
    rfl

set_option maxHeartbeats 2000000 in
/-- A table without row r and column k. -/
theorem without_any (a : Option Addr) (cap n r k : Nat) (l : List (List Int)) (w : World) (hn : l.length = n) (hT : TabIn l) (hw : (l.getD 0 []).length = n) (hr : r < n) (hk : k < n) (hm : MatR w a l) :
    Calls Try.prog 94 #[.slice a n cap, .int .i64 r, .int .i64 k] w fun e w' => ∃ a' cap', e = .returned (.slice a' (partL l (2 ^ n - 1 - 2 ^ r) (2 ^ n - 1 - 2 ^ k)).length cap') ∧ w.Since w.heap.size w' ∧ OwnT w.heap.size w'.heap.size w' a' (partL l (2 ^ n - 1 - 2 ^ r) (2 ^ n - 1 - 2 ^ k)) := by
  have h6 := hT.2.1
  rw [hn] at h6
  have E1 := fun (W : World) => allRows_any a cap n W h6
  have E2 := fun (W : World) (h : w.Since w.heap.size W) => width_any a cap n l W hn (by omega) (by omega) (hm.since h)
  rw [hw] at E2
  have E3 := fun (W : World) => fullSet_any n h6 W
  have e1 := andNot_fin ⟨n, by omega⟩ ⟨r, by omega⟩ hr
  have e2 := andNot_fin ⟨n, by omega⟩ ⟨k, by omega⟩ hk
  have e3 := pow63 ⟨n, by omega⟩
  have w1 := pow_in ⟨r, by omega⟩
  have w2 := pow_in ⟨k, by omega⟩
  simp only at e1 e2 e3 w1 w2
  have hm1 : min r 64 = r := by omega
  have hm2 : min k 64 = k := by omega
  have E4 := fun (W : World) (h : w.Since w.heap.size W) => part_any a cap n (2 ^ n - 1 - 2 ^ r) (2 ^ n - 1 - 2 ^ k) l W hn hT (Nat.le_trans (Nat.sub_le _ _) e3) (Nat.le_trans (Nat.sub_le _ _) e3) (hm.since h)
  obtain ⟨s, hs⟩ : ∃ s, s = 2 ^ n - 1 - 2 ^ r := ⟨_, rfl⟩
  obtain ⟨c, hc⟩ : ∃ s, s = 2 ^ n - 1 - 2 ^ k := ⟨_, rfl⟩
  obtain ⟨Aa, hA⟩ : ∃ s, s = 2 ^ n - 1 := ⟨_, rfl⟩
  rw [← hs, ← hA] at e1
  rw [← hc, ← hA] at e2
  simp only [← hs, ← hc] at E4 ⊢
  simp only [← hA] at E1 E3
  have H1 := Lib.hid E1
  have H2 := Lib.hid E2
  have H3 := Lib.hid E3
  have H4 := Lib.hid E4
  clear E1 E2 E3 E4 hs hc hA hT hm hn hw e3
  go_enter Try.func94, Try.ntmps94
  go_wp2
  go_region_held3 (fun _ => True) (exact trivial)
    (first
      | (go_at_call 62; refine (H1.out _).mono ?_; rintro e w3 ⟨rfl, rfl⟩)
      | (go_at_call 45; refine (H2.out _ ?_).mono ?_; (exact (World.Since.refl _ _).drew); rintro e w3 ⟨rfl, rfl⟩)
      | (go_at_call 76; refine (H3.out _).mono ?_; rintro e w3 ⟨rfl, rfl⟩)
      | (go_at_call 64; refine (H4.out _ ?_).mono ?_; (exact (World.Since.refl _ _).drew); rintro e w3 ⟨a', cap', rfl, hs2, ho⟩))
  all_goals
    go_wp2
    go_ret
    exact ⟨a', cap', rfl, since_of_drew hs2, ho⟩

end Go.Proofs.Ytpimdgijjljejaa
end

section
/- The contracts of isTurnedAbout and of impl.PairIn. -/
namespace Go.Proofs.Ytpimdgijjljejaa
open Go.RowKit Go.Deep

theorem neg_tab {l : List (List Int)} (hT : TabIn l) : TabIn (timesL l (-1)) := by
  refine tabIn_tabF hT.1 hT.2.1 hT.width.1 hT.width.2 (fun i k hi hk => ?_)
  have := hT.at hi hk
  omega
theorem about_same {l : List (List Int)} {n : Nat} (hT : TabIn l) (hn : l.length = n) (hw : (l.getD 0 []).length = n) : (decide (l = timesL (turnL l) (-1))) = decide (AboutP l n) := by
  have hat : ∀ i k, i < n → k < n → at2 (timesL (turnL l) (-1)) i k = -at2 l k i := fun i k hi hk => by
    rw [timesL_at (by rw [turnL_length]; omega) (by rw [turnL_width hT]; omega), turnL_at (by omega) (by omega)]
    omega
  by_cases h : AboutP l n
  · rw [decide_eq_true h]
    refine decide_eq_true ?_
    have hTt := tabIn_of (tabIn_turn hT)
    have hlt : (turnL l).length = n := (turnL_length l).trans hw
    have hN := neg_tab hTt
    have hlN : (timesL (turnL l) (-1)).length = n := (timesL_length _ _).trans hlt
    have hwN : ((timesL (turnL l) (-1)).getD 0 []).length = n := by rw [timesL_width _ (by have := hT.1; omega), turnL_width hT]; exact hn
    refine same_ext (n := n) (m := n) hn hlN (fun r hr => by rw [hT.row (by omega), hw]) (fun r hr => by rw [hN.row (by omega), hwN]) fun i k hi hk => ?_
    rw [hat i k hi hk]
    by_cases e : k ≤ i
    · have := h i hi k (by omega); omega
    · have := h k hk i (by omega); omega
  · rw [decide_eq_false h]
    refine decide_eq_false fun e => h fun i hi k hk => ?_
    have this : at2 l i k = at2 (timesL (turnL l) (-1)) i k := congrArg (fun m => at2 m i k) e
    rw [hat i k hi (by omega)] at this
    omega

set_option maxRecDepth 100000 in
set_option maxHeartbeats 1000000 in
theorem turnedAbout_any (a : Option Addr) (cap n : Nat) (l : List (List Int)) (w : World) (hn : l.length = n) (hsz : szL l ≤ 1048576) (hm : MatR w a l) :
    Calls Try.prog 31 #[.slice a n cap] w fun e w' => e = .returned (.bool (pairB l)) ∧ w.Since w.heap.size w' := by
  have E := isSquare_any a cap n l w hn hsz hm
  cases hs : sqB l with
  | false =>
    have hok : pairB l = false := by unfold pairB; rw [hs]; rfl
    rw [hs] at E
    rw [hok]
    replace E := Lib.hid E
    clear hs hm hn hsz hok
    go_enter Try.func31, Try.ntmps31
    go_wp2_with (first
      | (go_at_call 56; refine (E.out).mono ?_; rintro e w1 ⟨rfl, hd⟩; have HD := Lib.hid hd; clear hd))
    go_ret
    exact ⟨rfl, HD.out⟩
  | true =>
    obtain ⟨hT, hw⟩ := sqB_of hs
    rw [hn] at hw
    have hok : pairB l = decide (l = timesL (turnL l) (-1)) := by rw [about_same hT hn hw.symm]; unfold pairB; rw [hs, hn]; rfl
    rw [hs] at E
    rw [hok]
    have hTt := tabIn_of (tabIn_turn hT)
    have hlt : (turnL l).length = n := (turnL_length l).trans hw.symm
    have ET := fun (W : World) (hd : w.Since w.heap.size W) => turned_any a cap n l W hn hT (hm.since hd)
    simp only [← hw] at ET
    have EM := fun (b : Option Addr) (W : World) (hd : MatR W b (turnL l)) => times_any b n n (turnL l) (-1) W hlt hTt hd (by omega) (by omega)
    have ES := fun (b : Option Addr) (W : World) (hd : w.Since w.heap.size W) (hb : MatR W b (timesL (turnL l) (-1))) => same_any a b cap n n n l (timesL (turnL l) (-1)) W hn ((timesL_length _ _).trans hlt) (hm.since hd) hb hT (neg_tab hTt)
    obtain ⟨r, hr⟩ : ∃ r, decide (l = timesL (turnL l) (-1)) = r := ⟨_, rfl⟩
    simp only [hr] at ES
    rw [hr]
    replace E := Lib.hid E
    replace ET := Lib.hid ET
    replace EM := Lib.hid EM
    replace ES := Lib.hid ES
    clear hs hm hn hsz hok hT hw hTt hlt hr
    go_enter Try.func31, Try.ntmps31
    go_wp2_with (first
      | (go_at_call 56; refine (E.out).mono ?_; rintro e w1 ⟨rfl, hd⟩; have HD := Lib.hid hd; clear hd)
      | (go_at_call 47; refine (ET.out w1 HD.out).mono ?_; rintro e w2 ⟨rfl, hs2, ho2⟩; have HS2 := Lib.hid (HD.out.trans (since_mono hs2 HD.out.size)); have HO2 := Lib.hid ho2.matR; clear hs2 ho2)
      | (go_at_call 58; refine (EM.out _ w2 HO2.out).mono ?_; rintro e w3 ⟨rfl, hs3, ho3⟩; have HS3 := Lib.hid (HS2.out.trans (since_mono hs3 HS2.out.size)); have HO3 := Lib.hid ho3.matR; clear hs3 ho3)
      | (go_at_call 57; refine (ES.out _ w3 HS3.out HO3.out).mono ?_; rintro e w4 ⟨rfl, hs4⟩; have HS4 := Lib.hid (HS3.out.trans (since_mono hs4 HS3.out.size)); clear hs4))
    go_ret
    exact ⟨rfl, HS4.out⟩

theorem implPairIn_any (a : Option Addr) (cap n : Nat) (l : List (List Int)) (w : World) (hn : l.length = n) (hsz : szL l ≤ 1048576) (hm : MatR w a l) :
    Calls Try.prog 10 #[.slice a n cap] w fun e w' => e = .returned (.bool (pairB l)) ∧ w.Since w.heap.size w' := by
  have E := Lib.hid (turnedAbout_any a cap n l w hn hsz hm)
  clear hm hn hsz
  go_enter Try.func10, Try.ntmps10
  go_wp2_with fail
  refine (E.out).mono ?_
  rintro e w1 ⟨rfl, hd⟩
  have HD := Lib.hid hd
  clear hd
  go_wp2
  go_ret
  exact ⟨rfl, HD.out⟩

end Go.Proofs.Ytpimdgijjljejaa
end

section
/- The contracts of halfByRows and impl.PairRows. -/
namespace Go.Proofs.Ytpimdgijjljejaa
open Go.RowKit Go.Deep

theorem sn_bdR (p : Nat) : -1 ≤ sn p ∧ sn p ≤ 1 := by unfold sn; split <;> omega
theorem rest2_fin : ∀ n : Fin 7, ∀ k : Fin 6, 1 ≤ k.val → k.val < n.val → bits BinOp.or IntKind.i64 1 (2 ^ k.val) = ((1 + 2 ^ k.val : Nat) : Int) ∧ bits BinOp.andNot IntKind.i64 ((2 ^ n.val - 1 : Nat) : Int) ((1 + 2 ^ k.val : Nat) : Int) = ((2 ^ n.val - 2 - 2 ^ k.val : Nat) : Int) ∧
    2 ^ n.val - 2 - 2 ^ k.val < 2 ^ n.val := by decide +kernel

set_option maxRecDepth 100000 in
set_option maxHeartbeats 4000000 in
theorem halfByRows_any : ∀ (n : Nat), n ≤ 6 → ∀ (l : List (List Int)) (a : Option Addr) (cap : Nat) (W : World), SqD n l → MatR W a l → Calls Try.prog 39 #[.slice a n cap] W fun e w' => e = .returned (.int .i64 (pfR n l)) ∧ W.Since W.heap.size w'
  | 0, _, l, a, cap, W, _, _ => by
    show Calls _ _ _ _ fun e w' => e = .returned (.int .i64 1) ∧ _
    go_enter Try.func39, Try.ntmps39
    go_wp2
    go_ret
    exact ⟨rfl, World.Since.refl _ _⟩
  | 1, _, l, a, cap, W, _, _ => by
    show Calls _ _ _ _ fun e w' => e = .returned (.int .i64 0) ∧ _
    go_enter Try.func39, Try.ntmps39
    go_wp2
    go_loopg [3, 4, 5] 0 (fun g s k _ wr => g = 0 ∧ k = .int .i64 1 ∧ s = .int .i64 0 ∧ W = wr)
    case atStart => exact ⟨rfl, rfl, rfl, rfl⟩
    case round =>
      obtain ⟨rfl, rfl, rfl, rfl⟩ := hrel
      go_wp2
      go_ret
      exact ⟨rfl, World.Since.refl _ _⟩
  | d + 2, hd6, l, a, cap, W, hsq, hmat => by
    have ih := halfByRows_any d (by omega)
    obtain ⟨hT, hm⟩ := hsq.2 (by omega)
    have hl := hsq.1
    have hrs := fun k (h1 : 1 ≤ k) (hk : k < d + 2) => rest_sq hsq h1 hk
    have hbd := fun k (h1 : 1 ≤ k) (hk : k < d + 2) => pfR_bd d _ (rest_sq hsq h1 hk)
    have hsb := fun q (hq : q ≤ d + 2) => pfS_bd hsq hq
    have hp1 := p180_pos d
    have hp2 := p180_le d (by omega)
    show Calls _ _ _ _ fun e w' => e = .returned (.int .i64 (sumN (pfT l d) (d + 2))) ∧ _
    have hFT : ∀ k, 1 ≤ k → pfT l d k = sg (k + 1) (at2 l 0 k * pfR d (restL l (d + 2) k)) := fun k hk => if_neg (by omega)
    have hF0 : sumN (pfT l d) 1 = 0 := rfl
    obtain ⟨F, hF⟩ : ∃ F, pfT l d = F := ⟨_, rfl⟩
    simp only [hF] at hsb hFT hF0 ⊢
    have hfin := fun (q : Nat) (h1 : 1 ≤ q) (hq : q < d + 2) => rest2_fin ⟨d + 2, by omega⟩ ⟨q, by omega⟩ h1 hq
    simp only at hfin
    obtain ⟨n, hn⟩ : ∃ n, n = d + 2 := ⟨_, rfl⟩
    simp only [← hn] at hsb hrs hbd hm hl hFT hfin ⊢
    have hn1 : 2 ≤ n ∧ n ≤ 6 := by omega
    have e64 : 2 ^ n ≤ 64 := Nat.pow_le_pow_right (n := 2) (by omega) hn1.2
    have hrl : ∀ k, restL l n k = partL l (2 ^ n - 2 - 2 ^ k) (2 ^ n - 2 - 2 ^ k) := fun k => rfl
    obtain ⟨Aa, hA⟩ : ∃ A, 2 ^ n - 1 = A := ⟨_, rfl⟩
    obtain ⟨B, hB⟩ : ∃ B, 2 ^ n - 2 = B := ⟨_, rfl⟩
    simp only [hA, hB] at hfin
    simp only [hB] at hrl
    obtain ⟨b, o, A, C, rfl, hrow, hcell⟩ := hmat.grid hl hT hm
    have HC := Lib.hid hcell
    have HIH := Lib.hid (fun (L : List (List Int)) (a2 : Option Addr) (c2 : Nat) (V : World) (h1 : SqD d L) (h2 : MatR V a2 L) => ih L a2 c2 V h1 h2)
    have HPART := Lib.hid (fun (c : Nat) (hc : c ≤ 63) (V : World) (h : W.Since W.heap.size V) => part_any (some ⟨b, o, none⟩) cap n c c l V hl hT hc hc (hmat.since h))
    have HRS := Lib.hid hrs
    have HRL := Lib.hid hrl
    have HBD := Lib.hid hbd
    have HSB := Lib.hid hsb
    have HFT := Lib.hid hFT
    have HF0 := Lib.hid hF0
    have HFIN := Lib.hid hfin
    have hn0 : 0 < n := by omega
    have hne : ((n : Int) == 0) = false := by simp; omega
    have EA := Lib.hid (fun (V : World) => show Calls Try.prog 62 #[.slice (some ⟨b, o, none⟩) n cap] V fun e w' => e = .returned (.int .i64 (Aa : Nat)) ∧ V = w' from by rw [← hA]; exact allRows_any _ _ _ _ hn1.2)
    clear hmat hrow hcell ih hrs hrl hbd hsb hFT hF0 hfin hA hB hsq hm hl hF hn hd6
    go_enter Try.func39, Try.ntmps39
    go_wp2
    go_loopg [3, 4, 5] (n - 1) (fun g s k _ wr => ∃ q : Nat, 1 ≤ q ∧ q ≤ n ∧ g = n - q ∧ k = .int .i64 q ∧ s = .int .i64 (sumN F q) ∧ W.Since W.heap.size wr)
    case atStart => exact ⟨1, Nat.le_refl _, by omega, rfl, rfl, by rw [HF0.out], World.Since.refl _ _⟩
    case round =>
      obtain ⟨q, hq1, hq, rfl, rfl, rfl, hS⟩ := hrel
      obtain ⟨s0, hs0⟩ : ∃ s, s = sumN F q := ⟨_, rfl⟩
      rw [← hs0]
      by_cases hlt : q < n
      · obtain ⟨b', o', c1, c2, c3, c4⟩ := HC.out 0 q hn0 hlt
        rw [Nat.add_zero] at c1
        have q1 := (hS.cell (a := ⟨b, o, none⟩) (World.block_lt_of_cell? _ _ c1)).trans c1
        have q0 := (hS.cell (a := ⟨b', o' + q, none⟩) (World.block_lt_of_cell? _ _ c2)).trans c2
        have l1 : b < wr.heap.size := World.block_lt_of_cell? _ _ q1
        have l0 : b' < wr.heap.size := World.block_lt_of_cell? _ _ q0
        obtain ⟨f0, f5, f2⟩ := HFIN.out q hq1 hlt
        obtain ⟨y, hy⟩ : ∃ y, y = at2 l 0 q := ⟨_, rfl⟩
        rw [← hy] at q0 c3 c4
        have hLs := HRS.out q hq1 hlt
        have hfb := HBD.out q hq1 hlt
        have hLp := HRL.out q
        have hFq := HFT.out q hq1
        obtain ⟨L, hL⟩ : ∃ L, restL l n q = L := ⟨_, rfl⟩
        rw [hL] at hLs hfb hLp hFq
        obtain ⟨Cq, hCq⟩ : ∃ c, B - 2 ^ q = c := ⟨_, rfl⟩
        rw [hCq] at f5 hLp f2
        obtain ⟨D, hD⟩ : ∃ c, 1 + 2 ^ q = c := ⟨_, rfl⟩
        rw [hD] at f0 f5
        have hCl : Cq ≤ 63 := by omega
        have hLl := hLs.1
        obtain ⟨g2, hg2⟩ : ∃ f, pfR d L = f := ⟨_, rfl⟩
        rw [hg2] at hfb hFq
        have hxb := mul_bdB c3 c4 hfb.1 hfb.2
        have hwq := pow_in ⟨q, by omega⟩
        simp only at hwq
        have hmq : min q 64 = q := by omega
        have EP := fun (V : World) (h : W.Since W.heap.size V) => HPART.out Cq hCl V h
        simp only [← hLp, hLl] at EP
        replace EP := Lib.hid EP
        have ER := fun (a2 : Option Addr) (c2 : Nat) (V : World) (h : MatR V a2 L) => HIH.out L a2 c2 V hLs h
        simp only [hg2] at ER
        replace ER := Lib.hid ER
        have e : sumN F (q + 1) = s0 + sg (q + 1) (y * g2) := by
          show sumN F q + F q = _
          rw [← hs0, hFq, ← hy]
        have hsb := HSB.out (q + 1) (by omega)
        rw [e] at hsb
        have hsgn : sg (q + 1) (y * g2) = sn (q - 1) * y * g2 := by
          rw [sg_sn, Int.mul_assoc]
          congr 1
          unfold sn
          have : (q + 1) % 2 = (q - 1) % 2 := by omega
          rw [this]
        have hb1 := sn_bdR (q - 1)
        have ES := fun (V : World) => signOf_any (q - 1) (by omega) V
        rw [hsgn] at e hsb
        obtain ⟨g, hg⟩ : ∃ g, sn (q - 1) = g := ⟨_, rfl⟩
        rw [hg] at e hsb hb1
        simp only [hg] at ES
        replace ES := Lib.hid ES
        have hgc : g = -1 ∨ g = 0 ∨ g = 1 := by omega
        have hgy : -30 ≤ g * y ∧ g * y ≤ 30 := by rcases hgc with rfl | rfl | rfl <;> omega
        have hgz : -(30 * p180 d) ≤ g * y * g2 ∧ g * y * g2 ≤ 30 * p180 d := by
          have := mul_bdB hgy.1 hgy.2 hfb.1 hfb.2
          exact this
        obtain ⟨u, hu⟩ : ∃ u, g * y = u := ⟨_, rfl⟩
        have hw1 : IntKind.i64.wrap (g * y) = u := by rw [← hu]; exact IntWalk.i64_in _ ⟨by omega, by omega⟩
        rw [hu] at hgz e hsb
        obtain ⟨z, hz⟩ : ∃ z, u * g2 = z := ⟨_, rfl⟩
        have hw2 : IntKind.i64.wrap (u * g2) = z := by rw [← hz]; exact IntWalk.i64_in _ ⟨by omega, by omega⟩
        rw [hz] at hgz e hsb
        have hw3 : IntKind.i64.wrap (s0 + z) = s0 + z := IntWalk.i64_in _ ⟨by omega, by omega⟩
        have hwk : IntKind.i64.wrap ((q : Int) - 1) = ((q - 1 : Nat) : Int) := (IntWalk.i64_in _ ⟨by omega, by omega⟩).trans (by omega)
        have HE := Lib.hid e
        have HS := Lib.hid hS
        have HSD := Lib.hid hS.drew
        clear e hs0 hy hCq hL hLp hLs hLl hg2 hfb hS c1 c2 c3 c4 hFq hsb hsgn hb1 hgc hgy hgz hu hz hxb hg hD f2
        go_wp2
        go_quiet ((go_at_call 62; exact Calls.quiet_of_same ((EA.out _).mono fun _ _ h => ⟨h.1, h.2.symm⟩)))
        have hsV : W.Since W.heap.size (wr.drewN nq) := HS.out.trans ⟨rfl, rfl, rfl, Nat.le_refl _, fun _ _ => rfl⟩
        have p1 : (wr.drewN nq).cell? ⟨b, o, none⟩ = _ := q1
        have p0 : (wr.drewN nq).cell? ⟨b', o' + q, none⟩ = _ := q0
        obtain ⟨V1, hV1⟩ : ∃ V1, wr.drewN nq = V1 := ⟨_, rfl⟩
        rw [hV1] at hsV p1 p0 ⊢
        clear q1 q0 hV1 HS HSD
        have HSV := Lib.hid hsV.drew
        have q1 : V1.drew.cell? ⟨b, o, none⟩ = _ := p1
        have q0 : V1.drew.cell? ⟨b', o' + q, none⟩ = _ := p0
        have l1 : b < V1.drew.heap.size := World.block_lt_of_cell? _ _ q1
        have l0 : b' < V1.drew.heap.size := World.block_lt_of_cell? _ _ q0
        clear p1 p0 hsV
        go_wp2
        go_region_held3 (fun w' => w'.cell? ⟨b, o, none⟩ = some (.slice (some ⟨b', o', none⟩) n (C 0)) ∧ w'.cell? ⟨b', o' + q, none⟩ = some (.int .i64 y))
          (first | exact ⟨q1, q0⟩)
          (first
            | (go_at_call 63; refine (ES.out _).mono ?_; rintro e w2 ⟨rfl, rfl⟩)
            | (go_at_call 64; refine (EP.out _ (HSV.out)).mono ?_; rintro e w2 ⟨a2, k2, rfl, hs2, hi2⟩; have q1 := (hs2.cell (a := ⟨b, o, none⟩) l1).trans q1; have q0 := (hs2.cell (a := ⟨b', o' + q, none⟩) l0).trans q0; have l1 : b < w2.heap.size := World.block_lt_of_cell? _ _ q1; have l0 : b' < w2.heap.size := World.block_lt_of_cell? _ _ q0; have HS2 := Lib.hid (HSV.out.trans (since_mono hs2 HSV.out.size)); have HI2 := Lib.hid hi2.matR; clear hs2 hi2)
            | (go_at_call 39; refine (ER.out a2 k2 w2 HI2.out).mono ?_; rintro e w3 ⟨rfl, hs3⟩; have q1 := (hs3.cell (a := ⟨b, o, none⟩) l1).trans q1; have q0 := (hs3.cell (a := ⟨b', o' + q, none⟩) l0).trans q0; have HS3 := Lib.hid (HS2.out.trans (since_mono hs3 HS2.out.size)); clear hs3))
        clear q1 q0 l1 l0
        go_wp2
        go_roundg (n - (q + 1))
        case measure => omega
        case rel => exact ⟨q + 1, by omega, by omega, rfl, by go_num, by rw [HE.out], HS3.out⟩
      · have hqn : n = q := by omega
        rw [hs0]
        subst hqn
        go_wp2
        go_ret
        exact ⟨rfl, hS⟩


end Go.Proofs.Ytpimdgijjljejaa
end

section
/- The contract of impl.PairRows. -/
namespace Go.Proofs.Ytpimdgijjljejaa
open Go.RowKit Go.Deep

set_option maxHeartbeats 1000000 in
theorem implPairRows_any (a : Option Addr) (cap n : Nat) (l : List (List Int)) (w : World) (hn : l.length = n) (hsz : szL l ≤ 1048576) (hm : MatR w a l) :
    Calls Try.prog 18 #[.slice a n cap] w (SpecW w (pairB l) (pfR n l)) := by
  have E := implPairIn_any a cap n l w hn hsz hm
  cases hs : pairB l with
  | false =>
    rw [hs] at E
    replace E := Lib.hid E
    clear hs hm hn hsz
    go_enter Try.func18, Try.ntmps18
    go_wp2_with fail
    refine (E.out).mono ?_
    rintro e w1 ⟨rfl, hd⟩
    have HD := Lib.hid hd
    clear hd
    go_wp2
    go_ret2
    exact ⟨rfl, HD.out⟩
  | true =>
    rw [hs] at E
    replace E := Lib.hid E
    obtain ⟨hT, hw, hab⟩ := pairB_of hs hn
    have h6 := hT.2.1
    rw [hn] at h6
    have E2 := Lib.hid (fun (W : World) (hd : w.Since w.heap.size W) => halfByRows_any n h6 l a cap W ⟨hn, fun _ => ⟨hT, hw⟩⟩ (hm.since hd))
    clear hs hm hn hsz hT hw h6 hab
    go_enter Try.func18, Try.ntmps18
    go_wp2_with fail
    refine (E.out).mono ?_
    rintro e w1 ⟨rfl, hd⟩
    have HD := Lib.hid hd
    clear hd
    go_wp2_with fail
    refine (E2.out w1 HD.out).mono ?_
    rintro e w2 ⟨rfl, hs2⟩
    have HS2 := Lib.hid (HD.out.trans (since_mono hs2 HD.out.size))
    clear hs2
    go_wp2
    go_ret2
    exact ⟨rfl, HS2.out⟩

end Go.Proofs.Ytpimdgijjljejaa
end

section
/- The walk of laws.FnExactPairRows at any arguments. -/
namespace Go.Proofs.Ytpimdgijjljejaa
open Go.RowKit Go.Deep

theorem lawPairRows (a : Option Addr) (cap n : Nat) (l : List (List Int)) (w : World) (hn : l.length = n) (h63 : n ≤ 9223372036854775807) (hl : ∀ r, r < l.length → (l.getD r []).length ≤ 9223372036854775807) (hm : MatR w a l) :
    Calls Try.prog 5 #[.slice a n cap] w fun e w' => e = .returned (.bool true) ∧ w.Since w.heap.size w' :=
  lawPairRows_aux a cap n l (pairB l) (if (pairB l) = true then pfR n l else 0) w hn h63 hl hm
    (fun hz W b c hb => (specPairRows_any b c n l W hn hz hb).mono fun _ _ h => ⟨h.1, h.2⟩) (fun hz W b c hb => (implPairRows_any b c n l W hn hz hb).mono fun _ _ h => ⟨h.1, h.2⟩)

end Go.Proofs.Ytpimdgijjljejaa
end

section
/- What an argument reads as, in the words of the walks; the last step of a row. -/
namespace Go.Proofs.Ytpimdgijjljejaa
open Go.ChangeShapes Go.WideShapes Go.ChangeAt Go.RowKit Go.Deep

theorem below_since' {B : Nat} {w w' : World} (h : Below B w w') : w.Since B w' := ⟨h.os, h.tape, h.output, h.size, h.block⟩
theorem since_below' {B : Nat} {w w' : World} (h : w.Since B w') : Below B w w' := ⟨h.os, h.tape, h.output, h.size, h.block⟩

section
variable {H : Type} {enc : TypeId × Value → H} {P : Program}
theorem post_of_below {f : Func} {s : ChangeSpec} {apart fresh handsOn again : Bool} {W W' : World} {args : Array Value} {v : Value} {ds gs : List (DataW H)} {before pa pv : List MemPlace}
    (hW : DataW.Whole enc P f.params.toList s.vars apart W args.toList ds gs before)
    (hres : ∀ (b : Nat) (sp : Nat → Bool) (hd : Bool), DataW.TrodAll enc P W' b sp hd f.resultTypes.toList (v.resultList f.resultTypes.size) (s.fn H (ds ++ gs)).results [])
    (hargs : ∀ sp : Nat → Bool, (∀ p ∈ before, sp p.block = true) → DataW.TrodAll enc P W' 0 sp true f.params.toList args.toList (s.fn H (ds ++ gs)).args pa)
    (hvars : ∀ sp : Nat → Bool, (∀ p ∈ before, sp p.block = true) → DataW.TrodVars enc P W' sp s.vars (s.fn H (ds ++ gs)).vars pv)
    (hps : before = pa ++ pv) (hb : Below W.heap.size W W') (hag : again = false) :
    s.post enc P f apart fresh handsOn again W args v W' := by
  have hlt : ∀ p ∈ before, p.block < W.heap.size := fun p hp => hW.lt p hp
  have hold : ∀ p ∈ before, (fun b => decide (b < W.heap.size)) p.block = true := fun p hp => by simpa using hlt p hp
  refine ⟨ds, gs, before, [], pa, pv, hW, hres _ _ _, hargs _ hold, hvars _ hold, World.keptBut_mono (fun p hp => ⟨hp, ?_⟩) (hb.frame (· ∈ before)), fun h => ?_⟩
  · rw [hps, List.mem_append] at hp
    exact Or.inr hp
  · rw [hag] at h; cases h

/-- An argument of slices of integers reads as a list of lists. -/
theorem open_mat {W : World} {t e q : TypeId} {a : Option Addr} {n cap : Nat} {d : DataW H} {p : List MemPlace} (ht : P.underlying t = some (.slice e)) (he : P.underlying e = some (.slice q)) (hq : P.underlying q = some (.int .i64))
    (ce : P.cellsOf e = 1) (cq : P.cellsOf q = 1) (h : DataW.Trod enc P W 0 (fun _ => true) true t (.slice a n cap) d p) :
    ∃ l : List (List Int), l.length = n ∧ MatR W a l ∧ n ≤ 9223372036854775807 ∧ ∀ r, r < l.length → (l.getD r []).length ≤ 9223372036854775807 := by
  obtain ⟨fuel, hf⟩ := h
  rcases open_int_rows ht he hq ce cq hf with ⟨hcs, _⟩ | ⟨a', len', cap', A, L, C, Z, hcs, _, hl, hm, _, hrows⟩
  · simp [Value.cells] at hcs
    obtain ⟨rfl, rfl, rfl⟩ := hcs
    exact ⟨[], rfl, (fun h => by simp at h), by omega, fun r hr => by simp at hr⟩
  · simp [Value.cells] at hcs
    obtain ⟨rfl, rfl, rfl⟩ := hcs
    have hmx : maxLen = 9223372036854775807 := rfl
    have hlen : ∀ r, r < n → ((Z r).take (L r)).length = L r := fun r hr => by
      obtain ⟨_, h1, _, h2, _⟩ := hrows r (by omega)
      rw [List.length_take]; omega
    have hget : ∀ r, r < n → ((List.range n).map fun r => (Z r).take (L r)).getD r [] = (Z r).take (L r) := fun r hr => by simp [List.getD, hr]
    refine ⟨(List.range n).map fun r => (Z r).take (L r), by simp, fun h => ?_, by omega, fun r hr => ?_⟩
    · obtain ⟨b, o, spot⟩ := a'
      simp at h
      have hspot : spot = none := by simpa [Addr.add] using World.cell?_spot (hrows 0 (by omega)).1
      subst hspot
      refine ⟨b, o, A, C, rfl, fun r hr => ?_⟩
      simp at hr
      rw [hget r hr, hlen r hr]
      obtain ⟨g1, g2, g3, g4, g5, g6, g7⟩ := hrows r (by omega)
      refine ⟨by rw [← add_plain]; exact g1, fun h0 => ?_⟩
      rw [hlen r hr] at h0
      cases hA : A r with
      | none => have := g6 hA; omega
      | some a'' =>
        obtain ⟨_, hcell⟩ := g7 a'' hA
        obtain ⟨b', o', sp⟩ := a''
        have hs : sp = none := by simpa [Addr.add] using World.cell?_spot (hcell 0 (by omega))
        subst hs
        refine ⟨b', o', rfl, fun i hi => ?_⟩
        rw [hlen r hr] at hi
        rw [← add_plain, hcell i (by omega)]
        congr 2
        simp [List.getD, hi]
    · simp at hr
      rw [hget r hr, hlen r hr]
      obtain ⟨_, h1, h2, _⟩ := hrows r (by omega)
      omega
end

theorem Try.own : ownKnob Try.prog.godebug = none := by kernel_rfl
theorem Try.laidOut : laidOutB Try.prog = true := by kernel_rfl
theorem Try.cellsR : Try.prog.cellsOf 43 = 1 := by kernel_rfl
theorem Try.cellsI : Try.prog.cellsOf 3 = 1 := by kernel_rfl

end Go.Proofs.Ytpimdgijjljejaa
end

section
/- The statement FnExactPairRows, proved: for every input the law returns true and each argument reads as before. No conditions. -/
namespace Go.Proofs.Ytpimdgijjljejaa
open Go.ChangeShapes Go.WideShapes Go.ChangeAt Go.RowKit Go.Deep

set_option maxRecDepth 100000 in
theorem lifted_PairRows (os : Os) (started : os.Started) (H : Type) (enc : TypeId × Value → H) :
    ReturnsInHanded {} Try.checked os 5 .any (Rows.fnExactPairRowsSpec.pre6 enc Try.prog Try.f5 Rows.fnExactPairRowsRow.domain false) (Rows.fnExactPairRowsSpec.post enc Try.prog Try.f5 false true false false) := by
  refine returnsInHanded_of_change (C := Try.checked) Try.own started (by kernel_rfl) Try.func5
    (ChangeSpec.witness6 (enc := enc) (C := Try.checked) false ⟨#[], #[.slice none 0 0], []⟩ 8 (by kernel_rfl) (by kernel_rfl) (by kernel_rfl) (by kernel_rfl)) ?_
  intro W base args ds gs before hval0 hW _ _
  have hval : ∀ (j : Nat) t v, Try.f5.params[j]? = some t → args[j]? = some v → Value.okWide Try.prog W .any base t v := hval0
  have hW' := hW
  obtain ⟨p, q, hA0, hV, rfl, hfz, hnd⟩ := hW
  have hA : DataW.TrodAll enc Try.prog W 0 (fun _ => true) true Try.f5.params.toList args.toList ds p := hA0
  rw [Try.params5] at hA hval
  obtain ⟨v0, d0, rfl, rfl, h0⟩ := trodAll_one hA
  obtain ⟨p0, hp0⟩ : ∃ p0, p0 = p := ⟨_, rfl⟩
  subst hp0
  obtain ⟨rfl, rfl⟩ := trodVars_none hV
  obtain ⟨a0, n0, cap0, rfl⟩ := okWide_slice Try.underlying23 (hval 0 23 v0 rfl rfl)
  obtain ⟨l0, hl0, hm0, h630, hls0⟩ := open_mat Try.underlying23 Try.underlying43 Try.underlying3 Try.cellsR Try.cellsI h0
  clear hA0 hval0
  simp only [List.append_nil] at hW'
  have hlt0 : ∀ x ∈ p0, x.block < W.heap.size := fun x hx => hW'.lt x (by simp [hx])
  refine (lawPairRows a0 cap0 n0 l0 W hl0 h630 hls0 hm0).mono fun e W' ⟨he, hs⟩ => ?_
  subst he
  have hb := since_below' hs
  have ht0 : ∀ sp : Nat → Bool, (∀ x ∈ p0, sp x.block = true) → DataW.Trod enc Try.prog W' 0 sp true 23 (.slice a0 n0 cap0) d0 p0 := fun sp hsp =>
    WideElems.Trod_stays Try.laidOut (by kernel_rfl) (of_decide_eq_true (by kernel_rfl)) h0 (fun x hx => hb.same (hlt0 x hx)) hsp
  have hargs : ∀ sp : Nat → Bool, (∀ x ∈ (p0), sp x.block = true) → DataW.TrodAll enc Try.prog W' 0 sp true [23] [.slice a0 n0 cap0] [d0] (p0) := fun sp hsp => by
    have := trodAll_mk1 (enc := enc) (P := Try.prog) (w := W') (base := 0) (spare := sp) (held := true) (ht0 sp (fun x hx => hsp x (by simp [hx])))
    simpa using this
  exact ⟨_, rfl, post_of_below (pa := p0) (pv := []) hW' (fun _ _ _ => trodAll_mk1 (shut_bool Try.underlying4 true)) (fun sp hsp => hargs sp (fun x hx => hsp x (by simpa using hx))) (fun _ _ => rfl) (by simp) hb rfl⟩

theorem FnExactPairRows_holds : Rows.FnExactPairRowsSaid :=
  OpenClaim.holds_of_wide 5 Try.f5 rfl rfl rfl rfl rfl rfl rfl ⟨rfl, rfl, rfl, rfl, rfl⟩ rfl rfl rfl rfl rfl (by kernel_rfl) Try.func5 (by kernel_rfl)
    (of_decide_eq_true (by kernel_rfl)) (by unfold Func.isWrapper; first | (rw [if_pos (by decide +kernel)]; kernel_rfl) | (rw [if_neg (by decide +kernel)]; exact ⟨rfl, rfl⟩))
    (fun os started H enc _ => lifted_PairRows os started H enc)

end Go.Proofs.Ytpimdgijjljejaa
end

import Derived.Test.YtiabnlebonmedaaSome0
import Derived.Test.YtiabnlebonmedaaHarn2
import Derived.Test.YtiabnlebonmedaaPlainI
import Derived.Test.YtiabnlebonmedaaSquareV
import Derived.Test.YtiabnlebonmedaaOrdersK
import Derived.Test.YtiabnlebonmedaaPlainV
import Derived.Test.YtiabnlebonmedaaPlainP
import Derived.Test.YtiabnlebonmedaaRows
import Derived.Test.YtiabnlebonmedaaData
import Derived.ProofKit
import Derived.Deep.Matrix
import Derived.Test.YtiabnlebonmedaaDraw0

section
/- The contract of spec.l91Some. -/
namespace Go.Proofs.Ytiabnlebonmedaa
open Go.RowKit Go.Deep

/-- A table that a call has drawn: at least one row, no row empty. -/
def Drawn0 (w w' : World) (R K : Nat) (a : Option Addr) (l : List (List Int)) : Prop :=
  1 ≤ l.length ∧ l.length ≤ R ∧ (∀ j, j < l.length → 1 ≤ (l.getD j []).length ∧ (l.getD j []).length ≤ K + 1) ∧ InT w.heap.size w'.heap.size w' a l

theorem lens_set {l : List (List Int)} {r : Nat} {y : List Int} {n m K : Nat} (hl : l.length = n) (h : ∀ j, j < n → (l.getD j []).length = m) (hm : 1 ≤ m ∧ m ≤ K) (hy : 1 ≤ y.length ∧ y.length ≤ K + 1) : ∀ j, j < (l.set r y).length → 1 ≤ ((l.set r y).getD j []).length ∧ ((l.set r y).getD j []).length ≤ K + 1 := by
  intro j hj
  rw [List.length_set] at hj
  by_cases e : j = r
  · subst e
    rw [show (l.set j y).getD j [] = y by simp [List.getD, hj]]
    exact hy
  · rw [show (l.set r y).getD j [] = l.getD j [] by simp [List.getD, List.getElem?_set_ne (Ne.symm e)], h j (by omega)]
    omega

end Go.Proofs.Ytiabnlebonmedaa
end

section
/- The contract of spec.l6Open, and of what draws one table. -/
namespace Go.Proofs.Ytiabnlebonmedaa
open Go.RowKit Go.Deep

set_option maxHeartbeats 1000000 in
theorem l6Open_any (a : Option Addr) (nb cb : Nat) (w : World) (hc : nb ≤ cb) (h63 : cb ≤ 9223372036854775807) (hb : BytR w a nb) :
    Calls Try.prog 63 #[.slice a nb cb] w fun e w' => ∃ n' c', e = .returned (.pointer (some ⟨w.heap.size, 0, none⟩)) ∧ w.Since w.heap.size w' ∧ w'.heap.size = w.heap.size + 1 ∧ RD w w' w.heap.size a n' c' 67 0 := by
  by_cases hl : 2000 < nb
  · have hl' : decide ((2000 : Int) < (nb : Int)) = true := by simp; omega
    have h2 : (2000 : Int) ≤ (cb : Int) := by omega
    obtain ⟨b, o, rfl, hcell⟩ := hb (by omega)
    go_enter Try.func63, Try.ntmps63
    go_wp2
    go_ret
    exact ⟨_, _, rfl, (World.Since.refl _ _).alloc (Nat.le_refl _) _, by simp, ⟨heap_alloc_new _ _, Nat.le_refl _, (World.Since.refl _ _).alloc (Nat.le_refl _) _, fun _ => ⟨b, o, rfl, fun i hi => hcell i (by omega)⟩, by omega⟩⟩
  · have hl' : decide ((2000 : Int) < (nb : Int)) = false := by simp; omega
    go_enter Try.func63, Try.ntmps63
    go_wp2
    go_ret
    exact ⟨_, _, rfl, (World.Since.refl _ _).alloc (Nat.le_refl _) _, by simp, ⟨heap_alloc_new _ _, Nat.le_refl _, (World.Since.refl _ _).alloc (Nat.le_refl _) _, hb, by omega⟩⟩

/-- A call has drawn a table. -/
def DrawnT (w w' : World) (R K : Nat) (a : Option Addr) (l : List (List Int)) : Prop :=
  1 ≤ l.length ∧ l.length ≤ R ∧ (∀ j, j < l.length → 1 ≤ (l.getD j []).length ∧ (l.getD j []).length ≤ K + 1) ∧ InT w.heap.size w'.heap.size w' a l

end Go.Proofs.Ytiabnlebonmedaa
end

section
/- The contracts of the functions that draw a square. -/
namespace Go.Proofs.Ytiabnlebonmedaa
open Go.RowKit Go.Deep

set_option maxRecDepth 100000 in
set_option maxHeartbeats 4000000 in
theorem l91Square_any (w0 w : World) (G nb c p R : Nat) (a : Option Addr) (h : RD w0 w G a nb c 67 p) (hR1 : 1 ≤ R) (hR : R ≤ 8) (hp : p ≤ 40000) :
    Calls Try.prog 62 #[.pointer (some ⟨G, 0, none⟩), .int .i64 R] w fun e w' => ∃ a' cap l p', e = .returned (.slice a' l.length cap) ∧ w.grownBy w' (some G) ∧ RD w0 w' G a nb c 67 p' ∧ p' ≤ p + 1200 ∧ Drawn0 w w' R R a' l := by
  have hG := h.lt
  have HRD := Lib.hid h
  clear h
  go_enter Try.func62, Try.ntmps62
  go_wp2_with fail
  refine (pick_any w0 _ G nb c _ a _ HRD.out (by omega)).mono ?_
  rintro e w1 ⟨y1, rfl, hy1, hg1, hd1⟩
  obtain ⟨n, hn, hnn⟩ : ∃ n : Nat, IntKind.i64.wrap (1 + (y1 : Int)) = n ∧ n = y1 + 1 := ⟨y1 + 1, (IntWalk.i64_in _ ⟨by omega, by omega⟩).trans (by omega), rfl⟩
  have hn1 : 1 ≤ n ∧ n ≤ R := by omega
  have HD2 := Lib.hid hd1
  have HG2 := Lib.hid hg1
  clear hd1 hg1 hnn hy1 HRD
  go_wp2_with fail
  refine (l91Table_any w0 _ G nb c _ n n a HD2.out (by omega) (by omega) (by omega) (by omega)).mono ?_
  rintro e w3 ⟨v, l, A, C, p3, rfl, hl, hlm, hg3, hd3, hp3, hB⟩
  obtain ⟨b, cp, cur, hv, hbb, hcur, hc⟩ := hB.top (by omega)
  rw [hl] at hv
  subst hv
  have hG2 := HG2.out.size
  have HD3 := Lib.hid hd3
  have HG3 := Lib.hid (grown_trans HG2.out hg3)
  have HB := Lib.hid hB
  clear hd3 hg3 hcur hc hB HD2
  go_wp2_with fail
  refine (pick_any w0 _ G nb c _ a _ HD3.out (by omega)).mono ?_
  rintro e w4 ⟨y4, rfl, hy4, hg4, hd4⟩
  have HG4 := Lib.hid (grown_trans HG3.out hg4)
  have HB4 := Lib.hid (HB.out.kept hg4 (by omega))
  have HD4 := Lib.hid hd4
  have hz4 := HG4.out.size
  clear hd4 hg4 HB HG3 HD3 hy4
  obtain ⟨g0, hA0, hg0, hrb0⟩ := HB4.out.row (r := 0) (by omega)
  by_cases hy0 : y4 = 0
  · subst hy0
    obtain ⟨t1, _, _⟩ := HB4.out.cellTop (r := 0) (by omega)
    rw [hlm 0 (by omega), hA0] at t1
    have t2 := hrb0.cell (i := 0) (by rw [hlm 0 (by omega)]; omega)
    have t3 := hrb0.frozen 0
    have hIT := HB4.out.setNum (r := 0) (k := 0) (by omega) hA0 (by rw [hlm 0 (by omega)]; omega) 31
    have hll : (l.set 0 ((l.getD 0 []).set 0 31)).length = n := by rw [List.length_set]; exact hl
    have hlens := lens_set (K := R) (r := 0) (y := (l.getD 0 []).set 0 31) hl hlm (by omega) (by rw [List.length_set, hlm 0 (by omega)]; omega)
    have HIT := Lib.hid hIT
    have HLL := Lib.hid hll
    have HLENS := Lib.hid hlens
    have HGS := Lib.hid (grown_set HG4.out (show w.heap.size ≤ g0 by omega) (k := 0) (.int .i64 31))
    have HDS := Lib.hid (HD4.out.grown (grown_set_any w4 g0 0 (.int .i64 31)) (fun i e => by cases e; omega))
    have p1 : 0 < n := by omega
    clear hrb0 hIT hll hlens hA0 hlm hl
    go_wp2
    go_ret
    exact ⟨_, _, l.set 0 ((l.getD 0 []).set 0 31), _, by rw [HLL.out]; rfl, HGS.out, HDS.out, by omega, by rw [HLL.out]; omega, by rw [HLL.out]; omega, HLENS.out, HIT.out.mono hG2 (by simp)⟩
  · clear hrb0 hA0 hg0
    by_cases hy1 : y4 = 1
    · subst hy1
      clear hlm hl HB4
      have hnp : IntKind.i64.wrap ((n : Int) + 1) = ((n + 1 : Nat) : Int) := (IntWalk.i64_in _ ⟨by omega, by omega⟩).trans (by omega)
      have E5 := l91Table_any w0 w4 G nb c _ n (n + 1) a HD4.out (by omega) (by omega) (by omega) (by omega)
      rw [show ((n + 1 : Nat) : Int) = (n : Int) + 1 by omega] at E5
      replace E5 := Lib.hid E5
      go_wp2_with fail
      refine (E5.out).mono ?_
      rintro e w5 ⟨v, l5, A5, C5, p5, rfl, hl, hlm, hg5, hd5, hp5, hB⟩
      obtain ⟨a', cap', hv, hIT⟩ := hB.inT
      rw [hl] at hv
      subst hv
      have HL := Lib.hid hl
      have HLM := Lib.hid hlm
      have HIT := Lib.hid hIT
      have HG5 := Lib.hid (grown_trans HG4.out hg5)
      have HD5 := Lib.hid hd5
      have hG4 := HG4.out.size
      clear hl hlm hIT hB hg5 hd5
      go_wp2
      go_ret
      exact ⟨_, _, l5, _, by rw [HL.out]; rfl, HG5.out, HD5.out, by omega, by rw [HL.out]; omega, by rw [HL.out]; omega, fun j hj => by rw [HLM.out j (by rw [← HL.out]; exact hj)]; omega, HIT.out.mono hG4 (Nat.le_refl _)⟩
    · have h1 : ((y4 : Int) == 0) = false := by simp; omega
      have h2 : ((y4 : Int) == 1) = false := by simp; omega
      obtain ⟨a', cap', hv, hIT⟩ := HB4.out.inT
      rw [hl] at hv
      injection hv with hv _ _
      subst hv
      have HL := Lib.hid hl
      have HLM := Lib.hid hlm
      have HIT := Lib.hid hIT
      clear hl hlm hIT
      go_wp2
      go_ret
      exact ⟨_, _, l, _, by rw [HL.out]; rfl, HG4.out, HD4.out, by omega, by rw [HL.out]; omega, by rw [HL.out]; omega, fun j hj => by rw [HLM.out j (by rw [← HL.out]; exact hj)]; omega, HIT.out.mono hG2 (Nat.le_refl _)⟩

set_option maxHeartbeats 1000000 in
theorem l91Squared_any (a : Option Addr) (nb cb : Nat) (w : World) (hc : nb ≤ cb) (h63 : cb ≤ 9223372036854775807) (hb : BytR w a nb) :
    Calls Try.prog 36 #[.slice a nb cb] w fun e w' => ∃ a' cap l, e = .returned (.slice a' l.length cap) ∧ w.Since w.heap.size w' ∧ DrawnT w w' 5 5 a' l := by
  have E := Lib.hid (l6Open_any a nb cb w hc h63 hb)
  clear hb
  go_enter Try.func36, Try.ntmps36
  go_wp2_with fail
  refine (E.out).mono ?_
  rintro e w1 ⟨n', c', rfl, hs, hz, hd⟩
  have HD := Lib.hid hd
  clear hd
  go_wp2_with fail
  refine (l91Square_any w w1 w.heap.size n' c' 0 5 a HD.out (by omega) (by omega) (by omega)).mono ?_
  rintro e w2 ⟨a', cap', l, p', rfl, hg, hd2, hp, h1, h5, hl, hit⟩
  go_wp2
  go_ret
  exact ⟨a', cap', l, rfl, hs.trans (since_grown hg (Nat.le_refl _) hs.size), h1, h5, hl, hit.mono hs.size (Nat.le_refl _)⟩

set_option maxHeartbeats 1000000 in
theorem drawValueOrders_any (a : Option Addr) (nb cb : Nat) (w : World) (hc : nb ≤ cb) (h63 : cb ≤ 9223372036854775807) (hb : BytR w a nb) :
    Calls Try.prog 28 #[.slice a nb cb] w fun e w' => ∃ a' cap l, e = .returned (.slice a' l.length cap) ∧ w.Since w.heap.size w' ∧ DrawnT w w' 5 5 a' l := by
  have E := Lib.hid (l91Squared_any a nb cb w hc h63 hb)
  clear hb
  go_enter Try.func28, Try.ntmps28
  go_wp2_with fail
  refine (E.out).mono ?_
  rintro e w1 ⟨a', cap', l, rfl, hs, hd⟩
  go_wp2
  go_ret
  exact ⟨a', cap', l, rfl, hs, hd⟩




set_option maxHeartbeats 1000000 in
theorem drawPlainOrders_any (a : Option Addr) (nb cb : Nat) (w : World) (hc : nb ≤ cb) (h63 : cb ≤ 9223372036854775807) (hb : BytR w a nb) :
    Calls Try.prog 13 #[.slice a nb cb] w fun e w' => ∃ a' cap l, e = .returned (.slice a' l.length cap) ∧ w.Since w.heap.size w' ∧ DrawnT w w' 5 5 a' l := by
  have E := Lib.hid (l91Squared_any a nb cb w hc h63 hb)
  clear hb
  go_enter Try.func13, Try.ntmps13
  go_wp2_with fail
  refine (E.out).mono ?_
  rintro e w1 ⟨a', cap', l, rfl, hs, hd⟩
  go_wp2
  go_ret
  exact ⟨a', cap', l, rfl, hs, hd⟩

set_option maxHeartbeats 1000000 in
theorem drawPlainSums_any (a : Option Addr) (nb cb : Nat) (w : World) (hc : nb ≤ cb) (h63 : cb ≤ 9223372036854775807) (hb : BytR w a nb) :
    Calls Try.prog 18 #[.slice a nb cb] w fun e w' => ∃ a' cap l, e = .returned (.slice a' l.length cap) ∧ w.Since w.heap.size w' ∧ DrawnT w w' 5 5 a' l := by
  have E := Lib.hid (l91Squared_any a nb cb w hc h63 hb)
  clear hb
  go_enter Try.func18, Try.ntmps18
  go_wp2_with fail
  refine (E.out).mono ?_
  rintro e w1 ⟨a', cap', l, rfl, hs, hd⟩
  go_wp2
  go_ret
  exact ⟨a', cap', l, rfl, hs, hd⟩

set_option maxHeartbeats 1000000 in
theorem drawPlainCount_any (a : Option Addr) (nb cb : Nat) (w : World) (hc : nb ≤ cb) (h63 : cb ≤ 9223372036854775807) (hb : BytR w a nb) :
    Calls Try.prog 21 #[.slice a nb cb] w fun e w' => ∃ a' cap l, e = .returned (.slice a' l.length cap) ∧ w.Since w.heap.size w' ∧ DrawnT w w' 5 5 a' l := by
  have E := Lib.hid (l91Squared_any a nb cb w hc h63 hb)
  clear hb
  go_enter Try.func21, Try.ntmps21
  go_wp2_with fail
  refine (E.out).mono ?_
  rintro e w1 ⟨a', cap', l, rfl, hs, hd⟩
  go_wp2
  go_ret
  exact ⟨a', cap', l, rfl, hs, hd⟩

end Go.Proofs.Ytiabnlebonmedaa
end

section
/- The contracts of laws.sameInts and laws.sameRows. -/
namespace Go.Proofs.Ytiabnlebonmedaa
open Go.RowKit Go.Deep

end Go.Proofs.Ytiabnlebonmedaa
end

section
/- The walk of laws.FnTurn. -/
namespace Go.Proofs.Ytiabnlebonmedaa
open Go.RowKit Go.Deep

theorem szL_of {l : List (List Int)} {n k : Nat} (h1 : l.length ≤ n) (h2 : ∀ j, j < l.length → (l.getD j []).length ≤ k) (hnk : n * k + n ≤ 1048576) : szL l ≤ 1048576 := by
  have h3 := sumTo_le_mul l k h2 l.length (Nat.le_refl _)
  have h4 : l.length * k ≤ n * k := Nat.mul_le_mul_right _ h1
  have h5 : k * l.length = l.length * k := Nat.mul_comm _ _
  unfold szL
  omega
theorem rows_le {l : List (List Int)} (h : szL l ≤ 1048576) : ∀ r, r < l.length → (l.getD r []).length ≤ 9223372036854775807 := fun r hr => by
  have := row_le l hr
  unfold szL at h
  omega

theorem tab_self {l : List (List Int)} {n m : Nat} (hn : l.length = n) (hm : ∀ r, r < n → (l.getD r []).length = m) : tabF n m (at2 l) = l := by
  refine List.ext_getElem (by rw [tabF_length, hn]) fun r h1 h2 => ?_
  have hr : r < n := by rw [tabF_length] at h1; exact h1
  have e1 : (tabF n m (at2 l))[r] = (tabF n m (at2 l)).getD r [] := by simp [List.getD, h1]
  have e2 : l[r] = l.getD r [] := by simp [List.getD, h2]
  rw [e1, e2, tabF_get _ _ _ _ hr]
  refine List.ext_getElem (by rw [List.length_map, List.length_range, hm r hr]) fun k h3 h4 => ?_
  rw [List.getElem_map, List.getElem_range]
  unfold at2
  obtain ⟨x, hx⟩ : ∃ x, x = l.getD r [] := ⟨_, rfl⟩
  subst hx
  generalize l.getD r [] = x at *
  simp [List.getD, h4]

theorem turnL_turnL {l : List (List Int)} (hT : TabIn l) : turnL (turnL l) = l := by
  have h1 := hT.1
  have hw := hT.width
  have e0 : ((turnL l).getD 0 []).length = l.length := tabF_len _ _ _ _ hw.1
  have e1 : turnL (turnL l) = tabF l.length (l.getD 0 []).length fun k i => at2 (turnL l) i k := by
    show tabF ((turnL l).getD 0 []).length (turnL l).length _ = _
    rw [e0, turnL_length]
  rw [e1]
  have e2 : tabF l.length (l.getD 0 []).length (fun k i => at2 (turnL l) i k) = tabF l.length (l.getD 0 []).length (at2 l) := by
    unfold tabF
    refine List.map_congr_left fun r hr => List.map_congr_left fun k hk => ?_
    exact tabF_at _ _ _ _ _ (List.mem_range.1 hk) (List.mem_range.1 hr)
  rw [e2]
  exact tab_self rfl (fun r hr => hT.row hr)

end Go.Proofs.Ytiabnlebonmedaa
end

section
/- The contract of impl.PlainOrders. -/
namespace Go.Proofs.Ytiabnlebonmedaa
open Go.RowKit Go.Deep

set_option maxHeartbeats 1000000 in
theorem implPlainOrders_any (a : Option Addr) (cap n : Nat) (l : List (List Int)) (w : World) (hn : l.length = n) (hsz : szL l ≤ 1048576) (hm : MatR w a l) :
    Calls Try.prog 14 #[.slice a n cap] w (SpecW w (sqB l) (plF l n n 0)) := by
  have E := isSquare_any a cap n l w hn hsz hm
  cases hs : sqB l with
  | false =>
    rw [hs] at E
    replace E := Lib.hid E
    clear hs hm hn hsz
    go_enter Try.func14, Try.ntmps14
    go_wp2_with fail
    refine (E.out).mono ?_
    rintro e w1 ⟨rfl, hd⟩
    have HD := Lib.hid hd
    clear hd
    go_wp2
    go_ret2
    exact ⟨rfl, HD.out⟩
  | true =>
    rw [hs] at E
    replace E := Lib.hid E
    obtain ⟨hT, hw⟩ := sqB_of hs
    have E2 := Lib.hid (fun (W : World) (hd : w.Since w.heap.size W) => plainByOrders_any a cap n l W hn hT (by omega) (hm.since hd))
    clear hs hm hn hsz hT hw
    go_enter Try.func14, Try.ntmps14
    go_wp2_with fail
    refine (E.out).mono ?_
    rintro e w1 ⟨rfl, hd⟩
    have HD := Lib.hid hd
    clear hd
    go_wp2_with fail
    refine (E2.out w1 HD.out).mono ?_
    rintro e w2 ⟨rfl, hs2⟩
    have HS2 := Lib.hid (HD.out.trans (since_mono hs2 HD.out.size))
    clear hs2
    go_wp2
    go_ret2
    exact ⟨rfl, HS2.out⟩

end Go.Proofs.Ytiabnlebonmedaa
end

section
/- The contract of countOrders. -/
namespace Go.Proofs.Ytiabnlebonmedaa
open Go.RowKit Go.Deep Go.Shelf
attribute [local go_sem] Oper.semAt_some

/-- 1 for a list whose product is not 0. -/
def onP (l : List (List Int)) (cs : List Nat) : Int := if prodC l cs = 0 then 0 else 1
theorem prodN_one (l : List (List Int)) {n : Nat} {cs : List Nat} (hl : cs.length = n) (hc : ∀ c ∈ cs, c < n) : ∀ m, m ≤ n → prodN 1 (fun i => at2 (oneL l n) i (cs.getD i 0)) m = if prodN 1 (fun i => at2 l i (cs.getD i 0)) m = 0 then 0 else 1
  | 0, _ => by simp [prodN]
  | m + 1, h => by
    have hk : cs.getD m 0 < n := by
      have : cs.getD m 0 = cs[m]'(by omega) := by simp [List.getD, show m < cs.length by omega]
      rw [this]; exact hc _ (List.getElem_mem _)
    have e : at2 (oneL l n) m (cs.getD m 0) = oneN l m (cs.getD m 0) := tabF_at n n (oneN l) m _ (by omega) hk
    unfold prodN
    rw [prodN_one l hl hc m (by omega), e]
    unfold oneN
    by_cases h1 : prodN 1 (fun i => at2 l i (cs.getD i 0)) m = 0
    · rw [if_pos h1, h1]; simp
    · by_cases h2 : at2 l m (cs.getD m 0) = 0
      · rw [if_pos h2, h2]; simp
      · rw [if_neg h1, if_neg h2, if_neg (Int.mul_ne_zero h1 h2)]; rfl
theorem prodC_one (l : List (List Int)) {n : Nat} (_h1 : 1 ≤ n) (_h6 : n ≤ 6) {cs : List Nat} (hl : cs.length = n) (hc : ∀ c ∈ cs, c < n) : prodC (oneL l n) cs = onP l cs := by
  unfold onP prodC
  rw [hl]
  exact prodN_one l hl hc n (Nat.le_refl _)

set_option maxRecDepth 100000 in
set_option maxHeartbeats 2000000 in
theorem countOrders_any (a : Option Addr) (cap n : Nat) (l : List (List Int)) (w : World) (hn : l.length = n) (hT : TabIn l) (hw : (l.getD 0 []).length = n) (hm : MatR w a l) :
    Calls Try.prog 44 #[.slice a n cap] w fun e w' => e = .returned (.int .i64 (plF (oneL l n) n n 0)) ∧ w.Since w.heap.size w' := by
  have h6 := hT.2.1
  have h1 := hT.1
  rw [hn] at h6 h1
  have hE := entB_of hT hn hw
  have EP := Lib.hid (fun (x : OL) (V : World) (hs : w.Since w.heap.size V) (hx : olP n x V) => plainProduct_any a cap n l x.1 n x.2 V hn hT hw (hm.since hs) hx.1.1 hx.1.2 hx.2)
  refine (callsIn_wide (n := 9)).1 ?_
  refine callsIn_of_wp_marks Try.func44 rfl trivial ?_ rfl
  simp only [Try.ntmps44, List.size_toArray, List.length_cons, List.length_nil, Nat.reduceAdd, Nat.reduceSub, Array.replicate_succ, Array.replicate_zero, List.push_toArray, List.append_toArray, List.nil_append, List.cons_append]
  clear hm
  gi_wp2_with (refine ⟨trivial, ?_⟩; gi_at_call 66; refine (callsIn_wide.2 (orders_any _ _)).mono ?_; rintro e w' ⟨rfl, rfl⟩)
  have hP := pli_start w 37 (.slice a n cap) 0
  obtain ⟨W1, hW1⟩ : ∃ W1, (w.alloc (.cells #[.slice a n cap] 37)).alloc (.cells #[.int .i64 0] 3) = W1 := ⟨_, rfl⟩
  have hz : W1.heap.size = w.heap.size + 1 + 1 := by rw [← hW1]; simp
  rw [hW1] at hP ⊢
  clear hW1
  have hbn := (Boxed.new W1 3 (.int .i64 n)).cell
  rw [hz] at hbn
  have hP2 := hP.kept (World.grownBy_alloc W1 (.cells #[.int .i64 n] 3) none) (fun r e => by cases e)
  have hz2 : (W1.alloc (.cells #[.int .i64 n] 3)).heap.size = w.heap.size + 3 := by simp [hz]
  obtain ⟨W0, hW0⟩ : ∃ W0, W1.alloc (.cells #[.int .i64 n] 3) = W0 := ⟨_, rfl⟩
  rw [hW0] at hbn hP2 hz2 ⊢
  clear hW0 hP hz
  refine rangeC (F := Fence.wide) (n := 9) rfl (by omega) (gf := 82) (lb := #[.pointer (some ⟨w.heap.size + 1 + 1, 0, none⟩)]) rfl trivial (enters_of Try.func82 (by kernel_rfl) rfl)
    (orders_stops 8 (w.heap.size + 1 + 1) n h1 h6 W0 (by omega) hbn) (fun _ => rfl) (olP_put n) (fun k => k = w.heap.size + 1) (by rintro k rfl; exact ⟨by omega, by omega⟩) (by rintro k rfl; omega)
    (fun (pre : List OL) W => PLI w 37 (.slice a n cap) (lsumI (fun x : OL => onP l x.2) pre) W ∧ ∀ x ∈ pre, x.2.length = n ∧ ∀ c ∈ x.2, c < n)
    (fun pre X Y row hs hg hr => ⟨hs.1.kept hg (fun r e => by have := hr r e; omega), hs.2⟩)
    ⟨hP2, by simp⟩
    (fun x => { tmps := #[.slice a n cap, .pointer (some ⟨w.heap.size, 0, none⟩), .int .i64 0, .pointer (some ⟨w.heap.size + 1, 0, none⟩), .slice (some ⟨x.1, 0, none⟩) n n, .slice a n cap, .int .i64 n, .func (.func 82) #[] #[.pointer (some ⟨w.heap.size + 1 + 1, 0, none⟩)], .slice (some ⟨x.1, 0, none⟩) n n, undef, undef, undef, undef, undef, undef, undef], defers := [] }) ?assign ?body ?done
  case assign =>
    intro lp x W K hK
    simp only [olV]
    gi_wp2
    exact hK
  case body =>
    rintro lp pre x W hl ⟨hv, hpre⟩ hpx hlen
    have hxx := hpx.1
    have hpz : prodN 1 (fun i => at2 l i (x.2.getD i 0)) n = prodC l x.2 := by unfold prodC; rw [hxx.1]
    have hyb := lsumI_bd (f := fun x : OL => onP l x.2) (B := 1) (by omega) pre (fun x _ => by unfold onP; split <;> omega)
    have hsn := lsumI_snoc (fun x : OL => onP l x.2) pre x
    have hon : onP l x.2 = if prodC l x.2 = 0 then 0 else 1 := rfl
    have E := EP.out x W hv.sn hpx
    rw [hpz] at E
    obtain ⟨y, hy⟩ : ∃ y, lsumI (fun x : OL => onP l x.2) pre = y := ⟨_, rfl⟩
    obtain ⟨z, hz⟩ : ∃ z, prodC l x.2 = z := ⟨_, rfl⟩
    rw [hy] at hv hyb hsn
    rw [hz] at E hon
    rw [hon] at hsn
    replace E := Lib.hid E
    have cT : W.cell? ⟨w.heap.size, 0, none⟩ = _ := hv.bt.cell
    have HS0 := Lib.hid (fun h : z = 0 => show lsumI (fun x : OL => onP l x.2) (pre ++ [x]) = y from by rw [hsn, if_pos h, Int.add_zero])
    have HS1 := Lib.hid (fun h : ¬ z = 0 => show lsumI (fun x : OL => onP l x.2) (pre ++ [x]) = y + 1 from by rw [hsn, if_neg h])
    have HV := Lib.hid hv
    have hmix : Try.prog.follows .mixedOrders = true := by kernel_rfl
    have HPRE := Lib.hid (show ∀ x' ∈ pre ++ [x], x'.2.length = n ∧ ∀ c ∈ x'.2, c < n from fun x' hx' => by
      rcases List.mem_append.1 hx' with h | h
      · exact hpre x' h
      · simp at h; subst h; exact hxx)
    have hws : IntKind.i64.wrap (y + 1) = y + 1 := IntWalk.i64_in _ ⟨by omega, by omega⟩
    clear hyb hsn hv hpre hpz hy hz hon hmix
    by_cases hz0 : z = 0
    · subst hz0
      gi_wp2_with (refine ⟨trivial, ?_⟩; gi_at_call 67; refine (CallsIn.inRound lp (callsIn_wide.2 (E.out))).mono ?_; rintro e w2 ⟨rfl, hs2⟩; have HG := Lib.hid (grown_of_since (row := none) hs2); clear hs2)
      exact ⟨Keeps.grown HG.out (fun r e => by cases e), by rw [HS0.out trivial]; exact HV.out.kept HG.out (fun r e => by cases e), HPRE.out⟩
    · have hzn : (z != 0) = true := by simpa using hz0
      gi_wp2_with (refine ⟨trivial, ?_⟩; gi_at_call 67; refine (CallsIn.inRound lp (callsIn_wide.2 (E.out))).mono ?_; rintro e w2 ⟨rfl, hs2⟩; have hg := grown_of_since (row := none) hs2; have cS2 := (HV.out.bs.kept hg (by simp)).cell; have fS2 := (HV.out.bs.kept hg (by simp)).frozen; have HG := Lib.hid hg; clear hs2 hg)
      exact ⟨(Keeps.grown HG.out (fun r e => by cases e)).trans (Keeps.grown (grownBy_setCell' w2 (w.heap.size + 1) _) (fun r e => by cases e; rfl)), by rw [HS1.out hz0]; exact (HV.out.kept HG.out (fun r e => by cases e)).set _, HPRE.out⟩
  case done =>
    rintro D ys W hD hS ⟨hv, hv0⟩ hK
    have hy : lsumI (fun x : OL => onP l x.2) ys = plF (oneL l n) n n 0 := by
      rw [← plS_all _ n h6, ← ordL_sum _ n n [], ← hS, lsumI_map]
      refine lsumI_congr ys fun x hx => ?_
      exact (prodC_one l h1 h6 (hv0 x hx).1 (hv0 x hx).2).symm
    rw [hy] at hv
    have cS := hv.bs.cell
    have hlt := hv.bs.lt
    have HS := Lib.hid (since_rowC hv.sn (grownBy_putObj' W D (.deferred none)) (fun r e => by cases e; omega))
    obtain ⟨y, hyy⟩ : ∃ y, plF (oneL l n) n n 0 = y := ⟨_, rfl⟩
    rw [hyy] at cS
    have HYY := Lib.hid hyy
    clear hv hv0 hS hy hyy
    gi_wp2
    refine ⟨by simp, .inl ⟨_, _, rfl, run_takeDeferred hK, ?_⟩⟩
    refine ⟨.int .i64 y, ?_, by rw [HYY.out], HS.out⟩
    simp [results, Try.f44, go_sem]

end Go.Proofs.Ytiabnlebonmedaa
end

section
/- The contract of impl.PlainCount. -/
namespace Go.Proofs.Ytiabnlebonmedaa
open Go.RowKit Go.Deep

set_option maxHeartbeats 1000000 in
theorem implPlainCount_any (a : Option Addr) (cap n : Nat) (l : List (List Int)) (w : World) (hn : l.length = n) (hsz : szL l ≤ 1048576) (hm : MatR w a l) :
    Calls Try.prog 22 #[.slice a n cap] w (SpecW w (sqB l) (plF (oneL l n) n n 0)) := by
  have E := isSquare_any a cap n l w hn hsz hm
  cases hs : sqB l with
  | false =>
    rw [hs] at E
    replace E := Lib.hid E
    clear hs hm hn hsz
    go_enter Try.func22, Try.ntmps22
    go_wp2_with fail
    refine (E.out).mono ?_
    rintro e w1 ⟨rfl, hd⟩
    have HD := Lib.hid hd
    clear hd
    go_wp2
    go_ret2
    exact ⟨rfl, HD.out⟩
  | true =>
    rw [hs] at E
    replace E := Lib.hid E
    obtain ⟨hT, hw⟩ := sqB_of hs
    have E2 := Lib.hid (fun (W : World) (hd : w.Since w.heap.size W) => countOrders_any a cap n l W hn hT (by omega) (hm.since hd))
    clear hs hm hn hsz hT hw
    go_enter Try.func22, Try.ntmps22
    go_wp2_with fail
    refine (E.out).mono ?_
    rintro e w1 ⟨rfl, hd⟩
    have HD := Lib.hid hd
    clear hd
    go_wp2_with fail
    refine (E2.out w1 HD.out).mono ?_
    rintro e w2 ⟨rfl, hs2⟩
    have HS2 := Lib.hid (HD.out.trans (since_mono hs2 HD.out.size))
    clear hs2
    go_wp2
    go_ret2
    exact ⟨rfl, HS2.out⟩

end Go.Proofs.Ytiabnlebonmedaa
end

section
/- The walk of laws.FnPlainCount. -/
namespace Go.Proofs.Ytiabnlebonmedaa
open Go.RowKit Go.Deep

set_option maxRecDepth 100000 in
set_option maxHeartbeats 4000000 in
theorem fnPlainCount (a : Option Addr) (cap n : Nat) (w : World) (hc : n ≤ cap) (h63 : cap ≤ 9223372036854775807) (hb : BytR w a n) :
    Calls Try.prog 5 #[.slice a n cap] w fun e w' => e = .returned (.bool true) ∧ w.Since w.heap.size w' := by
  by_cases hlen : 1048576 < n
  · have hl' : decide ((1048576 : Int) < (n : Int)) = true := by simp; omega
    clear hb
    go_enter Try.func5, Try.ntmps5
    go_wp2
    go_ret
    exact ⟨rfl, World.Since.refl _ _⟩
  · have hl' : decide ((1048576 : Int) < (n : Int)) = false := by simp; omega
    have ED := Lib.hid (drawPlainCount_any a n cap w hc h63 hb)
    clear hb
    go_enter Try.func5, Try.ntmps5
    go_wp2_with fail
    refine (ED.out).mono ?_
    rintro e w1 ⟨a1, c1, l, rfl, hs1, h1, h5, hlens, hit⟩
    have hsz : szL l ≤ 1048576 := szL_of h5 (fun j hj => (hlens j hj).2) (by decide)
    obtain ⟨nn, hn⟩ : ∃ nn, l.length = nn := ⟨_, rfl⟩
    rw [hn]
    have HN := Lib.hid hn
    have HSZ := Lib.hid hsz
    have HM := Lib.hid (fun (W : World) (h : w1.Since w1.heap.size W) => hit.matR.since h)
    have HS1 := Lib.hid hs1
    obtain ⟨ok, hok⟩ : ∃ ok, sqB l = ok := ⟨_, rfl⟩
    obtain ⟨v, hv⟩ : ∃ v, (if ok = true then plF (oneL l nn) nn nn 0 else 0) = v := ⟨_, rfl⟩
    have E1 := implPlainCount_any a1 c1 nn l w1 hn hsz hit.matR
    have E2 := fun (W : World) (h : w1.Since w1.heap.size W) => specPlainCount_any a1 c1 nn l W hn hsz (hit.matR.since h)
    unfold SpecW at E1
    unfold SpecW at E2
    rw [hok, hv] at E1
    simp only [hok, hv] at E2
    replace E1 := Lib.hid E1
    replace E2 := Lib.hid E2
    have HOK := Lib.hid hok
    have HV := Lib.hid hv
    clear hn hsz hit hs1 h1 h5 hlens hok hv
    go_wp2_with fail
    refine (E1.out).mono ?_
    rintro e w2 ⟨rfl, hs2⟩
    have HS2 := Lib.hid hs2
    clear hs2
    go_wp2_with fail
    refine (E2.out w2 HS2.out).mono ?_
    rintro e w3 ⟨rfl, hd3⟩
    have HS3 := Lib.hid (HS2.out.trans (since_mono (hd3) HS2.out.size))
    clear hd3
    cases ok with
    | false =>
      go_wp2
      go_ret
      exact ⟨rfl, HS1.out.trans (since_mono HS3.out HS1.out.size)⟩
    | true =>
      have hv := HV.out
      rw [if_pos rfl] at hv
      obtain ⟨hT, hw⟩ := sqB_of HOK.out
      have h1 := hT.1
      have h6 := hT.2.1
      rw [HN.out] at h1 h6 hw
      obtain ⟨_, hq1, hq2⟩ := pl_cnt l (oneL l nn) nn (fun i k hi hk => tabF_at nn nn (oneN l) i k hi hk) nn (Nat.le_refl _) 0
      rw [hv] at hq1 hq2
      have E5 := fun (W : World) (h : w1.Since w1.heap.size W) => implValueOrders_any a1 c1 nn l W HN.out HSZ.out (HM.out W h)
      unfold SpecW at E5
      simp only [HOK.out, if_true] at E5
      have E6 := fun (W : World) (h : w1.Since w1.heap.size W) => implPlainOrders_any a1 c1 nn l W HN.out HSZ.out (HM.out W h)
      unfold SpecW at E6
      simp only [HOK.out, if_true] at E6
      obtain ⟨x, hx⟩ : ∃ x, ordF l nn nn 0 = x := ⟨_, rfl⟩
      obtain ⟨y, hy⟩ : ∃ y, plF l nn nn 0 = y := ⟨_, rfl⟩
      simp only [hx] at E5 hq1 hq2
      simp only [hy] at E6 hq1 hq2
      replace E5 := Lib.hid E5
      replace E6 := Lib.hid E6
      have HQ1 := Lib.hid hq1
      have HQ2 := Lib.hid hq2
      clear hT hw hv h1 h6 hx hy hq1 hq2

      go_wp2_with fail
      refine (E5.out w3 HS3.out).mono ?_
      rintro e w5 ⟨rfl, hs5⟩
      have HS5 := Lib.hid (HS3.out.trans (since_mono hs5 HS3.out.size))
      clear hs5

      go_wp2_with fail
      refine (E6.out w5 HS5.out).mono ?_
      rintro e w6 ⟨rfl, hs6⟩
      have HS6 := Lib.hid (HS5.out.trans (since_mono hs6 HS5.out.size))
      clear hs6

      by_cases hv0 : v = 0
      · obtain ⟨rfl, rfl⟩ := HQ1.out hv0
        subst hv0
        go_wp2
        go_ret
        exact ⟨rfl, HS1.out.trans (since_mono HS6.out HS1.out.size)⟩
      · have hb0 : (v != 0) = true := by simpa using hv0
        by_cases hv1 : v = 1
        · obtain ⟨hxy, hx0⟩ := HQ2.out hv1
          have hsq : wrap64 (x * x) = wrap64 (y * y) := by
            rcases hxy with h | h
            · rw [h]
            · rw [h, Int.neg_mul_neg]
          have hx0' : (x != 0) = true := by simpa using hx0
          subst hv1
          clear hxy
          go_wp2
          go_ret
          exact ⟨rfl, HS1.out.trans (since_mono HS6.out HS1.out.size)⟩
        · have hb1 : (v != 1) = true := by simpa using hv1
          go_wp2
          go_ret
          exact ⟨rfl, HS1.out.trans (since_mono HS6.out HS1.out.size)⟩

end Go.Proofs.Ytiabnlebonmedaa
end

section
/- What an argument reads as, in the words of the walks; the last step of a row. -/
namespace Go.Proofs.Ytiabnlebonmedaa
open Go.ChangeShapes Go.WideShapes Go.ChangeAt Go.RowKit Go.Deep

theorem below_since' {B : Nat} {w w' : World} (h : Below B w w') : w.Since B w' := ⟨h.os, h.tape, h.output, h.size, h.block⟩
theorem since_below' {B : Nat} {w w' : World} (h : w.Since B w') : Below B w w' := ⟨h.os, h.tape, h.output, h.size, h.block⟩

section
variable {H : Type} {enc : TypeId × Value → H} {P : Program}
theorem post_of_below {f : Func} {s : ChangeSpec} {apart fresh handsOn again : Bool} {W W' : World} {args : Array Value} {v : Value} {ds gs : List (DataW H)} {before pa pv : List MemPlace}
    (hW : DataW.Whole enc P f.params.toList s.vars apart W args.toList ds gs before)
    (hres : ∀ (b : Nat) (sp : Nat → Bool) (hd : Bool), DataW.TrodAll enc P W' b sp hd f.resultTypes.toList (v.resultList f.resultTypes.size) (s.fn H (ds ++ gs)).results [])
    (hargs : ∀ sp : Nat → Bool, (∀ p ∈ before, sp p.block = true) → DataW.TrodAll enc P W' 0 sp true f.params.toList args.toList (s.fn H (ds ++ gs)).args pa)
    (hvars : ∀ sp : Nat → Bool, (∀ p ∈ before, sp p.block = true) → DataW.TrodVars enc P W' sp s.vars (s.fn H (ds ++ gs)).vars pv)
    (hps : before = pa ++ pv) (hb : Below W.heap.size W W') (hag : again = false) :
    s.post enc P f apart fresh handsOn again W args v W' := by
  have hlt : ∀ p ∈ before, p.block < W.heap.size := fun p hp => hW.lt p hp
  have hold : ∀ p ∈ before, (fun b => decide (b < W.heap.size)) p.block = true := fun p hp => by simpa using hlt p hp
  refine ⟨ds, gs, before, [], pa, pv, hW, hres _ _ _, hargs _ hold, hvars _ hold, World.keptBut_mono (fun p hp => ⟨hp, ?_⟩) (hb.frame (· ∈ before)), fun h => ?_⟩
  · rw [hps, List.mem_append] at hp
    exact Or.inr hp
  · rw [hag] at h; cases h

/-- An argument of slices of integers reads as a list of lists. -/
theorem open_mat {W : World} {t e q : TypeId} {a : Option Addr} {n cap : Nat} {d : DataW H} {p : List MemPlace} (ht : P.underlying t = some (.slice e)) (he : P.underlying e = some (.slice q)) (hq : P.underlying q = some (.int .i64))
    (ce : P.cellsOf e = 1) (cq : P.cellsOf q = 1) (h : DataW.Trod enc P W 0 (fun _ => true) true t (.slice a n cap) d p) :
    ∃ l : List (List Int), l.length = n ∧ MatR W a l ∧ n ≤ 9223372036854775807 ∧ ∀ r, r < l.length → (l.getD r []).length ≤ 9223372036854775807 := by
  obtain ⟨fuel, hf⟩ := h
  rcases open_int_rows ht he hq ce cq hf with ⟨hcs, _⟩ | ⟨a', len', cap', A, L, C, Z, hcs, _, hl, hm, _, hrows⟩
  · simp [Value.cells] at hcs
    obtain ⟨rfl, rfl, rfl⟩ := hcs
    exact ⟨[], rfl, (fun h => by simp at h), by omega, fun r hr => by simp at hr⟩
  · simp [Value.cells] at hcs
    obtain ⟨rfl, rfl, rfl⟩ := hcs
    have hmx : maxLen = 9223372036854775807 := rfl
    have hlen : ∀ r, r < n → ((Z r).take (L r)).length = L r := fun r hr => by
      obtain ⟨_, h1, _, h2, _⟩ := hrows r (by omega)
      rw [List.length_take]; omega
    have hget : ∀ r, r < n → ((List.range n).map fun r => (Z r).take (L r)).getD r [] = (Z r).take (L r) := fun r hr => by simp [List.getD, hr]
    refine ⟨(List.range n).map fun r => (Z r).take (L r), by simp, fun h => ?_, by omega, fun r hr => ?_⟩
    · obtain ⟨b, o, spot⟩ := a'
      simp at h
      have hspot : spot = none := by simpa [Addr.add] using World.cell?_spot (hrows 0 (by omega)).1
      subst hspot
      refine ⟨b, o, A, C, rfl, fun r hr => ?_⟩
      simp at hr
      rw [hget r hr, hlen r hr]
      obtain ⟨g1, g2, g3, g4, g5, g6, g7⟩ := hrows r (by omega)
      refine ⟨by rw [← add_plain]; exact g1, fun h0 => ?_⟩
      rw [hlen r hr] at h0
      cases hA : A r with
      | none => have := g6 hA; omega
      | some a'' =>
        obtain ⟨_, hcell⟩ := g7 a'' hA
        obtain ⟨b', o', sp⟩ := a''
        have hs : sp = none := by simpa [Addr.add] using World.cell?_spot (hcell 0 (by omega))
        subst hs
        refine ⟨b', o', rfl, fun i hi => ?_⟩
        rw [hlen r hr] at hi
        rw [← add_plain, hcell i (by omega)]
        congr 2
        simp [List.getD, hi]
    · simp at hr
      rw [hget r hr, hlen r hr]
      obtain ⟨_, h1, h2, _⟩ := hrows r (by omega)
      omega
end

theorem Try.own : ownKnob Try.prog.godebug = none := by kernel_rfl
theorem Try.laidOut : laidOutB Try.prog = true := by kernel_rfl
theorem Try.cellsR : Try.prog.cellsOf 29 = 1 := by kernel_rfl
theorem Try.cellsI : Try.prog.cellsOf 3 = 1 := by kernel_rfl

end Go.Proofs.Ytiabnlebonmedaa
end

section
/- An argument of bytes reads as bytes. -/
namespace Go.Proofs.Ytiabnlebonmedaa
open Go.ChangeShapes Go.WideShapes Go.ChangeAt Go.RowKit Go.Deep

theorem wf_u8_of {n : Int} (h : (Lit.int .u8 n).wf = true) : 0 ≤ n ∧ n ≤ 255 := by
  have h2 : (0 : Int) ≤ n ∧ n ≤ 255 := by simpa [Lit.wf, IntKind.min, IntKind.max, IntKind.signed, IntKind.bits] using h
  exact h2

theorem open_bytes {H : Type} {enc : TypeId × Value → H} {P : Program} {W : World} {t e : TypeId} {a : Option Addr} {n cap : Nat} {d : DataW H} {p : List MemPlace} (ht : P.underlying t = some (.slice e)) (he : P.underlying e = some (.int .u8)) (ce : P.cellsOf e = 1)
    (h : DataW.Trod enc P W 0 (fun _ => true) true t (.slice a n cap) d p) : BytR W a n ∧ n ≤ cap ∧ cap ≤ 9223372036854775807 := by
  obtain ⟨fuel, hf⟩ := h
  rcases open_ints ht he ce hf with ⟨hcs, _⟩ | ⟨a', len, cap', zs, hcs, _, hl, hm, hlen, _, hcell, hwf⟩
  · simp [Value.cells] at hcs
    obtain ⟨rfl, rfl, rfl⟩ := hcs
    exact ⟨fun h => absurd h (by omega), by omega, by omega⟩
  · simp [Value.cells] at hcs
    obtain ⟨rfl, rfl, rfl⟩ := hcs
    have hmx : maxLen = 9223372036854775807 := rfl
    have hzl : zs.length = cap := by simpa using hlen
    refine ⟨fun h0 => ?_, by omega, by omega⟩
    obtain ⟨b, o, spot⟩ := a'
    have hspot : spot = none := by simpa [Addr.add] using World.cell?_spot (hcell 0 (by omega))
    subst hspot
    refine ⟨b, o, rfl, fun i hi => ?_⟩
    have hi' : i < zs.length := by omega
    have hw := wf_u8_of (hwf (zs.getD i 0) (by simp [List.getD, hi']))
    obtain ⟨z, hz⟩ := Int.eq_ofNat_of_zero_le hw.1
    refine ⟨z, by omega, ?_⟩
    rw [← add_plain, hcell i hi', hz]

theorem Try.cellsB : Try.prog.cellsOf 5 = 1 := by kernel_rfl

end Go.Proofs.Ytiabnlebonmedaa
end

section
/- The statement FnPlainCount, proved: for every input the law returns true and the argument reads as before. No conditions. -/
namespace Go.Proofs.Ytiabnlebonmedaa
open Go.ChangeShapes Go.WideShapes Go.ChangeAt Go.RowKit Go.Deep

set_option maxRecDepth 100000 in
theorem lifted_FnPlainCount (os : Os) (started : os.Started) (H : Type) (enc : TypeId × Value → H) :
    ReturnsInHanded {} Try.checked os 5 .any (Rows.fnPlainCountSpec.pre6 enc Try.prog Try.f5 Rows.fnPlainCountRow.domain false) (Rows.fnPlainCountSpec.post enc Try.prog Try.f5 false true false false) := by
  refine returnsInHanded_of_change (C := Try.checked) Try.own started (by kernel_rfl) Try.func5
    (ChangeSpec.witness6 (enc := enc) (C := Try.checked) false ⟨#[], #[.slice none 0 0], []⟩ 8 (by kernel_rfl) (by kernel_rfl) (by kernel_rfl) (by kernel_rfl)) ?_
  intro W base args ds gs before hval0 hW _ _
  have hval : ∀ (j : Nat) t v, Try.f5.params[j]? = some t → args[j]? = some v → Value.okWide Try.prog W .any base t v := hval0
  have hW' := hW
  obtain ⟨p, q, hA0, hV, rfl, hfz, hnd⟩ := hW
  have hA : DataW.TrodAll enc Try.prog W 0 (fun _ => true) true Try.f5.params.toList args.toList ds p := hA0
  rw [Try.params5] at hA hval
  obtain ⟨v0, d0, rfl, rfl, h0⟩ := trodAll_one hA
  obtain ⟨p0, hp0⟩ : ∃ p0, p0 = p := ⟨_, rfl⟩
  subst hp0
  obtain ⟨rfl, rfl⟩ := trodVars_none hV
  obtain ⟨a0, n0, cap0, rfl⟩ := okWide_slice Try.underlying22 (hval 0 22 v0 rfl rfl)
  obtain ⟨hb0, hc0, h630⟩ := open_bytes Try.underlying22 Try.underlying5 Try.cellsB h0
  clear hA0 hval0
  simp only [List.append_nil] at hW'
  have hlt0 : ∀ x ∈ p0, x.block < W.heap.size := fun x hx => hW'.lt x (by simp [hx])
  refine (fnPlainCount a0 cap0 n0 W hc0 h630 hb0).mono fun e W' ⟨he, hs⟩ => ?_
  subst he
  have hb := since_below' hs
  have ht0 : ∀ sp : Nat → Bool, (∀ x ∈ p0, sp x.block = true) → DataW.Trod enc Try.prog W' 0 sp true 22 (.slice a0 n0 cap0) d0 p0 := fun sp hsp =>
    WideElems.Trod_stays Try.laidOut (by kernel_rfl) (of_decide_eq_true (by kernel_rfl)) h0 (fun x hx => hb.same (hlt0 x hx)) hsp
  have hargs : ∀ sp : Nat → Bool, (∀ x ∈ (p0), sp x.block = true) → DataW.TrodAll enc Try.prog W' 0 sp true [22] [.slice a0 n0 cap0] [d0] (p0) := fun sp hsp => by
    have := trodAll_mk1 (enc := enc) (P := Try.prog) (w := W') (base := 0) (spare := sp) (held := true) (ht0 sp (fun x hx => hsp x (by simp [hx])))
    simpa using this
  exact ⟨_, rfl, post_of_below (pa := p0) (pv := []) hW' (fun _ _ _ => trodAll_mk1 (shut_bool Try.underlying4 true)) (fun sp hsp => hargs sp (fun x hx => hsp x (by simpa using hx))) (fun _ _ => rfl) (by simp) hb rfl⟩

theorem FnPlainCount_holds : Rows.FnPlainCountSaid :=
  OpenClaim.holds_of_wide 5 Try.f5 rfl rfl rfl rfl rfl rfl rfl ⟨rfl, rfl, rfl, rfl, rfl⟩ rfl rfl rfl rfl rfl (by kernel_rfl) Try.func5 (by kernel_rfl)
    (of_decide_eq_true (by kernel_rfl)) (by unfold Func.isWrapper; first | (rw [if_pos (by decide +kernel)]; kernel_rfl) | (rw [if_neg (by decide +kernel)]; exact ⟨rfl, rfl⟩))
    (fun os started H enc _ => lifted_FnPlainCount os started H enc)

end Go.Proofs.Ytiabnlebonmedaa
end

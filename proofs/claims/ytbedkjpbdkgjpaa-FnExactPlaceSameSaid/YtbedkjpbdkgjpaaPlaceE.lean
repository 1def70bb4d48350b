/- The contract of spec.PlaceSame. -/
import Derived.Test.YtbedkjpbdkgjpaaPlaceR
namespace Go.Proofs.Ytbedkjpbdkgjpaa
open Go.RowKit Go.Deep

/-- The least place among the last j of m at which a number is not 0, or -1. -/
def lowP (p : List Int) (m : Nat) : Nat → Int
  | 0 => -1
  | j + 1 => if p.getD (m - (j + 1)) 0 = 0 then lowP p m j else ((m - (j + 1) : Nat) : Int)
theorem lowP_zero {p : List Int} {m j : Nat} (h : p.getD (m - (j + 1)) 0 = 0) : lowP p m (j + 1) = lowP p m j := by
  show (if _ then _ else _) = _; rw [if_pos h]
theorem lowP_not {p : List Int} {m j : Nat} (h : p.getD (m - (j + 1)) 0 ≠ 0) : lowP p m (j + 1) = ((m - (j + 1) : Nat) : Int) := by
  show (if _ then _ else _) = _; rw [if_neg h]
theorem lowP_bd (p : List Int) (m : Nat) : ∀ j, j ≤ m → -1 ≤ lowP p m j ∧ lowP p m j ≤ (m : Int) - 1 ∧ (0 ≤ lowP p m j → (m : Int) - j ≤ lowP p m j)
  | 0, _ => by simp only [lowP]; omega
  | j + 1, h => by
    have ih := lowP_bd p m j (by omega)
    by_cases h0 : p.getD (m - (j + 1)) 0 = 0
    · rw [lowP_zero h0]; omega
    · rw [lowP_not h0]; omega
/-- Two coordinates are each other times a number. -/
def crossP (p q : List Int) (a m : Nat) : Prop := ∀ i, i < m → p.getD i 0 * q.getD a 0 = q.getD i 0 * p.getD a 0
instance (p q : List Int) (a m : Nat) : Decidable (crossP p q a m) := inferInstanceAs (Decidable (∀ i, i < m → _))
def sameOk (p q : List Int) (m : Nat) : Bool := decide (0 ≤ lowP p m m) && (decide (lowP p m m = lowP q m m) && decide (crossP p q (lowP p m m).toNat m))
def sameB (k n : Int) (p q : List Int) : Bool := placeB k n p && (placeB k n q && sameOk p q p.length)
theorem sameOk_neg {p q : List Int} {m : Nat} (h : ¬ 0 ≤ lowP p m m) : sameOk p q m = false := by unfold sameOk; rw [decide_eq_false h]; rfl
theorem sameOk_ne {p q : List Int} {m : Nat} (h : lowP p m m ≠ lowP q m m) : sameOk p q m = false := by unfold sameOk; rw [decide_eq_false h]; simp
theorem sameOk_no {p q : List Int} {m : Nat} (h : ¬ crossP p q (lowP p m m).toNat m) : sameOk p q m = false := by unfold sameOk; rw [decide_eq_false h]; simp
theorem sameOk_yes {p q : List Int} {m : Nat} (h1 : 0 ≤ lowP p m m) (h2 : lowP p m m = lowP q m m) (h : crossP p q (lowP p m m).toNat m) : sameOk p q m = true := by
  unfold sameOk; rw [decide_eq_true h1, decide_eq_true h2, decide_eq_true h]; rfl

set_option maxRecDepth 100000 in
set_option maxHeartbeats 2000000 in
theorem specPlaceSame_any (k n : Int) (a : Option Addr) (cap m : Nat) (p : List Int) (a2 : Option Addr) (cap2 m2 : Nat) (q : List Int) (w : World) (hm : p.length = m) (hmx : m ≤ 1048576) (hr : RowR w a p) (hm2 : q.length = m2) (hmx2 : m2 ≤ 1048576) (hr2 : RowR w a2 q) :
    Calls Try.prog 25 #[.int .i64 k, .int .i64 n, .slice a m cap, .slice a2 m2 cap2] w fun e w' => e = .returned (.bool (sameB k n p q)) ∧ w.Since w.heap.size w' := by
  have E1 := specPlaceIn_any k n a cap m p w hm hmx hr
  have E2 := fun (W : World) (hd : w.Since w.heap.size W) => specPlaceIn_any k n a2 cap2 m2 q W hm2 hmx2 (hr2.since hd)
  cases h1 : placeB k n p with
  | false =>
    rw [h1] at E1
    have hres : sameB k n p q = false := by unfold sameB; rw [h1]; rfl
    rw [hres]
    replace E1 := Lib.hid E1
    clear hr hr2 h1 hres hm hm2 E2
    go_enter Try.func25, Try.ntmps25
    go_wp2_with fail
    refine (E1.out).mono ?_
    rintro e w2 ⟨rfl, hs⟩
    go_wp2
    go_ret
    exact ⟨rfl, hs⟩
  | true =>
  rw [h1] at E1
  replace E1 := Lib.hid E1
  cases h2 : placeB k n q with
  | false =>
    simp only [h2] at E2
    have hres : sameB k n p q = false := by unfold sameB; rw [h2]; simp
    rw [hres]
    replace E2 := Lib.hid E2
    clear hr hr2 h1 h2 hres hm hm2
    go_enter Try.func25, Try.ntmps25
    go_wp2_with fail
    refine (E1.out).mono ?_
    rintro e w2 ⟨rfl, hs⟩
    have HS := Lib.hid hs
    clear hs
    go_wp2_with fail
    refine (E2.out _ HS.out).mono ?_
    rintro e w3 ⟨rfl, hs⟩
    have HS3 := Lib.hid (HS.out.trans (since_mono hs HS.out.size))
    clear hs
    go_wp2
    go_ret
    exact ⟨rfl, HS3.out⟩
  | true =>
  simp only [h2] at E2
  replace E2 := Lib.hid E2
  obtain ⟨k, n, rfl, rfl, hk1, hkn, h5, hl, hp⟩ := placeB_of h1
  obtain ⟨k', n', ek, en, _, _, _, hl2, hp2⟩ := placeB_of h2
  have ek' : k = k' := by omega
  have en' : n = n' := by omega
  subst ek' en'
  have hres : sameB (k : Nat) (n : Nat) p q = sameOk p q m := by unfold sameB; rw [h1, h2, hm]; rfl
  rw [hres]
  have hmm : m2 = m := by omega
  subst hmm
  rw [hm] at hp
  rw [hm2] at hp2
  have HP := Lib.hid hp
  have HP2 := Lib.hid hp2
  have HR := Lib.hid (fun (W : World) (hd : w.Since w.heap.size W) => hr.since hd)
  have HR2 := Lib.hid (fun (W : World) (hd : w.Since w.heap.size W) => hr2.since hd)
  have HM := Lib.hid (And.intro hm hm2)
  have HB := Lib.hid (fun (j : Nat) (hj : j ≤ m2) => And.intro (lowP_bd p m2 j hj) (lowP_bd q m2 j hj))
  clear hr hr2 h1 h2 hres hm hm2 hl hl2 hp hp2 ek en
  have hw0 : IntKind.i64.wrap ((m2 : Int) - 1) = (m2 : Int) - 1 := IntWalk.i64_in _ ⟨by omega, by omega⟩
  go_enter Try.func25, Try.ntmps25
  go_wp2_with fail
  refine (E1.out).mono ?_
  rintro e w2 ⟨rfl, hs⟩
  have HS := Lib.hid hs
  clear hs
  go_wp2_with fail
  refine (E2.out _ HS.out).mono ?_
  rintro e w3 ⟨rfl, hs⟩
  have HS3 := Lib.hid (HS.out.trans (since_mono hs HS.out.size))
  clear hs HS
  go_wp2
  go_loopg [9, 10, 11] m2 (fun g x y i wr => ∃ j : Nat, j ≤ m2 ∧ g = m2 - j ∧ i = .int .i64 ((m2 : Int) - 1 - j) ∧ x = .int .i64 (lowP p m2 j) ∧ y = .int .i64 (lowP q m2 j) ∧ w3 = wr)
  case atStart => exact ⟨0, Nat.zero_le _, rfl, by go_num, rfl, rfl, rfl⟩
  case round =>
    obtain ⟨j, hj, rfl, rfl, rfl, rfl, rfl⟩ := hrel
    by_cases hlt : j < m2
    · obtain ⟨r, hr⟩ : ∃ r, m2 - (j + 1) = r := ⟨_, rfl⟩
      have hir : (m2 : Int) - 1 - (j : Int) = (r : Int) := by omega
      rw [hir]
      have hwi : IntKind.i64.wrap ((r : Int) - 1) = (r : Int) - 1 := IntWalk.i64_in _ ⟨by omega, by omega⟩
      obtain ⟨b, o, rfl, hc⟩ := HR.out _ HS3.out (by rw [HM.out.1]; omega)
      obtain ⟨b2, o2, rfl, hc2⟩ := HR2.out _ HS3.out (by rw [HM.out.2]; omega)
      have c1 := hc r (by rw [HM.out.1]; omega)
      have c2 := hc2 r (by rw [HM.out.2]; omega)
      have z1 := @lowP_zero p m2 j
      have z2 := @lowP_not p m2 j
      have z3 := @lowP_zero q m2 j
      have z4 := @lowP_not q m2 j
      rw [hr] at z1 z2 z3 z4
      obtain ⟨x, hx⟩ : ∃ x, p.getD r 0 = x := ⟨_, rfl⟩
      obtain ⟨y, hy⟩ : ∃ y, q.getD r 0 = y := ⟨_, rfl⟩
      rw [hx] at c1 z1 z2
      rw [hy] at c2 z3 z4
      obtain ⟨l1, hl1⟩ : ∃ l, lowP p m2 j = l := ⟨_, rfl⟩
      obtain ⟨l2, hl2⟩ : ∃ l, lowP q m2 j = l := ⟨_, rfl⟩
      rw [hl1] at z1 ⊢
      rw [hl2] at z3 ⊢
      have HI := Lib.hid (show ((r : Int) - 1 = (m2 : Int) - 1 - ((j + 1 : Nat) : Int)) by omega)
      clear hc hc2 hx hy hl1 hl2 hir
      by_cases hx0 : x = 0 <;> by_cases hy0 : y = 0
      · have Z := Lib.hid (And.intro (z1 hx0) (z3 hy0))
        have d1 : (x != 0) = false := by simp [hx0]
        have d2 : (y != 0) = false := by simp [hy0]
        clear z1 z2 z3 z4 hx0 hy0
        go_wp2
        go_roundg (m2 - (j + 1))
        case measure => omega
        case rel => exact ⟨j + 1, by omega, rfl, by rw [HI.out], by rw [Z.out.1], by rw [Z.out.2], rfl⟩
      · have Z := Lib.hid (And.intro (z1 hx0) (z4 hy0))
        have d1 : (x != 0) = false := by simp [hx0]
        have d2 : (y != 0) = true := by simp [hy0]
        clear z1 z2 z3 z4 hx0 hy0
        go_wp2
        go_roundg (m2 - (j + 1))
        case measure => omega
        case rel => exact ⟨j + 1, by omega, rfl, by rw [HI.out], by rw [Z.out.1], by rw [Z.out.2], rfl⟩
      · have Z := Lib.hid (And.intro (z2 hx0) (z3 hy0))
        have d1 : (x != 0) = true := by simp [hx0]
        have d2 : (y != 0) = false := by simp [hy0]
        clear z1 z2 z3 z4 hx0 hy0
        go_wp2
        go_roundg (m2 - (j + 1))
        case measure => omega
        case rel => exact ⟨j + 1, by omega, rfl, by rw [HI.out], by rw [Z.out.1], by rw [Z.out.2], rfl⟩
      · have Z := Lib.hid (And.intro (z2 hx0) (z4 hy0))
        have d1 : (x != 0) = true := by simp [hx0]
        have d2 : (y != 0) = true := by simp [hy0]
        clear z1 z2 z3 z4 hx0 hy0
        go_wp2
        go_roundg (m2 - (j + 1))
        case measure => omega
        case rel => exact ⟨j + 1, by omega, rfl, by rw [HI.out], by rw [Z.out.1], by rw [Z.out.2], rfl⟩
    · have hjm : j = m2 := by omega
      subst hjm
      have hb := HB.out j (Nat.le_refl _)
      have hneg := @sameOk_neg p q j
      have hne := @sameOk_ne p q j
      have hno := @sameOk_no p q j
      have hyes := @sameOk_yes p q j
      obtain ⟨l1, hl1⟩ : ∃ l, lowP p j j = l := ⟨_, rfl⟩
      obtain ⟨l2, hl2⟩ : ∃ l, lowP q j j = l := ⟨_, rfl⟩
      simp only [hl1, hl2] at hb hneg hne hno hyes ⊢
      rw [show ((j : Int) - 1 - (j : Int)) = -1 by omega]
      clear hl1 hl2 HB
      by_cases h0 : 0 ≤ l1
      · obtain ⟨s, rfl⟩ : ∃ s : Nat, l1 = s := ⟨l1.toNat, by omega⟩
        have hsj : s < j := by omega
        by_cases he : l2 = (s : Int)
        · subst he
          rw [Int.toNat_natCast] at hno hyes
          have HNO := Lib.hid hno
          have HYES := Lib.hid (hyes h0 rfl)
          clear hneg hne hno hyes hb h0
          obtain ⟨b, o, rfl, hc⟩ := HR.out _ HS3.out (by rw [HM.out.1]; omega)
          obtain ⟨b2, o2, rfl, hc2⟩ := HR2.out _ HS3.out (by rw [HM.out.2]; omega)
          have c1 := hc s (by rw [HM.out.1]; omega)
          have c2 := hc2 s (by rw [HM.out.2]; omega)
          have HC := Lib.hid hc
          have HC2 := Lib.hid hc2
          have hb1 := HP.out s hsj
          have hb2 := HP2.out s hsj
          have hcr : ∀ i, p.getD i 0 * q.getD s 0 = q.getD i 0 * p.getD s 0 ↔ p.getD i 0 * q.getD s 0 = q.getD i 0 * p.getD s 0 := fun _ => Iff.rfl
          unfold crossP at HNO HYES
          obtain ⟨ps, hps⟩ : ∃ x, p.getD s 0 = x := ⟨_, rfl⟩
          obtain ⟨qs, hqs⟩ : ∃ x, q.getD s 0 = x := ⟨_, rfl⟩
          simp only [hps, hqs] at hb1 hb2 c1 c2 HNO HYES
          have d0 : decide ((s : Int) < 0) = false := by simp
          clear hc hc2 hps hqs hcr
          go_wp2
          go_loopg [12] j (fun g i wr => ∃ i0 : Nat, i0 ≤ j ∧ g = j - i0 ∧ i = .int .i64 i0 ∧ (∀ i', i' < i0 → p.getD i' 0 * qs = q.getD i' 0 * ps) ∧ Drawn w3 wr)
          case atStart => exact ⟨0, Nat.zero_le _, rfl, rfl, fun i' h' => absurd h' (Nat.not_lt_zero _), Drawn.refl _⟩
          case round =>
            obtain ⟨i0, hi0, rfl, rfl, hC, hD⟩ := hrel
            by_cases hlt : i0 < j
            · have d1 := HC.out i0 (by rw [HM.out.1]; exact hlt)
              have d2 := HC2.out i0 (by rw [HM.out.2]; exact hlt)
              rw [← hD.cell] at d1 d2
              have f1 := (hD.cell ⟨b, o + s, none⟩).trans c1
              have f2 := (hD.cell ⟨b2, o2 + s, none⟩).trans c2
              have HDD := Lib.hid hD
              clear hD
              have hx1 := HP.out i0 hlt
              have hy1 := HP2.out i0 hlt
              obtain ⟨x, hx⟩ : ∃ x, p.getD i0 0 = x := ⟨_, rfl⟩
              obtain ⟨y, hy⟩ : ∃ x, q.getD i0 0 = x := ⟨_, rfl⟩
              rw [hx] at d1 hx1
              rw [hy] at d2 hy1
              have e1 := mul_bdP (B := 100000) hx1.1 hx1.2 hb2.1 hb2.2
              have e2 := mul_bdP (B := 100000) hy1.1 hy1.2 hb1.1 hb1.2
              have HX := Lib.hid (And.intro hx hy)
              have HCC := Lib.hid hC
              obtain ⟨X, hX⟩ : ∃ z, x * qs = z := ⟨_, rfl⟩
              obtain ⟨Y, hY⟩ : ∃ z, y * ps = z := ⟨_, rfl⟩
              rw [hX] at e1
              rw [hY] at e2
              have w1 : IntKind.i64.wrap (x * qs) = X := by rw [hX]; exact IntWalk.i64_in _ ⟨by omega, by omega⟩
              have w2 : IntKind.i64.wrap (y * ps) = Y := by rw [hY]; exact IntWalk.i64_in _ ⟨by omega, by omega⟩
              have HXX := Lib.hid (And.intro hX hY)
              clear hx hy hC hX hY hx1 hy1
              by_cases h0 : X = Y
              · have HS4 := Lib.hid (show ∀ i', i' < i0 + 1 → p.getD i' 0 * qs = q.getD i' 0 * ps from fun i' h' => by
                  by_cases e : i' = i0
                  · rw [e, HX.out.1, HX.out.2, HXX.out.1, HXX.out.2, h0]
                  · exact HCC.out i' (by omega))
                have dz : (X != Y) = false := by simp [h0]
                clear h0
                go_wp2
                go_quiet (fail)
                go_wp2
                go_roundg (j - (i0 + 1))
                case measure => omega
                case rel => exact ⟨i0 + 1, by omega, rfl, by go_num, HS4.out, HDD.out.trans (Drawn.mk _ _)⟩
              · have hno := Lib.hid (HNO.out (fun h => h0 (by
                  have := h i0 hlt
                  rw [HX.out.1, HX.out.2, HXX.out.1, HXX.out.2] at this
                  exact this)))
                have dz : (X != Y) = true := by simp [h0]
                clear h0
                go_wp2
                go_quiet (fail)
                go_wp2
                go_ret
                exact ⟨by rw [hno.out] <;> rfl, HS3.out.trans ((HDD.out.trans (Drawn.mk _ _)).since w.heap.size)⟩
            · have hij : i0 = j := by omega
              subst hij
              have hyes := Lib.hid (HYES.out hC)
              have hs := Lib.hid (HS3.out.trans (hD.since w.heap.size))
              clear hC hD
              go_wp2
              go_ret
              exact ⟨by rw [hyes.out] <;> rfl, hs.out⟩
        · have hn := Lib.hid (hne (fun e => he e.symm))
          have dz : ((s : Int) != l2) = true := by simp; omega
          have d0 : decide ((s : Int) < 0) = false := by simp
          clear hneg hne hno hyes hb h0 he
          go_wp2
          go_ret
          exact ⟨by rw [hn.out] <;> rfl, HS3.out⟩
      · have hn := Lib.hid (hneg h0)
        have dz : decide (l1 < 0) = true := by simp; omega
        clear hneg hne hno hyes hb h0
        go_wp2
        go_ret
        exact ⟨by rw [hn.out] <;> rfl, HS3.out⟩

end Go.Proofs.Ytbedkjpbdkgjpaa

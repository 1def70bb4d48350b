/- The contracts of spec.l4Number, spec.l4At and spec.PlaceIn. -/
import Derived.Test.YtbedkjpbdkgjpaaL3Sets
namespace Go.Proofs.Ytbedkjpbdkgjpaa
open Go.RowKit Go.Deep

/-- All numbers below k may be coordinates. -/
def NumsC (p : List Int) (k : Nat) : Prop := ∀ i, i < k → -100000 ≤ p.getD i 0 ∧ p.getD i 0 ≤ 100000
instance (p : List Int) (k : Nat) : Decidable (NumsC p k) := inferInstanceAs (Decidable (∀ i, i < k → _))
theorem NumsC.succ {p : List Int} {k : Nat} (h : NumsC p k) (h1 : inB (p.getD k 0) (-100000) 100000 = true) : NumsC p (k + 1) := fun i hi => by
  by_cases e : i = k
  · subst e; simp [inB] at h1; exact h1
  · exact h i (by omega)
def placeB (k n : Int) (p : List Int) : Bool := inB n 2 5 && (inB k 1 (n - 1) && (decide (p.length = (setsTo k.toNat (2 ^ n.toNat)).length) && decide (NumsC p p.length)))
theorem placeB_n {k n : Int} {p : List Int} (h : inB n 2 5 = false) : placeB k n p = false := by unfold placeB; rw [h]; rfl
theorem placeB_k {k n : Int} {p : List Int} (h : inB k 1 (n - 1) = false) : placeB k n p = false := by unfold placeB; rw [h]; simp
theorem placeB_len {k n : Int} {p : List Int} (h : p.length ≠ (setsTo k.toNat (2 ^ n.toNat)).length) : placeB k n p = false := by unfold placeB; rw [decide_eq_false h]; simp
theorem placeB_num {k n : Int} {p : List Int} (h : ¬ NumsC p p.length) : placeB k n p = false := by unfold placeB; rw [decide_eq_false h]; simp
theorem placeB_yes {k n : Int} {p : List Int} (h1 : inB n 2 5 = true) (h2 : inB k 1 (n - 1) = true) (h3 : p.length = (setsTo k.toNat (2 ^ n.toNat)).length) (h4 : NumsC p p.length) : placeB k n p = true := by
  unfold placeB; rw [h1, h2, decide_eq_true h3, decide_eq_true h4]; rfl
theorem placeB_of {k n : Int} {p : List Int} (h : placeB k n p = true) : ∃ k' n' : Nat, k = k' ∧ n = n' ∧ 1 ≤ k' ∧ k' < n' ∧ n' ≤ 5 ∧ p.length = (setsTo k' (2 ^ n')).length ∧ NumsC p p.length := by
  unfold placeB at h
  simp only [Bool.and_eq_true, decide_eq_true_eq, inB] at h
  obtain ⟨h1, h2, h3, h4⟩ := h
  exact ⟨k.toNat, n.toNat, by omega, by omega, by omega, by omega, by omega, h3, h4⟩

set_option maxRecDepth 100000 in
set_option maxHeartbeats 1000000 in
theorem l4Number_any (k n : Nat) (hn : n ≤ 6) (w : World) : Calls Try.prog 45 #[.int .i64 k, .int .i64 n] w fun e w' => e = .returned (.int .i64 ((setsTo k (2 ^ n)).length : Nat)) ∧ w.Since w.heap.size w' := by
  have E := Lib.hid (l3Sets_any n k hn w)
  have hl := setsI_length k (2 ^ n)
  obtain ⟨L, hL⟩ : ∃ L, (setsTo k (2 ^ n)).length = L := ⟨_, rfl⟩
  rw [hL] at hl ⊢
  have HL := Lib.hid hl
  clear hL hl hn
  go_enter Try.func45, Try.ntmps45
  go_wp2_with fail
  refine (E.out).mono ?_
  rintro e w2 ⟨v, rfl, hR⟩
  obtain ⟨a, cp, rfl, _⟩ := hR.slice
  have hs := hR.since
  rw [HL.out]
  clear hR
  go_wp2
  go_ret
  exact ⟨rfl, hs⟩

set_option maxRecDepth 100000 in
set_option maxHeartbeats 2000000 in
theorem l4At_any (n : Int) (a : Option Addr) (cap m s : Nat) (p : List Int) (w : World) (hm : p.length = m) (hs : s ≤ 63) (hr : RowR w a p) (hi : (setsTo (popcS s) s).length < m) :
    Calls Try.prog 48 #[.int .i64 n, .slice a m cap, .int .i64 s] w fun e w' => e = .returned (.int .i64 (atP p s)) ∧ w = w' := by
  obtain ⟨b, o, rfl, hc⟩ := hr (by omega)
  have hce := hc _ (by rw [hm]; exact hi)
  have hat : atP p s = p.getD (setsTo (popcS s) s).length 0 := rfl
  rw [← hat] at hce
  obtain ⟨y, hy⟩ : ∃ y, atP p s = y := ⟨_, rfl⟩
  rw [hy] at hce ⊢
  have Z := Lib.hid (fun (s : Nat) (hs : s ≤ 63) (W : World) => l2Size_any s hs W)
  have ZS := l2Size_any s hs
  obtain ⟨k, hk⟩ : ∃ k, popcS s = k := ⟨_, rfl⟩
  rw [hk] at hi hce ZS
  replace ZS := Lib.hid ZS
  have hbd := setsTo_len k
  obtain ⟨q, hq⟩ : ∃ q, (setsTo k s).length = q := ⟨_, rfl⟩
  rw [hq] at hi hce
  have HQ := Lib.hid hq
  clear hc hm hat hy hk hr hq
  go_enter Try.func48, Try.ntmps48
  go_wp2
  go_loopg [7, 8] s (fun g v x wr => ∃ r : Nat, r ≤ s ∧ g = s - r ∧ x = .int .i64 r ∧ v = .int .i64 ((setsTo k r).length : Nat) ∧ w = wr)
  case atStart => exact ⟨0, Nat.zero_le _, rfl, rfl, rfl, rfl⟩
  case round =>
    obtain ⟨r, hr, rfl, rfl, rfl, rfl⟩ := hrel
    have hle := hbd r
    by_cases hlt : r < s
    · have hd : decide ((r : Int) < (s : Int)) = true := by simp; omega
      obtain ⟨x, hx⟩ : ∃ x, popcS r = x := ⟨_, rfl⟩
      have ZR := Lib.hid (hx ▸ Z.out r (by omega) w)
      by_cases hp : x = k
      · subst hp
        have HY := Lib.hid (congrArg List.length (setsTo_yes hx))
        clear hx
        obtain ⟨f, hf⟩ : ∃ f, (setsTo x r).length = f := ⟨_, rfl⟩
        have HF := Lib.hid hf
        rw [hf] at hle ⊢
        clear hf
        go_wp2_with fail
        refine (ZR.out).mono ?_
        rintro e w2 ⟨rfl, rfl⟩
        go_wp2_with fail
        refine (ZS.out _).mono ?_
        rintro e w2 ⟨rfl, rfl⟩
        go_wp2
        go_roundg (s - (r + 1))
        case measure => omega
        case rel => exact ⟨r + 1, by omega, rfl, by go_num, by rw [HY.out, List.length_append, HF.out]; go_num, rfl⟩
      · have HY := Lib.hid (congrArg List.length (setsTo_no (k := k) (m := r) (by omega)))
        have hxk : ((x : Int) == (k : Int)) = false := by simp; omega
        clear hp hx
        obtain ⟨f, hf⟩ : ∃ f, (setsTo k r).length = f := ⟨_, rfl⟩
        have HF := Lib.hid hf
        rw [hf] at hle ⊢
        clear hf
        go_wp2_with fail
        refine (ZR.out).mono ?_
        rintro e w2 ⟨rfl, rfl⟩
        go_wp2_with fail
        refine (ZS.out _).mono ?_
        rintro e w2 ⟨rfl, rfl⟩
        go_wp2
        go_roundg (s - (r + 1))
        case measure => omega
        case rel => exact ⟨r + 1, by omega, rfl, by go_num, by rw [HY.out, HF.out], rfl⟩
    · have hrs : r = s := by omega
      subst hrs
      rw [HQ.out]
      go_wp2
      go_ret
      exact ⟨rfl, rfl⟩

set_option maxRecDepth 100000 in
set_option maxHeartbeats 2000000 in
theorem specPlaceIn_any (k n : Int) (a : Option Addr) (cap m : Nat) (p : List Int) (w : World) (hm : p.length = m) (hmx : m ≤ 1048576) (hr : RowR w a p) :
    Calls Try.prog 15 #[.int .i64 k, .int .i64 n, .slice a m cap] w fun e w' => e = .returned (.bool (placeB k n p)) ∧ w.Since w.heap.size w' := by
  cases h1 : inB n 2 5 with
  | false =>
    have E1 := Lib.hid (l6In_at n 2 5 false w h1)
    rw [placeB_n h1]
    clear hr h1
    go_enter Try.func15, Try.ntmps15
    go_wp2_with fail
    refine (E1.out).mono ?_
    rintro e w2 ⟨rfl, rfl⟩
    go_wp2
    go_ret
    exact ⟨rfl, World.Since.refl _ _⟩
  | true =>
  have E1 := Lib.hid (l6In_at n 2 5 true w h1)
  have hn : 2 ≤ n ∧ n ≤ 5 := by simpa [inB] using h1
  have hw1 : IntKind.i64.wrap (n - 1) = n - 1 := IntWalk.i64_in _ ⟨by omega, by omega⟩
  cases h2 : inB k 1 (n - 1) with
  | false =>
    have E2 := Lib.hid (l6In_at k 1 (n - 1) false w h2)
    rw [placeB_k h2]
    clear hr h1 h2
    go_enter Try.func15, Try.ntmps15
    go_wp2_with fail
    refine (E1.out).mono ?_
    rintro e w2 ⟨rfl, rfl⟩
    go_wp2_with fail
    refine (E2.out).mono ?_
    rintro e w2 ⟨rfl, rfl⟩
    go_wp2
    go_ret
    exact ⟨rfl, World.Since.refl _ _⟩
  | true =>
  have E2 := Lib.hid (l6In_at k 1 (n - 1) true w h2)
  have hk : 1 ≤ k ∧ k ≤ n - 1 := by simpa [inB] using h2
  have hlen := @placeB_len k n p
  have hnum := @placeB_num k n p
  have hyes := @placeB_yes k n p h1 h2
  obtain ⟨k', rfl⟩ : ∃ k' : Nat, k = k' := ⟨k.toNat, by omega⟩
  obtain ⟨n', rfl⟩ : ∃ n' : Nat, n = n' := ⟨n.toNat, by omega⟩
  have E3 := l4Number_any k' n' (by omega)
  simp only [Int.toNat_natCast] at hlen hyes
  rw [hm] at hlen hnum hyes
  obtain ⟨L, hL⟩ : ∃ L, (setsTo k' (2 ^ n')).length = L := ⟨_, rfl⟩
  simp only [hL] at hlen hyes E3
  have HR := Lib.hid (fun (W : World) (hd : w.Since w.heap.size W) => hr.since hd)
  have HM := Lib.hid hm
  replace E3 := Lib.hid E3
  clear h1 h2 hL hr hm
  by_cases hml : m = L
  · have HNO := Lib.hid hnum
    have HYES := Lib.hid (hyes hml)
    have hml' : ((m : Int) != (L : Int)) = false := by simp; omega
    clear hlen hnum hyes
    have HML := Lib.hid hml
    clear hml
    go_enter Try.func15, Try.ntmps15
    go_wp2_with fail
    refine (E1.out).mono ?_
    rintro e w2 ⟨rfl, rfl⟩
    go_wp2_with fail
    refine (E2.out).mono ?_
    rintro e w2 ⟨rfl, rfl⟩
    go_wp2_with fail
    refine (E3.out _).mono ?_
    rintro e w2 ⟨rfl, hs⟩
    have HS := Lib.hid hs
    have hr := HR.out w2 hs
    clear hs
    go_wp2
    go_loopg [7] m (fun g x wr => ∃ r : Nat, r ≤ m ∧ g = m - r ∧ x = .int .i64 r ∧ NumsC p r ∧ w2 = wr)
    case atStart => exact ⟨0, Nat.zero_le _, rfl, rfl, fun i hi => absurd hi (Nat.not_lt_zero _), rfl⟩
    case round =>
      obtain ⟨r, hrm, rfl, rfl, hN, rfl⟩ := hrel
      by_cases hlt : r < m
      · obtain ⟨b, o, rfl, hc⟩ := hr (by rw [HM.out]; omega)
        have cj := hc r (by rw [HM.out]; exact hlt)
        obtain ⟨y, hy⟩ : ∃ y, y = p.getD r 0 := ⟨_, rfl⟩
        rw [← hy] at cj
        have HY := Lib.hid hy
        clear hc hy
        cases hiy : inB y (-100000) 100000 with
        | true =>
          have E4 := Lib.hid (l6In_at y (-100000) 100000 true w2 hiy)
          have HI := Lib.hid (hN.succ (by rw [← HY.out]; exact hiy))
          clear hiy hN
          go_wp2_with fail
          refine (E4.out).mono ?_
          rintro e w' ⟨rfl, rfl⟩
          go_wp2
          go_roundg (m - (r + 1))
          case measure => omega
          case rel => exact ⟨r + 1, by omega, rfl, by go_num, HI.out, rfl⟩
        | false =>
          have E4 := Lib.hid (l6In_at y (-100000) 100000 false w2 hiy)
          have hno := HNO.out (fun hT => by
            have := hT r hlt
            rw [← HY.out] at this
            simp [inB] at hiy
            omega)
          have HN := Lib.hid hno
          clear hiy hN hno
          go_wp2_with fail
          refine (E4.out).mono ?_
          rintro e w' ⟨rfl, rfl⟩
          go_wp2
          go_ret
          exact ⟨by rw [HN.out] <;> rfl, HS.out⟩
      · have hrm' : r = m := by omega
        subst hrm'
        have HN := Lib.hid (HYES.out hN)
        clear hN
        go_wp2
        go_ret
        exact ⟨by rw [HN.out] <;> rfl, HS.out⟩
  · rw [hlen hml]
    have hml' : ((m : Int) != (L : Int)) = true := by simp; omega
    clear hlen hnum hyes hml
    go_enter Try.func15, Try.ntmps15
    go_wp2_with fail
    refine (E1.out).mono ?_
    rintro e w2 ⟨rfl, rfl⟩
    go_wp2_with fail
    refine (E2.out).mono ?_
    rintro e w2 ⟨rfl, rfl⟩
    go_wp2_with fail
    refine (E3.out _).mono ?_
    rintro e w2 ⟨rfl, hs⟩
    go_wp2
    go_ret
    exact ⟨rfl, hs⟩

end Go.Proofs.Ytbedkjpbdkgjpaa

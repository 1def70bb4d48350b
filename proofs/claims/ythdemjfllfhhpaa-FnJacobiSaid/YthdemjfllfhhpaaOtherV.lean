/- The contracts of spec.l2Other and spec.ValueOther. -/
import Derived.Test.YthdemjfllfhhpaaMinorV
namespace Go.Proofs.Ythdemjfllfhhpaa
open Go.RowKit Go.Deep

theorem popcS_but : ∀ n : Fin 7, ∀ k : Fin 6, k.val < n.val → popcS (2 ^ n.val - 1 - 2 ^ k.val) = n.val - 1 := by decide +kernel
theorem but_lt : ∀ n : Fin 7, ∀ k : Fin 6, k.val < n.val → 2 ^ n.val - 1 - 2 ^ k.val < 2 ^ n.val ∧ 2 ^ n.val - 1 - 2 ^ k.val ≤ 63 := by decide +kernel

/-- The value without row k and column i, with its sign. -/
def othF (l : List (List Int)) (n i k : Nat) : Int := sg (i + k) (ordF (partL l (2 ^ n - 1 - 2 ^ k) (2 ^ n - 1 - 2 ^ i)) (n - 1) (n - 1) 0)
def otherR (l : List (List Int)) (n i j : Nat) : List Int := (List.range j).map fun k => othF l n i k
theorem otherR_succ (l : List (List Int)) (n i j : Nat) : otherR l n i (j + 1) = otherR l n i j ++ [othF l n i j] := by simp [otherR, List.range_succ]
theorem otherR_length (l : List (List Int)) (n i j : Nat) : (otherR l n i j).length = j := by simp [otherR]
def otherTo (l : List (List Int)) (n r : Nat) : List (List Int) := (List.range r).map fun i => otherR l n i n
theorem otherTo_succ (l : List (List Int)) (n r : Nat) : otherTo l n (r + 1) = otherTo l n r ++ [otherR l n r n] := by simp [otherTo, List.range_succ]
theorem otherTo_length (l : List (List Int)) (n r : Nat) : (otherTo l n r).length = r := by simp [otherTo]
theorem otherTo_all (l : List (List Int)) (n : Nat) : otherTo l n n = tabF n n (othF l n) := rfl
theorem RB.later {wo wr w1 : World} {v : Value} {x : List Int} (h : RB wo wr v x) (hs : wr.Since wr.heap.size w1) : RB wo w1 v x :=
  ⟨h.since.trans (since_mono hs h.since.size), World.ownsRow.kept h.own (row := none) ⟨hs.os, hs.tape, hs.output, hs.size, fun k hk _ => hs.block k hk⟩ (by cases hv : v.ownBlock <;> simp)⟩

set_option maxRecDepth 100000 in
set_option maxHeartbeats 4000000 in
theorem l2Other_any (a : Option Addr) (cap n : Nat) (l : List (List Int)) (w : World) (hn : l.length = n) (hT : TabIn l) (hmm : (l.getD 0 []).length = n) (hm : MatR w a l) :
    Calls Try.prog 85 #[.slice a n cap] w fun e w' => ∃ a' cap', e = .returned (.slice a' n cap') ∧ w.Since w.heap.size w' ∧ InT w.heap.size w'.heap.size w' a' (tabF n n (othF l n)) := by
  obtain ⟨i42, hi42⟩ := info42_parts
  obtain ⟨i3, hi3⟩ := info3_parts
  have HI := Lib.hid hi42
  have HJ := Lib.hid hi3
  clear hi42 hi3
  have hst := bt_start w (fun _ => none) (fun _ => 0) #[] rfl
  have h6 := hT.2.1
  have h1 := hT.1
  rw [hn] at h6 h1
  have e1 := pow_wrap n h6
  have hand := fun (q : Nat) (hq : q < n) => andNot_fin ⟨n, by omega⟩ ⟨q, by omega⟩ hq
  have hbl := fun (q : Nat) (hq : q < n) => but_lt ⟨n, by omega⟩ ⟨q, by omega⟩ hq
  have hbp := fun (q : Nat) (hq : q < n) => popcS_but ⟨n, by omega⟩ ⟨q, by omega⟩ hq
  simp only at hand hbl hbp
  have hsq : ∀ i k, i < n → k < n → SqD (n - 1) (partL l (2 ^ n - 1 - 2 ^ k) (2 ^ n - 1 - 2 ^ i)) := fun i k hi hk => by
    have h := part_sq hT (s := 2 ^ n - 1 - 2 ^ k) (c := 2 ^ n - 1 - 2 ^ i) (by rw [hn]; exact (hbl k hk).1) (by rw [hmm]; exact (hbl i hi).1) (by rw [hbp k hk, hbp i hi])
    rw [hbp k hk] at h
    exact h
  have hfb : ∀ i k, i < n → k < n → -(34012224000000 : Int) ≤ ordF (partL l (2 ^ n - 1 - 2 ^ k) (2 ^ n - 1 - 2 ^ i)) (n - 1) (n - 1) 0 ∧ ordF (partL l (2 ^ n - 1 - 2 ^ k) (2 ^ n - 1 - 2 ^ i)) (n - 1) (n - 1) 0 ≤ 34012224000000 := fun i k hi hk => by
    have h := hsq i k hi hk
    by_cases h0 : 1 ≤ n - 1
    · have hb := ordF_bd (h.2 h0).1 h.1 (h.2 h0).2 (n - 1) (Nat.le_refl _) 0
      have := p180_le (n - 1) (by omega)
      omega
    · rw [show n - 1 = 0 by omega, ordF_zero]; omega
  have HPART := Lib.hid (fun (s c : Nat) (hs : s ≤ 63) (hc : c ≤ 63) (V : World) (h : w.Since w.heap.size V) => l1Part_any a cap n s c l V hn hT hs hc (hm.since h))
  have HSQ := Lib.hid hsq
  have HFB := Lib.hid hfb
  have HAND := Lib.hid hand
  have HBL := Lib.hid hbl
  obtain ⟨Aa, hA⟩ : ∃ A, A = 2 ^ n - 1 := ⟨_, rfl⟩
  rw [← hA] at e1
  have HA := Lib.hid hA
  clear hn hT hmm hm hand hbl hbp hsq hfb hA
  go_enter Try.func85, Try.ntmps85
  go_wp2
  rw [e1]
  go_loopg [3, 5, 6, 7, 8] n (fun g v i _ _ _ wr => ∃ r : Nat, ∃ A C, r ≤ n ∧ g = n - r ∧ i = .int .i64 r ∧ BT w wr v (otherTo l n r) A C)
  case atStart => exact ⟨0, _, _, Nat.zero_le _, rfl, rfl, hst⟩
  case round =>
    obtain ⟨r, A, C, hr, rfl, rfl, hR⟩ := hrel
    clear hst
    by_cases hlt : r < n
    · have HR := Lib.hid hR
      have hrb := rb_start wr #[] rfl
      have HRB := Lib.hid hrb
      have hsz := hR.since.size
      have hlen := otherTo_length l n r
      obtain ⟨wo, hwo⟩ : ∃ wo : World, wo = wr := ⟨_, rfl⟩
      clear hR hrb
      go_wp2
      subst hwo
      go_loopg [6, 7, 8] n (fun g v k _ wi => ∃ j : Nat, j ≤ n ∧ g = n - j ∧ k = .int .i64 j ∧ RB wo wi v (otherR l n r j))
      case atStart => exact ⟨0, Nat.zero_le _, rfl, rfl, HRB.out⟩
      case round =>
        obtain ⟨j, hj, rfl, rfl, hI⟩ := hrel
        clear HRB
        by_cases hjn : j < n
        · have hS := Lib.hid (HR.out.since.trans (since_mono hI.since hsz))
          have HII := Lib.hid hI
          have hle := otherR_length l n r j
          have hzi := hI.since.size
          clear hI
          obtain ⟨s1, hs1⟩ : ∃ s, s = Aa - 2 ^ j := ⟨_, rfl⟩
          obtain ⟨s2, hs2⟩ : ∃ s, s = Aa - 2 ^ r := ⟨_, rfl⟩
          have ha1 := HAND.out j hjn
          have ha2 := HAND.out r hlt
          have hb1 := (HBL.out j hjn).2
          have hb2 := (HBL.out r hlt).2
          have hq := HSQ.out r j hlt hjn
          have hf := HFB.out r j hlt hjn
          rw [← HA.out, ← hs1] at ha1 hb1
          rw [← HA.out, ← hs2] at ha2 hb2
          rw [← HA.out, ← hs1, ← hs2] at hq hf
          have EP := fun (V : World) (h : w.Since w.heap.size V) => HPART.out s1 s2 hb1 hb2 V h
          obtain ⟨L, hL⟩ : ∃ L, partL l s1 s2 = L := ⟨_, rfl⟩
          rw [hL] at hq hf
          simp only [hL, hq.1] at EP
          obtain ⟨n1, hn1⟩ : ∃ k, n - 1 = k := ⟨_, rfl⟩
          rw [hn1] at hq hf
          simp only [hn1] at EP
          replace EP := Lib.hid EP
          have EV := fun (a3 : Option Addr) (k3 : Nat) (V : World) (h : MatR V a3 L) => l2Value_sq a3 k3 n1 L hq V h
          obtain ⟨f2, hf2⟩ : ∃ f, ordF L n1 n1 0 = f := ⟨_, rfl⟩
          rw [hf2] at hf
          simp only [hf2] at EV
          replace EV := Lib.hid EV
          have hot : othF l n r j = sg (r + j) f2 := by
            unfold othF
            rw [← HA.out, ← hs1, ← hs2, hL, hn1, hf2]
          have HOT := Lib.hid hot
          have hwq1 := pow_in ⟨j, by omega⟩
          have hwq2 := pow_in ⟨r, by omega⟩
          simp only at hwq1 hwq2
          have hm1 : min j 64 = j := by omega
          have hm2 : min r 64 = r := by omega
          have hwi : IntKind.i64.wrap ((r : Int) + (j : Int)) = (r : Int) + (j : Int) := IntWalk.i64_in _ ⟨by omega, by omega⟩
          clear hs1 hs2 hq hL hn1 hf2 hot
          go_wp2
          go_region_held3 (fun _ => True) (trivial)
            (first
              | (go_at_call 63; refine (EP.out _ (hS.out.drew)).mono ?_; rintro e w2 ⟨a2, k2, rfl, hs2, hi2⟩; have hs2 := since_of_drew hs2; have HI2 := Lib.hid hi2.matR; have HS2 := Lib.hid hs2; clear hs2 hi2)
              | (go_at_call 62; refine (EV.out a2 k2 w2 HI2.out).mono ?_; rintro e w3 ⟨rfl, hd3⟩; have HS3 := Lib.hid (HS2.out.trans (since_mono (hd3.since w2.heap.size) HS2.out.size)); clear hd3))
          have HII2 := Lib.hid (HII.out.later HS3.out)
          have hz3 := HS3.out.size
          by_cases hodd : (r + j) % 2 = 1
          · have ho : (((r : Int) + (j : Int)) % 2 == 1) = true := by simp; omega
            have e0 : sg (r + j) f2 = -f2 := by unfold sg; rw [if_pos hodd]
            have w1' : IntKind.i64.wrap (0 - f2) = -f2 := (IntWalk.i64_in _ ⟨by omega, by omega⟩).trans (by omega)
            have w2' : IntKind.i64.wrap (-f2) = -f2 := IntWalk.i64_in _ ⟨by omega, by omega⟩
            go_wp2_with (at_builtin; (refine wpList_append_own _ rfl _ _ 37 rfl wo.heap.size 3 i3 (.int .i64 0) 1 8 Try.underlying37 HJ.out.1 HJ.out.2.1 HJ.out.2.2.1 HJ.out.2.2.2 rfl (by decide) _ _ _ rfl (HII2.out.own.alloc _) ⟨w3.heap.size, 0, none⟩ 1 1 [.int .i64 (-f2)] rfl rfl (cell_one_at _ _ _ rfl) (fun x hx => by simp at hx; subst hx; rfl) (by unfold maxLen; omega) (by omega) (by simp; omega) ?_); intro v' w5 hown' hgrow _)
            have hP := HII2.out.push hown' hgrow
            rw [← e0, ← HOT.out, ← otherR_succ] at hP
            have HP := Lib.hid hP
            clear hP hown' hgrow
            go_roundg (n - (j + 1))
            case measure => omega
            case rel => exact ⟨j + 1, by omega, rfl, by go_num, HP.out⟩
          · have ho : (((r : Int) + (j : Int)) % 2 == 1) = false := by simp; omega
            have e0 : sg (r + j) f2 = f2 := by unfold sg; rw [if_neg hodd]
            go_wp2_with (at_builtin; (refine wpList_append_own _ rfl _ _ 37 rfl wo.heap.size 3 i3 (.int .i64 0) 1 8 Try.underlying37 HJ.out.1 HJ.out.2.1 HJ.out.2.2.1 HJ.out.2.2.2 rfl (by decide) _ _ _ rfl (HII2.out.own.alloc _) ⟨w3.heap.size, 0, none⟩ 1 1 [.int .i64 (f2)] rfl rfl (cell_one_at _ _ _ rfl) (fun x hx => by simp at hx; subst hx; rfl) (by unfold maxLen; omega) (by omega) (by simp; omega) ?_); intro v' w5 hown' hgrow _)
            have hP := HII2.out.push hown' hgrow
            rw [← e0, ← HOT.out, ← otherR_succ] at hP
            have HP := Lib.hid hP
            clear hP hown' hgrow
            go_roundg (n - (j + 1))
            case measure => omega
            case rel => exact ⟨j + 1, by omega, rfl, by go_num, HP.out⟩
        · have hjj : n = j := by omega
          subst hjj
          obtain ⟨ra, rcp, hv, hrow⟩ := hI.slice
          rw [otherR_length] at hv
          subst hv
          have HII := Lib.hid hI
          have hle := otherR_length l n r n
          have hzi := hI.since.size
          have HROW := Lib.hid hrow
          clear hI hrow
          have HBT := Lib.hid (HR.out.later HII.out.since)
          go_wp2_with (at_builtin; (refine wpList_append_own _ rfl _ _ 23 rfl w.heap.size 37 i42 (.slice none 0 0) 1 24 Try.underlying23 HI.out.1 HI.out.2.1 HI.out.2.2.1 HI.out.2.2.2 rfl (by decide) _ _ _ rfl (HBT.out.own.alloc _) ⟨wr.heap.size, 0, none⟩ 1 1 [.slice ra n rcp] rfl rfl (cell_one_at _ _ _ rfl) (fun x hx => by simp at hx; subst hx; rfl) (by unfold maxLen; omega) (by omega) (by simp; omega) ?_); intro v' w5 hown' hgrow _)
          have hP := HBT.out.push (rv := .slice ra n rcp) (x := otherR l n r n) (a := ra) (cp := rcp) (by rw [otherR_length]) (fun h => by obtain ⟨G, e, h2, h3⟩ := HROW.out h; exact ⟨G, e, by omega, h3⟩) (fun h => by obtain ⟨G, e, h2, _⟩ := HROW.out h; exact HR.out.fresh e h2) hown' hgrow
          rw [← otherTo_succ] at hP
          have HP := Lib.hid hP
          clear hP hown' hgrow hle hlen
          go_roundg (n - (r + 1))
          case measure => omega
          case rel => exact ⟨r + 1, _, _, by omega, rfl, by go_num, HP.out⟩
    · have hrn : n = r := by omega
      subst hrn
      obtain ⟨ra, rcp, hv, hin⟩ := hR.slice
      rw [otherTo_length] at hv
      subst hv
      have HS := Lib.hid hR.since
      clear hR
      go_wp2
      go_ret
      exact ⟨ra, rcp, rfl, HS.out, hin⟩

set_option maxHeartbeats 1000000 in
theorem specValueOther_any (a : Option Addr) (cap n : Nat) (l : List (List Int)) (w : World) (hn : l.length = n) (hsz : szL l ≤ 1048576) (hm : MatR w a l) :
    Calls Try.prog 33 #[.slice a n cap] w (SpecT w (sqB l) (tabF n n (othF l n))) := by
  have E := l2Square_any a cap n l w hn hsz hm
  cases hs : sqB l with
  | false =>
    rw [hs] at E
    replace E := Lib.hid E
    clear hs hm hn hsz
    go_enter Try.func33, Try.ntmps33
    go_wp2_with fail
    refine (E.out).mono ?_
    rintro e w1 ⟨rfl, hd⟩
    have hs := hd.since w.heap.size
    clear hd
    go_wp2_with fail
    refine (l1None_any w1).mono ?_
    rintro e w2 ⟨rfl, hs2⟩
    go_wp2
    go_ret2
    exact ⟨_, _, rfl, hs.trans (since_mono hs2 hs.size), InT.nil _ _ _ _⟩
  | true =>
    rw [hs] at E
    replace E := Lib.hid E
    obtain ⟨hT, hw⟩ := sqB_of hs
    have E2 := Lib.hid (fun (W : World) (hd : w.Since w.heap.size W) => l2Other_any a cap n l W hn hT (by rw [← hw, hn]) (hm.since hd))
    clear hs hm hn hsz hT hw
    go_enter Try.func33, Try.ntmps33
    go_wp2_with fail
    refine (E.out).mono ?_
    rintro e w1 ⟨rfl, hd⟩
    have HS := Lib.hid (hd.since w.heap.size)
    clear hd
    go_wp2_with fail
    refine (E2.out w1 HS.out).mono ?_
    rintro e w2 ⟨a2, c2, rfl, hs2, hi2⟩
    go_wp2
    go_ret2
    exact ⟨a2, c2, by rw [show (resT true (tabF n n (othF l n))).length = n from tabF_length _ _ _]; rfl, HS.out.trans (since_mono hs2 HS.out.size), hi2.mono HS.out.size (Nat.le_refl _)⟩

end Go.Proofs.Ythdemjfllfhhpaa

/- The contract of spec.PosTimes. -/
import Derived.Test.YtcnbffflgodheaaTimesL
import Derived.Test.YtcnbffflgodheaaMakeSpec
import Derived.Test.YtcnbffflgodheaaOtherV
import Derived.BigQuiet
namespace Go.Proofs.Ytcnbffflgodheaa
open Go.RowKit Go.Deep

theorem mul30 {p y : Int} (hp : -30 ≤ p ∧ p ≤ 30) (hy : -30 ≤ y ∧ y ≤ 30) : -900 ≤ p * y ∧ p * y ≤ 900 := by
  have h1 : (p + 30) * (30 - y) ≥ 0 := Int.mul_nonneg (by omega) (by omega)
  have h2 : (p + 30) * (30 + y) ≥ 0 := Int.mul_nonneg (by omega) (by omega)
  have h3 : (30 - p) * (30 + y) ≥ 0 := Int.mul_nonneg (by omega) (by omega)
  have h4 : (30 - p) * (30 - y) ≥ 0 := Int.mul_nonneg (by omega) (by omega)
  simp only [Int.add_mul, Int.sub_mul, Int.mul_add, Int.mul_sub] at h1 h2 h3 h4
  omega
def ptF (l : List (List Int)) (x : List Int) (i k : Nat) : Int := at2 l i k * x.getD k 0
def ptK (l : List (List Int)) (x : List Int) (m r : Nat) : List Int := (List.range r).map fun i => sumN (ptF l x i) m
theorem ptK_succ (l : List (List Int)) (x : List Int) (m r : Nat) : ptK l x m (r + 1) = ptK l x m r ++ [sumN (ptF l x r) m] := by simp [ptK, List.range_succ]
theorem ptK_length (l : List (List Int)) (x : List Int) (m r : Nat) : (ptK l x m r).length = r := by simp [ptK]
theorem ptF_step (l : List (List Int)) (x : List Int) (i k : Nat) : sumN (ptF l x i) (k + 1) = sumN (ptF l x i) k + at2 l i k * x.getD k 0 := rfl

set_option maxRecDepth 100000 in
set_option maxHeartbeats 4000000 in
theorem specPosTimes_yes (a a2 : Option Addr) (cap cap2 n m : Nat) (l : List (List Int)) (x : List Int) (w : World) (hn : l.length = n) (hx : x.length = m) (hsz : szL l ≤ 1048576) (hT : TabIn l) (hxm : (l.getD 0 []).length = m) (hm : MatR w a l) (hr : RowR w a2 x) :
    Calls Try.prog 45 #[.slice a n cap, .slice a2 m cap2] w (PtS w (numsIn x) (ptK l x m n)) := by
  obtain ⟨i3, hi3⟩ := info3_parts
  have HJ := Lib.hid hi3
  have E := fun (W : World) (hd : w.Since w.heap.size W) => specTableIn_any a cap n l W hn hsz (hm.since hd)
  simp only [tabIn_true hT] at E
  replace E := Lib.hid E
  have h6 := hT.2.1
  have h1 := hT.1
  have hw := hT.width
  rw [hn] at h6 h1
  rw [hxm] at hw
  obtain ⟨bt, ot, At, Ct, rfl, hc⟩ := hm (by omega)
  obtain ⟨bx, ox, rfl, hcx⟩ := hr (by omega)
  have HC0 := Lib.hid (fun (W : World) (hd : w.Since w.heap.size W) => by
    have c := (hc 0 (by omega)).1
    rw [hxm, Nat.add_zero] at c
    exact (hd.cell (a := ⟨bt, ot, none⟩) (World.block_lt_of_cell? _ _ c)).trans c)
  have HC := Lib.hid (fun (W : World) (hd : w.Since w.heap.size W) (i k : Nat) (hi : i < n) (hk : k < m) => show ∃ b' o', W.cell? ⟨bt, ot + i, none⟩ = some (.slice (some ⟨b', o', none⟩) m (Ct i)) ∧ W.cell? ⟨b', o' + k, none⟩ = some (.int .i64 (at2 l i k)) ∧ -30 ≤ at2 l i k ∧ at2 l i k ≤ 30 by
    have hrl : (l.getD i []).length = m := by rw [hT.row (by omega), hxm]
    obtain ⟨c1, c2⟩ := hc i (by omega)
    obtain ⟨b', o', e, h3⟩ := c2 (by omega)
    rw [e, hrl] at c1
    have c3 := h3 k (by omega)
    exact ⟨b', o', (hd.cell (a := ⟨bt, ot + i, none⟩) (World.block_lt_of_cell? _ _ c1)).trans c1, (hd.cell (a := ⟨b', o' + k, none⟩) (World.block_lt_of_cell? _ _ c3)).trans c3, hT.at (by omega) (by omega)⟩)
  have HX := Lib.hid (fun (W : World) (hd : w.Since w.heap.size W) (k : Nat) (hk : k < m) => by
    have c := hcx k (by omega)
    exact (hd.cell (a := ⟨bx, ox + k, none⟩) (World.block_lt_of_cell? _ _ c)).trans c)
  have HBD := Lib.hid (fun (i q : Nat) (hi : i < n) (hq : q ≤ m) (hN : NumsIn x q) => sumN_bd (ptF l x i) q (fun j hj => mul30 (hT.at (by omega) (by omega)) (hN j hj)))
  have HN := Lib.hid hx
  clear hm hr hc hcx hT hxm hn hx hsz hi3
  go_enter Try.func45, Try.ntmps45
  go_wp2_with fail
  refine (E.out _ ?_).mono ?_
  · exact (World.Since.refl _ _).alloc (Nat.le_refl _) _
  rintro e w1 ⟨rfl, hdr⟩
  have HS1 := Lib.hid (((World.Since.refl w.heap.size w).alloc (Nat.le_refl _) (.cells #[] 3)).trans (hdr.since w.heap.size))
  have HRB := Lib.hid (RB.later (rb_start w #[] rfl) (hdr.since (w.alloc (.cells #[] 3)).heap.size))
  have c0 := HC0.out w1 HS1.out
  clear hdr
  go_wp2
  clear c0
  go_loopg [6, 7, 8, 9] n (fun g v i _ _ wr => ∃ r : Nat, r ≤ n ∧ g = n - r ∧ i = .int .i64 r ∧ RB w wr v (ptK l x m r) ∧ (r ≠ 0 → NumsIn x m))
  case atStart => exact ⟨0, Nat.zero_le _, rfl, rfl, HRB.out, fun h => absurd rfl h⟩
  case round =>
    obtain ⟨r, hr, rfl, rfl, hI, hNN⟩ := hrel
    clear HRB
    have HI := Lib.hid hI
    have HNN := Lib.hid hNN
    have hzi := hI.since.size
    clear hI hNN
    by_cases hlt : r < n
    · go_wp2
      go_loopg [8, 9] m (fun g s k wi => ∃ q : Nat, q ≤ m ∧ g = m - q ∧ k = .int .i64 q ∧ s = .int .i64 (sumN (ptF l x r) q) ∧ Drawn wr wi ∧ NumsIn x q)
      case atStart => exact ⟨0, Nat.zero_le _, rfl, rfl, rfl, Drawn.refl _, fun r hr => absurd hr (Nat.not_lt_zero _)⟩
      case round =>
        obtain ⟨q, hq, rfl, rfl, rfl, hD, hN⟩ := hrel
        have hS := HI.out.since.trans (hD.since w.heap.size)
        by_cases hqm : q < m
        · obtain ⟨b', o', c1, c2, hb1, hb2⟩ := HC.out wr hS r q hlt hqm
          have c3 := HX.out wr hS q hqm
          have hbs := HBD.out r q hlt hq hN
          have hst := ptF_step l x r q
          obtain ⟨y, hy⟩ : ∃ y, x.getD q 0 = y := ⟨_, rfl⟩
          obtain ⟨z, hz⟩ : ∃ z, at2 l r q = z := ⟨_, rfl⟩
          obtain ⟨s, hs⟩ : ∃ s, sumN (ptF l x r) q = s := ⟨_, rfl⟩
          rw [hy] at c3
          rw [hz] at c2 hb1 hb2
          rw [hs] at hbs ⊢
          rw [hs, hz, hy] at hst
          have HY := Lib.hid hy
          have HST := Lib.hid hst
          have HDR := Lib.hid hD
          have HNQ := Lib.hid hN
          clear hy hz hs hst hD hN
          cases hiy : inB y (-30) 30 with
          | true =>
            have E1' := Lib.hid (l6In_at y (-30) 30 true wr hiy)
            have HIY := Lib.hid hiy
            have hy2 : -30 ≤ y ∧ y ≤ 30 := by simpa [inB] using hiy
            have hzy := mul30 ⟨hb1, hb2⟩ hy2
            have hw1 : IntKind.i64.wrap (z * y) = z * y := IntWalk.i64_in _ ⟨by omega, by omega⟩
            have hw2 : IntKind.i64.wrap (s + z * y) = s + z * y := IntWalk.i64_in _ ⟨by omega, by omega⟩
            clear hiy
            go_wp2_with fail
            refine (E1'.out).mono ?_
            rintro e w' ⟨rfl, rfl⟩
            go_wp2
            go_quiet (fail)
            go_wp2
            go_roundg (m - (q + 1))
            case measure => omega
            case rel => exact ⟨q + 1, by omega, rfl, by go_num, by rw [HST.out], HDR.out.trans (Drawn.mk _ _), HNQ.out.succ (by rw [HY.out]; exact HIY.out)⟩
          | false =>
            have E1' := Lib.hid (l6In_at y (-30) 30 false wr hiy)
            have hno := Lib.hid (numsIn_false (r := x) fun hT => by
              have := hT q (by rw [HN.out]; exact hqm)
              rw [HY.out] at this
              simp [inB] at hiy
              omega)
            clear hiy
            go_wp2_with fail
            refine (E1'.out).mono ?_
            rintro e w' ⟨rfl, rfl⟩
            go_wp2
            go_ret2
            exact ptS_no hno.out _ _ rfl (hS.alloc hS.size _)
        · have hqm' : q = m := by omega
          subst hqm'
          have HIV := Lib.hid (HI.out.later (hD.since _))
          have hzv := HIV.out.since.size
          have HNQ := Lib.hid hN
          have hk := ptK_length l x q r
          obtain ⟨z, hz⟩ : ∃ z, sumN (ptF l x r) q = z := ⟨_, rfl⟩
          rw [hz]
          have HZ := Lib.hid hz
          clear hD hN hz
          go_wp2_with (at_builtin; (refine wpList_append_own _ rfl _ _ 42 rfl w.heap.size 3 i3 (.int .i64 0) 1 8 Try.underlying42 HJ.out.1 HJ.out.2.1 HJ.out.2.2.1 HJ.out.2.2.2 rfl (by decide) _ _ _ rfl (HIV.out.own.alloc _) ⟨wr.heap.size, 0, none⟩ 1 1 [.int .i64 z] rfl rfl (cell_one_at _ _ _ rfl) (fun x hx => by simp at hx; subst hx; rfl) (by unfold maxLen; omega) (by omega) (by simp; omega) ?_); intro v' w6 hown' hgrow _)
          have hP := HIV.out.push hown' hgrow
          rw [← HZ.out, ← ptK_succ] at hP
          have HP := Lib.hid hP
          clear hP hown' hgrow
          go_roundg (n - (r + 1))
          case measure => omega
          case rel => exact ⟨r + 1, by omega, rfl, by go_num, HP.out, fun _ => HNQ.out⟩
    · have hrn : r = n := by omega
      subst hrn
      have hyes := Lib.hid (numsIn_true (r := x) (by rw [HN.out]; exact HNN.out (by omega)))
      obtain ⟨ra, rcp, hv, hrw⟩ := HI.out.slice
      rw [ptK_length] at hv
      subst hv
      have HRW := Lib.hid hrw
      clear hrw
      go_wp2
      go_ret2
      exact ptS_yes hyes.out (ptK_length l x m r) ra rcp rfl HI.out.since (fun h0 => by
        obtain ⟨G, e, h2, h3⟩ := HRW.out h0
        exact ⟨G, 0, e, ⟨h2, h3.lt⟩, fun i hi => by rw [Nat.zero_add]; exact h3.cell hi⟩)

set_option maxRecDepth 100000 in
set_option maxHeartbeats 2000000 in
theorem specPosTimes_any (a a2 : Option Addr) (cap cap2 n m : Nat) (l : List (List Int)) (x : List Int) (w : World) (hn : l.length = n) (hx : x.length = m) (hsz : szL l ≤ 1048576) (hm : MatR w a l) (hr : RowR w a2 x) :
    Calls Try.prog 45 #[.slice a n cap, .slice a2 m cap2] w (PtS w (ptOk l x) (ptL l x m)) := by
  cases hT : tabIn l with
  | false =>
    have E := fun (W : World) (hd : w.Since w.heap.size W) => specTableIn_any a cap n l W hn hsz (hm.since hd)
    simp only [hT] at E
    replace E := Lib.hid E
    have HF := Lib.hid (show ptOk l x = false by simp [ptOk, hT])
    clear hT hsz hm hn hx hr
    go_enter Try.func45, Try.ntmps45
    go_wp2_with fail
    refine (E.out _ ?_).mono ?_
    · exact (World.Since.refl _ _).alloc (Nat.le_refl _) _
    rintro e w1 ⟨rfl, hdr⟩
    have HS1 := Lib.hid (((World.Since.refl w.heap.size w).alloc (Nat.le_refl _) (.cells #[] 3)).trans (hdr.since w.heap.size))
    clear hdr
    go_wp2
    go_ret2
    exact ptS_no HF.out _ _ rfl HS1.out
  | true =>
    have hTT := tabIn_of hT
    by_cases hxm : (l.getD 0 []).length = m
    · have h := specPosTimes_yes a a2 cap cap2 n m l x w hn hx hsz hTT hxm hm hr
      have e1 : ptOk l x = numsIn x := by unfold ptOk; rw [hT, hx, hxm]; simp
      have e2 : ptL l x m = ptK l x m n := by unfold ptL ptK; rw [hn]; rfl
      rw [e1, e2]
      exact h
    · have E := fun (W : World) (hd : w.Since w.heap.size W) => specTableIn_any a cap n l W hn hsz (hm.since hd)
      simp only [hT] at E
      replace E := Lib.hid E
      have h1 := hTT.1
      obtain ⟨bt, ot, At, Ct, rfl, hc⟩ := hm (by omega)
      obtain ⟨k, hk⟩ : ∃ k, (l.getD 0 []).length = k := ⟨_, rfl⟩
      have HC0 := Lib.hid (fun (W : World) (hd : w.Since w.heap.size W) => by
        have c := (hc 0 (by omega)).1
        rw [hk, Nat.add_zero] at c
        exact (hd.cell (a := ⟨bt, ot, none⟩) (World.block_lt_of_cell? _ _ c)).trans c)
      rw [hk] at hxm
      have hne : ((m : Int) != (k : Int)) = true := by simp; omega
      have HF := Lib.hid (show ptOk l x = false by unfold ptOk; rw [hx, hk]; simp [show ¬ m = k by omega])
      rw [hn] at h1
      clear hT hsz hm hn hx hr hTT hc hk
      go_enter Try.func45, Try.ntmps45
      go_wp2_with fail
      refine (E.out _ ?_).mono ?_
      · exact (World.Since.refl _ _).alloc (Nat.le_refl _) _
      rintro e w1 ⟨rfl, hdr⟩
      have HS1 := Lib.hid (((World.Since.refl w.heap.size w).alloc (Nat.le_refl _) (.cells #[] 3)).trans (hdr.since w.heap.size))
      have c0 := HC0.out w1 HS1.out
      clear hdr
      go_wp2
      go_ret2
      exact ptS_no HF.out _ _ rfl HS1.out

end Go.Proofs.Ytcnbffflgodheaa

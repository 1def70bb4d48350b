/- Chapter 8: the turns of a list: spec.KnownTurns, slices.Grow and slices.Concat of numbers, impl.KnownTurns. -/
import Derived.Test.YtjlcbkbekogblaaKnownT
import Derived.Lib.AppendZerosOnto
import Derived.Lib.SliceRun
namespace Go.Proofs.Ytjlcbkbekogblaa
open Go.RowKit Go.Deep

def tuF (x : List Int) (m i k : Nat) : Int := x.getD ((k + m - i) % m) 0
def tuL (x : List Int) (m : Nat) : List (List Int) := tabF m m (tuF x m)
theorem tuL_in {x : List Int} {m : Nat} (h1 : 1 ≤ m) (h6 : m ≤ 6) (hx : RngK x (-30) 30 m) : tabIn (tuL x m) = true := tabIn_sq h1 h6 fun i k _ _ => by
  have := hx ((k + m - i) % m) (Nat.mod_lt _ (by omega))
  simp only [inB, decide_eq_true_eq] at this
  exact this

set_option maxRecDepth 100000 in
set_option maxHeartbeats 4000000 in
theorem specKnownTurns_any (a : Option Addr) (cap m : Nat) (x : List Int) (w : World) (hn : x.length = m) (h63 : m ≤ 9223372036854775807) (hm : RowR w a x) :
    Calls Try.prog 43 #[.slice a m cap] w (SpecT w (l8B x 30) (tuL x m)) := by
  have E := l8List_any a cap m x 30 w ⟨by omega, by omega⟩ hn h63 hm
  cases hok : l8B x 30 with
  | false =>
    rw [hok] at E
    replace E := Lib.hid E
    clear hok hm hn
    go_enter Try.func43, Try.ntmps43
    go_wp2_with fail
    refine (E.out).mono ?_
    rintro e w' ⟨rfl, rfl⟩
    go_wp2_with fail
    refine (l1None_any w).mono ?_
    rintro e w2 ⟨rfl, hs2⟩
    go_wp2
    go_ret2
    exact ⟨_, _, rfl, hs2, InT.nil _ _ _ _⟩
  | true =>
    rw [hok] at E
    replace E := Lib.hid E
    obtain ⟨hk, h1, h6⟩ := l8B_of hok
    rw [hn] at hk h1 h6
    obtain ⟨bx, ox, rfl, hcx⟩ := hm (by omega)
    have HX := Lib.hid (fun (W : World) (hd : w.Since w.heap.size W) (k : Nat) (hk : k < m) => by
      have c := hcx k (by omega)
      exact (hd.cell (a := ⟨bx, ox + k, none⟩) (World.block_lt_of_cell? _ _ c)).trans c)
    unfold tuL
    obtain ⟨F, hF⟩ : ∃ F, tuF x m = F := ⟨_, rfl⟩
    have HF := Lib.hid (fun i k => (congrFun (congrFun hF i) k).symm)
    rw [hF]
    obtain ⟨i42, hi42⟩ := info42_parts
    obtain ⟨i3, hi3⟩ := info3_parts
    have HI := Lib.hid hi42
    have HJ := Lib.hid hi3
    have HST := Lib.hid (bt_start w (fun _ => none) (fun _ => 0) #[] rfl)
    clear hi42 hi3 hok hcx hn hk hF
    go_enter Try.func43, Try.ntmps43
    go_wp2_with fail
    refine (E.out).mono ?_
    rintro e w' ⟨rfl, rfl⟩
    go_wp2
    go_loopg [5, 6, 7, 8] m (fun g v k _ _ wr => ∃ r : Nat, ∃ A C, r ≤ m ∧ g = m - r ∧ k = .int .i64 r ∧ BT w wr v (tabF r m (F)) A C)
    case atStart => exact ⟨0, _, _, Nat.zero_le _, rfl, by go_num, HST.out⟩
    case round =>
      obtain ⟨r, A, C, hr, rfl, rfl, hR⟩ := hrel
      clear HST
      by_cases hlt : r < m
      · have HR := Lib.hid hR
        have hrb := rb_start wr #[] rfl
        have HRB := Lib.hid hrb
        have hsz2 := hR.since.size
        have hlen := tabF_length r m (F)
        obtain ⟨wo, rfl⟩ : ∃ wo : World, wo = wr := ⟨_, rfl⟩
        clear hR hrb
        go_wp2
        go_loopg [7, 8] m (fun g v i wi => ∃ t : Nat, t ≤ m ∧ g = m - t ∧ i = .int .i64 t ∧ RB wo wi v (rowTo (F) r t))
        case atStart => exact ⟨0, Nat.zero_le _, rfl, by go_num, HRB.out⟩
        case round =>
          obtain ⟨t, ht, rfl, rfl, hI⟩ := hrel
          clear HRB
          by_cases htm : t < m
          · have hle := rowTo_length (F) r t
            have hzi := hI.since.size
            have hS := HR.out.since.trans (since_mono hI.since hsz2)
            have HII := Lib.hid hI
            obtain ⟨y, hy⟩ : ∃ y, y = (F) r t := ⟨_, rfl⟩
            have HY := Lib.hid hy
            clear hI
            have hlow : (t + m - r) % m < m := Nat.mod_lt _ (by omega)
            have cx := HX.out wr hS ((t + m - r) % m) hlow
            have hy2 : y = x.getD ((t + m - r) % m) 0 := hy.trans (HF.out r t)
            rw [← hy2] at cx
            obtain ⟨p, hp⟩ : ∃ p, (t + m - r) % m = p := ⟨_, rfl⟩
            have hmod : Int.tmod ((t : Int) - (r : Int) + (m : Int)) (m : Int) = (p : Int) := by
              rw [show (t : Int) - (r : Int) + (m : Int) = ((t + m - r : Nat) : Int) by omega, ← hp]
              rfl
            have hm0 : ((m : Int) == 0) = false := by simp; omega
            rw [hp] at cx hlow
            have hpm : (p : Int) < (m : Int) := by omega
            clear hy hy2 hp
            go_wp2_with (at_builtin; (refine wpList_append_own _ rfl _ _ 31 rfl wo.heap.size 3 i3 (.int .i64 0) 1 8 Try.underlying31 HJ.out.1 HJ.out.2.1 HJ.out.2.2.1 HJ.out.2.2.2 rfl (by decide) _ _ _ rfl (HII.out.own.alloc _) ⟨wr.heap.size, 0, none⟩ 1 1 [.int .i64 y] rfl rfl (cell_one_at _ _ _ rfl) (fun x hx => by simp at hx; subst hx; rfl) (by unfold maxLen; omega) (by omega) (by simp; omega) ?_); intro v' w1 hown' hgrow _)
            have hP := HII.out.push hown' hgrow
            rw [HY.out, ← rowTo_succ] at hP
            have HP := Lib.hid hP
            clear hP hown' hgrow hle
            go_roundg (m - (t + 1))
            case measure => omega
            case rel => exact ⟨t + 1, by omega, rfl, by go_num, HP.out⟩
          · have hjj : t = m := by omega
            subst hjj
            obtain ⟨ra, rcp, hv, hrow⟩ := hI.slice
            rw [rowTo_length] at hv
            subst hv
            have HII := Lib.hid hI
            have hle := rowTo_length (F) r t
            have hzi := hI.since.size
            have HROW := Lib.hid hrow
            clear hI hrow
            have hBT := HR.out.later HII.out.since
            have HBT := Lib.hid hBT
            clear hBT
            go_wp2_with (at_builtin; (refine wpList_append_own _ rfl _ _ 22 rfl w.heap.size 31 i42 (.slice none 0 0) 1 24 Try.underlying22 HI.out.1 HI.out.2.1 HI.out.2.2.1 HI.out.2.2.2 rfl (by decide) _ _ _ rfl (HBT.out.own.alloc _) ⟨wr.heap.size, 0, none⟩ 1 1 [.slice ra t rcp] rfl rfl (cell_one_at _ _ _ rfl) (fun x hx => by simp at hx; subst hx; rfl) (by unfold maxLen; omega) (by omega) (by simp; omega) ?_); intro v' w1 hown' hgrow _)
            have hP := HBT.out.push (rv := .slice ra t rcp) (x := rowTo (F) r t) (a := ra) (cp := rcp) (by rw [rowTo_length]) (fun h => by obtain ⟨G, e, h2, h3⟩ := HROW.out h; exact ⟨G, e, by omega, h3⟩) (fun h => by obtain ⟨G, e, h2, _⟩ := HROW.out h; exact HR.out.fresh e h2) hown' hgrow
            rw [← tabF_succ] at hP
            have HP := Lib.hid hP
            clear hP hown' hgrow hle hlen
            go_roundg (t - (r + 1))
            case measure => omega
            case rel => exact ⟨r + 1, _, _, by omega, rfl, by go_num, HP.out⟩
      · have hrm : r = m := by omega
        subst hrm
        obtain ⟨ra, rcp, hv, hin⟩ := hR.slice
        rw [tabF_length] at hv
        subst hv
        have HS := Lib.hid hR.since
        have hsw := hR.since.size
        have HIN := Lib.hid hin
        have HTT := Lib.hid (show resT true (tabF r r F) = tabF r r F from rfl)
        clear hR hin
        go_wp2
        go_ret2
        exact ⟨ra, rcp, by rw [HTT.out]; show _ = Ending.returned (.tuple #[.slice ra (tabF r r (F)).length rcp, .bool true]); rw [tabF_length]; rfl, HS.out, HIN.out⟩

theorem rb_none (w : World) : RB w w (.slice none 0 0) [] := ⟨World.Since.refl _ _, World.ownsRow_nil _ _ _ _⟩
theorem RB.pushes {wo wr w1 : World} {v v' : Value} {x y : List Int} {n : Nat} (h : RB wo wr v x) (hn : n = x.length + y.length) (hown : w1.ownsRow wo.heap.size 3 1 v' n (x.map (Value.int .i64) ++ y.map (Value.int .i64))) (hg : wr.grownBy w1 v.ownBlock) : RB wo w1 v' (x ++ y) := by
  refine ⟨h.since.grown hg h.since.size (fun i e => (World.ownsRow.lt h.own i e).1), ?_⟩
  rw [List.length_append, List.map_append, ← hn]
  exact hown

set_option maxRecDepth 100000 in
set_option maxHeartbeats 1000000 in
theorem growInts_any (n : Nat) (w : World) (h0 : 1 ≤ n) (hn : n ≤ 20) :
    Calls Try.prog 89 #[.slice none 0 0, .int .i64 n] w fun e w' => ∃ v, e = .returned v ∧ RB w w' v [] := by
  obtain ⟨i3, hi3⟩ := info3_parts
  have hold : (Builtin.firstCells i3.size 0 (.slice none 0 0)).run Try.prog w.drew = .ok (#[] : Array Value) w.drew := run_firstCells_none w.drew i3.size 0 0 0
  have hnx : Builtin.nextslicecap (0 + n) 0 = n := by
    unfold Builtin.nextslicecap
    rw [if_pos (by omega)]
    omega
  have hrz : ∀ ty, (Builtin.append_ #[31, 3] ty #[.slice none 0 0, .int .i64 n]).run Try.prog w = _ := fun ty =>
    Lib.run_append_grow_zeros w 31 3 ty 3 i3 (.int .i64 0) .i64 .i64 Try.underlying31 Try.underlying3 hi3.1 hi3.2.1 none 0 0 [] hold n (by omega) (by rw [hi3.2.2.1]; omega) (by omega) (by omega) (by rw [hi3.2.2.2]; omega) (by rw [hnx, hi3.2.2.2]; omega)
  have hge : 0 + n ≤ grownCap w (0 + n) 0 3 := grownCap_ge w _ _ _
  have hle := grownCap_le_maxLen w (0 + n) 0 3 (by unfold maxLen; omega)
  obtain ⟨G, hG⟩ : ∃ G, grownCap w (0 + n) 0 3 = G := ⟨_, rfl⟩
  rw [hG] at hge hle
  simp only [hG] at hrz
  obtain ⟨cur, hcur⟩ : ∃ cur, (([] : List Value).toArray ++ Builtin.zeroCells (Value.cells (.int .i64 0)) n ++ Builtin.zeroCells (Value.cells (.int .i64 0)) (G - (0 + n))) = cur := ⟨_, rfl⟩
  simp only [hcur] at hrz
  have hsz : cur.size = G * 1 := by
    rw [← hcur, Array.size_append, Array.size_append, size_zeroCells, size_zeroCells]
    have e : (Value.cells (.int .i64 0)).size = 1 := by kernel_rfl
    rw [e]
    simp
    omega
  have HCB : Hid (RB w (w.drew.alloc (.cells cur 3)) (.slice (some ⟨w.heap.size, 0, none⟩) 0 G) []) := Lib.hid ⟨(World.Since.refl _ _).drew.alloc (Nat.le_refl _) _, World.ownsRow_made w.drew cur G (Nat.le_refl _) hle hsz⟩
  have hG63 : G ≤ 9223372036854775807 := by unfold maxLen at hle; omega
  clear hold hnx hG hcur hsz hle hi3
  go_enter Try.func89, Try.ntmps89
  go_wp2_with (at_builtin; refine Lib.wpList_append_run _ rfl _ _ _ _ rfl _ _ rfl rfl _ _ (hrz _) ?_)
  go_ret
  exact ⟨_, rfl, HCB.out⟩

set_option maxRecDepth 100000 in
set_option maxHeartbeats 1000000 in
theorem concatInts_any (p N cap b o c0 : Nat) (x : List Int) (w : World) (hN : x.length = N) (hle : 1 ≤ N ∧ N ≤ 6) (hp1 : w.cell? ⟨p, 0, none⟩ = some (.slice (some ⟨b, o, none⟩) N cap)) (hp2 : w.cell? ⟨p, 1, none⟩ = some (.slice (some ⟨b, o, none⟩) N cap))
    (hm : ∀ i, i < N → w.cell? ⟨b, o + i, none⟩ = some (.int .i64 (x.getD i 0))) :
    Calls Try.prog 76 #[.slice (some ⟨p, 0, none⟩) 2 c0] w fun e w' => ∃ v, e = .returned v ∧ RB w w' v (x ++ x) := by
  obtain ⟨i3, hi3⟩ := info3_parts
  have HI := Lib.hid hi3
  have HN := Lib.hid hN
  have HA := Lib.hid (fun (W : World) (hs : w.Since w.heap.size W) (j : Nat) (u : Value) (hj : (x.map (Value.int .i64))[j]? = some u) => (by
    rw [Go.WideShapes.add_plain]
    obtain ⟨hjl, he⟩ := List.getElem?_eq_some_iff.1 hj
    have hjx : j < N := by rw [← hN]; simpa using hjl
    have c := hm j hjx
    show W.cell? ⟨b, o + j, none⟩ = some u
    rw [hs.cell (a := ⟨b, o + j, none⟩) (World.block_lt_of_cell? _ _ c), c, ← he]
    simp [List.getD, show j < x.length by omega] : W.cell? ((⟨b, o, none⟩ : Addr).add j) = some u))
  have HG := Lib.hid (growInts_any (N + N) w (by omega) (by omega))
  clear hi3 hN hm
  go_enter Try.func76, Try.ntmps76
  go_wp2_with fail
  go_loopg [3, 5, 11] 2 (fun g s _ i wr => w = wr ∧ ((g = 2 ∧ i = .int .i64 0 ∧ s = .int .i64 0) ∨ (g = 1 ∧ i = .int .i64 1 ∧ s = .int .i64 N) ∨ (g = 0 ∧ i = .int .i64 2 ∧ s = .int .i64 (N + N : Nat))))
  case atStart => exact ⟨rfl, .inl ⟨rfl, rfl, rfl⟩⟩
  case round =>
    obtain ⟨rfl, hrel⟩ := hrel
    rcases hrel with ⟨rfl, rfl, rfl⟩ | ⟨rfl, rfl, rfl⟩ | ⟨rfl, rfl, rfl⟩
    · go_wp2_with fail
      go_roundg 1
      case measure => omega
      case rel => exact ⟨rfl, .inr (.inl ⟨rfl, rfl, by go_num⟩)⟩
    · go_wp2_with fail
      go_roundg 0
      case measure => omega
      case rel => exact ⟨rfl, .inr (.inr ⟨rfl, rfl, by go_num⟩)⟩
    · go_wp2_with (go_at_call 89; refine (HG.out).mono ?_; rintro e w1 ⟨v1, rfl, hC1⟩; have HC1 := Lib.hid hC1; clear hC1)
      go_loopg [6, 8, 27] 2 (fun g v _ i wr => (g = 2 ∧ i = .int .i64 0 ∧ RB w wr v []) ∨ (g = 1 ∧ i = .int .i64 1 ∧ RB w wr v x) ∨ (g = 0 ∧ i = .int .i64 2 ∧ RB w wr v (x ++ x)))
      case atStart => exact .inl ⟨rfl, rfl, HC1.out⟩
      case round =>
        rcases hrel with ⟨rfl, rfl, hC⟩ | ⟨rfl, rfl, hC⟩ | ⟨rfl, rfl, hC⟩
        · have hq1 := (hC.since.cell (World.block_lt_of_cell? _ _ hp1)).trans hp1
          have HC := Lib.hid hC
          clear hp1 hp2 hC HC1
          go_wp2_with (at_builtin; (refine wpList_append_own _ rfl _ _ 31 rfl w.heap.size 3 i3 (.int .i64 0) 1 8 Try.underlying31 HI.out.1 HI.out.2.1 HI.out.2.2.1 HI.out.2.2.2 rfl (by decide) _ _ _ rfl HC.out.own ⟨b, o, none⟩ N cap (x.map (Value.int .i64)) rfl (by rw [List.length_map, HN.out]; omega) (HA.out _ HC.out.since) (fun u hu => by obtain ⟨z, _, rfl⟩ := List.mem_map.1 hu; rfl) (by simp; unfold maxLen; omega) (by simp; omega) HC.out.since.size ?_); intro v' w3 hown' hgrow _; have HC3 := Lib.hid (RB.pushes HC.out (y := x) (n := ([] : List Int).length + N) (by rw [HN.out]) hown' hgrow); clear hown' hgrow)
          go_roundg 1
          case measure => omega
          case rel => exact .inr (.inl ⟨rfl, rfl, HC3.out⟩)
        · have hq2 := (hC.since.cell (World.block_lt_of_cell? _ _ hp2)).trans hp2
          have HC := Lib.hid hC
          clear hp1 hp2 hC HC1
          go_wp2_with (at_builtin; (refine wpList_append_own _ rfl _ _ 31 rfl w.heap.size 3 i3 (.int .i64 0) 1 8 Try.underlying31 HI.out.1 HI.out.2.1 HI.out.2.2.1 HI.out.2.2.2 rfl (by decide) _ _ _ rfl HC.out.own ⟨b, o, none⟩ N cap (x.map (Value.int .i64)) rfl (by rw [List.length_map, HN.out]; omega) (HA.out _ HC.out.since) (fun u hu => by obtain ⟨z, _, rfl⟩ := List.mem_map.1 hu; rfl) (by rw [HN.out]; unfold maxLen; omega) (by rw [HN.out]; omega) HC.out.since.size ?_); intro v' w3 hown' hgrow _; have HC3 := Lib.hid (RB.pushes HC.out (y := x) (n := x.length + N) (by rw [HN.out]) hown' hgrow); clear hown' hgrow)
          go_roundg 0
          case measure => omega
          case rel => exact .inr (.inr ⟨rfl, rfl, HC3.out⟩)
        · have HC := Lib.hid hC
          clear hC hp1 hp2 HC1
          go_wp2_with fail
          go_ret
          exact ⟨_, rfl, HC.out⟩

theorem getD_twice {x : List Int} {m j : Nat} (hx : x.length = m) (hj : j < m + m) : (x ++ x).getD j 0 = x.getD (j % m) 0 := by
  by_cases h : j < m
  · rw [Nat.mod_eq_of_lt h]
    simp [List.getD, List.getElem?_append_left (show j < x.length by omega)]
  · have e : j % m = j - m := by
      rw [Nat.mod_eq_sub_mod (by omega), Nat.mod_eq_of_lt (by omega)]
    rw [e]
    simp [List.getD, List.getElem?_append_right (show x.length ≤ j by omega), hx]

set_option maxRecDepth 100000 in
set_option maxHeartbeats 2000000 in
theorem implKnownTurns_any (a : Option Addr) (cap m : Nat) (x : List Int) (w : World) (hn : x.length = m) (h6 : m ≤ 1048576) (hm : RowR w a x) :
    Calls Try.prog 44 #[.slice a m cap] w (ImplT w (l8B x 30) (tuL x m)) := by
  have E1 := isSide_any m w
  have hsp := l8B_split x 30
  rw [hn] at hsp
  cases h1 : inB (m : Int) 1 6 with
  | false =>
    rw [h1, Bool.and_false] at hsp
    rw [hsp]
    rw [h1] at E1
    replace E1 := Lib.hid E1
    clear hm hn h1 hsp
    go_enter Try.func44, Try.ntmps44
    go_wp2_with fail
    refine (E1.out).mono ?_
    rintro e w' ⟨rfl, rfl⟩
    go_wp2
    go_ret2
    exact ⟨_, _, rfl, World.Since.refl _ _, OwnT.nil _ _ _ _⟩
  | true =>
    rw [h1, Bool.and_true] at hsp
    rw [h1] at E1
    replace E1 := Lib.hid E1
    have h16 := of_decide_eq_true h1
    obtain ⟨b, o, rfl, hcx⟩ := hm (by omega)
    have hti : tabIn (tuL x m) = l8B x 30 := by
      rw [hsp]
      cases h2 : rngB x (-30) 30 with
      | true => exact tuL_in (by omega) (by omega) (by have := rngB_of h2; rw [hn] at this; exact this)
      | false =>
        refine tabIn_false fun hT => ?_
        have hr : RngK x (-30) 30 x.length := fun j hj => by
          have h0 := hT.2.2 0 (by show 0 < (tabF m m (tuF x m)).length; rw [tabF_length]; omega)
          have h3 := h0.2.2.2 j (by show j < ((tabF m m (tuF x m)).getD 0 []).length; rw [tabF_len _ _ _ _ (by omega)]; omega)
          have e : ((tabF m m (tuF x m)).getD 0 []).getD j 0 = x.getD j 0 := by
            rw [tabF_at _ _ _ _ _ (by omega) (by omega)]
            unfold tuF
            rw [show j + m - 0 = j + m by omega, Nat.add_mod_right, Nat.mod_eq_of_lt (by omega)]
          change -30 ≤ ((tabF m m (tuF x m)).getD 0 []).getD j 0 ∧ ((tabF m m (tuF x m)).getD 0 []).getD j 0 ≤ 30 at h3
          rw [e] at h3
          simp only [inB, decide_eq_true_eq]
          exact h3
        rw [rngB_true hr] at h2
        exact Bool.noConfusion h2
    obtain ⟨wp, hwp⟩ : ∃ wp, w.alloc (.cells #[.slice (some ⟨b, o, none⟩) m cap, .slice (some ⟨b, o, none⟩) m cap] 31) = wp := ⟨_, rfl⟩
    have hbp : wp.heap[w.heap.size]? = some (.cells #[.slice (some ⟨b, o, none⟩) m cap, .slice (some ⟨b, o, none⟩) m cap] 31) := by rw [← hwp]; exact World.alloc_heap_new w _
    have hsp1 : w.Since w.heap.size wp := by rw [← hwp]; exact (World.Since.refl _ _).alloc (Nat.le_refl _) _
    obtain ⟨p0, p1⟩ := told_cells hbp
    have E2 := Lib.hid (concatInts_any w.heap.size m cap b o 2 x wp hn (by omega) p0 p1 (fun i hi => ((hsp1.cell (a := ⟨b, o + i, none⟩) (World.block_lt_of_cell? _ _ (hcx i (by omega)))).trans (hcx i (by omega)))))
    have E3 := Lib.hid (fun (W : World) (G cp : Nat) (hcp : m + m ≤ cp ∧ cp ≤ 9223372036854775807) => toldByStretches_any G 0 (m + m) cp m m (-1) (fun i => m - i) W (by omega) (by omega) hcp (by omega) (fun i hi => ⟨by omega, by omega⟩))
    have E4 := Lib.hid (fun (W V : World) (G cp B : Nat) (hV : V.Since V.heap.size W) (hG : ∀ j, j < m + m → V.cell? ⟨G, j, none⟩ = some (.int .i64 ((x ++ x).getD j 0))) (hcc : ∀ i, i < m → W.cell? ⟨B, 0 + i, none⟩ = some (.slice (some ⟨G, 0 + (m - i), none⟩) m (cp - (m - i)))) => toldResultS_any 87 #[] B 0 m m (fun i => .slice (some ⟨G, 0 + (m - i), none⟩) m (cp - (m - i))) (tuF x m) W (by omega) hcc (fun i _ => ⟨_, _, _, rfl⟩) (enters_of Try.func87 (by kernel_rfl) rfl)
      (fun U i k hv hi hk => numberAt_any G (0 + (m - i)) m (cp - (m - i)) k (tuF x m i k) U hk (by
        have c := hG (k + m - i) (by omega)
        rw [getD_twice hn (by omega)] at c
        rw [show 0 + (m - i) + k = k + m - i by omega]
        exact ((hV.trans (since_mono hv hV.size)).cell (a := ⟨G, k + m - i, none⟩) (World.block_lt_of_cell? _ _ c)).trans c)))
    have hLL : tabF m m (tuF x m) = tuL x m := rfl
    simp only [hLL, hti] at E4
    have HN2 := Lib.hid (show (x ++ x).length = m + m by rw [List.length_append, hn])
    obtain ⟨T, hT⟩ : ∃ T, tuL x m = T := ⟨_, rfl⟩
    simp only [hT] at E4
    rw [hT]
    obtain ⟨ok, hok⟩ : ∃ ok, l8B x 30 = ok := ⟨_, rfl⟩
    simp only [hok] at E4
    rw [hok]
    have HSP := Lib.hid hsp1
    clear hLL hT hok hti hsp hn h1 hcx hbp hsp1
    go_enter Try.func44, Try.ntmps44
    go_wp2_with fail
    refine (E1.out).mono ?_
    rintro e w' ⟨rfl, rfl⟩
    go_wp2_with fail
    refine (E2.out).mono ?_
    rintro e w2 ⟨v, rfl, hRB⟩
    rcases hRB.own.2 with ⟨hv, hl0⟩ | ⟨G, cp, cur, hv, hBG, hheap, hle, hmax, _, _⟩
    · exact absurd hl0 (by rw [HN2.out]; omega)
    · obtain ⟨a2, cp2, hv2, hrow⟩ := hRB.slice
      rw [HN2.out] at hv hle hrow
      obtain ⟨G2, e2, _, hB2⟩ := hrow (by omega)
      rw [hv] at hv2
      have eG : (some ⟨G, 0, none⟩ : Option Addr) = a2 := by injection hv2
      rw [e2] at eG
      have eG2 : G = G2 := by injection eG with eG; injection eG
      subst eG2
      subst hv
      have HG := Lib.hid (fun j (hj : j < m + m) => hB2.cell (i := j) (by rw [HN2.out]; exact hj))
      have HS2 := Lib.hid (HSP.out.trans (since_mono hRB.since HSP.out.size))
      have hcp : m + m ≤ cp ∧ cp ≤ 9223372036854775807 := ⟨hle, by unfold maxLen at hmax; omega⟩
      clear hRB hv2 eG hB2 hrow hheap hmax
      go_wp2_with fail
      refine (E3.out w2 G cp hcp).mono ?_
      rintro e w3 ⟨B, rfl, hs3, hc3⟩
      have HS3 := Lib.hid hs3
      have HC3 := Lib.hid hc3
      clear hs3 hc3
      go_wp2_with fail
      refine (E4.out w3 w2 G cp B HS3.out HG.out HC3.out).mono ?_
      rintro e w4 ⟨a', c', rfl, hs4, ho4⟩
      have HS4 := Lib.hid (HS2.out.trans (since_mono HS3.out HS2.out.size))
      go_wp2
      go_ret2
      exact ⟨a', c', rfl, HS4.out.trans (since_mono hs4 HS4.out.size), ho4.mono HS4.out.size (Nat.le_refl _)⟩

end Go.Proofs.Ytjlcbkbekogblaa

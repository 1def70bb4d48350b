/- The contract of spec.l1Make for tables whose numbers are not those of a table. -/
import Derived.Test.YtdbomnhlgaohaaaProd
namespace Go.Proofs.Ytdbomnhlgaohaaa
open Go.RowKit Go.Deep

set_option maxRecDepth 100000 in
set_option maxHeartbeats 4000000 in
theorem l1MakeR_any (a a2 : Option Addr) (cap cap2 n n2 : Nat) (l u : List (List Int)) (w : World) (hn : l.length = n) (hu : u.length = n2) (hm : MatR w a l) (hmu : MatR w a2 u) (hT : Rec l) (hTu : Rec u) (hmm : (l.getD 0 []).length = n2) (hB : ∀ i j k, i < n → j < n2 → k < (u.getD 0 []).length → -1000000000000 ≤ at2 l i j * at2 u j k ∧ at2 l i j * at2 u j k ≤ 1000000000000) :
    Calls Try.prog 63 #[.slice a n cap, .slice a2 n2 cap2] w fun e w' => ∃ a' cap', e = .returned (.slice a' n cap') ∧ w.Since w.heap.size w' ∧ OwnT w.heap.size w'.heap.size w' a' (makeL l u) := by
  obtain ⟨i42, hi42⟩ := info42_parts
  have HI := Lib.hid hi42
  clear hi42
  have hst := bt_start w (fun _ => none) (fun _ => 0) #[] rfl
  have h6 := hT.high
  have h1 := hT.low
  have g6 := hTu.high
  have g1 := hTu.low
  have gw := hTu.width
  rw [hn] at h6 h1
  rw [hu] at g6 g1
  obtain ⟨m2, hmm2⟩ : ∃ m, (u.getD 0 []).length = m := ⟨_, rfl⟩
  have htl : makeL l u = makeTo l u m2 n2 n := by unfold makeL makeTo; rw [hmm2, hn, hu]
  rw [hmm2] at gw hB
  have HB := Lib.hid hB
  clear hB
  rw [htl]
  have hmk := run_make_row' (P := Try.prog) 23 3 (.int .i64 0) 8 Try.underlying23 Try.info3 rfl .i64 .i64 m2 (by omega) (by omega)
  obtain ⟨bt, ot, At, Ct, rfl, hlen, hcell⟩ := hm.gridR hn hT hmm
  obtain ⟨bu, ou, Au, Cu, rfl, hlenu, hcellu⟩ := hmu.gridR hu hTu hmm2
  have hcu0 := hlenu 0 (by omega)
  rw [Nat.add_zero] at hcu0
  have hbul : bu < w.heap.size := World.block_lt_of_cell? _ _ hcu0
  have HC := Lib.hid hcell
  have HCU := Lib.hid hcellu
  have HCU0 := Lib.hid hcu0
  have HMK := Lib.hid hmk
  have hmix : Try.prog.follows .mixedOrders = true := by kernel_rfl
  clear hm hn hmm hlen hcell hT hmu hTu hlenu hcellu hu hmm2 htl hcu0 hmk
  go_enter Try.func63, Try.ntmps63
  go_wp2
  go_loopg [5, 6, 7, 8, 9] n (fun g v i _ _ _ wr => ∃ r : Nat, ∃ A C, r ≤ n ∧ g = n - r ∧ i = .int .i64 r ∧ BT w wr v (makeTo l u m2 n2 r) A C)
  case atStart => exact ⟨0, _, _, Nat.zero_le _, rfl, rfl, hst⟩
  case round =>
    obtain ⟨r, A, C, hr, rfl, rfl, hR⟩ := hrel
    clear hst
    by_cases hlt : r < n
    · have HR := Lib.hid hR
      have hsz := hR.since.size
      have hlen := makeTo_length l u m2 n2 r
      have hc0 := HCU0.out
      rw [← hR.since.cell (a := ⟨bu, ou, none⟩) hbul] at hc0
      have hmr := mr_start wr m2 (dotF l u r) n2
      have HMR := Lib.hid hmr
      have hmk := HMK.out
      obtain ⟨wo, hwo⟩ : ∃ wo : World, wo = wr := ⟨_, rfl⟩
      clear hR hmr
      go_wp2
      clear hmk hc0
      subst hwo
      obtain ⟨g, hg⟩ : ∃ g, wo.heap.size = g := ⟨_, rfl⟩
      rw [hg]
      have HG := Lib.hid hg
      have hwg : w.heap.size ≤ g := by omega
      clear hg
      go_loopg [8, 9] m2 (fun g k _ wi => ∃ c : Nat, c ≤ m2 ∧ g = m2 - c ∧ k = .int .i64 c ∧ MR wo wi m2 (dotF l u r) n2 c 0)
      case atStart => exact ⟨0, Nat.zero_le _, rfl, rfl, HMR.out⟩
      case round =>
        obtain ⟨c, hc, rfl, rfl, hI⟩ := hrel
        clear HMR
        have hS := HR.out.since.trans (since_mono hI.since hsz)
        have hc0 := HCU0.out
        rw [← hS.cell (a := ⟨bu, ou, none⟩) hbul] at hc0
        by_cases hcm : c < m2
        · have HII := Lib.hid hI
          clear hI hS
          go_wp2
          clear hc0
          go_loopg [9] n2 (fun g j wj => ∃ j' : Nat, j' ≤ n2 ∧ g = n2 - j' ∧ j = .int .i64 j' ∧ MR wo wj m2 (dotF l u r) n2 c j')
          case atStart => exact ⟨0, Nat.zero_le _, rfl, rfl, HII.out⟩
          case round =>
            obtain ⟨j, hj, rfl, rfl, hJ⟩ := hrel
            clear HII
            by_cases hjn : j < n2
            · obtain ⟨b1, o1, e1, e2⟩ := HC.out r j hlt hjn
              obtain ⟨d1, q1, f1, f2⟩ := HCU.out j c hjn hcm
              have hS := HR.out.since.trans (since_mono hJ.since hsz)
              obtain ⟨k1, k2⟩ := hJ.facts hcm
              have hzz := HR.out.since.size
              have hb1 : bt < w.heap.size := World.block_lt_of_cell? _ _ e1
              have hb2 : b1 < w.heap.size := World.block_lt_of_cell? _ _ e2
              have hb4 : d1 < w.heap.size := World.block_lt_of_cell? _ _ f2
              rw [← hS.cell (a := ⟨bt, ot + r, none⟩) hb1] at e1
              rw [← hS.cell (a := ⟨b1, o1 + j, none⟩) hb2] at e2
              rw [← hS.cell (a := ⟨bu, ou + j, none⟩) hbul] at f1
              rw [← hS.cell (a := ⟨d1, q1 + c, none⟩) hb4] at f2
              have hbd := sumN_bdB (f := dotF l u r c) (B := 1000000000000) j (fun j' hj' => HB.out r j' c hlt (by omega) hcm)
              have hpq := HB.out r j c hlt hjn hcm
              have hsu : sumN (dotF l u r c) (j + 1) = sumN (dotF l u r c) j + at2 l r j * at2 u j c := rfl
              have hN := fun q => hJ.store q hcm
              rw [hsu] at hN
              obtain ⟨p, hp⟩ : ∃ p, at2 l r j = p := ⟨_, rfl⟩
              obtain ⟨q, hq⟩ : ∃ q, at2 u j c = q := ⟨_, rfl⟩
              obtain ⟨s, hs⟩ : ∃ s, sumN (dotF l u r c) j = s := ⟨_, rfl⟩
              rw [hp] at e2 hpq hN
              rw [hq] at f2 hpq hN
              rw [hs] at k1 hbd hN
              have hw1 : IntKind.i64.wrap (p * q) = p * q := IntWalk.i64_in _ ⟨by omega, by omega⟩
              have hw2 : IntKind.i64.wrap (s + p * q) = s + p * q := IntWalk.i64_in _ ⟨by omega, by omega⟩
              rw [HG.out] at k1 k2 hN
              have m1 := cell_set_ne (g := g) (j := c) (v := .int .i64 (s + p * q)) e1 (show bt ≠ g by omega)
              have m2' := cell_set_ne (g := g) (j := c) (v := .int .i64 (s + p * q)) e2 (show b1 ≠ g by omega)
              have m3 := cell_set_ne (g := g) (j := c) (v := .int .i64 (s + p * q)) f1 (show bu ≠ g by omega)
              have m4 := cell_set_ne (g := g) (j := c) (v := .int .i64 (s + p * q)) f2 (show d1 ≠ g by omega)
              have HN := Lib.hid (hN 1)
              clear hN hJ hp hq hs hsu hS hbd
              go_wp2
              go_still_tail 22, hmix
              go_wp2
              go_roundg (n2 - (j + 1))
              case measure => omega
              case rel => exact ⟨j + 1, by omega, rfl, by go_num, HN.out⟩
            · have hjj : j = n2 := by omega
              subst hjj
              have HNN := Lib.hid hJ.next
              clear hJ
              go_wp2
              go_roundg (m2 - (c + 1))
              case measure => omega
              case rel => exact ⟨c + 1, by omega, rfl, by go_num, HNN.out⟩
        · have hcc : c = m2 := by omega
          subst hcc
          have HII := Lib.hid hI
          have hzi := hI.since.size
          clear hI hS
          go_wp2_with (at_builtin; (refine wpList_append_own _ rfl _ _ 28 rfl w.heap.size 23 i42 (.slice none 0 0) 1 24 Try.underlying28 HI.out.1 HI.out.2.1 HI.out.2.2.1 HI.out.2.2.2 rfl (by decide) _ _ _ rfl ((HR.out.later HII.out.since).own.alloc _) ⟨wr.heap.size, 0, none⟩ 1 1 [.slice (some ⟨g, 0, none⟩) c c] rfl rfl (cell_one_at _ _ _ rfl) (fun x hx => by simp at hx; subst hx; rfl) (by unfold maxLen; omega) (by omega) (by simp; omega) ?_); intro v' w1 hown' hgrow _)
          have hP := (HR.out.later HII.out.since).push (rv := .slice (some ⟨g, 0, none⟩) c c) (x := (List.range c).map fun k => sumN (dotF l u r k) n2) (a := some ⟨g, 0, none⟩) (cp := c) (by simp)
            (fun _ => ⟨g, rfl, hwg, by rw [← HG.out]; exact HII.out.rowB⟩) (fun _ => HR.out.fresh rfl (by rw [HG.out]; exact Nat.le_refl _)) hown' hgrow
          rw [← makeTo_succ] at hP
          have HP := Lib.hid hP
          clear hP hown' hgrow hlen
          go_roundg (n - (r + 1))
          case measure => omega
          case rel => exact ⟨r + 1, _, _, by omega, rfl, by go_num, HP.out⟩
    · have : r = n := by omega
      subst this
      obtain ⟨a, cap, rfl, hin⟩ := hR.ownT
      have HS := Lib.hid hR.since
      clear hR
      go_wp2
      go_ret
      exact ⟨a, cap, by show Ending.returned (.slice a (makeTo l u m2 n2 r).length cap) = _; rw [makeTo_length], HS.out, hin⟩

end Go.Proofs.Ytdbomnhlgaohaaa

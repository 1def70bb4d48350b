import Derived.Test.YtlgjplhffpmfpaaFnTimesChangesLa
import Derived.StillTailTactics
import Derived.Test.YtlgjplhffpmfpaaOrdF
import Derived.Test.YtlgjplhffpmfpaaPartImpl
import Derived.Test.YtlgjplhffpmfpaaWR
import Derived.Test.YtlgjplhffpmfpaaMark
import Derived.Test.YtlgjplhffpmfpaaHarn2
import Derived.Test.YtlgjplhffpmfpaaTurnImpl
import Derived.Test.YtlgjplhffpmfpaaImpl1
import Derived.Test.YtlgjplhffpmfpaaMinorV
import Derived.BigQuiet
import Derived.Test.YtlgjplhffpmfpaaSets
import Derived.RangeFuncNested
import Derived.RangeFuncLeaves
import Derived.OwnWalkIn
import Derived.Test.YtlgjplhffpmfpaaSeqF
import Derived.Test.YtlgjplhffpmfpaaRoads
import Derived.Test.YtlgjplhffpmfpaaSig
import Derived.Test.YtlgjplhffpmfpaaSeek
import Derived.Test.YtlgjplhffpmfpaaBar
import Derived.Test.YtlgjplhffpmfpaaSwapped
import Derived.Test.YtlgjplhffpmfpaaRowsF
import Derived.Test.YtlgjplhffpmfpaaMembers
import Derived.Laws.EntriesVeiled
import Derived.WalkHide

section
namespace Go.Proofs.Ytlgjplhffpmfpaa
open Go.RowKit Go.Deep

def partF (f : Nat → Nat → Int) (n2 k j c : Nat) : Int := if c < k then sumN (f c) n2 else if c = k then sumN (f k) j else 0

structure MR (wo wr : World) (m2 : Nat) (f : Nat → Nat → Int) (n2 k j : Nat) : Prop where
  since : wo.Since wo.heap.size wr
  row : wr.rowIs wo.heap.size 3 m2 (fun c => .int .i64 (partF f n2 k j c))
theorem mr_start (wo : World) (m2 : Nat) (f : Nat → Nat → Int) (n2 : Nat) : MR wo (wo.alloc (.cells (madeCells #[.int .i64 0] m2) 3)) m2 f n2 0 0 :=
  ⟨(World.Since.refl _ _).alloc (Nat.le_refl _) _, (World.rowIs_made wo (.int .i64 0) m2 3).congr fun c _ => by
    unfold partF
    rw [if_neg (by omega)]
    by_cases e : c = 0
    · rw [if_pos e]; rfl
    · rw [if_neg e]⟩
theorem MR.facts {wo wr : World} {m2 n2 k j : Nat} {f : Nat → Nat → Int} (h : MR wo wr m2 f n2 k j) (hk : k < m2) : wr.cell? ⟨wo.heap.size, k, none⟩ = some (.int .i64 (sumN (f k) j)) ∧ wr.frozen? ⟨wo.heap.size, k, none⟩ = false := by
  refine ⟨?_, h.row.frozen k⟩
  have := h.row.cell hk
  unfold partF at this
  rw [if_neg (by omega), if_pos rfl] at this
  exact this
theorem MR.store {wo wr : World} {m2 n2 k j : Nat} {f : Nat → Nat → Int} (h : MR wo wr m2 f n2 k j) (q : Nat) (hk : k < m2) : MR wo ((wr.drewN q).setCell ⟨wo.heap.size, k, none⟩ (.int .i64 (sumN (f k) (j + 1)))) m2 f n2 k (j + 1) := by
  have hr : (wr.drewN q).rowIs wo.heap.size 3 m2 (fun c => .int .i64 (partF f n2 k j c)) := h.row
  refine ⟨(since_drewN h.since q).setCell (Nat.le_refl _) _, (hr.set k _).congr fun c _ => ?_⟩
  unfold partF
  by_cases e : c = k
  · subst e; simp
  · rw [if_neg e]
    by_cases e2 : c < k
    · rw [if_pos e2, if_pos e2]
    · rw [if_neg e2, if_neg e, if_neg e2, if_neg e]
theorem MR.next {wo wr : World} {m2 n2 k : Nat} {f : Nat → Nat → Int} (h : MR wo wr m2 f n2 k n2) : MR wo wr m2 f n2 (k + 1) 0 := by
  refine ⟨h.since, h.row.congr fun c _ => ?_⟩
  unfold partF
  by_cases e2 : c < k
  · rw [if_pos e2, if_pos (by omega)]
  · rw [if_neg e2]
    by_cases e : c = k
    · subst e; simp
    · rw [if_neg e, if_neg (by omega)]
      by_cases e3 : c = k + 1
      · rw [if_pos e3]; rfl
      · rw [if_neg e3]
theorem MR.rowB {wo wr : World} {m2 n2 : Nat} {f : Nat → Nat → Int} (h : MR wo wr m2 f n2 m2 0) : RowB wr wo.heap.size ((List.range m2).map fun c => sumN (f c) n2) :=
  RowB.of_rowIs h.row (by simp) fun i hi => by
    simp at hi
    unfold partF
    rw [if_pos hi]
    simp [List.getD, hi]

def makeTo (l u : List (List Int)) (m2 n2 i : Nat) : List (List Int) := tabF i m2 fun i k => sumN (dotF l u i k) n2
theorem makeTo_succ (l u : List (List Int)) (m2 n2 i : Nat) : makeTo l u m2 n2 (i + 1) = makeTo l u m2 n2 i ++ [(List.range m2).map fun k => sumN (dotF l u i k) n2] := by simp [makeTo, tabF, List.range_succ]
theorem makeTo_length (l u : List (List Int)) (m2 n2 i : Nat) : (makeTo l u m2 n2 i).length = i := tabF_length _ _ _
theorem sumN_bd (f : Nat → Int) : ∀ (n : Nat), (∀ j, j < n → -900 ≤ f j ∧ f j ≤ 900) → -(900 * (n : Int)) ≤ sumN f n ∧ sumN f n ≤ 900 * (n : Int)
  | 0, _ => by simp [sumN]
  | n + 1, h => by
    have h1 := sumN_bd f n (fun j hj => h j (by omega))
    have h2 := h n (by omega)
    unfold sumN
    omega

set_option maxRecDepth 100000 in
set_option maxHeartbeats 4000000 in
theorem l1Make_any (a a2 : Option Addr) (cap cap2 n n2 : Nat) (l u : List (List Int)) (w : World) (hn : l.length = n) (hu : u.length = n2) (hm : MatR w a l) (hmu : MatR w a2 u) (hT : TabIn l) (hTu : TabIn u) (hmm : (l.getD 0 []).length = n2) :
    Calls Try.prog 72 #[.slice a n cap, .slice a2 n2 cap2] w fun e w' => ∃ a' cap', e = .returned (.slice a' n cap') ∧ w.Since w.heap.size w' ∧ OwnT w.heap.size w'.heap.size w' a' (makeL l u) := by
  obtain ⟨i42, hi42⟩ := info42_parts
  have HI := Lib.hid hi42
  clear hi42
  have hst := bt_start w (fun _ => none) (fun _ => 0) #[] rfl
  have h6 := hT.2.1
  have h1 := hT.1
  have g6 := hTu.2.1
  have g1 := hTu.1
  have gw := hTu.width
  rw [hn] at h6 h1
  rw [hu] at g6 g1
  obtain ⟨m2, hmm2⟩ : ∃ m, (u.getD 0 []).length = m := ⟨_, rfl⟩
  have htl : makeL l u = makeTo l u m2 n2 n := by unfold makeL makeTo; rw [hmm2, hn, hu]
  rw [hmm2] at gw
  rw [htl]
  have hmk := run_make_row' (P := Try.prog) 27 3 (.int .i64 0) 8 Try.underlying27 Try.info3 rfl .i64 .i64 m2 (by omega) (by omega)
  obtain ⟨bt, ot, At, Ct, rfl, hlen, hcell⟩ := hm.grid hn hT hmm
  obtain ⟨bu, ou, Au, Cu, rfl, hlenu, hcellu⟩ := hmu.grid hu hTu hmm2
  have hcu0 := hlenu 0 (by omega)
  rw [Nat.add_zero] at hcu0
  have hbul : bu < w.heap.size := World.block_lt_of_cell? _ _ hcu0
  have HC := Lib.hid hcell
  have HCU := Lib.hid hcellu
  have HCU0 := Lib.hid hcu0
  have HMK := Lib.hid hmk
  have hmix : Try.prog.follows .mixedOrders = true := by kernel_rfl
  clear hm hn hmm hlen hcell hT hmu hTu hlenu hcellu hu hmm2 htl hcu0 hmk
  go_enter Try.func72, Try.ntmps72
  go_wp2
  go_loopg [5, 6, 7, 8, 9] n (fun g v i _ _ _ wr => ∃ r : Nat, ∃ A C, r ≤ n ∧ g = n - r ∧ i = .int .i64 r ∧ BT w wr v (makeTo l u m2 n2 r) A C)
  case atStart => exact ⟨0, _, _, Nat.zero_le _, rfl, rfl, hst⟩
  case round =>
    obtain ⟨r, A, C, hr, rfl, rfl, hR⟩ := hrel
    clear hst
    by_cases hlt : r < n
    · have HR := Lib.hid hR
      have hsz := hR.since.size
      have hlen := makeTo_length l u m2 n2 r
      have hc0 := HCU0.out
      rw [← hR.since.cell (a := ⟨bu, ou, none⟩) hbul] at hc0
      have hmr := mr_start wr m2 (dotF l u r) n2
      have HMR := Lib.hid hmr
      have hmk := HMK.out
      obtain ⟨wo, hwo⟩ : ∃ wo : World, wo = wr := ⟨_, rfl⟩
      clear hR hmr
      go_wp2
      clear hmk hc0
      subst hwo
      obtain ⟨g, hg⟩ : ∃ g, wo.heap.size = g := ⟨_, rfl⟩
      rw [hg]
      have HG := Lib.hid hg
      have hwg : w.heap.size ≤ g := by omega
      clear hg
      go_loopg [8, 9] m2 (fun g k _ wi => ∃ c : Nat, c ≤ m2 ∧ g = m2 - c ∧ k = .int .i64 c ∧ MR wo wi m2 (dotF l u r) n2 c 0)
      case atStart => exact ⟨0, Nat.zero_le _, rfl, rfl, HMR.out⟩
      case round =>
        obtain ⟨c, hc, rfl, rfl, hI⟩ := hrel
        clear HMR
        have hS := HR.out.since.trans (since_mono hI.since hsz)
        have hc0 := HCU0.out
        rw [← hS.cell (a := ⟨bu, ou, none⟩) hbul] at hc0
        by_cases hcm : c < m2
        · have HII := Lib.hid hI
          clear hI hS
          go_wp2
          clear hc0
          go_loopg [9] n2 (fun g j wj => ∃ j' : Nat, j' ≤ n2 ∧ g = n2 - j' ∧ j = .int .i64 j' ∧ MR wo wj m2 (dotF l u r) n2 c j')
          case atStart => exact ⟨0, Nat.zero_le _, rfl, rfl, HII.out⟩
          case round =>
            obtain ⟨j, hj, rfl, rfl, hJ⟩ := hrel
            clear HII
            by_cases hjn : j < n2
            · obtain ⟨b1, o1, e1, e2, e3⟩ := HC.out r j hlt hjn
              obtain ⟨d1, q1, f1, f2, f3⟩ := HCU.out j c hjn hcm
              have hS := HR.out.since.trans (since_mono hJ.since hsz)
              obtain ⟨k1, k2⟩ := hJ.facts hcm
              have hzz := HR.out.since.size
              have hb1 : bt < w.heap.size := World.block_lt_of_cell? _ _ e1
              have hb2 : b1 < w.heap.size := World.block_lt_of_cell? _ _ e2
              have hb4 : d1 < w.heap.size := World.block_lt_of_cell? _ _ f2
              rw [← hS.cell (a := ⟨bt, ot + r, none⟩) hb1] at e1
              rw [← hS.cell (a := ⟨b1, o1 + j, none⟩) hb2] at e2
              rw [← hS.cell (a := ⟨bu, ou + j, none⟩) hbul] at f1
              rw [← hS.cell (a := ⟨d1, q1 + c, none⟩) hb4] at f2
              have hbd := sumN_bd (dotF l u r c) j (fun j' hj' => by
                obtain ⟨_, _, _, _, b1⟩ := HC.out r j' hlt (by omega)
                obtain ⟨_, _, _, _, b2⟩ := HCU.out j' c (by omega) hcm
                exact mul_bd2 _ _ b1 b2)
              have hsu : sumN (dotF l u r c) (j + 1) = sumN (dotF l u r c) j + at2 l r j * at2 u j c := rfl
              have hN := fun q => hJ.store q hcm
              rw [hsu] at hN
              obtain ⟨p, hp⟩ : ∃ p, at2 l r j = p := ⟨_, rfl⟩
              obtain ⟨q, hq⟩ : ∃ q, at2 u j c = q := ⟨_, rfl⟩
              obtain ⟨s, hs⟩ : ∃ s, sumN (dotF l u r c) j = s := ⟨_, rfl⟩
              rw [hp] at e2 e3 hN
              rw [hq] at f2 f3 hN
              rw [hs] at k1 hbd hN
              have hpq := mul_bd2 p q e3 f3
              have hw1 : IntKind.i64.wrap (p * q) = p * q := IntWalk.i64_in _ ⟨by omega, by omega⟩
              have hw2 : IntKind.i64.wrap (s + p * q) = s + p * q := IntWalk.i64_in _ ⟨by omega, by omega⟩
              rw [HG.out] at k1 k2 hN
              have m1 := cell_set_ne (g := g) (j := c) (v := .int .i64 (s + p * q)) e1 (show bt ≠ g by omega)
              have m2' := cell_set_ne (g := g) (j := c) (v := .int .i64 (s + p * q)) e2 (show b1 ≠ g by omega)
              have m3 := cell_set_ne (g := g) (j := c) (v := .int .i64 (s + p * q)) f1 (show bu ≠ g by omega)
              have m4 := cell_set_ne (g := g) (j := c) (v := .int .i64 (s + p * q)) f2 (show d1 ≠ g by omega)
              have HN := Lib.hid (hN 1)
              clear hN hJ hp hq hs hsu hS hbd
              go_wp2
              go_still_tail 22, hmix
              go_wp2
              go_roundg (n2 - (j + 1))
              case measure => omega
              case rel => exact ⟨j + 1, by omega, rfl, by go_num, HN.out⟩
            · have hjj : j = n2 := by omega
              subst hjj
              have HNN := Lib.hid hJ.next
              clear hJ
              go_wp2
              go_roundg (m2 - (c + 1))
              case measure => omega
              case rel => exact ⟨c + 1, by omega, rfl, by go_num, HNN.out⟩
        · have hcc : c = m2 := by omega
          subst hcc
          have HII := Lib.hid hI
          have hzi := hI.since.size
          clear hI hS
          go_wp2_with (at_builtin; (refine wpList_append_own _ rfl _ _ 23 rfl w.heap.size 27 i42 (.slice none 0 0) 1 24 Try.underlying23 HI.out.1 HI.out.2.1 HI.out.2.2.1 HI.out.2.2.2 rfl (by decide) _ _ _ rfl ((HR.out.later HII.out.since).own.alloc _) ⟨wr.heap.size, 0, none⟩ 1 1 [.slice (some ⟨g, 0, none⟩) c c] rfl rfl (cell_one_at _ _ _ rfl) (fun x hx => by simp at hx; subst hx; rfl) (by unfold maxLen; omega) (by omega) (by simp; omega) ?_); intro v' w1 hown' hgrow _)
          have hP := (HR.out.later HII.out.since).push (rv := .slice (some ⟨g, 0, none⟩) c c) (x := (List.range c).map fun k => sumN (dotF l u r k) n2) (a := some ⟨g, 0, none⟩) (cp := c) (by simp)
            (fun _ => ⟨g, rfl, hwg, by rw [← HG.out]; exact HII.out.rowB⟩) (fun _ => HR.out.fresh rfl (by rw [HG.out]; exact Nat.le_refl _)) hown' hgrow
          rw [← makeTo_succ] at hP
          have HP := Lib.hid hP
          clear hP hown' hgrow hlen
          go_roundg (n - (r + 1))
          case measure => omega
          case rel => exact ⟨r + 1, _, _, by omega, rfl, by go_num, HP.out⟩
    · have : r = n := by omega
      subst this
      obtain ⟨a, cap, rfl, hin⟩ := hR.ownT
      have HS := Lib.hid hR.since
      clear hR
      go_wp2
      go_ret
      exact ⟨a, cap, by show Ending.returned (.slice a (makeTo l u m2 n2 r).length cap) = _; rw [makeTo_length], HS.out, hin⟩

theorem szL_makeOk (l u : List (List Int)) (h : makeOk l u = true) : szL (makeL l u) ≤ 1048576 := by
  unfold makeOk at h
  rw [Bool.and_eq_true, Bool.and_eq_true] at h
  exact szL_make (tabIn_of h.1) (tabIn_of h.2.1)

end Go.Proofs.Ytlgjplhffpmfpaa
end

section
namespace Go.Proofs.Ytlgjplhffpmfpaa
open Go.RowKit Go.Deep

theorem MatR.gridR {w : World} {a : Option Addr} {l : List (List Int)} {n m : Nat} (h : MatR w a l) (hn : l.length = n) (hT : Rec l) (hm : (l.getD 0 []).length = m) :
    ∃ (b o : Nat) (A : Nat → Option Addr) (C : Nat → Nat), a = some ⟨b, o, none⟩ ∧ (∀ i, i < n → w.cell? ⟨b, o + i, none⟩ = some (.slice (A i) m (C i))) ∧
      ∀ i j, i < n → j < m → ∃ b' o', w.cell? ⟨b, o + i, none⟩ = some (.slice (some ⟨b', o', none⟩) m (C i)) ∧ w.cell? ⟨b', o' + j, none⟩ = some (.int .i64 (at2 l i j)) := by
  subst hn
  have hrow : ∀ r, r < l.length → (l.getD r []).length = m := fun r hr => by rw [hT.row hr, hm]
  obtain ⟨b, o, A, C, e, hc⟩ := h hT.low
  refine ⟨b, o, A, C, e, fun i hi => by rw [(hc i hi).1, hrow i hi], fun i j hi hj => ?_⟩
  obtain ⟨hc1, hc2⟩ := hc i hi
  have hrl := hrow i hi
  obtain ⟨b', o', e', h3⟩ := hc2 (by omega)
  rw [e', hrl] at hc1
  exact ⟨b', o', hc1, h3 j (by omega)⟩

end Go.Proofs.Ytlgjplhffpmfpaa
end

section
namespace Go.Proofs.Ytlgjplhffpmfpaa
open Go.RowKit Go.Deep

set_option maxRecDepth 100000 in
set_option maxHeartbeats 4000000 in
theorem l1MakeR_any (a a2 : Option Addr) (cap cap2 n n2 : Nat) (l u : List (List Int)) (w : World) (hn : l.length = n) (hu : u.length = n2) (hm : MatR w a l) (hmu : MatR w a2 u) (hT : Rec l) (hTu : Rec u) (hmm : (l.getD 0 []).length = n2) (hB : ∀ i j k, i < n → j < n2 → k < (u.getD 0 []).length → -1000000000000 ≤ at2 l i j * at2 u j k ∧ at2 l i j * at2 u j k ≤ 1000000000000) :
    Calls Try.prog 72 #[.slice a n cap, .slice a2 n2 cap2] w fun e w' => ∃ a' cap', e = .returned (.slice a' n cap') ∧ w.Since w.heap.size w' ∧ OwnT w.heap.size w'.heap.size w' a' (makeL l u) := by
  obtain ⟨i42, hi42⟩ := info42_parts
  have HI := Lib.hid hi42
  clear hi42
  have hst := bt_start w (fun _ => none) (fun _ => 0) #[] rfl
  have h6 := hT.high
  have h1 := hT.low
  have g6 := hTu.high
  have g1 := hTu.low
  have gw := hTu.width
  rw [hn] at h6 h1
  rw [hu] at g6 g1
  obtain ⟨m2, hmm2⟩ : ∃ m, (u.getD 0 []).length = m := ⟨_, rfl⟩
  have htl : makeL l u = makeTo l u m2 n2 n := by unfold makeL makeTo; rw [hmm2, hn, hu]
  rw [hmm2] at gw hB
  have HB := Lib.hid hB
  clear hB
  rw [htl]
  have hmk := run_make_row' (P := Try.prog) 27 3 (.int .i64 0) 8 Try.underlying27 Try.info3 rfl .i64 .i64 m2 (by omega) (by omega)
  obtain ⟨bt, ot, At, Ct, rfl, hlen, hcell⟩ := hm.gridR hn hT hmm
  obtain ⟨bu, ou, Au, Cu, rfl, hlenu, hcellu⟩ := hmu.gridR hu hTu hmm2
  have hcu0 := hlenu 0 (by omega)
  rw [Nat.add_zero] at hcu0
  have hbul : bu < w.heap.size := World.block_lt_of_cell? _ _ hcu0
  have HC := Lib.hid hcell
  have HCU := Lib.hid hcellu
  have HCU0 := Lib.hid hcu0
  have HMK := Lib.hid hmk
  have hmix : Try.prog.follows .mixedOrders = true := by kernel_rfl
  clear hm hn hmm hlen hcell hT hmu hTu hlenu hcellu hu hmm2 htl hcu0 hmk
  go_enter Try.func72, Try.ntmps72
  go_wp2
  go_loopg [5, 6, 7, 8, 9] n (fun g v i _ _ _ wr => ∃ r : Nat, ∃ A C, r ≤ n ∧ g = n - r ∧ i = .int .i64 r ∧ BT w wr v (makeTo l u m2 n2 r) A C)
  case atStart => exact ⟨0, _, _, Nat.zero_le _, rfl, rfl, hst⟩
  case round =>
    obtain ⟨r, A, C, hr, rfl, rfl, hR⟩ := hrel
    clear hst
    by_cases hlt : r < n
    · have HR := Lib.hid hR
      have hsz := hR.since.size
      have hlen := makeTo_length l u m2 n2 r
      have hc0 := HCU0.out
      rw [← hR.since.cell (a := ⟨bu, ou, none⟩) hbul] at hc0
      have hmr := mr_start wr m2 (dotF l u r) n2
      have HMR := Lib.hid hmr
      have hmk := HMK.out
      obtain ⟨wo, hwo⟩ : ∃ wo : World, wo = wr := ⟨_, rfl⟩
      clear hR hmr
      go_wp2
      clear hmk hc0
      subst hwo
      obtain ⟨g, hg⟩ : ∃ g, wo.heap.size = g := ⟨_, rfl⟩
      rw [hg]
      have HG := Lib.hid hg
      have hwg : w.heap.size ≤ g := by omega
      clear hg
      go_loopg [8, 9] m2 (fun g k _ wi => ∃ c : Nat, c ≤ m2 ∧ g = m2 - c ∧ k = .int .i64 c ∧ MR wo wi m2 (dotF l u r) n2 c 0)
      case atStart => exact ⟨0, Nat.zero_le _, rfl, rfl, HMR.out⟩
      case round =>
        obtain ⟨c, hc, rfl, rfl, hI⟩ := hrel
        clear HMR
        have hS := HR.out.since.trans (since_mono hI.since hsz)
        have hc0 := HCU0.out
        rw [← hS.cell (a := ⟨bu, ou, none⟩) hbul] at hc0
        by_cases hcm : c < m2
        · have HII := Lib.hid hI
          clear hI hS
          go_wp2
          clear hc0
          go_loopg [9] n2 (fun g j wj => ∃ j' : Nat, j' ≤ n2 ∧ g = n2 - j' ∧ j = .int .i64 j' ∧ MR wo wj m2 (dotF l u r) n2 c j')
          case atStart => exact ⟨0, Nat.zero_le _, rfl, rfl, HII.out⟩
          case round =>
            obtain ⟨j, hj, rfl, rfl, hJ⟩ := hrel
            clear HII
            by_cases hjn : j < n2
            · obtain ⟨b1, o1, e1, e2⟩ := HC.out r j hlt hjn
              obtain ⟨d1, q1, f1, f2⟩ := HCU.out j c hjn hcm
              have hS := HR.out.since.trans (since_mono hJ.since hsz)
              obtain ⟨k1, k2⟩ := hJ.facts hcm
              have hzz := HR.out.since.size
              have hb1 : bt < w.heap.size := World.block_lt_of_cell? _ _ e1
              have hb2 : b1 < w.heap.size := World.block_lt_of_cell? _ _ e2
              have hb4 : d1 < w.heap.size := World.block_lt_of_cell? _ _ f2
              rw [← hS.cell (a := ⟨bt, ot + r, none⟩) hb1] at e1
              rw [← hS.cell (a := ⟨b1, o1 + j, none⟩) hb2] at e2
              rw [← hS.cell (a := ⟨bu, ou + j, none⟩) hbul] at f1
              rw [← hS.cell (a := ⟨d1, q1 + c, none⟩) hb4] at f2
              have hbd := sumN_bdB (f := dotF l u r c) (B := 1000000000000) j (fun j' hj' => HB.out r j' c hlt (by omega) hcm)
              have hpq := HB.out r j c hlt hjn hcm
              have hsu : sumN (dotF l u r c) (j + 1) = sumN (dotF l u r c) j + at2 l r j * at2 u j c := rfl
              have hN := fun q => hJ.store q hcm
              rw [hsu] at hN
              obtain ⟨p, hp⟩ : ∃ p, at2 l r j = p := ⟨_, rfl⟩
              obtain ⟨q, hq⟩ : ∃ q, at2 u j c = q := ⟨_, rfl⟩
              obtain ⟨s, hs⟩ : ∃ s, sumN (dotF l u r c) j = s := ⟨_, rfl⟩
              rw [hp] at e2 hpq hN
              rw [hq] at f2 hpq hN
              rw [hs] at k1 hbd hN
              have hw1 : IntKind.i64.wrap (p * q) = p * q := IntWalk.i64_in _ ⟨by omega, by omega⟩
              have hw2 : IntKind.i64.wrap (s + p * q) = s + p * q := IntWalk.i64_in _ ⟨by omega, by omega⟩
              rw [HG.out] at k1 k2 hN
              have m1 := cell_set_ne (g := g) (j := c) (v := .int .i64 (s + p * q)) e1 (show bt ≠ g by omega)
              have m2' := cell_set_ne (g := g) (j := c) (v := .int .i64 (s + p * q)) e2 (show b1 ≠ g by omega)
              have m3 := cell_set_ne (g := g) (j := c) (v := .int .i64 (s + p * q)) f1 (show bu ≠ g by omega)
              have m4 := cell_set_ne (g := g) (j := c) (v := .int .i64 (s + p * q)) f2 (show d1 ≠ g by omega)
              have HN := Lib.hid (hN 1)
              clear hN hJ hp hq hs hsu hS hbd
              go_wp2
              go_still_tail 22, hmix
              go_wp2
              go_roundg (n2 - (j + 1))
              case measure => omega
              case rel => exact ⟨j + 1, by omega, rfl, by go_num, HN.out⟩
            · have hjj : j = n2 := by omega
              subst hjj
              have HNN := Lib.hid hJ.next
              clear hJ
              go_wp2
              go_roundg (m2 - (c + 1))
              case measure => omega
              case rel => exact ⟨c + 1, by omega, rfl, by go_num, HNN.out⟩
        · have hcc : c = m2 := by omega
          subst hcc
          have HII := Lib.hid hI
          have hzi := hI.since.size
          clear hI hS
          go_wp2_with (at_builtin; (refine wpList_append_own _ rfl _ _ 23 rfl w.heap.size 27 i42 (.slice none 0 0) 1 24 Try.underlying23 HI.out.1 HI.out.2.1 HI.out.2.2.1 HI.out.2.2.2 rfl (by decide) _ _ _ rfl ((HR.out.later HII.out.since).own.alloc _) ⟨wr.heap.size, 0, none⟩ 1 1 [.slice (some ⟨g, 0, none⟩) c c] rfl rfl (cell_one_at _ _ _ rfl) (fun x hx => by simp at hx; subst hx; rfl) (by unfold maxLen; omega) (by omega) (by simp; omega) ?_); intro v' w1 hown' hgrow _)
          have hP := (HR.out.later HII.out.since).push (rv := .slice (some ⟨g, 0, none⟩) c c) (x := (List.range c).map fun k => sumN (dotF l u r k) n2) (a := some ⟨g, 0, none⟩) (cp := c) (by simp)
            (fun _ => ⟨g, rfl, hwg, by rw [← HG.out]; exact HII.out.rowB⟩) (fun _ => HR.out.fresh rfl (by rw [HG.out]; exact Nat.le_refl _)) hown' hgrow
          rw [← makeTo_succ] at hP
          have HP := Lib.hid hP
          clear hP hown' hgrow hlen
          go_roundg (n - (r + 1))
          case measure => omega
          case rel => exact ⟨r + 1, _, _, by omega, rfl, by go_num, HP.out⟩
    · have : r = n := by omega
      subst this
      obtain ⟨a, cap, rfl, hin⟩ := hR.ownT
      have HS := Lib.hid hR.since
      clear hR
      go_wp2
      go_ret
      exact ⟨a, cap, by show Ending.returned (.slice a (makeTo l u m2 n2 r).length cap) = _; rw [makeTo_length], HS.out, hin⟩

end Go.Proofs.Ytlgjplhffpmfpaa
end

section
namespace Go.Proofs.Ytlgjplhffpmfpaa
open Go.RowKit Go.Deep

set_option maxRecDepth 100000 in
set_option maxHeartbeats 4000000 in
theorem specUnitO_any (n : Nat) (w : World) (hn : n ≤ 1000) :
    Calls Try.prog 53 #[.int .i64 n] w fun e w' => ∃ a cap, e = .returned (.slice a n cap) ∧ w.Since w.heap.size w' ∧ OwnT w.heap.size w'.heap.size w' a (unitL n n) := by
  obtain ⟨i42, hi, hz0, hz1, hz2⟩ := info_parts Try.info27
  have hst := bt_start w (fun _ => none) (fun _ => 0) #[] rfl
  have hmk := run_make_row' (P := Try.prog) 27 3 (.int .i64 0) 8 Try.underlying27 Try.info3 rfl .i64 .i64 n (by omega) (by omega)
  have HI := Lib.hid hi
  have HZ := Lib.hid (And.intro hz0 (And.intro hz1 hz2))
  clear hi hz0 hz1 hz2
  go_enter Try.func53, Try.ntmps53
  go_wp2
  go_loopg [3, 4, 5] n (fun g v i _ wr => ∃ r : Nat, ∃ A C, r ≤ n ∧ g = n - r ∧ i = .int .i64 r ∧ BT w wr v (unitL n r) A C)
  case atStart => exact ⟨0, _, _, Nat.zero_le _, rfl, rfl, hst⟩
  case round =>
    obtain ⟨r, A, C, hr, rfl, rfl, hR⟩ := hrel
    clear hst
    by_cases hlt : r < n
    · have HR := Lib.hid hR
      have hsz := hR.since.size
      have hcell : (wr.alloc (.cells (madeCells #[.int .i64 0] n) 3)).cell? ⟨wr.heap.size, r, none⟩ = some (.int .i64 0) := (World.rowIs_made wr (.int .i64 0) n 3).cell hlt
      have hfz : (wr.alloc (.cells (madeCells #[.int .i64 0] n) 3)).frozen? ⟨wr.heap.size, r, none⟩ = false := (World.rowIs_made wr (.int .i64 0) n 3).frozen r
      have hlen := unitL_length n r
      clear hR
      go_wp2_with (at_builtin; (refine wpList_append_own _ rfl _ _ 23 rfl w.heap.size 27 i42 (.slice none 0 0) 1 24 Try.underlying23 HI.out HZ.out.1 HZ.out.2.1 HZ.out.2.2 rfl (by decide) _ _ _ rfl ((HR.out.own.alloc _).alloc _) ⟨wr.heap.size + 1, 0, none⟩ 1 1 [.slice (some ⟨wr.heap.size, 0, none⟩) n n] rfl rfl (cell_one_at _ _ _ (by simp)) (fun x hx => by simp at hx; subst hx; rfl) (by unfold maxLen; omega) (by omega) (by simp; omega) ?_); intro v' w1 hown' hgrow _)
      have hwr : wr.Since wr.heap.size (wr.alloc (.cells ((madeCells #[.int .i64 0] n).setIfInBounds r (.int .i64 1)) 3)) := (World.Since.refl _ _).alloc (Nat.le_refl _) _
      have hrow : RowB (wr.alloc (.cells ((madeCells #[.int .i64 0] n).setIfInBounds r (.int .i64 1)) 3)) wr.heap.size ((List.range n).map fun k => unitF r k) := by
        refine ⟨_, World.alloc_heap_new wr _, fun i hi => ?_⟩
        simp at hi
        rw [Array.getElem?_setIfInBounds]
        have hm : (madeCells #[Value.int .i64 0] n)[i]? = some (.int .i64 0) := by
          obtain ⟨c, h1, _, h3⟩ := World.rowIs_made wr (.int .i64 0) n 3
          have := World.alloc_heap_new wr (.cells (madeCells #[Value.int .i64 0] n) 3)
          rw [this] at h1
          simp at h1
          rw [h1]; exact h3 i hi
        have hz : (madeCells #[Value.int .i64 0] n).size = n := by
          obtain ⟨c, h1, h2, _⟩ := World.rowIs_made wr (.int .i64 0) n 3
          have := World.alloc_heap_new wr (.cells (madeCells #[Value.int .i64 0] n) 3)
          rw [this] at h1
          simp at h1
          rw [h1]; exact h2
        by_cases e : r = i
        · subst e; simp [hz, hi, unitF, List.getD]
        · simp [e, hm, unitF, List.getD, hi]
      have hP := (HR.out.later hwr).push (rv := .slice (some ⟨wr.heap.size, 0, none⟩) n n) (x := (List.range n).map fun k => unitF r k) (a := some ⟨wr.heap.size, 0, none⟩) (cp := n) (by simp)
        (fun _ => ⟨wr.heap.size, rfl, hsz, hrow⟩) (fun _ => HR.out.fresh rfl (Nat.le_refl _)) hown' hgrow
      rw [← unitL_succ] at hP
      have HP := Lib.hid hP
      clear hP hrow hwr hown' hgrow hcell hfz hlen
      go_roundg (n - (r + 1))
      case measure => omega
      case rel => exact ⟨r + 1, _, _, by omega, rfl, by go_num, HP.out⟩
    · have : r = n := by omega
      subst this
      clear hmk
      obtain ⟨a, cap, rfl, hin⟩ := hR.ownT
      go_wp2
      go_ret
      exact ⟨a, cap, by show Ending.returned (.slice a (unitL r r).length cap) = _; rw [unitL_length], hR.since, hin⟩

theorem OwnT.put {lo hi : Nat} {W : World} {a : Option Addr} {l : List (List Int)} (h : OwnT lo hi W a l) {r k : Nat} (hr : r < l.length) (hk : k < (l.getD r []).length) :
    ∃ b g c, a = some ⟨b, 0, none⟩ ∧ W.cell? ⟨b, r, none⟩ = some (.slice (some ⟨g, 0, none⟩) (l.getD r []).length c) ∧ W.cell? ⟨g, k, none⟩ = some (.int .i64 ((l.getD r []).getD k 0)) ∧ W.frozen? ⟨g, k, none⟩ = false ∧ (lo ≤ g ∧ g ≠ b) ∧
      ∀ v : Int, MatR (W.setCell ⟨g, k, none⟩ (.int .i64 v)) a (l.set r ((l.getD r []).set k v)) := by
  obtain ⟨b, A, G, C, e, hb, hc, hd⟩ := h (by omega)
  obtain ⟨c1, c2⟩ := hc r hr
  obtain ⟨d1, d2, d3⟩ := c2 (by omega)
  rw [d1] at c1
  refine ⟨b, G r, C r, e, c1, (d3 k hk).1, (d3 k hk).2, ⟨d2.1, d2.2.2⟩, fun v => ?_⟩
  subst e
  intro _
  refine ⟨b, 0, A, C, rfl, fun s hs => ?_⟩
  rw [List.length_set] at hs
  obtain ⟨s1, s2⟩ := hc s hs
  have hrow : (l.set r ((l.getD r []).set k v)).getD s [] = if s = r then (l.getD r []).set k v else l.getD s [] := by
    by_cases e : s = r
    · subst e; rw [if_pos rfl]; simp [List.getD, hs]
    · rw [if_neg e]; simp [List.getD, Ne.symm e]
  have hlen : ((l.set r ((l.getD r []).set k v)).getD s []).length = (l.getD s []).length := by
    rw [hrow]
    split
    · rename_i e; subst e; exact List.length_set
    · rfl
  rw [hlen, Nat.zero_add]
  refine ⟨cell_set_ne s1 (show b ≠ G r from fun e => d2.2.2 e.symm), fun h0 => ?_⟩
  rw [hlen] at h0
  obtain ⟨t1, t2, t3⟩ := s2 h0
  refine ⟨G s, 0, t1, fun i hi => ?_⟩
  rw [Nat.zero_add]
  rw [hlen] at hi
  by_cases e : s = r
  · subst e
    rw [hrow, if_pos rfl]
    by_cases ek : i = k
    · subst ek
      rw [World.cell?_setCell_same W _ _ (d3 i hk).1]
      have e3 : ((l.getD s []).set i v).getD i 0 = v := by
        generalize l.getD s [] = x at hk
        simp [List.getD, hk]
      rw [e3]
    · rw [World.cell?_setCell_other _ _ _ _ (by intro h; simp only [Addr.mk.injEq] at h; omega)]
      have e2 : ((l.getD s []).set k v).getD i 0 = (l.getD s []).getD i 0 := by simp [List.getD, Ne.symm ek]
      rw [e2]
      exact (d3 i hi).1
  · rw [hrow, if_neg e]
    exact cell_set_ne (t3 i hi).1 (show G s ≠ G r from fun e2 => e (hd s r hs hr h0 (by omega) e2))

def chT (n r k : Nat) (v : Int) : List (List Int) := (unitL n n).set r (((unitL n n).getD r []).set k v)
theorem unit_row {n i : Nat} (hi : i < n) : ((unitL n n).getD i []).length = n := tabF_len _ _ _ _ hi
theorem unit_at {n i j : Nat} (hi : i < n) (hj : j < n) : ((unitL n n).getD i []).getD j 0 = if i = j then 1 else 0 := by
  unfold unitL
  rw [tabF_at _ _ _ _ _ hi hj]
  unfold unitF
  by_cases e : i = j <;> simp [e]
theorem chT_length (n r k : Nat) (v : Int) : (chT n r k v).length = n := by unfold chT; rw [List.length_set, unitL_length]
theorem chT_get {n r k i : Nat} {v : Int} (hr : r < n) : (chT n r k v).getD i [] = if i = r then ((unitL n n).getD r []).set k v else (unitL n n).getD i [] := by
  unfold chT
  by_cases e : i = r
  · subst e
    rw [if_pos rfl]
    have := unitL_length n n
    simp [List.getD, this, hr]
  · rw [if_neg e]
    simp [List.getD, Ne.symm e]
theorem chT_row {n r k i : Nat} {v : Int} (hr : r < n) (hi : i < n) : ((chT n r k v).getD i []).length = n := by
  rw [chT_get hr]
  split
  · rw [List.length_set]; exact unit_row hr
  · exact unit_row hi
theorem chT_at {n r k i j : Nat} {v : Int} (hr : r < n) (hi : i < n) (hj : j < n) : at2 (chT n r k v) i j = if i = r ∧ j = k then v else if i = j then 1 else 0 := by
  unfold at2
  rw [chT_get hr]
  by_cases e : i = r
  · subst e
    rw [if_pos rfl]
    by_cases e2 : j = k
    · subst e2
      rw [if_pos ⟨rfl, rfl⟩]
      have := unit_row hi
      simp [List.getD, List.getD] at this ⊢
      simp [this, hj]
    · rw [if_neg (fun h => e2 h.2), ← unit_at hi hj]
      simp [List.getD, Ne.symm e2]
  · rw [if_neg e, if_neg (fun h => e h.1)]
    exact unit_at hi hj
def chR (c : CH) : Nat := if c.1 = 2 then c.2.1 else cFrom c
def chK (c : CH) : Nat := if c.1 = 2 then c.2.1 else cTo c
theorem chRK {n : Nat} {c : CH} (h : chOk n c) : chR c < n ∧ chK c < n := by
  unfold chR chK
  by_cases e : c.1 = 2
  · rw [if_pos e, if_pos e]
    have := h.2
    rw [if_pos e] at this
    exact ⟨this, this⟩
  · rw [if_neg e, if_neg e]
    have := ch_ft h e
    exact ⟨this.1, this.2.1⟩
theorem chT_ch {n : Nat} {c : CH} (h : chOk n c) {i j : Nat} (hi : i < n) (hj : j < n) : at2 (chT n (chR c) (chK c) c.2.2) i j = chM c i j := by
  rw [chT_at (chRK h).1 hi hj]
  unfold chM chR chK
  by_cases e : c.1 = 2
  · rw [if_pos e, if_pos e]
    by_cases e1 : i = j
    · subst e1
      by_cases e2 : i = c.2.1
      · rw [if_pos ⟨e2, e2⟩, if_pos rfl, if_pos ⟨e, e2⟩]
      · rw [if_neg (fun h => e2 h.1), if_pos rfl, if_pos rfl, if_neg (fun h => e2 h.2)]
    · rw [if_neg (fun h => e1 (h.1.trans h.2.symm)), if_neg e1, if_neg e1, if_neg (fun h => h.1 e)]
  · rw [if_neg e, if_neg e]
    have hne := (ch_ft h e).2.2
    by_cases e1 : i = j
    · subst e1
      rw [if_neg (fun h => hne (h.1.symm.trans h.2)), if_pos rfl, if_pos rfl, if_neg (fun h => e h.1)]
    · rw [if_neg e1, if_neg e1]
      by_cases e2 : i = cFrom c ∧ j = cTo c
      · rw [if_pos e2, if_pos ⟨e, e2.1, e2.2⟩]
      · rw [if_neg e2, if_neg (fun h => e2 h.2)]

def outT (n : Nat) (cs : List CH) : List (List Int) := tabF n n (netM n cs)
theorem outT_length (n : Nat) (cs : List CH) : (outT n cs).length = n := tabF_length _ _ _
theorem outT_row {n : Nat} (cs : List CH) {i : Nat} (hi : i < n) : ((outT n cs).getD i []).length = n := tabF_len _ _ _ _ hi
theorem outT_at {n : Nat} (cs : List CH) {i j : Nat} (hi : i < n) (hj : j < n) : at2 (outT n cs) i j = netM n cs i j := tabF_at _ _ _ _ _ hi hj
theorem outT_nil (n : Nat) : outT n [] = unitL n n := by
  unfold outT unitL tabF
  refine List.map_congr_left fun i _ => List.map_congr_left fun j _ => ?_
  show (if i = j then (1 : Int) else 0) = unitF i j
  unfold unitF
  by_cases e : i = j <;> simp [e]
theorem outT_snoc {n : Nat} (hn : 1 ≤ n) (xs : List CH) {c : CH} (hc : chOk n c) : makeL (outT n xs) (chT n (chR c) (chK c) c.2.2) = outT n (xs ++ [c]) := by
  unfold makeL
  rw [outT_length, chT_row (chRK hc).1 (by omega), chT_length]
  unfold outT
  unfold tabF
  refine List.map_congr_left fun i hi => List.map_congr_left fun k hk => ?_
  have hi' := List.mem_range.1 hi
  have hk' := List.mem_range.1 hk
  rw [net_app xs [c] i k hi']
  refine sumN_congr n fun j hj => ?_
  have e1 := outT_at xs hi' hj
  unfold outT tabF at e1
  unfold dotF
  rw [net_one c hk', ← chT_ch hc hj hk', ← e1]
theorem outT_rec {n : Nat} (h1 : 1 ≤ n) (h6 : n ≤ 6) (cs : List CH) : Rec (outT n cs) := ⟨by rw [outT_length]; exact h1, by rw [outT_length]; exact h6, by rw [outT_row cs (by omega)]; exact ⟨h1, h6⟩, fun hr => by rw [outT_length] at hr; rw [outT_row cs hr, outT_row cs (by omega)]⟩
theorem chT_rec {n r k : Nat} {v : Int} (h1 : 1 ≤ n) (h6 : n ≤ 6) (hr : r < n) : Rec (chT n r k v) := ⟨by rw [chT_length]; exact h1, by rw [chT_length]; exact h6, by rw [chT_row hr (by omega)]; exact ⟨h1, h6⟩, fun hi => by rw [chT_length] at hi; rw [chT_row hr hi, chT_row hr (by omega)]⟩
theorem outT_bd {n : Nat} {xs : List CH} (hc : ∀ c ∈ xs, chOk n c) (h9 : ∀ c ∈ xs, -9 ≤ c.2.2 ∧ c.2.2 ≤ 9) (hl : xs.length ≤ 10) {c : CH} (hcc : chOk n c) (hc9 : -9 ≤ c.2.2 ∧ c.2.2 ≤ 9) : ∀ i j k, i < n → j < n → k < n → -1000000000000 ≤ at2 (outT n xs) i j * at2 (chT n (chR c) (chK c) c.2.2) j k ∧ at2 (outT n xs) i j * at2 (chT n (chR c) (chK c) c.2.2) j k ≤ 1000000000000 := fun i j k hi hj hk => by
  rw [outT_at xs hi hj, ← path_net xs hc i j hi, chT_at (chRK hcc).1 hj hk, Int.mul_comm]
  have h1 := path_bd xs h9 i j
  have h2 := p10_le hl
  have h3 : -9 ≤ (if j = chR c ∧ k = chK c then c.2.2 else if j = k then 1 else 0) ∧ (if j = chR c ∧ k = chK c then c.2.2 else if j = k then 1 else 0) ≤ 9 := by
    split
    · exact hc9
    · split <;> omega
  have := mul_bd9 h3.1 h3.2 (show -10000000000 ≤ pathN xs i j by omega) (by omega)
  omega
theorem szL_outT {n : Nat} (h5 : n ≤ 5) (cs : List CH) : szL (outT n cs) ≤ 1048576 := by
  have h : ∀ r, r ≤ n → sumTo (outT n cs) r = r * n := by
    intro r
    induction r with
    | zero => intro _; simp [sumTo]
    | succ r ih =>
      intro hr
      unfold sumTo
      rw [ih (by omega), outT_row cs (by omega), Nat.succ_mul]
  unfold szL
  rw [outT_length, h n (Nat.le_refl _)]
  have : n * n ≤ 5 * 5 := Nat.mul_le_mul h5 h5
  omega

end Go.Proofs.Ytlgjplhffpmfpaa
end

section
namespace Go.Proofs.Ytlgjplhffpmfpaa
open Go.RowKit Go.Deep

set_option maxRecDepth 100000 in
set_option maxHeartbeats 400000 in
theorem cTable_h (K : ByteArray) (L n : Nat) (V : Int) (w : World) (h1 : 1 ≤ n) (h5 : n ≤ 5) (hL : L < n) (hK : K.toList = [104]) :
    Calls Try.prog 73 #[.int .i64 n, .agg #[.string K, .int .i64 L, .int .i64 V]] w fun e w' => ∃ a cap, e = .returned (.slice a n cap) ∧ w.Since w.heap.size w' ∧ MatR w' a (chT n L L V) := by
  obtain ⟨d1, d2, d3⟩ := chip_box w K L V 71
  have HS := Lib.hid ((World.Since.refl w.heap.size w).alloc (Nat.le_refl _) (.cells #[.string K, .int .i64 L, .int .i64 V] 71))
  have E := Lib.hid (fun (W : World) => specUnitO_any n W (by omega))
  have hq1 : (K.toList == [117]) = false := by rw [hK]; decide
  have hq2 : (K.toList == [100]) = false := by rw [hK]; decide
  have HUL := Lib.hid (unitL_length n n)
  have HUR := Lib.hid (unit_row (show L < n by omega))
  have hmix : Try.prog.follows .mixedOrders = true := by kernel_rfl
  go_enter Try.func73, Try.ntmps73
  go_wp2_with (go_at_call 53; refine (E.out _).mono ?_; rintro e w1 ⟨a, cap, rfl, hs1, ho1⟩; obtain ⟨b, g, c, rfl, t1, t2, t3, t4, t5⟩ := ho1.put (r := L) (k := L) (by rw [HUL.out]; omega) (by rw [HUR.out]; omega); rw [HUR.out] at t1; have HT5 := Lib.hid t5; have e2 := (hs1.cell (a := ⟨w.heap.size, 1, none⟩) (by simp)).trans d2; have e3 := (hs1.cell (a := ⟨w.heap.size, 2, none⟩) (by simp)).trans d3; have e1 := (hs1.cell (a := ⟨w.heap.size, 0, none⟩) (by simp)).trans d1; have HSA := Lib.hid (HS.out.trans (since_mono hs1 HS.out.size)); have HG := Lib.hid t4; clear hs1 ho1 t5 t4)
  go_still_tail 10, hmix
  go_wp2
  go_ret
  exact ⟨_, _, rfl, (HSA.out.setCell (a := ⟨g, L, none⟩) (by have := HG.out.1; simp at this; show w.heap.size ≤ g; omega) _).drew, HT5.out V⟩

set_option maxRecDepth 100000 in
set_option maxHeartbeats 400000 in
theorem cTable_u (K : ByteArray) (L n : Nat) (V : Int) (w : World) (h1 : 1 ≤ n) (h5 : n ≤ 5) (hL : L + 1 < n) (hK : K.toList = [117]) :
    Calls Try.prog 73 #[.int .i64 n, .agg #[.string K, .int .i64 L, .int .i64 V]] w fun e w' => ∃ a cap, e = .returned (.slice a n cap) ∧ w.Since w.heap.size w' ∧ MatR w' a (chT n L (L + 1) V) := by
  obtain ⟨d1, d2, d3⟩ := chip_box w K L V 71
  have HS := Lib.hid ((World.Since.refl w.heap.size w).alloc (Nat.le_refl _) (.cells #[.string K, .int .i64 L, .int .i64 V] 71))
  have E := Lib.hid (fun (W : World) => specUnitO_any n W (by omega))
  have hw1 : IntKind.i64.wrap ((L : Int) + 1) = (L : Int) + 1 := IntWalk.i64_in _ ⟨by omega, by omega⟩
  have hw2 : (0 : Int) ≤ (L : Int) + 1 := by omega
  have hw3 : ((L : Int) + 1).toNat = L + 1 := by omega
  have hw4 : (L : Int) + 1 < (n : Int) := by omega
  have hw5 : L < n := by omega
  have HUL := Lib.hid (unitL_length n n)
  have HUR := Lib.hid (unit_row (show L < n by omega))
  have hmix : Try.prog.follows .mixedOrders = true := by kernel_rfl
  go_enter Try.func73, Try.ntmps73
  go_wp2_with (go_at_call 53; refine (E.out _).mono ?_; rintro e w1 ⟨a, cap, rfl, hs1, ho1⟩; obtain ⟨b, g, c, rfl, t1, t2, t3, t4, t5⟩ := ho1.put (r := L) (k := (L + 1)) (by rw [HUL.out]; omega) (by rw [HUR.out]; omega); rw [HUR.out] at t1; have HT5 := Lib.hid t5; have e2 := (hs1.cell (a := ⟨w.heap.size, 1, none⟩) (by simp)).trans d2; have e3 := (hs1.cell (a := ⟨w.heap.size, 2, none⟩) (by simp)).trans d3; have e1 := (hs1.cell (a := ⟨w.heap.size, 0, none⟩) (by simp)).trans d1; have HSA := Lib.hid (HS.out.trans (since_mono hs1 HS.out.size)); have HG := Lib.hid t4; clear hs1 ho1 t5 t4)
  go_still_tail 11, hmix
  go_wp2
  go_ret
  exact ⟨_, _, rfl, (HSA.out.setCell (a := ⟨g, (L + 1), none⟩) (by have := HG.out.1; simp at this; show w.heap.size ≤ g; omega) _).drew, HT5.out V⟩

set_option maxRecDepth 100000 in
set_option maxHeartbeats 400000 in
theorem cTable_d (K : ByteArray) (L n : Nat) (V : Int) (w : World) (h1 : 1 ≤ n) (h5 : n ≤ 5) (hL : L + 1 < n) (hK : K.toList = [100]) :
    Calls Try.prog 73 #[.int .i64 n, .agg #[.string K, .int .i64 L, .int .i64 V]] w fun e w' => ∃ a cap, e = .returned (.slice a n cap) ∧ w.Since w.heap.size w' ∧ MatR w' a (chT n (L + 1) L V) := by
  obtain ⟨d1, d2, d3⟩ := chip_box w K L V 71
  have HS := Lib.hid ((World.Since.refl w.heap.size w).alloc (Nat.le_refl _) (.cells #[.string K, .int .i64 L, .int .i64 V] 71))
  have E := Lib.hid (fun (W : World) => specUnitO_any n W (by omega))
  have hq1 : (K.toList == [117]) = false := by rw [hK]; decide
  have hw1 : IntKind.i64.wrap ((L : Int) + 1) = (L : Int) + 1 := IntWalk.i64_in _ ⟨by omega, by omega⟩
  have hw2 : (0 : Int) ≤ (L : Int) + 1 := by omega
  have hw3 : ((L : Int) + 1).toNat = L + 1 := by omega
  have hw4 : (L : Int) + 1 < (n : Int) := by omega
  have hw5 : L < n := by omega
  have HUL := Lib.hid (unitL_length n n)
  have HUR := Lib.hid (unit_row (show (L + 1) < n by omega))
  have hmix : Try.prog.follows .mixedOrders = true := by kernel_rfl
  go_enter Try.func73, Try.ntmps73
  go_wp2_with (go_at_call 53; refine (E.out _).mono ?_; rintro e w1 ⟨a, cap, rfl, hs1, ho1⟩; obtain ⟨b, g, c, rfl, t1, t2, t3, t4, t5⟩ := ho1.put (r := (L + 1)) (k := L) (by rw [HUL.out]; omega) (by rw [HUR.out]; omega); rw [HUR.out] at t1; have HT5 := Lib.hid t5; have e2 := (hs1.cell (a := ⟨w.heap.size, 1, none⟩) (by simp)).trans d2; have e3 := (hs1.cell (a := ⟨w.heap.size, 2, none⟩) (by simp)).trans d3; have e1 := (hs1.cell (a := ⟨w.heap.size, 0, none⟩) (by simp)).trans d1; have HSA := Lib.hid (HS.out.trans (since_mono hs1 HS.out.size)); have HG := Lib.hid t4; clear hs1 ho1 t5 t4)
  go_still_tail 11, hmix
  go_wp2
  go_ret
  exact ⟨_, _, rfl, (HSA.out.setCell (a := ⟨g, L, none⟩) (by have := HG.out.1; simp at this; show w.heap.size ≤ g; omega) _).drew, HT5.out V⟩

theorem l6cTable_any (c : RC) (n : Nat) (w : World) (h1 : 1 ≤ n) (h5 : n ≤ 5) (hok : RCok c ∧ chOk n (toC c)) :
    Calls Try.prog 73 #[.int .i64 n, .agg #[.string c.k, .int .i64 c.l, .int .i64 c.w]] w fun e w' => ∃ a cap, e = .returned (.slice a n cap) ∧ w.Since w.heap.size w' ∧ MatR w' a (chT n (chR (toC c)) (chK (toC c)) (toC c).2.2) := by
  obtain ⟨K, l, V⟩ := c
  obtain ⟨⟨hk, hl, hv⟩, hc⟩ := hok
  simp only at hk hl hv
  obtain ⟨L, rfl⟩ : ∃ L : Nat, l = L := ⟨l.toNat, by omega⟩
  rcases hk with h | h | h
  · rw [toC_h h] at hc ⊢
    have := hc.2
    rw [if_pos rfl] at this
    exact cTable_h K L n V w h1 h5 this h
  · have e : toC ⟨K, (L : Int), V⟩ = (0, L, V) := by unfold toC; simp [h]
    rw [e] at hc ⊢
    have := hc.2
    rw [if_neg (by simp)] at this
    exact cTable_u K L n V w h1 h5 this h
  · have e : toC ⟨K, (L : Int), V⟩ = (1, L, V) := by unfold toC; simp [h]
    rw [e] at hc ⊢
    have := hc.2
    rw [if_neg (by simp)] at this
    exact cTable_d K L n V w h1 h5 this h

theorem toC_w (c : RC) : (toC c).2.2 = c.w := rfl
noncomputable def outC (n : Nat) (cs : List RC) : List (List Int) := outT n (cs.map toC)
theorem outC_step {n : Nat} {cs : List RC} (ho : NetOk n cs) {r : Nat} (hr : r < cs.length) : makeL (outC n (cs.take r)) (chT n (chR (toC (cs.getD r rc0))) (chK (toC (cs.getD r rc0))) (toC (cs.getD r rc0)).2.2) = outC n (cs.take (r + 1)) := by
  have hm : cs.getD r rc0 ∈ cs := by
    have : cs.getD r rc0 = cs[r] := by simp [List.getD, hr]
    rw [this]; exact List.getElem_mem _
  unfold outC
  rw [outT_snoc (by have := ho.lo; omega) _ (ho.ok _ hm).2]
  congr 1
  rw [List.take_succ_eq_append_getElem hr, List.map_append]
  congr 2
  simp [List.getD, hr]
theorem outC_bd {n : Nat} {cs : List RC} (ho : NetOk n cs) {r : Nat} (hr : r < cs.length) : ∀ i j k, i < n → j < n → k < n → -1000000000000 ≤ at2 (outC n (cs.take r)) i j * at2 (chT n (chR (toC (cs.getD r rc0))) (chK (toC (cs.getD r rc0))) (toC (cs.getD r rc0)).2.2) j k ∧ at2 (outC n (cs.take r)) i j * at2 (chT n (chR (toC (cs.getD r rc0))) (chK (toC (cs.getD r rc0))) (toC (cs.getD r rc0)).2.2) j k ≤ 1000000000000 := by
  have hm : cs.getD r rc0 ∈ cs := by
    have : cs.getD r rc0 = cs[r] := by simp [List.getD, hr]
    rw [this]; exact List.getElem_mem _
  have h10 := ho.len
  refine outT_bd (fun c hc => ?_) (fun c hc => ?_) (by rw [List.length_map, List.length_take]; omega) (ho.ok _ hm).2 (ho.rc _ hm).2.2
  · obtain ⟨d, hd, rfl⟩ := List.mem_map.1 hc
    exact (ho.ok d (List.mem_of_mem_take hd)).2
  · obtain ⟨d, hd, rfl⟩ := List.mem_map.1 hc
    exact (ho.rc d (List.mem_of_mem_take hd)).2.2
noncomputable def ntabB (n : Int) (cs : List RC) : Bool := netB n cs && tabIn (outC n.toNat cs)
noncomputable def ntabL (n : Int) (cs : List RC) : List (List Int) := resT (ntabB n cs) (outC n.toNat cs)

set_option maxRecDepth 100000 in
set_option maxHeartbeats 400000 in
theorem specNetTable_any (a : Option Addr) (cap N : Nat) (n : Int) (cs : List RC) (w : World) (hN : cs.length = N) (h63 : N ≤ 9223372036854775807) (hm : ChipsR w a cs) :
    Calls Try.prog 57 #[.int .i64 n, .slice a N cap] w fun e w' => ∃ a' cap', e = .returned (.tuple #[.slice a' (ntabL n cs).length cap', .bool (ntabB n cs)]) ∧ w.Since w.heap.size w' ∧ InT w.heap.size w'.heap.size w' a' (ntabL n cs) := by
  have E := specNetIn_any a cap N n cs w hN h63 hm
  cases hb : netB n cs with
  | false =>
    have hf : ntabB n cs = false := by unfold ntabB; rw [hb, Bool.false_and]
    unfold ntabL
    rw [hf]
    rw [hb] at E
    replace E := Lib.hid E
    have E2 := Lib.hid (fun (W : World) => l1None_any W)
    clear hb hm hN hf
    go_enter Try.func57, Try.ntmps57
    go_wp2_with (first
      | (go_at_call 71; refine (E.out).mono ?_; rintro e w1 ⟨rfl, hs1⟩; have HS1 := Lib.hid hs1; clear hs1)
      | (go_at_call 45; refine (E2.out _).mono ?_; rintro e w2 ⟨rfl, hs2⟩; have HS2 := Lib.hid (HS1.out.trans (since_mono hs2 HS1.out.size)); clear hs2))
    go_ret2
    exact ⟨_, _, rfl, HS2.out, InT.nil _ _ _ _⟩
  | true =>
    obtain ⟨m, rfl, ho⟩ := netB_ok hb
    rw [hb] at E
    replace E := Lib.hid E
    have hn2 := ho.lo
    have hn5 := ho.hi
    have h10 := ho.len
    rw [hN] at h10
    have hfB : ntabB m cs = tabIn (outC m cs) := by unfold ntabB; rw [hb, Bool.true_and]; rfl
    have hfL : ntabL m cs = resT (tabIn (outC m cs)) (outC m cs) := by unfold ntabL; rw [hfB]; rfl
    rw [hfB, hfL]
    have HN := Lib.hid hN
    have HM := Lib.hid hm
    have HO := Lib.hid ho
    have EU := Lib.hid (fun (W : World) => specUnitO_any m W (by omega))
    clear hb hm hN ho hfB hfL
    go_enter Try.func57, Try.ntmps57
    go_wp2_with (first
      | (go_at_call 71; refine (E.out).mono ?_; rintro e w1 ⟨rfl, hs1⟩; have HS1 := Lib.hid hs1; clear hs1)
      | (go_at_call 53; refine (EU.out _).mono ?_; rintro e w2 ⟨a0, c0, rfl, hs2, hu2⟩; have HS2 := Lib.hid (HS1.out.trans (since_mono hs2 HS1.out.size)); have HU2 := Lib.hid (hu2.mono HS1.out.size (Nat.le_refl _)); clear hs2 hu2))
    go_loopg [6, 7] N (fun g v i wr => ∃ (r : Nat) (a' : Option Addr) (cap' : Nat), r ≤ N ∧ g = N - r ∧ i = .int .i64 r ∧ v = .slice a' m cap' ∧ w.Since w.heap.size wr ∧ OwnT w.heap.size wr.heap.size wr a' (outC m (cs.take r)))
    case atStart => exact ⟨0, _, _, Nat.zero_le _, rfl, rfl, rfl, HS2.out, by show OwnT _ _ _ _ (outT m []); rw [outT_nil]; exact HU2.out⟩
    case round =>
      obtain ⟨r, a', cap', hr, rfl, rfl, rfl, hS, hT⟩ := hrel
      by_cases hlt : r < N
      · have hlt' : r < cs.length := by rw [HN.out]; exact hlt
        obtain ⟨b, o, rfl, k1, k2, k3⟩ := HM.out.at hlt'
        have c1 := (hS.cell (World.block_lt_of_cell? _ _ k1)).trans k1
        have c2 := (hS.cell (World.block_lt_of_cell? _ _ k2)).trans k2
        have c3 := (hS.cell (World.block_lt_of_cell? _ _ k3)).trans k3
        have hmem : cs.getD r rc0 ∈ cs := by
          have : cs.getD r rc0 = cs[r] := by simp [List.getD, hlt']
          rw [this]; exact List.getElem_mem _
        have ET := Lib.hid (fun (W : World) => l6cTable_any (cs.getD r rc0) m W (by omega) hn5 (HO.out.ok _ hmem))
        have hstep := outC_step HO.out hlt'
        have hrec2 := chT_rec (v := (toC (cs.getD r rc0)).2.2) (k := chK (toC (cs.getD r rc0))) (show 1 ≤ m by omega) (show m ≤ 6 by omega) (chRK (HO.out.ok _ hmem).2).1
        have hlen2 := chT_length m (chR (toC (cs.getD r rc0))) (chK (toC (cs.getD r rc0))) (toC (cs.getD r rc0)).2.2
        have hrow2 := chT_row (v := (toC (cs.getD r rc0)).2.2) (k := chK (toC (cs.getD r rc0))) (chRK (HO.out.ok _ hmem).2).1 (show 0 < m by omega)
        have hbd := outC_bd HO.out hlt'
        obtain ⟨c, hcc⟩ : ∃ c, cs.getD r rc0 = c := ⟨_, rfl⟩
        rw [hcc] at c1 c2 c3 ET hstep hrec2 hlen2 hrow2 hbd
        obtain ⟨U, hU⟩ : ∃ U, chT m (chR (toC c)) (chK (toC c)) (toC c).2.2 = U := ⟨_, rfl⟩
        rw [hU] at ET hstep hrec2 hlen2 hrow2 hbd
        have EM := Lib.hid (fun (W : World) (a2 : Option Addr) (cp2 : Nat) (h1 : wr.Since wr.heap.size W) (h2 : MatR W a2 U) => l1MakeR_any a' a2 cap' cp2 m m (outC m (cs.take r)) U W (outT_length _ _) hlen2 (hT.since h1).matR h2 (outT_rec (by omega) (by omega) _) hrec2 (outT_row _ (by omega)) (fun i j k hi hj hk => hbd i j k hi hj (by rw [hrow2] at hk; exact hk)))
        rw [hstep] at EM
        have HS' := Lib.hid hS
        clear k1 k2 k3 hstep hrec2 hlen2 hrow2 hbd hU hT hS hcc hmem hlt'
        obtain ⟨K, L, V⟩ := c
        simp only at c1 c2 c3 ET
        go_wp2_with (first
          | (go_at_call 73; refine (ET.out _).mono ?_; rintro e w3 ⟨a3, cp3, rfl, hs3, hm3⟩; have H3 := Lib.hid (And.intro hs3 hm3); clear hs3 hm3)
          | (go_at_call 72; refine (EM.out _ _ _ H3.out.1 H3.out.2).mono ?_; rintro e w4 ⟨a4, cp4, rfl, hs4, ho4⟩; have H4 := Lib.hid (And.intro (H3.out.1.trans (since_mono hs4 H3.out.1.size)) (ho4.mono H3.out.1.size (Nat.le_refl _))); clear hs4 ho4))
        go_roundg (N - (r + 1))
        case measure => omega
        case rel => exact ⟨r + 1, _, _, by omega, rfl, by go_num, rfl, HS'.out.trans (since_mono H4.out.1 HS'.out.size), H4.out.2.mono HS'.out.size (Nat.le_refl _)⟩
      · obtain rfl : r = N := by omega
        rw [List.take_of_length_le (by rw [HN.out]; exact Nat.le_refl _)] at hT
        have ED := Lib.hid (l1Done_any a' cap' m w.heap.size wr.heap.size (outC m cs) wr (outT_length _ _) (szL_outT hn5 _) hT.inT)
        have HS' := Lib.hid hS
        clear hT hS
        go_wp2_with (go_at_call 74; refine (ED.out).mono ?_; rintro e w3 ⟨a3, cp3, rfl, hs3, hm3⟩; have H3 := Lib.hid (And.intro (HS'.out.trans (since_mono hs3 HS'.out.size)) (hm3.mono (Nat.le_refl _) hs3.size)); clear hs3 hm3)
        go_ret2
        exact ⟨_, _, rfl, H3.out.1, H3.out.2⟩

end Go.Proofs.Ytlgjplhffpmfpaa
end

section
namespace Go.Proofs.Ytlgjplhffpmfpaa
open Go.RowKit Go.Deep

end Go.Proofs.Ytlgjplhffpmfpaa
end

section
namespace Go.Proofs.Ytlgjplhffpmfpaa
open Go.RowKit Go.Deep

def InR (lo hi : Nat) (w : World) (a : Option Addr) (x : List Int) : Prop :=
  0 < x.length → ∃ g o : Nat, a = some ⟨g, o, none⟩ ∧ (lo ≤ g ∧ g < hi) ∧ ∀ i, i < x.length → w.cell? ⟨g, o + i, none⟩ = some (.int .i64 (x.getD i 0))
def OwnR (lo hi : Nat) (w : World) (a : Option Addr) (x : List Int) : Prop :=
  0 < x.length → ∃ g : Nat, a = some ⟨g, 0, none⟩ ∧ (lo ≤ g ∧ g < hi) ∧ ∀ i, i < x.length → w.cell? ⟨g, i, none⟩ = some (.int .i64 (x.getD i 0)) ∧ w.frozen? ⟨g, i, none⟩ = false
theorem OwnR.inR {lo hi : Nat} {w : World} {a : Option Addr} {x : List Int} (h : OwnR lo hi w a x) : InR lo hi w a x := fun h0 => by
  obtain ⟨g, e, hg, hc⟩ := h h0
  exact ⟨g, 0, e, hg, fun i hi => by rw [Nat.zero_add]; exact (hc i hi).1⟩
theorem InR.rowR {lo hi : Nat} {w : World} {a : Option Addr} {x : List Int} (h : InR lo hi w a x) : RowR w a x := fun h0 => by
  obtain ⟨g, o, e, _, hc⟩ := h h0
  exact ⟨g, o, e, hc⟩
theorem OwnR.rowR {lo hi : Nat} {w : World} {a : Option Addr} {x : List Int} (h : OwnR lo hi w a x) : RowR w a x := h.inR.rowR
theorem InR.nil (lo hi : Nat) (w : World) (a : Option Addr) : InR lo hi w a [] := fun h => by simp at h
theorem OwnR.nil (lo hi : Nat) (w : World) (a : Option Addr) : OwnR lo hi w a [] := fun h => by simp at h
theorem InR.mono {lo hi lo' hi' : Nat} {w : World} {a : Option Addr} {x : List Int} (h : InR lo hi w a x) (h1 : lo' ≤ lo) (h2 : hi ≤ hi') : InR lo' hi' w a x := fun h0 => by
  obtain ⟨g, o, e, hg, hc⟩ := h h0
  exact ⟨g, o, e, by omega, hc⟩
theorem OwnR.mono {lo hi lo' hi' : Nat} {w : World} {a : Option Addr} {x : List Int} (h : OwnR lo hi w a x) (h1 : lo' ≤ lo) (h2 : hi ≤ hi') : OwnR lo' hi' w a x := fun h0 => by
  obtain ⟨g, e, hg, hc⟩ := h h0
  exact ⟨g, e, by omega, hc⟩
theorem InR.frame {lo hi lo' hi' : Nat} {w w' : World} {a : Option Addr} {x : List Int} (h : InR lo hi w a x) (hf : Frame lo' hi' w w') (hd : hi ≤ lo' ∨ hi' ≤ lo) : InR lo hi w' a x := fun h0 => by
  obtain ⟨g, o, e, hg, hc⟩ := h h0
  exact ⟨g, o, e, hg, fun i hi1 => hf.cell (hc i hi1) (by show g < lo' ∨ hi' ≤ g; omega)⟩
theorem OwnR.frame {lo hi lo' hi' : Nat} {w w' : World} {a : Option Addr} {x : List Int} (h : OwnR lo hi w a x) (hf : Frame lo' hi' w w') (hd : hi ≤ lo' ∨ hi' ≤ lo) : OwnR lo hi w' a x := fun h0 => by
  obtain ⟨g, e, hg, hc⟩ := h h0
  exact ⟨g, e, hg, fun i hi1 => ⟨hf.cell (hc i hi1).1 (by show g < lo' ∨ hi' ≤ g; omega), (hf.frozen (hc i hi1).1 (by show g < lo' ∨ hi' ≤ g; omega)).trans (hc i hi1).2⟩⟩
theorem InR.since {lo hi : Nat} {w w' : World} {a : Option Addr} {x : List Int} (h : InR lo hi w a x) (hs : w.Since w.heap.size w') : InR lo hi w' a x := h.frame (frame_since hs hi hi) (.inl (Nat.le_refl _))
theorem OwnR.since {lo hi : Nat} {w w' : World} {a : Option Addr} {x : List Int} (h : OwnR lo hi w a x) (hs : w.Since w.heap.size w') : OwnR lo hi w' a x := h.frame (frame_since hs hi hi) (.inl (Nat.le_refl _))
theorem RowMade.ownR {w wr : World} {l : List Int} (h : RowMade w wr l l.length) : OwnR w.heap.size wr.heap.size wr (some ⟨w.heap.size, 0, none⟩) l := fun _ => by
  have hs := h.size
  refine ⟨w.heap.size, rfl, by omega, fun i hi => ⟨?_, h.row.frozen i⟩⟩
  have := h.row.cell (i := i) hi
  rw [if_pos hi] at this
  exact this

theorem toIntR_any (a : Option Addr) (cap n : Nat) (l : List Int) (w : World) (hn : l.length = n) (hn1 : n ≤ 1048576) (hm : RowR w a l) :
    Calls Try.prog 47 #[.slice a n cap] w fun e w' => e = .returned (.slice (some ⟨w.heap.size, 0, none⟩) n n) ∧ w.Since w.heap.size w' ∧ OwnR w.heap.size w'.heap.size w' (some ⟨w.heap.size, 0, none⟩) l := by
  subst hn
  exact (toIntS_any a cap l w hn1 hm).mono fun _ _ h => ⟨h.1, h.2.since, h.2.ownR⟩

theorem markR_any (a : Option Addr) (lo hi cap m : Nat) (k : Int) (x : List Int) (w : World) (hx : x.length = m) (h0 : 0 ≤ k) (hk : k + m ≤ 4000000) (h : OwnR lo hi w a x) :
    Calls Try.prog 51 #[.slice a m cap, .int .i64 k] w fun e w' => e = .returned (.int .i64 (k + m)) ∧ OwnR lo hi w' a (markRow k m) ∧ Frame lo hi w w' ∧ w'.heap.size = w.heap.size := by
  by_cases h1 : 0 < m
  · obtain ⟨g, e, hg, hc⟩ := h (by omega)
    refine (markIntS_any a g cap m k x w hx h0 hk (fun _ => e) (fun i hi => (hc i (by omega)).1) (fun i hi => (hc i (by omega)).2)).mono ?_
    rintro r w' ⟨rfl, hM⟩
    refine ⟨rfl, fun _ => ⟨g, e, hg, fun i hi => ?_⟩, hM.frame (.inl hg), hM.size⟩
    rw [markRow_length] at hi
    refine ⟨?_, hM.frozen i hi⟩
    rw [hM.cell i hi, if_pos hi, markRow_get _ _ _ hi]
  · have hm : m = 0 := by omega
    subst hm
    have hxe : x = [] := List.length_eq_zero_iff.1 hx
    clear h
    go_enter Try.func51, Try.ntmps51
    go_wp2
    go_loopg [1, 5] 0 (fun g q i wr => q = .int .i64 k ∧ i = .int .i64 0 ∧ wr = w)
    case atStart => exact ⟨rfl, rfl, rfl⟩
    case round =>
      obtain ⟨rfl, rfl, rfl⟩ := hrel
      go_wp2
      go_ret
      exact ⟨ret_int (by simp), OwnR.nil _ _ _ _, Frame.refl _ _ _, rfl⟩

end Go.Proofs.Ytlgjplhffpmfpaa
end

section
namespace Go.Proofs.Ytlgjplhffpmfpaa
open Go.RowKit Go.Deep

theorem RW.rowR {B : Nat} {w : World} {v : Value} {x : List Int} {j : Nat} (h : RW B w v x) (hx : x.length = j) : ∃ ax cx, v = .slice ax j cx ∧ RowR w ax x := by
  by_cases h0 : 0 < x.length
  · obtain ⟨g, cp, e, hge, hrb⟩ := h.form h0
    rw [hx] at e
    exact ⟨_, cp, e, fun _ => ⟨g, 0, rfl, fun i hi => by rw [Nat.zero_add]; exact hrb.cell hi⟩⟩
  · rcases h.2 with ⟨e, _⟩ | ⟨g, cp, cur, e, _⟩
    · exact ⟨none, 0, by rw [e]; congr 1; omega, fun h => absurd h h0⟩
    · rw [hx] at e
      exact ⟨_, cp, e, fun h => absurd h h0⟩

end Go.Proofs.Ytlgjplhffpmfpaa
end

section
namespace Go.Proofs.Ytlgjplhffpmfpaa
open Go.RowKit Go.Deep

set_option maxHeartbeats 1000000 in
theorem sameInts_same (a b : Option Addr) (ca cb n : Nat) (l : List Int) (w : World) (hn : l.length = n) (h63 : n ≤ 9223372036854775807) (ha : RowR w a l) (hb : RowR w b l) :
    Calls Try.prog 14 #[.slice a n ca, .slice b n cb] w fun e w' => e = .returned (.bool true) ∧ Drawn w w' := by
  have H := Lib.hid hn; clear hn
  go_enter Try.func14, Try.ntmps14
  go_wp2
  go_loopg [5] n (fun g i wr => ∃ k : Nat, k ≤ n ∧ g = n - k ∧ i = .int .i64 k ∧ Drawn w wr)
  case atStart => exact ⟨0, Nat.zero_le _, rfl, rfl, Drawn.refl w⟩
  case round =>
    obtain ⟨k, hk, rfl, rfl, hD⟩ := hrel
    by_cases hlt : k < n
    · obtain ⟨b1, o1, rfl, hc1⟩ := ha (by rw [H.out]; omega)
      obtain ⟨b2, o2, rfl, hc2⟩ := hb (by rw [H.out]; omega)
      have c1 := hc1 k (by rw [H.out]; exact hlt)
      have c2 := hc2 k (by rw [H.out]; exact hlt)
      obtain ⟨x, hx⟩ : ∃ x, x = l.getD k 0 := ⟨_, rfl⟩
      rw [← hx] at c1 c2
      rw [← hD.cell] at c1 c2
      clear hx hc1 hc2 ha hb
      go_wp2
      go_quiet (fail)
      go_wp2
      go_roundg (n - (k + 1))
      case measure => omega
      case rel => exact ⟨k + 1, by omega, rfl, by go_num, hD.trans (Drawn.mk _ _)⟩
    · go_wp2
      go_ret
      exact ⟨rfl, hD⟩

end Go.Proofs.Ytlgjplhffpmfpaa
end

section
namespace Go.Proofs.Ytlgjplhffpmfpaa
open Go.RowKit Go.Deep

theorem szL_of {l : List (List Int)} {n k : Nat} (h1 : l.length ≤ n) (h2 : ∀ j, j < l.length → (l.getD j []).length ≤ k) (hnk : n * k + n ≤ 1048576) : szL l ≤ 1048576 := by
  have h3 := sumTo_le_mul l k h2 l.length (Nat.le_refl _)
  have h4 : l.length * k ≤ n * k := Nat.mul_le_mul_right _ h1
  have h5 : k * l.length = l.length * k := Nat.mul_comm _ _
  unfold szL
  omega
theorem rows_le {l : List (List Int)} (h : szL l ≤ 1048576) : ∀ r, r < l.length → (l.getD r []).length ≤ 9223372036854775807 := fun r hr => by
  have := row_le l hr
  unfold szL at h
  omega

theorem tab_self {l : List (List Int)} {n m : Nat} (hn : l.length = n) (hm : ∀ r, r < n → (l.getD r []).length = m) : tabF n m (at2 l) = l := by
  refine List.ext_getElem (by rw [tabF_length, hn]) fun r h1 h2 => ?_
  have hr : r < n := by rw [tabF_length] at h1; exact h1
  have e1 : (tabF n m (at2 l))[r] = (tabF n m (at2 l)).getD r [] := by simp [List.getD, h1]
  have e2 : l[r] = l.getD r [] := by simp [List.getD, h2]
  rw [e1, e2, tabF_get _ _ _ _ hr]
  refine List.ext_getElem (by rw [List.length_map, List.length_range, hm r hr]) fun k h3 h4 => ?_
  rw [List.getElem_map, List.getElem_range]
  unfold at2
  obtain ⟨x, hx⟩ : ∃ x, x = l.getD r [] := ⟨_, rfl⟩
  subst hx
  generalize l.getD r [] = x at *
  simp [List.getD, h4]

theorem turnL_turnL {l : List (List Int)} (hT : TabIn l) : turnL (turnL l) = l := by
  have h1 := hT.1
  have hw := hT.width
  have e0 : ((turnL l).getD 0 []).length = l.length := tabF_len _ _ _ _ hw.1
  have e1 : turnL (turnL l) = tabF l.length (l.getD 0 []).length fun k i => at2 (turnL l) i k := by
    show tabF ((turnL l).getD 0 []).length (turnL l).length _ = _
    rw [e0, turnL_length]
  rw [e1]
  have e2 : tabF l.length (l.getD 0 []).length (fun k i => at2 (turnL l) i k) = tabF l.length (l.getD 0 []).length (at2 l) := by
    unfold tabF
    refine List.map_congr_left fun r hr => List.map_congr_left fun k hk => ?_
    exact tabF_at _ _ _ _ _ (List.mem_range.1 hk) (List.mem_range.1 hr)
  rw [e2]
  exact tab_self rfl (fun r hr => hT.row hr)

end Go.Proofs.Ytlgjplhffpmfpaa
end

section
namespace Go.Proofs.Ytlgjplhffpmfpaa
open Go.RowKit Go.Deep

theorem OwnC.put (z : Int) {lo hi : Nat} {w : World} {a : Option Addr} {cs : List RC} {r : Nat} (h : OwnC lo hi w a cs) (hr : r < cs.length) : ∃ g, a = some ⟨g, 0, none⟩ ∧ (lo ≤ g ∧ g < hi) ∧ w.cell? ⟨g, r * 3 + 2, none⟩ = some (.int .i64 (cs.getD r rc0).w) ∧ w.frozen? ⟨g, r * 3 + 2, none⟩ = false ∧
    ∃ cs' : List RC, cs'.length = cs.length ∧ OwnC lo hi (w.setCell ⟨g, r * 3 + 2, none⟩ (.int .i64 z)) a cs' := by
  obtain ⟨g, e, hg, hc⟩ := h (by omega)
  obtain ⟨⟨c1, c2, c3⟩, f1, f2, f3⟩ := hc r hr
  refine ⟨g, e, hg, c3, f3, cs.set r ⟨(cs.getD r rc0).k, (cs.getD r rc0).l, z⟩, by simp, fun _ => ⟨g, e, hg, fun i hi => ?_⟩⟩
  rw [List.length_set] at hi
  obtain ⟨⟨k1, k2, k3⟩, m1, m2, m3⟩ := hc i hi
  have hne : ∀ q, q ≠ r * 3 + 2 → (w.setCell ⟨g, r * 3 + 2, none⟩ (.int .i64 z)).cell? ⟨g, q, none⟩ = w.cell? ⟨g, q, none⟩ := fun q hq => World.cell?_setCell_other _ _ _ _ (fun e => hq (by injection e with _ e2; exact e2.symm))
  have hget : (cs.set r ⟨(cs.getD r rc0).k, (cs.getD r rc0).l, z⟩).getD i rc0 = if i = r then ⟨(cs.getD r rc0).k, (cs.getD r rc0).l, z⟩ else cs.getD i rc0 := by
    simp only [List.getD, List.getElem?_set]
    by_cases e : r = i
    · subst e; simp [hr]
    · rw [if_neg e, if_neg (fun h => e h.symm)]
  refine ⟨⟨?_, ?_, ?_⟩, by rw [World.frozen?_setCell]; exact m1, by rw [World.frozen?_setCell]; exact m2, by rw [World.frozen?_setCell]; exact m3⟩
  · rw [hne _ (by omega), k1, hget]
    by_cases e : i = r
    · rw [if_pos e, e]
    · rw [if_neg e]
  · rw [hne _ (by omega), k2, hget]
    by_cases e : i = r
    · rw [if_pos e, e]
    · rw [if_neg e]
  · rw [hget]
    by_cases e : i = r
    · subst e
      rw [World.cell?_setCell_same' _ _ _ (by rw [c3]; rfl), if_pos rfl]
    · rw [hne _ (by omega), k3, if_neg e]
theorem DZ.put {w wr : World} {G B H nb cb N P r : Nat} {a a' : Option Addr} (h : DZ w G B H nb cb a a' N P wr) (hr : r < N) (hG : G < B) (hw : w.heap.size ≤ G) :
    ∃ g v, a' = some ⟨g, 0, none⟩ ∧ wr.cell? ⟨g, r * 3 + 2, none⟩ = some (.int .i64 v) ∧ wr.frozen? ⟨g, r * 3 + 2, none⟩ = false ∧ ∀ z : Int, DZ w G B H nb cb a a' N P (wr.setCell ⟨g, r * 3 + 2, none⟩ (.int .i64 z)) := by
  obtain ⟨⟨p, hp, hd⟩, hs, hz, cs, hl, ho⟩ := h
  obtain ⟨g, e, hb, hv, hf, _⟩ := ho.put 0 (r := r) (by omega)
  refine ⟨g, _, e, hv, hf, fun z => ?_⟩
  obtain ⟨g', e', _, _, _, cs', hl', ho'⟩ := ho.put z (r := r) (by omega)
  rw [e] at e'
  simp only [Option.some.injEq, Addr.mk.injEq, and_true] at e'
  subst e'
  have hg : wr.grownBy (wr.setCell ⟨g, r * 3 + 2, none⟩ (.int .i64 z)) (some g) := ⟨rfl, rfl, rfl, by simp, fun k _ hk => Below.heap_setCell _ _ _ _ (fun e => hk (by rw [e]))⟩
  exact ⟨⟨p, hp, hd.grown hg (fun k e => by cases e; omega)⟩, hs.grown hg hs.size (fun k e => by cases e; omega), by simpa using hz, cs', by omega, ho'⟩

def PvE (w : World) (e : Ending) (w' : World) : Prop := ∃ a' cap l, e = .returned (.slice a' (List.length l) cap) ∧ w.Since w.heap.size w' ∧ szL l ≤ 1048576 ∧ MatR w' a' l
def PvB (l : List (List Int)) : Prop := 1 ≤ l.length ∧ (l.getD 0 []).length ≤ 6
theorem PvB.tab {l : List (List Int)} (h : TabIn l) : PvB l := ⟨h.1, h.width.2⟩
def PvF (w : World) (e : Ending) (w' : World) : Prop := ∃ a' cap l, e = .returned (.slice a' (List.length l) cap) ∧ w.Since w.heap.size w' ∧ (szL l ≤ 1048576 ∧ PvB l) ∧ MatR w' a' l
theorem PvF.pv {w : World} {e : Ending} {w' : World} (h : PvF w e w') : PvE w e w' := by
  obtain ⟨a', cap, l, h1, h2, h3, h4⟩ := h
  exact ⟨a', cap, l, h1, h2, h3.1, h4⟩
theorem some_pv {w W : World} {nb c p : Nat} {a : Option Addr} (hd : RD w W w.heap.size a nb c 54 p) (hp : p ≤ 40000) (hs : w.Since w.heap.size W) :
    Calls Try.prog 59 #[.pointer (some ⟨w.heap.size, 0, none⟩), .int .i64 4, .int .i64 4] W (PvF w) := by
  refine (l91Some_any w W w.heap.size nb c p 4 4 a hd (by omega) (by omega) (by omega) (by omega) hp).mono ?_
  rintro e w' ⟨a', cap, l, p', rfl, hg, _, _, h⟩
  refine ⟨a', cap, l, rfl, hs.grown hg hs.size (fun k e => by cases e; omega), ⟨?_, ?_⟩, ?_⟩
  · exact szL_of (n := 4) (k := 5) h.2.1 (fun j hj => (h.2.2.1 j hj).2) (by decide)
  · exact ⟨h.1, by have := (h.2.2.1 0 (by have := h.1; omega)).2; omega⟩
  · exact h.2.2.2.matR

theorem lit_mat (w : World) (T : TypeId) : MatR ((((w.alloc (.cells #[.int .i64 1, .int .i64 1, .int .i64 1] 3)).alloc (.cells #[.int .i64 1, .int .i64 2, .int .i64 3] 3)).alloc (.cells #[.int .i64 1, .int .i64 3, .int .i64 6] 3)).alloc (.cells #[.slice (some ⟨w.heap.size, 0, none⟩) 3 3, .slice (some ⟨w.heap.size + 1, 0, none⟩) 3 3, .slice (some ⟨w.heap.size + 1 + 1, 0, none⟩) 3 3] T)) (some ⟨w.heap.size + 1 + 1 + 1, 0, none⟩) [[1, 1, 1], [1, 2, 3], [1, 3, 6]] := by
  intro _
  obtain ⟨o1, ho1⟩ : ∃ o, Obj.cells #[.int .i64 1, .int .i64 1, .int .i64 1] 3 = o := ⟨_, rfl⟩
  obtain ⟨o2, ho2⟩ : ∃ o, Obj.cells #[.int .i64 1, .int .i64 2, .int .i64 3] 3 = o := ⟨_, rfl⟩
  obtain ⟨o3, ho3⟩ : ∃ o, Obj.cells #[.int .i64 1, .int .i64 3, .int .i64 6] 3 = o := ⟨_, rfl⟩
  obtain ⟨o4, ho4⟩ : ∃ o, Obj.cells #[.slice (some ⟨w.heap.size, 0, none⟩) 3 3, .slice (some ⟨w.heap.size + 1, 0, none⟩) 3 3, .slice (some ⟨w.heap.size + 1 + 1, 0, none⟩) 3 3] T = o := ⟨_, rfl⟩
  rw [ho1, ho2, ho3, ho4]
  obtain ⟨W1, h1⟩ : ∃ W, w.alloc o1 = W := ⟨_, rfl⟩
  obtain ⟨W2, h2⟩ : ∃ W, W1.alloc o2 = W := ⟨_, rfl⟩
  obtain ⟨W3, h3⟩ : ∃ W, W2.alloc o3 = W := ⟨_, rfl⟩
  obtain ⟨W4, h4⟩ : ∃ W, W3.alloc o4 = W := ⟨_, rfl⟩
  rw [h1, h2, h3, h4]
  have s1 : W1.heap.size = w.heap.size + 1 := by rw [← h1]; simp
  have s2 : W2.heap.size = w.heap.size + 1 + 1 := by rw [← h2, World.size_alloc, s1]
  have s3 : W3.heap.size = w.heap.size + 1 + 1 + 1 := by rw [← h3, World.size_alloc, s2]
  have n1 := heap_alloc_new w o1
  have n2 := heap_alloc_new W1 o2
  have n3 := heap_alloc_new W2 o3
  have n4 := heap_alloc_new W3 o4
  rw [h1] at n1
  rw [h2, s1] at n2
  rw [h3, s2] at n3
  rw [h4, s3] at n4
  have e1 : W4.heap[w.heap.size]? = some o1 := by
    rw [← h4, (World.grownBy_alloc _ _ none).block _ (by omega) (by simp), ← h3, (World.grownBy_alloc _ _ none).block _ (by omega) (by simp), ← h2, (World.grownBy_alloc _ _ none).block _ (by omega) (by simp)]; exact n1
  have e2 : W4.heap[w.heap.size + 1]? = some o2 := by
    rw [← h4, (World.grownBy_alloc _ _ none).block _ (by omega) (by simp), ← h3, (World.grownBy_alloc _ _ none).block _ (by omega) (by simp)]; exact n2
  have e3 : W4.heap[w.heap.size + 1 + 1]? = some o3 := by
    rw [← h4, (World.grownBy_alloc _ _ none).block _ (by omega) (by simp)]; exact n3
  subst ho1 ho2 ho3 ho4
  have c1 := fun j => cell_of_row W4 w.heap.size j _ _ _ e1
  have c2 := fun j => cell_of_row W4 (w.heap.size + 1) j _ _ _ e2
  have c3 := fun j => cell_of_row W4 (w.heap.size + 1 + 1) j _ _ _ e3
  have c4 := fun j => cell_of_row W4 (w.heap.size + 1 + 1 + 1) j _ _ _ n4
  refine ⟨w.heap.size + 1 + 1 + 1, 0, fun r => some ⟨w.heap.size + r, 0, none⟩, fun _ => 3, rfl, fun r hr => ?_⟩
  have hr3 : r = 0 ∨ r = 1 ∨ r = 2 := by simp at hr; omega
  rcases hr3 with rfl | rfl | rfl
  · refine ⟨(c4 0).trans rfl, fun _ => ⟨w.heap.size, 0, rfl, fun k hk => ?_⟩⟩
    have hk3 : k = 0 ∨ k = 1 ∨ k = 2 := by simp at hk; omega
    rcases hk3 with rfl | rfl | rfl
    · exact (c1 0).trans rfl
    · exact (c1 1).trans rfl
    · exact (c1 2).trans rfl
  · refine ⟨(c4 1).trans rfl, fun _ => ⟨w.heap.size + 1, 0, rfl, fun k hk => ?_⟩⟩
    have hk3 : k = 0 ∨ k = 1 ∨ k = 2 := by simp at hk; omega
    rcases hk3 with rfl | rfl | rfl
    · exact (c2 0).trans rfl
    · exact (c2 1).trans rfl
    · exact (c2 2).trans rfl
  · refine ⟨(c4 2).trans rfl, fun _ => ⟨w.heap.size + 1 + 1, 0, rfl, fun k hk => ?_⟩⟩
    have hk3 : k = 0 ∨ k = 1 ∨ k = 2 := by simp at hk; omega
    rcases hk3 with rfl | rfl | rfl
    · exact (c3 0).trans rfl
    · exact (c3 1).trans rfl
    · exact (c3 2).trans rfl

set_option maxRecDepth 100000 in
set_option maxHeartbeats 4000000 in
theorem l92PositiveF_any (a : Option Addr) (nb cb : Nat) (w : World) (hc : nb ≤ cb) (h63 : cb ≤ 9223372036854775807) (hb : BytR w a nb) :
    Calls Try.prog 26 #[.slice a nb cb] w (PvF w) := by
  obtain ⟨i3, hi3⟩ := info3_parts
  have HJ := Lib.hid hi3
  have E := Lib.hid (l6Open_any a nb cb w hc h63 hb)
  clear hb hi3
  go_enter Try.func26, Try.ntmps26
  go_wp2_with fail
  refine (E.out).mono ?_
  rintro e w1 ⟨n', c', rfl, hs, hz, hd⟩
  have HD1 := Lib.hid hd
  have HS := Lib.hid hs
  have hz1 : w.heap.size < w1.heap.size := by omega
  clear hd hs hz
  go_wp2_with fail
  refine (pick_any w _ w.heap.size n' c' _ a _ HD1.out (by omega)).mono ?_
  rintro e w2 ⟨y, rfl, hy, hg2, hd2⟩
  have HD2 := Lib.hid hd2
  have HS2 := Lib.hid (HS.out.grown hg2 HS.out.size (fun k e => by cases e; omega))
  have hz2 := hg2.size
  clear hd2 hg2
  have hy4 : y = 0 ∨ y = 1 ∨ y = 2 ∨ y = 3 := by omega
  clear hy
  rcases hy4 with hy | hy | hy | hy
  · have b0 : ((y : Int) == 0) = true := by simp [hy]
    clear hy
    go_wp2_with fail
    refine (pick_any w _ w.heap.size n' c' _ a _ HD2.out (by omega)).mono ?_
    rintro e w3 ⟨y2, rfl, hy2, hg3, hd3⟩
    have HD3 := Lib.hid hd3
    have HS3 := Lib.hid (HS2.out.grown hg3 HS2.out.size (fun k e => by cases e; omega))
    have hz3 := hg3.size
    clear hd3 hg3
    obtain ⟨n, hn, hhn⟩ : ∃ n : Nat, IntKind.i64.wrap (2 + (y2 : Int)) = n ∧ n = y2 + 2 := ⟨y2 + 2, (IntWalk.i64_in _ ⟨by omega, by omega⟩).trans (by omega), rfl⟩
    have hbn : 2 ≤ n ∧ n ≤ 5 := by omega
    clear hhn hy2
    go_wp2_with fail
    refine (l91Chips_any w _ w.heap.size n' c' _ n 7 a HD3.out (by omega) (by omega) (by omega)).mono ?_
    rintro e w4 ⟨v, cs, p', rfl, hl, hnv, hg4, hd4, hp', hW⟩
    have hGW : w.heap.size < w3.heap.size := by omega
    obtain ⟨_, cap, rfl, _, ⟨g0, rfl⟩, hcp, hc63, hO⟩ := hW.drawn (w := w3) (Nat.le_refl _) hl hnv
    have hsw := HS3.out.grown hg4 HS3.out.size (fun k e => by cases e; omega)
    obtain ⟨N, hN⟩ : ∃ N, cs.length = N := ⟨_, rfl⟩
    have HZ := Lib.hid (show DZ w w.heap.size w3.heap.size w4.heap.size n' c' a (some ⟨g0, 0, none⟩) N 1000 w4 from ⟨⟨p', by omega, hd4⟩, hsw, Nat.le_refl _, cs, hN, hO⟩)
    rw [hN] at hl hcp ⊢
    clear hg4 hd4 hW hO hsw hN HD1 HD2 HD3
    go_wp2
    go_loopg [6] N (fun gg iv wr => ∃ r : Nat, r ≤ N ∧ gg = N - r ∧ iv = .int .i64 r ∧ DZ w w.heap.size w3.heap.size w4.heap.size n' c' a (some ⟨g0, 0, none⟩) N 1000 wr)
    case atStart => exact ⟨0, Nat.zero_le _, rfl, rfl, HZ.out⟩
    case round =>
      obtain ⟨r, hr, rfl, rfl, hz⟩ := hrel
      clear HZ
      by_cases hlt : r < N
      · obtain ⟨g, v, hge, hv, hf, hput⟩ := hz.put hlt hGW (Nat.le_refl _)
        simp only [Option.some.injEq, Addr.mk.injEq, and_true] at hge
        subst hge
        have HPUT := Lib.hid hput
        clear hput hz
        go_wp2
        all_goals
          go_roundg (N - (r + 1))
          case measure => omega
          case rel => exact ⟨r + 1, by omega, rfl, by go_num, HPUT.out _⟩
      · have hrn : r = N := by omega
        subst hrn
        obtain ⟨⟨p, hp, hd⟩, hsz, hzz, cs2, hl2, ho2⟩ := hz
        have hzs := hsz.size
        have HNT := Lib.hid (specNetTable_any (some ⟨g0, 0, none⟩) cap r (n : Int) cs2 wr hl2 (by omega) ho2.chips)
        obtain ⟨ok, hok⟩ : ∃ ok, ntabB (n : Int) cs2 = ok := ⟨_, rfl⟩
        obtain ⟨L, hL⟩ : ∃ L, outC (n : Int).toNat cs2 = L := ⟨_, rfl⟩
        have hLs : ok = true → szL L ≤ 1048576 ∧ PvB L := fun h => by
          rw [h] at hok
          unfold ntabB at hok
          rw [hL, Bool.and_eq_true] at hok
          exact ⟨szL_tab (tabIn_of hok.2), PvB.tab (tabIn_of hok.2)⟩
        have hLL : ntabL (n : Int) cs2 = resT ok L := by unfold ntabL; rw [hok, hL]
        rw [hok, hLL] at HNT
        have HSZ := Lib.hid hsz
        have HDZ := Lib.hid hd
        clear hsz hd ho2 hok hL hLL
        go_wp2_with fail
        refine (HNT.out).mono ?_
        rintro e w5 ⟨a5, c5, rfl, hs5, hin⟩
        have HSK := Lib.hid (HSZ.out.trans (since_mono hs5 hzs))
        have hdk := HDZ.out.grown (grown_since none hs5) (fun k e => by cases e)
        clear hs5
        cases ok with
        | true =>
          have hsz : szL L ≤ 1048576 ∧ PvB L := hLs rfl
          have hrt : resT true L = L := rfl
          rw [hrt] at hin
          have HIN := Lib.hid hin.matR
          clear hin hdk
          go_wp2
          go_ret
          exact ⟨_, _, L, rfl, HSK.out, hsz, HIN.out⟩
        | false =>
          have HDK := Lib.hid hdk
          clear hin hdk
          go_wp2_with fail
          refine (some_pv HDK.out (by omega) HSK.out).mono ?_
          rintro e w8 ⟨a8, cap8, l8, rfl, h8⟩
          have HH := Lib.hid h8
          clear h8
          go_wp2
          go_ret
          exact ⟨a8, cap8, l8, rfl, HH.out⟩
  · have b0 : ((y : Int) == 0) = false := by simp [hy]
    have b1 : ((y : Int) == 1) = true := by simp [hy]
    clear hy
    go_wp2_with fail
    refine (pick_any w _ w.heap.size n' c' _ a _ (HD2.out.grown (World.grownBy_alloc w2 (.cells #[] 3) none) (fun k e => by cases e)) (by omega)).mono ?_
    rintro e w3 ⟨y2, rfl, hy2, hg3, hd3⟩
    have HG3 := Lib.hid (show w2.grownBy w3 (some w.heap.size) from grown_trans (grown_alloc (World.grownBy_refl w2 (some w.heap.size)) (.cells #[] 3)) hg3)
    have HD3 := Lib.hid hd3
    have hGW : w.heap.size < w2.heap.size := by omega
    have HW3 := Lib.hid (show RW w2.heap.size w3 (.slice (some ⟨w2.heap.size, 0, none⟩) 0 0) [] from RW.kept (World.ownsRow_made w2 #[] 0 (Nat.le_refl _) (Nat.zero_le _) rfl) hg3 (by omega))
    clear hg3 hd3
    obtain ⟨n, hn, hhn⟩ : ∃ n : Nat, IntKind.i64.wrap (2 + (y2 : Int)) = n ∧ n = y2 + 2 := ⟨y2 + 2, (IntWalk.i64_in _ ⟨by omega, by omega⟩).trans (by omega), rfl⟩
    have hbn : 2 ≤ n ∧ n ≤ 4 := by omega
    clear hhn hy2
    go_wp2
    clear hn
    go_loopg [9, 10, 12] n (fun g v at_ i wr => ∃ (j p : Nat) (x : List Int) (t : Int), j ≤ n ∧ g = n - j ∧ i = .int .i64 (j : Nat) ∧ at_ = .int .i64 t ∧ (1 ≤ t ∧ t ≤ 1 + 3 * (j : Int)) ∧ List.length x = j ∧ w2.grownBy wr (some w.heap.size) ∧ RD w wr w.heap.size a n' c' 54 p ∧ p ≤ 1000 + 2 * j ∧ RW w2.heap.size wr v x)
    case atStart => exact ⟨0, _, [], 1, Nat.zero_le _, rfl, rfl, rfl, ⟨by omega, by omega⟩, rfl, HG3.out, HD3.out, by omega, HW3.out⟩
    case round =>
      obtain ⟨j, p, x, t, hj, rfl, rfl, rfl, htb, hxl, hgi, hdi, hpp, hW⟩ := hrel
      clear HG3 HW3 HD3
      have HD := Lib.hid hdi
      have HG := Lib.hid hgi
      have HW := Lib.hid hW
      have hz4 := hgi.size
      clear hdi hgi hW
      by_cases hjN : j < n
      · go_wp2_with (at_builtin; (refine wpList_append_own _ rfl _ _ 27 rfl w2.heap.size 3 i3 (.int .i64 0) 1 8 Try.underlying27 HJ.out.1 HJ.out.2.1 HJ.out.2.2.1 HJ.out.2.2.2 rfl (by decide) _ _ (x.map (Value.int .i64)) rfl (World.ownsRow.alloc HW.out _) ⟨wr.heap.size, 0, none⟩ 1 1 [.int .i64 t] rfl rfl (cell_one_at _ _ _ rfl) (fun x hx => by simp at hx; subst hx; rfl) (by unfold maxLen; omega) (by omega) (by simp; omega) ?_); intro v' w5 hown' hgrow _)
        have HW5 := Lib.hid (show RW w2.heap.size w5 v' (x ++ [t]) by
          have := hown'
          unfold RW
          rw [List.length_append, List.map_append]
          exact this)
        have hge := fun i e => (World.ownsRow.lt HW.out i e).1
        have HD5 := Lib.hid ((HD.out.grown (World.grownBy_alloc wr (.cells #[.int .i64 t] 3) none) (fun k e => by cases e)).grown hgrow (fun i e => by have := hge i e; omega))
        have HG5 := Lib.hid (grown_new (grown_alloc HG.out _) hgrow hge)
        clear hown' hgrow hge
        go_wp2_with fail
        refine (pick_any w _ w.heap.size n' c' _ a _ HD5.out (by omega)).mono ?_
        rintro e w6 ⟨z, rfl, hzz, hg6, hd6⟩
        have HW6 := Lib.hid (HW5.out.kept hg6 (by omega))
        have HG6 := Lib.hid (grown_trans HG5.out hg6)
        have HD6 := Lib.hid hd6
        clear hg6 hd6
        go_wp2
        go_roundg (n - (j + 1))
        case measure => omega
        case rel => exact ⟨j + 1, _, x ++ [t], t + 1 + (z : Int), by omega, rfl, by go_num, by go_num, ⟨by omega, by omega⟩, by rw [List.length_append, hxl]; rfl, HG6.out, HD6.out, by omega, HW6.out⟩
      · have hjj : j = n := by omega
        subst hjj
        obtain ⟨ax, cx, hv, hrr⟩ := HW.out.rowR hxl
        subst hv
        have hsz := HS2.out.grown HG.out HS2.out.size (fun k e => by cases e; omega)
        have hzs := hsz.size
        have HNT := Lib.hid (specKnownPowers_any ax cx j x wr hxl (by omega) hrr)
        obtain ⟨ok, hok⟩ : ∃ ok, (l8B x 30 && tabIn (pwTo x j j)) = ok := ⟨_, rfl⟩
        obtain ⟨L, hL⟩ : ∃ L, pwTo x j j = L := ⟨_, rfl⟩
        rw [hok, hL] at HNT
        have hLs : ok = true → szL L ≤ 1048576 ∧ PvB L := fun h => by
          rw [h, hL, Bool.and_eq_true] at hok
          exact ⟨szL_tab (tabIn_of hok.2), PvB.tab (tabIn_of hok.2)⟩
        have HSZ := Lib.hid hsz
        clear hsz hok hL hrr
        go_wp2_with fail
        refine (HNT.out).mono ?_
        rintro e w7 ⟨a5, c5, rfl, hs5, hin⟩
        have HSK := Lib.hid (HSZ.out.trans (since_mono hs5 hzs))
        have hdk := HD.out.grown (grown_since none hs5) (fun k e => by cases e)
        clear hs5
        cases ok with
        | true =>
          have hsz : szL L ≤ 1048576 ∧ PvB L := hLs rfl
          have hrt : resT true L = L := rfl
          rw [hrt] at hin
          have HIN := Lib.hid hin.matR
          clear hin hdk
          go_wp2
          go_ret
          exact ⟨_, _, L, rfl, HSK.out, hsz, HIN.out⟩
        | false =>
          have HDK := Lib.hid hdk
          clear hin hdk
          go_wp2_with fail
          refine (some_pv HDK.out (by omega) HSK.out).mono ?_
          rintro e w8 ⟨a8, cap8, l8, rfl, h8⟩
          have HH := Lib.hid h8
          clear h8
          go_wp2
          go_ret
          exact ⟨a8, cap8, l8, rfl, HH.out⟩
  · have b0 : ((y : Int) == 0) = false := by simp [hy]
    have b1 : ((y : Int) == 1) = false := by simp [hy]
    have b2 : ((y : Int) == 2) = true := by simp [hy]
    clear hy
    go_wp2
    go_ret
    exact ⟨_, _, [[1, 1, 1], [1, 2, 3], [1, 3, 6]], rfl, (((HS2.out.alloc HS2.out.size _).alloc (by simp; omega) _).alloc (by simp; omega) _).alloc (by simp; omega) _, ⟨by decide, by decide, by decide⟩, lit_mat w2 _⟩
  · have b0 : ((y : Int) == 0) = false := by simp [hy]
    have b1 : ((y : Int) == 1) = false := by simp [hy]
    have b2 : ((y : Int) == 2) = false := by simp [hy]
    clear hy
    go_wp2_with fail
    refine (some_pv HD2.out (by omega) HS2.out).mono ?_
    rintro e w3 ⟨a', cap, l, rfl, h⟩
    have HH := Lib.hid h
    clear h
    go_wp2
    go_ret
    exact ⟨a', cap, l, rfl, HH.out⟩

theorem l92Positive_any (a : Option Addr) (nb cb : Nat) (w : World) (hc : nb ≤ cb) (h63 : cb ≤ 9223372036854775807) (hb : BytR w a nb) :
    Calls Try.prog 26 #[.slice a nb cb] w (PvE w) :=
  (l92PositiveF_any a nb cb w hc h63 hb).mono fun _ _ h => h.pv

end Go.Proofs.Ytlgjplhffpmfpaa
end

section
namespace Go.Proofs.Ytlgjplhffpmfpaa
open Go.RowKit Go.Deep

set_option maxRecDepth 100000 in
set_option maxHeartbeats 2000000 in
theorem l92Numbers_any (w0 w : World) (G nb c p N : Nat) (a : Option Addr) (h : RD w0 w G a nb c 54 p) (hG : G < w.heap.size) (hN : N ≤ 13) (hp : p ≤ 90000) :
    Calls Try.prog 36 #[.pointer (some ⟨G, 0, none⟩), .int .i64 N] w fun e w' => ∃ ax cx x, e = .returned (.slice ax (List.length x) cx) ∧ x.length = N ∧ RowR w' ax x ∧ w.grownBy w' (some G) := by
  obtain ⟨i3, hi3⟩ := info3_parts
  have HJ := Lib.hid hi3
  have HD := Lib.hid h
  clear hi3 h
  go_enter Try.func36, Try.ntmps36
  go_wp2
  have HD3 := Lib.hid (HD.out.grown (World.grownBy_alloc w (.cells #[] 3) none) (fun k e => by cases e))
  have HG3 := Lib.hid (show w.grownBy (w.alloc (.cells #[] 3)) (some G) from grown_alloc (World.grownBy_refl w (some G)) (.cells #[] 3))
  have HW3 := Lib.hid (show RW w.heap.size (w.alloc (.cells #[] 3)) (.slice (some ⟨w.heap.size, 0, none⟩) 0 0) [] from World.ownsRow_made w #[] 0 (Nat.le_refl _) (Nat.zero_le _) rfl)
  go_loopg [5, 6] N (fun g v i wr => ∃ j p x, j ≤ N ∧ g = N - j ∧ i = .int .i64 (j : Nat) ∧ List.length x = j ∧ w.grownBy wr (some G) ∧ RD w0 wr G a nb c 54 p ∧ p ≤ 90000 + 2 * j ∧ RW w.heap.size wr v x)
  case atStart => exact ⟨0, p, [], Nat.zero_le _, rfl, rfl, rfl, HG3.out, HD3.out, by omega, HW3.out⟩
  case round =>
    obtain ⟨j, p, x, hj, rfl, rfl, hxl, hgi, hdi, hpp, hW⟩ := hrel
    clear HG3 HW3 HD HD3
    have HD := Lib.hid hdi
    have HG := Lib.hid hgi
    have HW := Lib.hid hW
    have hz4 := hgi.size
    clear hdi hgi hW
    by_cases hjN : j < N
    · go_wp2_with fail
      refine (pick_any w0 _ G nb c _ a _ HD.out (by omega)).mono ?_
      rintro e w4 ⟨z, rfl, hzz, hg4, hd4⟩
      have HW4 := Lib.hid (HW.out.kept hg4 (by omega))
      have HG4 := Lib.hid (grown_trans HG.out hg4)
      have HD4 := Lib.hid hd4
      have hz5 := HG4.out.size
      obtain ⟨u, hu⟩ : ∃ u : Int, IntKind.i64.wrap ((z : Int) - 3) = u := ⟨_, rfl⟩
      clear hg4 hd4
      go_wp2_with (at_builtin; (refine wpList_append_own _ rfl _ _ 27 rfl w.heap.size 3 i3 (.int .i64 0) 1 8 Try.underlying27 HJ.out.1 HJ.out.2.1 HJ.out.2.2.1 HJ.out.2.2.2 rfl (by decide) _ _ (x.map (Value.int .i64)) rfl (World.ownsRow.alloc HW4.out _) ⟨w4.heap.size, 0, none⟩ 1 1 [.int .i64 u] rfl rfl (cell_one_at _ _ _ rfl) (fun x hx => by simp at hx; subst hx; rfl) (by unfold maxLen; omega) (by omega) (by simp; omega) ?_); intro v' w5 hown' hgrow _)
      have HW5 := Lib.hid (show RW w.heap.size w5 v' (x ++ [u]) by
        have := hown'
        unfold RW
        rw [List.length_append, List.map_append]
        exact this)
      have hge := fun i e => (World.ownsRow.lt HW4.out i e).1
      have HD5 := Lib.hid ((HD4.out.grown (World.grownBy_alloc w4 (.cells #[.int .i64 u] 3) none) (fun k e => by cases e)).grown hgrow (fun i e => by have := hge i e; omega))
      have HG5 := Lib.hid (grown_new (grown_alloc HG4.out _) hgrow hge)
      clear hown' hgrow hge
      go_roundg (N - (j + 1))
      case measure => omega
      case rel => exact ⟨j + 1, _, x ++ [u], by omega, rfl, by go_num, by rw [List.length_append, hxl]; rfl, HG5.out, HD5.out, by omega, HW5.out⟩
    · have hjj : j = N := by omega
      subst hjj
      obtain ⟨ax, cx, hv, hrr⟩ := HW.out.rowR hxl
      subst hv
      have HR := Lib.hid hrr
      clear hrr
      go_wp2
      go_ret
      exact ⟨ax, cx, x, by rw [hxl]; rfl, hxl, HR.out, HG.out⟩

end Go.Proofs.Ytlgjplhffpmfpaa
end

section
namespace Go.Proofs.Ytlgjplhffpmfpaa
open Go.RowKit Go.Deep

set_option maxRecDepth 100000 in
set_option maxHeartbeats 2000000 in
theorem turnedR_any (a : Option Addr) (cap n : Nat) (l : List (List Int)) (w : World) (hn : l.length = n) (hT : Rec l) (hm : MatR w a l) :
    Calls Try.prog 48 #[.slice a n cap] w fun e w' => e = .returned (.slice (some ⟨w.heap.size + 1, 0, none⟩) (l.getD 0 []).length (l.getD 0 []).length) ∧ w.Since w.heap.size w' ∧ OwnT w.heap.size w'.heap.size w' (some ⟨w.heap.size + 1, 0, none⟩) (turnL l) := by
  have hw := hT.width
  have h6 := hT.high
  rw [hn] at h6
  have h1 := hT.low
  rw [hn] at h1
  have hwid := fun (W : World) (hs : w.Since w.heap.size W) => width_any a cap n l W hn (by omega) (by omega) (hm.since hs)
  have hnt := fun (W : World) (hs : w.Since w.heap.size W) (hbox : W.cell? ⟨w.heap.size, 0, none⟩ = some (.slice a n cap)) =>
    newTable_any 68 #[.pointer (some ⟨w.heap.size, 0, none⟩)] (l.getD 0 []).length n (fun k i => at2 l i k) W (by omega) (by omega) (enters_of Try.func68 (by kernel_rfl) rfl)
      (fun W' i k hs' hi hk => turnEntry_any w.heap.size i k n cap a l W' hn ((hs'.cell (a := ⟨w.heap.size, 0, none⟩) (World.block_lt_of_cell? _ _ hbox)).trans hbox) (hm.since (hs.trans (since_mono hs' hs.size))) hk (by rw [hT.row (by omega)]; exact hi))
  obtain ⟨m, hmm⟩ : ∃ m, (l.getD 0 []).length = m := ⟨_, rfl⟩
  have htl : turnL l = tabF m n fun k i => at2 l i k := by unfold turnL; rw [hmm, hn]
  rw [hmm] at hwid hnt hw ⊢
  rw [htl]
  have HW := Lib.hid hwid
  have HNT := Lib.hid hnt
  have hs1 : w.Since w.heap.size (w.alloc (.cells #[.slice a n cap] 42)) := (World.Since.refl _ _).alloc (Nat.le_refl _) _
  have HS1 := Lib.hid hs1
  have hc := cell_new_l w (.slice a n cap) 42
  have hcb := hc.1
  clear hwid hnt hm hT hn hmm htl hs1 hc
  go_enter Try.func48, Try.ntmps48
  go_wp2
  go_region_held3 (fun w' => w'.cell? ⟨w.heap.size, 0, none⟩ = some (.slice a n cap)) (go_keep)
    (first
      | (go_at_call 38; refine (HW.out _ ?_).mono ?_; (exact World.Since.drew HS1.out); rintro e w1 ⟨rfl, rfl⟩)
      | (go_at_call 67; refine (HNT.out _ ?_ ?_).mono ?_; (exact World.Since.drew HS1.out); (exact hcb); rintro e w1 ⟨rfl, hs2, ho⟩; have hcc := hs2.cell (a := ⟨w.heap.size, 0, none⟩) (World.block_lt_of_cell? _ _ hcb); simp only [World.cell?_drew, hcb] at hcc))
  all_goals
    go_wp2
    go_ret
    refine ⟨rfl, HS1.out.trans (since_mono (since_of_drew hs2) (by simp)), ?_⟩
    have hz : (w.alloc (.cells #[.slice a n cap] 42)).drew.heap.size = w.heap.size + 1 := by simp
    rw [hz] at ho
    exact ho.mono (by omega) (Nat.le_refl _)

end Go.Proofs.Ytlgjplhffpmfpaa
end

section
namespace Go.Proofs.Ytlgjplhffpmfpaa
open Go.RowKit Go.Deep

def ptL (l : List (List Int)) (x : List Int) (m : Nat) : List Int := (List.range l.length).map fun i => sumN (fun k => at2 l i k * x.getD k 0) m
theorem ptL_length (l : List (List Int)) (x : List Int) (m : Nat) : (ptL l x m).length = l.length := by simp [ptL]
noncomputable def ptOk (l : List (List Int)) (x : List Int) : Bool := tabIn l && (decide (x.length = (l.getD 0 []).length) && numsIn x)
theorem sumN_congrL {f g : Nat → Int} : ∀ n, (∀ j, j < n → f j = g j) → sumN f n = sumN g n
  | 0, _ => by simp [sumN]
  | n + 1, h => by
    have h1 := sumN_congrL n (fun j hj => h j (by omega))
    simp only [sumN]
    rw [h1, h n (by omega)]
theorem tabIn_one {x : List Int} {m : Nat} (hx : x.length = m) (h1 : 1 ≤ m) (h6 : m ≤ 6) (hN : NumsIn x m) : TabIn [x] := by
  refine ⟨by simp, by simp, fun r hr => ?_⟩
  have hr0 : r = 0 := by simp at hr; omega
  subst hr0
  exact ⟨rfl, by show 1 ≤ x.length; omega, by show x.length ≤ 6; omega, by rw [← hx] at hN; exact hN⟩
theorem mat_one {W : World} {b : Nat} {a : Option Addr} {m cap : Nat} {x : List Int} (hx : x.length = m) (hc : W.cell? ⟨b, 0, none⟩ = some (.slice a m cap)) (hr : RowR W a x) : MatR W (some ⟨b, 0, none⟩) [x] := fun _ => by
  refine ⟨b, 0, fun _ => a, fun _ => cap, rfl, fun r hr0 => ?_⟩
  have h0 : r = 0 := by simp at hr0; omega
  subst h0
  refine ⟨?_, hr⟩
  show W.cell? ⟨b, 0 + 0, none⟩ = some (.slice a x.length cap)
  rw [hx]
  exact hc
theorem ptL_row {l : List (List Int)} {x : List Int} {m : Nat} (hx : x.length = m) (hl : 1 ≤ l.length) (hm1 : 1 ≤ m) : (turnL (makeL l (turnL [x]))).getD 0 [] = ptL l x m := by
  have e1 : (turnL [x]).length = m := (turnL_length [x]).trans hx
  have e2 : ((turnL [x]).getD 0 []).length = 1 := tabF_len _ _ _ _ (by show 0 < x.length; omega)
  have e3 : (makeL l (turnL [x])).length = l.length := makeL_length _ _
  have e4 : ((makeL l (turnL [x])).getD 0 []).length = 1 := (tabF_len _ _ _ _ (by omega)).trans e2
  have e5 : (turnL (makeL l (turnL [x]))).getD 0 [] = (List.range l.length).map fun i => at2 (makeL l (turnL [x])) i 0 := by
    unfold turnL
    rw [tabF_get _ _ _ _ (by have := e4; unfold turnL at this; omega)]
    congr 1
    have := e3
    unfold turnL at this
    rw [this]
  rw [e5]
  unfold ptL
  apply List.map_congr_left
  intro i hi
  have hi' : i < l.length := List.mem_range.1 hi
  have e6 : at2 (makeL l (turnL [x])) i 0 = sumN (dotF l (turnL [x]) i 0) (turnL [x]).length := tabF_at _ _ _ _ _ hi' (by omega)
  rw [e6, e1]
  refine sumN_congrL m fun k hk => ?_
  have e7 : at2 (turnL [x]) k 0 = x.getD k 0 := tabF_at _ _ _ _ _ (by show k < x.length; omega) (by simp)
  show at2 l i k * at2 (turnL [x]) k 0 = _
  rw [e7]
theorem rec_col {l u : List (List Int)} (hT : TabIn l) (hu : (u.getD 0 []).length = 1) : Rec (makeL l u) := by
  have h1 := hT.1
  have h6 := hT.2.1
  have e3 : (makeL l u).length = l.length := makeL_length _ _
  have e4 : ∀ r, r < l.length → ((makeL l u).getD r []).length = 1 := fun r hr => (tabF_len _ _ _ _ hr).trans hu
  exact ⟨by omega, by omega, by rw [e4 0 (by omega)]; omega, fun {r} hr => by rw [e4 r (by omega), e4 0 (by omega)]⟩

set_option maxRecDepth 100000 in
set_option maxHeartbeats 2000000 in
theorem timesList_any (a a2 : Option Addr) (cap cap2 n m : Nat) (l : List (List Int)) (x : List Int) (w : World) (hn : l.length = n) (hT : TabIn l) (hm : MatR w a l) (hx : x.length = m) (hxm : (l.getD 0 []).length = m) (hN : NumsIn x m) (hr : RowR w a2 x) :
    Calls Try.prog 40 #[.slice a n cap, .slice a2 m cap2] w fun e w' => ∃ a' cap', e = .returned (.slice a' n cap') ∧ w.Since w.heap.size w' ∧ OwnR w.heap.size w'.heap.size w' a' (ptL l x m) := by
  have hw := hT.width
  have h1 := hT.1
  have h6 := hT.2.1
  rw [hxm] at hw
  rw [hn] at h1 h6
  have hTx := tabIn_one hx hw.1 hw.2 hN
  have hTu : TabIn (turnL [x]) := tabIn_of (tabIn_turn hTx)
  have hul : (turnL [x]).length = m := (turnL_length [x]).trans hx
  have huw : ((turnL [x]).getD 0 []).length = 1 := tabF_len _ _ _ _ (by show 0 < x.length; omega)
  have hC := rec_col hT huw
  have hcl : (makeL l (turnL [x])).length = n := (makeL_length _ _).trans hn
  have hcw : ((makeL l (turnL [x])).getD 0 []).length = 1 := (tabF_len _ _ _ _ (by omega)).trans huw
  have hrow := ptL_row (l := l) hx (by omega) hw.1
  have hlen := (ptL_length l x m).trans hn
  have htl : (turnL (makeL l (turnL [x]))).length = 1 := (turnL_length _).trans hcw
  have E1 := Lib.hid (fun (W : World) (hs : w.Since w.heap.size W) (hc : W.cell? ⟨w.heap.size, 0, none⟩ = some (.slice a2 m cap2)) => turned_any (some ⟨w.heap.size, 0, none⟩) 1 1 [x] W rfl hTx (mat_one hx hc (hr.since hs)))
  have E2 := Lib.hid (fun (W : World) (b : Option Addr) (c : Nat) (hs : w.Since w.heap.size W) (hb : MatR W b (turnL [x])) => product_any a cap n l b c m (turnL [x]) W hn hT (hm.since hs) hul hTu hxm hb)
  have E3 := Lib.hid (fun (W : World) (b : Option Addr) (c : Nat) (hb : MatR W b (makeL l (turnL [x]))) => turnedR_any b c n (makeL l (turnL [x])) W hcl hC hb)
  have hxx : ([x].getD 0 []).length = m := hx
  rw [hxx] at E1
  rw [hcw] at E3
  have HROW := Lib.hid hrow
  have HLEN := Lib.hid hlen
  have HTL := Lib.hid htl
  have hs1 : w.Since w.heap.size (w.alloc (.cells #[.slice a2 m cap2] 27)) := (World.Since.refl _ w).alloc (Nat.le_refl _) _
  have hc1 := (cell_new_l w (.slice a2 m cap2) 27).1
  have HS1 := Lib.hid hs1
  have HC1 := Lib.hid hc1
  clear hTx hTu hul huw hC hcl hcw hrow hlen htl hxx hs1 hc1 hm hr hT hn hx hxm hN
  go_enter Try.func40, Try.ntmps40
  go_wp2_with fail
  refine (E1.out _ HS1.out HC1.out).mono ?_
  rintro e w1 ⟨rfl, hs2, ho2⟩
  have HS2 := Lib.hid (HS1.out.trans (since_mono hs2 HS1.out.size))
  have hz0 : (w.alloc (.cells #[.slice a2 m cap2] 27)).heap.size = w.heap.size + 1 := by simp
  have hm2 := ho2.matR
  rw [hz0] at hm2
  have HM2 := Lib.hid hm2
  clear hs2 ho2 hm2 hz0
  go_wp2_with fail
  refine (E2.out _ _ _ HS2.out HM2.out).mono ?_
  rintro e w2 ⟨rfl, hs3, ho3⟩
  have HS3 := Lib.hid (HS2.out.trans (since_mono hs3 HS2.out.size))
  have HM3 := Lib.hid ho3.matR
  clear hs3 ho3
  go_wp2_with fail
  refine (E3.out _ _ _ HM3.out).mono ?_
  rintro e w3 ⟨rfl, hs4, ho4⟩
  have HS4 := Lib.hid (HS3.out.trans (since_mono hs4 HS3.out.size))
  have hz3 := HS3.out.size
  obtain ⟨b, A, G, C, e, hb, hrs, _⟩ := ho4 (by rw [HTL.out]; omega)
  obtain ⟨c0, hg⟩ := hrs 0 (by rw [HTL.out]; omega)
  rw [HROW.out, HLEN.out] at c0 hg
  have HR := Lib.hid (show OwnR w.heap.size w3.heap.size w3 (A 0) (ptL l x m) from fun h0 => by
    rw [HLEN.out] at h0
    obtain ⟨g1, g2, g3⟩ := hg h0
    exact ⟨G 0, g1, ⟨by omega, g2.2.1⟩, fun i hi => g3 i (by rw [HLEN.out] at hi; exact hi)⟩)
  injection e with e
  injection e with e1 e2 e3
  subst e1
  clear hs4 ho4 hrs hg hb
  go_wp2
  go_ret
  exact ⟨_, _, rfl, HS4.out, HR.out⟩

def PtI (w : World) (ok : Bool) (M : List Int) (e : Ending) (w' : World) : Prop :=
  ∃ a cap, e = .returned (.tuple #[.slice a (if ok then M else []).length cap, .bool ok]) ∧ w.Since w.heap.size w' ∧ OwnR w.heap.size w'.heap.size w' a (if ok then M else [])
def PtS (w : World) (ok : Bool) (M : List Int) (e : Ending) (w' : World) : Prop :=
  ∃ a cap, e = .returned (.tuple #[.slice a (if ok then M else []).length cap, .bool ok]) ∧ w.Since w.heap.size w' ∧ InR w.heap.size w'.heap.size w' a (if ok then M else [])
theorem ptI_no {w w' : World} {ok : Bool} {M : List Int} {e : Ending} (h : ok = false) (a : Option Addr) (cap : Nat) (he : e = .returned (.tuple #[.slice a 0 cap, .bool false])) (hs : w.Since w.heap.size w') : PtI w ok M e w' := by
  subst h; exact ⟨a, cap, he, hs, OwnR.nil _ _ _ _⟩
theorem ptS_no {w w' : World} {ok : Bool} {M : List Int} {e : Ending} (h : ok = false) (a : Option Addr) (cap : Nat) (he : e = .returned (.tuple #[.slice a 0 cap, .bool false])) (hs : w.Since w.heap.size w') : PtS w ok M e w' := by
  subst h; exact ⟨a, cap, he, hs, InR.nil _ _ _ _⟩
theorem ptI_yes {w w' : World} {ok : Bool} {M : List Int} {e : Ending} {q : Nat} (h : ok = true) (hM : M.length = q) (a : Option Addr) (cap : Nat) (he : e = .returned (.tuple #[.slice a q cap, .bool true])) (hs : w.Since w.heap.size w') (hr : OwnR w.heap.size w'.heap.size w' a M) : PtI w ok M e w' := by
  subst h; subst hM; exact ⟨a, cap, he, hs, hr⟩
theorem ptS_yes {w w' : World} {ok : Bool} {M : List Int} {e : Ending} {q : Nat} (h : ok = true) (hM : M.length = q) (a : Option Addr) (cap : Nat) (he : e = .returned (.tuple #[.slice a q cap, .bool true])) (hs : w.Since w.heap.size w') (hr : InR w.heap.size w'.heap.size w' a M) : PtS w ok M e w' := by
  subst h; subst hM; exact ⟨a, cap, he, hs, hr⟩

set_option maxRecDepth 100000 in
set_option maxHeartbeats 2000000 in
theorem implPosTimes_any (a a2 : Option Addr) (cap cap2 n m : Nat) (l : List (List Int)) (x : List Int) (w : World) (hn : l.length = n) (hx : x.length = m) (h63 : m ≤ 1048576) (hsz : szL l ≤ 1048576) (hm : MatR w a l) (hr : RowR w a2 x) :
    Calls Try.prog 12 #[.slice a n cap, .slice a2 m cap2] w (PtI w (ptOk l x) (ptL l x m)) := by
  have E := implTableIn_any a cap n l w hn hsz hm
  cases hT : tabIn l with
  | false =>
    rw [hT] at E
    replace E := Lib.hid E
    have HF := Lib.hid (show ptOk l x = false by simp [ptOk, hT])
    clear hT hsz hm hn hx hr
    go_enter Try.func12, Try.ntmps12
    go_wp2_with fail
    refine (E.out).mono ?_
    rintro e w1 ⟨rfl, hs⟩
    go_wp2
    go_ret2
    exact ptI_no HF.out _ _ rfl hs
  | true =>
    rw [hT] at E
    replace E := Lib.hid E
    have hTT := tabIn_of hT
    have hw := hTT.width
    have h1 := hTT.1
    rw [hn] at h1
    have E2 := Lib.hid (fun (W : World) (hs : w.Since w.heap.size W) => width_any a cap n l W hn (by omega) (by have := hTT.2.1; omega) (hm.since hs))
    have E3 := Lib.hid (fun (W : World) (hs : w.Since w.heap.size W) => entriesIn_any a2 cap2 m x W hx h63 (hr.since hs))
    by_cases hxm : (l.getD 0 []).length = m
    · cases hN : numsIn x with
      | false =>
        rw [hN] at E3
        rw [hxm] at E2
        have HF := Lib.hid (show ptOk l x = false by simp [ptOk, hN])
        clear hT hsz hm hn hx hr hTT hw hxm hN
        go_enter Try.func12, Try.ntmps12
        go_wp2_with fail
        refine (E.out).mono ?_
        rintro e w1 ⟨rfl, hs⟩
        go_wp2_with fail
        refine (E2.out _ hs).mono ?_
        rintro e w2 ⟨rfl, rfl⟩
        go_wp2_with fail
        refine (E3.out _ hs).mono ?_
        rintro e w2 ⟨rfl, rfl⟩
        go_wp2
        go_ret2
        exact ptI_no HF.out _ _ rfl hs
      | true =>
        rw [hN] at E3
        rw [hxm] at E2
        have hNN : NumsIn x m := by have := numsIn_of hN; rwa [hx] at this
        have HF := Lib.hid (show ptOk l x = true by unfold ptOk; rw [hT, hN, hx, hxm]; simp)
        have E4 := Lib.hid (fun (W : World) (hs : w.Since w.heap.size W) => timesList_any a a2 cap cap2 n m l x W hn hTT (hm.since hs) hx hxm hNN (hr.since hs))
        have HL := Lib.hid ((ptL_length l x m).trans hn)
        clear hT hsz hm hn hx hr hTT hw hxm hN hNN
        go_enter Try.func12, Try.ntmps12
        go_wp2_with fail
        refine (E.out).mono ?_
        rintro e w1 ⟨rfl, hs⟩
        go_wp2_with fail
        refine (E2.out _ hs).mono ?_
        rintro e w2 ⟨rfl, rfl⟩
        go_wp2_with fail
        refine (E3.out _ hs).mono ?_
        rintro e w2 ⟨rfl, rfl⟩
        go_wp2_with fail
        refine (E4.out _ hs).mono ?_
        rintro e w3 ⟨a3, c3, rfl, hs3, ho⟩
        go_wp2
        go_ret2
        exact ptI_yes HF.out HL.out a3 c3 rfl (hs.trans (since_mono hs3 hs.size)) (ho.mono hs.size (Nat.le_refl _))
    · obtain ⟨k, hk⟩ : ∃ k, (l.getD 0 []).length = k := ⟨_, rfl⟩
      rw [hk] at E2 hxm
      have hne : ((m : Int) != (k : Int)) = true := by simp; omega
      have HF := Lib.hid (show ptOk l x = false by unfold ptOk; rw [hx, hk]; simp [show ¬ m = k by omega])
      clear hT hsz hm hn hx hr hTT hw hxm hk
      go_enter Try.func12, Try.ntmps12
      go_wp2_with fail
      refine (E.out).mono ?_
      rintro e w1 ⟨rfl, hs⟩
      go_wp2_with fail
      refine (E2.out _ hs).mono ?_
      rintro e w2 ⟨rfl, rfl⟩
      go_wp2
      go_ret2
      exact ptI_no HF.out _ _ rfl hs

end Go.Proofs.Ytlgjplhffpmfpaa
end

section
namespace Go.Proofs.Ytlgjplhffpmfpaa
open Go.RowKit Go.Deep

theorem popcS_but : ∀ n : Fin 7, ∀ k : Fin 6, k.val < n.val → popcS (2 ^ n.val - 1 - 2 ^ k.val) = n.val - 1 := by decide +kernel
theorem but_lt : ∀ n : Fin 7, ∀ k : Fin 6, k.val < n.val → 2 ^ n.val - 1 - 2 ^ k.val < 2 ^ n.val ∧ 2 ^ n.val - 1 - 2 ^ k.val ≤ 63 := by decide +kernel

def othF (l : List (List Int)) (n i k : Nat) : Int := sg (i + k) (ordF (partL l (2 ^ n - 1 - 2 ^ k) (2 ^ n - 1 - 2 ^ i)) (n - 1) (n - 1) 0)
def otherR (l : List (List Int)) (n i j : Nat) : List Int := (List.range j).map fun k => othF l n i k
theorem otherR_succ (l : List (List Int)) (n i j : Nat) : otherR l n i (j + 1) = otherR l n i j ++ [othF l n i j] := by simp [otherR, List.range_succ]
theorem otherR_length (l : List (List Int)) (n i j : Nat) : (otherR l n i j).length = j := by simp [otherR]
def otherTo (l : List (List Int)) (n r : Nat) : List (List Int) := (List.range r).map fun i => otherR l n i n
theorem otherTo_succ (l : List (List Int)) (n r : Nat) : otherTo l n (r + 1) = otherTo l n r ++ [otherR l n r n] := by simp [otherTo, List.range_succ]
theorem otherTo_length (l : List (List Int)) (n r : Nat) : (otherTo l n r).length = r := by simp [otherTo]
theorem otherTo_all (l : List (List Int)) (n : Nat) : otherTo l n n = tabF n n (othF l n) := rfl
theorem RB.later {wo wr w1 : World} {v : Value} {x : List Int} (h : RB wo wr v x) (hs : wr.Since wr.heap.size w1) : RB wo w1 v x :=
  ⟨h.since.trans (since_mono hs h.since.size), World.ownsRow.kept h.own (row := none) ⟨hs.os, hs.tape, hs.output, hs.size, fun k hk _ => hs.block k hk⟩ (by cases hv : v.ownBlock <;> simp)⟩

end Go.Proofs.Ytlgjplhffpmfpaa
end

section
namespace Go.Proofs.Ytlgjplhffpmfpaa
open Go.RowKit Go.Deep

theorem mul30 {p y : Int} (hp : -30 ≤ p ∧ p ≤ 30) (hy : -30 ≤ y ∧ y ≤ 30) : -900 ≤ p * y ∧ p * y ≤ 900 := by
  have h1 : (p + 30) * (30 - y) ≥ 0 := Int.mul_nonneg (by omega) (by omega)
  have h2 : (p + 30) * (30 + y) ≥ 0 := Int.mul_nonneg (by omega) (by omega)
  have h3 : (30 - p) * (30 + y) ≥ 0 := Int.mul_nonneg (by omega) (by omega)
  have h4 : (30 - p) * (30 - y) ≥ 0 := Int.mul_nonneg (by omega) (by omega)
  simp only [Int.add_mul, Int.sub_mul, Int.mul_add, Int.mul_sub] at h1 h2 h3 h4
  omega
def ptF (l : List (List Int)) (x : List Int) (i k : Nat) : Int := at2 l i k * x.getD k 0
def ptK (l : List (List Int)) (x : List Int) (m r : Nat) : List Int := (List.range r).map fun i => sumN (ptF l x i) m
theorem ptK_succ (l : List (List Int)) (x : List Int) (m r : Nat) : ptK l x m (r + 1) = ptK l x m r ++ [sumN (ptF l x r) m] := by simp [ptK, List.range_succ]
theorem ptK_length (l : List (List Int)) (x : List Int) (m r : Nat) : (ptK l x m r).length = r := by simp [ptK]
theorem ptF_step (l : List (List Int)) (x : List Int) (i k : Nat) : sumN (ptF l x i) (k + 1) = sumN (ptF l x i) k + at2 l i k * x.getD k 0 := rfl

set_option maxRecDepth 100000 in
set_option maxHeartbeats 4000000 in
theorem specPosTimes_yes (a a2 : Option Addr) (cap cap2 n m : Nat) (l : List (List Int)) (x : List Int) (w : World) (hn : l.length = n) (hx : x.length = m) (hsz : szL l ≤ 1048576) (hT : TabIn l) (hxm : (l.getD 0 []).length = m) (hm : MatR w a l) (hr : RowR w a2 x) :
    Calls Try.prog 13 #[.slice a n cap, .slice a2 m cap2] w (PtS w (numsIn x) (ptK l x m n)) := by
  obtain ⟨i3, hi3⟩ := info3_parts
  have HJ := Lib.hid hi3
  have E := fun (W : World) (hd : w.Since w.heap.size W) => specTableIn_any a cap n l W hn hsz (hm.since hd)
  simp only [tabIn_true hT] at E
  replace E := Lib.hid E
  have h6 := hT.2.1
  have h1 := hT.1
  have hw := hT.width
  rw [hn] at h6 h1
  rw [hxm] at hw
  obtain ⟨bt, ot, At, Ct, rfl, hc⟩ := hm (by omega)
  obtain ⟨bx, ox, rfl, hcx⟩ := hr (by omega)
  have HC0 := Lib.hid (fun (W : World) (hd : w.Since w.heap.size W) => by
    have c := (hc 0 (by omega)).1
    rw [hxm, Nat.add_zero] at c
    exact (hd.cell (a := ⟨bt, ot, none⟩) (World.block_lt_of_cell? _ _ c)).trans c)
  have HC := Lib.hid (fun (W : World) (hd : w.Since w.heap.size W) (i k : Nat) (hi : i < n) (hk : k < m) => show ∃ b' o', W.cell? ⟨bt, ot + i, none⟩ = some (.slice (some ⟨b', o', none⟩) m (Ct i)) ∧ W.cell? ⟨b', o' + k, none⟩ = some (.int .i64 (at2 l i k)) ∧ -30 ≤ at2 l i k ∧ at2 l i k ≤ 30 by
    have hrl : (l.getD i []).length = m := by rw [hT.row (by omega), hxm]
    obtain ⟨c1, c2⟩ := hc i (by omega)
    obtain ⟨b', o', e, h3⟩ := c2 (by omega)
    rw [e, hrl] at c1
    have c3 := h3 k (by omega)
    exact ⟨b', o', (hd.cell (a := ⟨bt, ot + i, none⟩) (World.block_lt_of_cell? _ _ c1)).trans c1, (hd.cell (a := ⟨b', o' + k, none⟩) (World.block_lt_of_cell? _ _ c3)).trans c3, hT.at (by omega) (by omega)⟩)
  have HX := Lib.hid (fun (W : World) (hd : w.Since w.heap.size W) (k : Nat) (hk : k < m) => by
    have c := hcx k (by omega)
    exact (hd.cell (a := ⟨bx, ox + k, none⟩) (World.block_lt_of_cell? _ _ c)).trans c)
  have HBD := Lib.hid (fun (i q : Nat) (hi : i < n) (hq : q ≤ m) (hN : NumsIn x q) => sumN_bd (ptF l x i) q (fun j hj => mul30 (hT.at (by omega) (by omega)) (hN j hj)))
  have HN := Lib.hid hx
  clear hm hr hc hcx hT hxm hn hx hsz hi3
  go_enter Try.func13, Try.ntmps13
  go_wp2_with fail
  refine (E.out _ ?_).mono ?_
  · exact (World.Since.refl _ _).alloc (Nat.le_refl _) _
  rintro e w1 ⟨rfl, hdr⟩
  have HS1 := Lib.hid (((World.Since.refl w.heap.size w).alloc (Nat.le_refl _) (.cells #[] 3)).trans (hdr.since w.heap.size))
  have HRB := Lib.hid (RB.later (rb_start w #[] rfl) (hdr.since (w.alloc (.cells #[] 3)).heap.size))
  have c0 := HC0.out w1 HS1.out
  clear hdr
  go_wp2
  clear c0
  go_loopg [6, 7, 8, 9] n (fun g v i _ _ wr => ∃ r : Nat, r ≤ n ∧ g = n - r ∧ i = .int .i64 r ∧ RB w wr v (ptK l x m r) ∧ (r ≠ 0 → NumsIn x m))
  case atStart => exact ⟨0, Nat.zero_le _, rfl, rfl, HRB.out, fun h => absurd rfl h⟩
  case round =>
    obtain ⟨r, hr, rfl, rfl, hI, hNN⟩ := hrel
    clear HRB
    have HI := Lib.hid hI
    have HNN := Lib.hid hNN
    have hzi := hI.since.size
    clear hI hNN
    by_cases hlt : r < n
    · go_wp2
      go_loopg [8, 9] m (fun g s k wi => ∃ q : Nat, q ≤ m ∧ g = m - q ∧ k = .int .i64 q ∧ s = .int .i64 (sumN (ptF l x r) q) ∧ Drawn wr wi ∧ NumsIn x q)
      case atStart => exact ⟨0, Nat.zero_le _, rfl, rfl, rfl, Drawn.refl _, fun r hr => absurd hr (Nat.not_lt_zero _)⟩
      case round =>
        obtain ⟨q, hq, rfl, rfl, rfl, hD, hN⟩ := hrel
        have hS := HI.out.since.trans (hD.since w.heap.size)
        by_cases hqm : q < m
        · obtain ⟨b', o', c1, c2, hb1, hb2⟩ := HC.out wr hS r q hlt hqm
          have c3 := HX.out wr hS q hqm
          have hbs := HBD.out r q hlt hq hN
          have hst := ptF_step l x r q
          obtain ⟨y, hy⟩ : ∃ y, x.getD q 0 = y := ⟨_, rfl⟩
          obtain ⟨z, hz⟩ : ∃ z, at2 l r q = z := ⟨_, rfl⟩
          obtain ⟨s, hs⟩ : ∃ s, sumN (ptF l x r) q = s := ⟨_, rfl⟩
          rw [hy] at c3
          rw [hz] at c2 hb1 hb2
          rw [hs] at hbs ⊢
          rw [hs, hz, hy] at hst
          have HY := Lib.hid hy
          have HST := Lib.hid hst
          have HDR := Lib.hid hD
          have HNQ := Lib.hid hN
          clear hy hz hs hst hD hN
          cases hiy : inB y (-30) 30 with
          | true =>
            have E1' := Lib.hid (l6In_at y (-30) 30 true wr hiy)
            have HIY := Lib.hid hiy
            have hy2 : -30 ≤ y ∧ y ≤ 30 := by simpa [inB] using hiy
            have hzy := mul30 ⟨hb1, hb2⟩ hy2
            have hw1 : IntKind.i64.wrap (z * y) = z * y := IntWalk.i64_in _ ⟨by omega, by omega⟩
            have hw2 : IntKind.i64.wrap (s + z * y) = s + z * y := IntWalk.i64_in _ ⟨by omega, by omega⟩
            clear hiy
            go_wp2_with fail
            refine (E1'.out).mono ?_
            rintro e w' ⟨rfl, rfl⟩
            go_wp2
            go_quiet (fail)
            go_wp2
            go_roundg (m - (q + 1))
            case measure => omega
            case rel => exact ⟨q + 1, by omega, rfl, by go_num, by rw [HST.out], HDR.out.trans (Drawn.mk _ _), HNQ.out.succ (by rw [HY.out]; exact HIY.out)⟩
          | false =>
            have E1' := Lib.hid (l6In_at y (-30) 30 false wr hiy)
            have hno := Lib.hid (numsIn_false (r := x) fun hT => by
              have := hT q (by rw [HN.out]; exact hqm)
              rw [HY.out] at this
              simp [inB] at hiy
              omega)
            clear hiy
            go_wp2_with fail
            refine (E1'.out).mono ?_
            rintro e w' ⟨rfl, rfl⟩
            go_wp2
            go_ret2
            exact ptS_no hno.out _ _ rfl (hS.alloc hS.size _)
        · have hqm' : q = m := by omega
          subst hqm'
          have HIV := Lib.hid (HI.out.later (hD.since _))
          have hzv := HIV.out.since.size
          have HNQ := Lib.hid hN
          have hk := ptK_length l x q r
          obtain ⟨z, hz⟩ : ∃ z, sumN (ptF l x r) q = z := ⟨_, rfl⟩
          rw [hz]
          have HZ := Lib.hid hz
          clear hD hN hz
          go_wp2_with (at_builtin; (refine wpList_append_own _ rfl _ _ 27 rfl w.heap.size 3 i3 (.int .i64 0) 1 8 Try.underlying27 HJ.out.1 HJ.out.2.1 HJ.out.2.2.1 HJ.out.2.2.2 rfl (by decide) _ _ _ rfl (HIV.out.own.alloc _) ⟨wr.heap.size, 0, none⟩ 1 1 [.int .i64 z] rfl rfl (cell_one_at _ _ _ rfl) (fun x hx => by simp at hx; subst hx; rfl) (by unfold maxLen; omega) (by omega) (by simp; omega) ?_); intro v' w6 hown' hgrow _)
          have hP := HIV.out.push hown' hgrow
          rw [← HZ.out, ← ptK_succ] at hP
          have HP := Lib.hid hP
          clear hP hown' hgrow
          go_roundg (n - (r + 1))
          case measure => omega
          case rel => exact ⟨r + 1, by omega, rfl, by go_num, HP.out, fun _ => HNQ.out⟩
    · have hrn : r = n := by omega
      subst hrn
      have hyes := Lib.hid (numsIn_true (r := x) (by rw [HN.out]; exact HNN.out (by omega)))
      obtain ⟨ra, rcp, hv, hrw⟩ := HI.out.slice
      rw [ptK_length] at hv
      subst hv
      have HRW := Lib.hid hrw
      clear hrw
      go_wp2
      go_ret2
      exact ptS_yes hyes.out (ptK_length l x m r) ra rcp rfl HI.out.since (fun h0 => by
        obtain ⟨G, e, h2, h3⟩ := HRW.out h0
        exact ⟨G, 0, e, ⟨h2, h3.lt⟩, fun i hi => by rw [Nat.zero_add]; exact h3.cell hi⟩)

set_option maxRecDepth 100000 in
set_option maxHeartbeats 2000000 in
theorem specPosTimes_any (a a2 : Option Addr) (cap cap2 n m : Nat) (l : List (List Int)) (x : List Int) (w : World) (hn : l.length = n) (hx : x.length = m) (hsz : szL l ≤ 1048576) (hm : MatR w a l) (hr : RowR w a2 x) :
    Calls Try.prog 13 #[.slice a n cap, .slice a2 m cap2] w (PtS w (ptOk l x) (ptL l x m)) := by
  cases hT : tabIn l with
  | false =>
    have E := fun (W : World) (hd : w.Since w.heap.size W) => specTableIn_any a cap n l W hn hsz (hm.since hd)
    simp only [hT] at E
    replace E := Lib.hid E
    have HF := Lib.hid (show ptOk l x = false by simp [ptOk, hT])
    clear hT hsz hm hn hx hr
    go_enter Try.func13, Try.ntmps13
    go_wp2_with fail
    refine (E.out _ ?_).mono ?_
    · exact (World.Since.refl _ _).alloc (Nat.le_refl _) _
    rintro e w1 ⟨rfl, hdr⟩
    have HS1 := Lib.hid (((World.Since.refl w.heap.size w).alloc (Nat.le_refl _) (.cells #[] 3)).trans (hdr.since w.heap.size))
    clear hdr
    go_wp2
    go_ret2
    exact ptS_no HF.out _ _ rfl HS1.out
  | true =>
    have hTT := tabIn_of hT
    by_cases hxm : (l.getD 0 []).length = m
    · have h := specPosTimes_yes a a2 cap cap2 n m l x w hn hx hsz hTT hxm hm hr
      have e1 : ptOk l x = numsIn x := by unfold ptOk; rw [hT, hx, hxm]; simp
      have e2 : ptL l x m = ptK l x m n := by unfold ptL ptK; rw [hn]; rfl
      rw [e1, e2]
      exact h
    · have E := fun (W : World) (hd : w.Since w.heap.size W) => specTableIn_any a cap n l W hn hsz (hm.since hd)
      simp only [hT] at E
      replace E := Lib.hid E
      have h1 := hTT.1
      obtain ⟨bt, ot, At, Ct, rfl, hc⟩ := hm (by omega)
      obtain ⟨k, hk⟩ : ∃ k, (l.getD 0 []).length = k := ⟨_, rfl⟩
      have HC0 := Lib.hid (fun (W : World) (hd : w.Since w.heap.size W) => by
        have c := (hc 0 (by omega)).1
        rw [hk, Nat.add_zero] at c
        exact (hd.cell (a := ⟨bt, ot, none⟩) (World.block_lt_of_cell? _ _ c)).trans c)
      rw [hk] at hxm
      have hne : ((m : Int) != (k : Int)) = true := by simp; omega
      have HF := Lib.hid (show ptOk l x = false by unfold ptOk; rw [hx, hk]; simp [show ¬ m = k by omega])
      rw [hn] at h1
      clear hT hsz hm hn hx hr hTT hc hk
      go_enter Try.func13, Try.ntmps13
      go_wp2_with fail
      refine (E.out _ ?_).mono ?_
      · exact (World.Since.refl _ _).alloc (Nat.le_refl _) _
      rintro e w1 ⟨rfl, hdr⟩
      have HS1 := Lib.hid (((World.Since.refl w.heap.size w).alloc (Nat.le_refl _) (.cells #[] 3)).trans (hdr.since w.heap.size))
      have c0 := HC0.out w1 HS1.out
      clear hdr
      go_wp2
      go_ret2
      exact ptS_no HF.out _ _ rfl HS1.out

end Go.Proofs.Ytlgjplhffpmfpaa
end

section
namespace Go.Proofs.Ytlgjplhffpmfpaa
open Go.RowKit Go.Deep Go.Shelf

def Kp2 (Bn Bk : Nat) (X Y : World) : Prop := Y.cell? ⟨Bn, 0, none⟩ = X.cell? ⟨Bn, 0, none⟩ ∧ Y.cell? ⟨Bk, 0, none⟩ = X.cell? ⟨Bk, 0, none⟩
theorem Kp2.refl (Bn Bk : Nat) (X : World) : Kp2 Bn Bk X X := ⟨rfl, rfl⟩
theorem Kp2.trans {Bn Bk : Nat} {A B C : World} (h : Kp2 Bn Bk A B) (k : Kp2 Bn Bk B C) : Kp2 Bn Bk A C := ⟨k.1.trans h.1, k.2.trans h.2⟩
theorem cell_grown_ne {X Y : World} {row : Option Nat} (h : X.grownBy Y row) {b : Nat} (hb : b < X.heap.size) (hne : row ≠ some b) : Y.cell? ⟨b, 0, none⟩ = X.cell? ⟨b, 0, none⟩ := by
  have e : Y.heap[b]? = X.heap[b]? := h.block b hb (fun e => hne e.symm)
  simp only [World.cell?, e]
theorem Kp2.grown {Bn Bk : Nat} {X Y : World} {row : Option Nat} (h : X.grownBy Y row) (h1 : Bn < X.heap.size) (h2 : Bk < X.heap.size) (h3 : row ≠ some Bn) (h4 : row ≠ some Bk) : Kp2 Bn Bk X Y := ⟨cell_grown_ne h h1 h3, cell_grown_ne h h2 h4⟩
theorem kp2_b {Bn Bk : Nat} {w : World} (h1 : Bn < w.heap.size) (h2 : Bk < w.heap.size) (W : World) (l : Nat) (o o' : Obj) (hl : w.heap.size ≤ l) (h : W.heap[l]? = some o) (_ : o.isCells = false) (_ : o.isWalk = false) : Kp2 Bn Bk W (W.putObj l o') := by
  have := (Array.getElem?_eq_some_iff.1 h).1
  exact Kp2.grown (grownBy_putObj' W l o') (by omega) (by omega) (fun e => by cases e; omega) (fun e => by cases e; omega)

set_option maxHeartbeats 1000000 in
theorem sets_in (n : Nat) (N k : Int) (w : World) :
    CallsIn Fence.wide n Try.prog 94 #[.int .i64 N, .int .i64 k] w fun e w' => e = .returned (.func (.func 100) #[] #[.pointer (some ⟨w.heap.size, 0, none⟩), .pointer (some ⟨w.heap.size + 1, 0, none⟩)]) ∧ w' = (w.alloc (.cells #[.int .i64 N] 3)).alloc (.cells #[.int .i64 k] 3) := by
  refine callsIn_of_wp Try.func94 rfl trivial ?_ rfl
  simp only [Try.ntmps94, List.size_toArray, List.length_cons, List.length_nil, Nat.reduceAdd, Nat.reduceSub, Array.replicate_succ, Array.replicate_zero, List.push_toArray, List.append_toArray, List.nil_append, List.cons_append]
  gi_wp2
  go_ret
  exact ⟨rfl, rfl⟩

abbrev SetK (k M : Nat) := { x : Nat // x < M ∧ popcS x = k }
theorem sets_stops (n : Nat) (hn : 2 ≤ n) (Bn Bk N k M : Nat) (hN : N ≤ 6) (hM : 2 ^ N = M) (w : World) (h1 : Bn < w.heap.size) (h2 : Bk < w.heap.size)
    (hBn : w.cell? ⟨Bn, 0, none⟩ = some (.int .i64 N)) (hBk : w.cell? ⟨Bk, 0, none⟩ = some (.int .i64 k)) :
    SeqStopsK Fence.wide n Try.prog 100 #[.pointer (some ⟨Bn, 0, none⟩), .pointer (some ⟨Bk, 0, none⟩)] (fun x : SetK k M => #[Value.int .i64 (x.1 : Int)]) (Kp2 Bn Bk) (fun ys => ys.map (·.1) = setsTo k M) (fun _ => True) M w := fun l J Jx W hW hJ _ hY h0 => by
  refine CallsIn.mono (sets1_in n hn l Bn Bk N k M hN hM (Kp2 Bn Bk) (fun _ _ h => h) (fun pre W => ∃ ys : List (SetK k M), ys.map (·.1) = pre ∧ J ys W) (fun _ W => ∃ ys, Jx ys W) (fun s V hV => ?_) (fun pre x V hV hp hx hk => ?_) W
    ((hW.cell (p := ⟨Bn, 0, none⟩) h1).trans hBn) ((hW.cell (p := ⟨Bk, 0, none⟩) h2).trans hBk) ⟨[], rfl, h0⟩) ?_
  · obtain ⟨ys, e, hj⟩ := hV
    exact ⟨ys, e, hJ ys V V.drew none hj ⟨rfl, rfl, rfl, Nat.le_refl _, fun _ _ _ => rfl⟩ (fun r e => by cases e)⟩
  · obtain ⟨ys, e, hj⟩ := hV
    have hl : ys.length < M := by
      have := congrArg List.length e
      rw [List.length_map, hp] at this
      have := setsTo_len k x
      omega
    obtain ⟨fn, tmps, assign, body, hy, hR⟩ := hY ys ⟨x, hx, hk⟩ V hj hl
    refine ⟨fn, tmps, assign, body, hy, hR.mono ?_⟩
    rintro e W' (⟨r1, r2, r3⟩ | ⟨r1, r2⟩)
    · exact .inl ⟨r1, ⟨ys ++ [⟨x, hx, hk⟩], by rw [List.map_append, ‹ys.map _ = pre›]; rfl, r2⟩, r3⟩
    · exact .inr ⟨r1, _, r2⟩
  · rintro e W' ⟨r1, (⟨zs, rfl, ys, e2, hj⟩ | ⟨pre, _, ys, hj⟩)⟩
    · exact ⟨r1, .inl ⟨ys, e2, hj⟩⟩
    · exact ⟨r1, .inr ⟨ys, trivial, hj⟩⟩

end Go.Proofs.Ytlgjplhffpmfpaa
end

section
namespace Go.Proofs.Ytlgjplhffpmfpaa
open Go.RowKit Go.Deep Go.Shelf

theorem sets_seqE (n : Nat) (hn : 2 ≤ n) (Bn Bk N k M : Nat) (hN : N ≤ 6) (hM : 2 ^ N = M) (w : World) (h1 : Bn < w.heap.size) (h2 : Bk < w.heap.size)
    (hBn : w.cell? ⟨Bn, 0, none⟩ = some (.int .i64 N)) (hBk : w.cell? ⟨Bk, 0, none⟩ = some (.int .i64 k)) :
    SeqE Fence.wide n Try.prog 100 #[.pointer (some ⟨Bn, 0, none⟩), .pointer (some ⟨Bk, 0, none⟩)] (fun x : Nat => #[Value.int .i64 (x : Int)]) (fun x _ => x < M ∧ popcS x = k) (fun q => q = Bn ∨ q = Bk) (fun ys => ys = setsTo k M) (fun _ => True) M w := by
  intro l J Jx own W hW hown hJ hJx hY hj
  refine CallsIn.mono (sets1_in n hn l Bn Bk N k M hN hM (Kp2 Bn Bk) (fun _ _ h => h)
    (fun pre W => J pre W ∧ W.cell? ⟨Bn, 0, none⟩ = some (.int .i64 N) ∧ W.cell? ⟨Bk, 0, none⟩ = some (.int .i64 k)) (fun pre W => Jx pre W) (fun s V hV => ?_) (fun pre x V hV hp hx hk => ?_) W
    ((hW.cell (p := ⟨Bn, 0, none⟩) h1).trans hBn) ((hW.cell (p := ⟨Bk, 0, none⟩) h2).trans hBk) ⟨hj, (hW.cell (p := ⟨Bn, 0, none⟩) h1).trans hBn, (hW.cell (p := ⟨Bk, 0, none⟩) h2).trans hBk⟩) ?_
  · exact ⟨hJ s V V.drew none hV.1 ⟨rfl, rfl, rfl, Nat.le_refl _, fun _ _ _ => rfl⟩ (fun r e => by cases e), hV.2.1, hV.2.2⟩
  · have hl : pre.length < M := by
      rw [hp]
      have := setsTo_len k x
      omega
    obtain ⟨hjv, c1, c2⟩ := hV
    obtain ⟨fn, tmps, assign, body, hy, hR⟩ := hY pre x V hjv ⟨hx, hk⟩ hl
    refine ⟨fn, tmps, assign, body, hy, hR.mono ?_⟩
    rintro e W' (⟨r1, r2, r3⟩ | ⟨r1, r2, _⟩)
    · have d1 := r3.cell (a := ⟨Bn, 0, none⟩) (fun h => (hown _ h).2 (.inl rfl)) c1
      have d2 := r3.cell (a := ⟨Bk, 0, none⟩) (fun h => (hown _ h).2 (.inr rfl)) c2
      exact .inl ⟨r1, ⟨r2, d1, d2⟩, d1.trans c1.symm, d2.trans c2.symm⟩
    · exact .inr ⟨r1, r2⟩
  · rintro e W' ⟨r1, (⟨zs, rfl, hj2⟩ | ⟨pre, _, hj2⟩)⟩
    · exact ⟨r1, .inl ⟨_, rfl, hj2.1⟩⟩
    · exact ⟨r1, .inr ⟨_, trivial, hj2⟩⟩

end Go.Proofs.Ytlgjplhffpmfpaa
end

section
namespace Go.Proofs.Ytlgjplhffpmfpaa
open Go.RowKit Go.Deep

theorem since_of_map {W w' : World} {o : Obj} (hg : (W.alloc o).grownBy w' (some W.heap.size)) : W.Since W.heap.size w' := by
  have h0 := (World.Since.refl W.heap.size W).alloc (Nat.le_refl _) o
  have h1 := hg.size
  simp only [World.size_alloc] at h1
  exact ⟨hg.os.trans h0.os, hg.tape.trans h0.tape, hg.output.trans h0.output, by omega, fun k hk => (hg.block k (by simp; omega) (by intro e; injection e with e; omega)).trans (h0.block k hk)⟩

set_option maxHeartbeats 400000 in
theorem anyValue_of (rb : Nat) (a : Option Addr) (n cap : Nat) (x : Int) (W : World) (hr : RoadsAt W rb) (ht : ∀ W', W.grownBy W' (some rb) → Calls Try.prog 98 #[.slice a n cap] W' (fun e w' => e = .returned (.int .i64 x) ∧ W'.Since W'.heap.size w')) :
    Calls Try.prog 81 #[.map (some rb), .slice a n cap] W (fun e w' => e = .returned (.int .i64 x) ∧ W.grownBy w' (some rb) ∧ RoadsAt w' rb) := by
  have E := Lib.hid (roads_2 rb a n cap x W hr ht)
  clear hr ht
  go_enter Try.func81, Try.ntmps81
  go_wp2_with fail
  refine (E.out).mono ?_
  rintro e w' ⟨rfl, hg, hr⟩
  go_wp2
  go_ret
  exact ⟨rfl, hg, hr⟩

end Go.Proofs.Ytlgjplhffpmfpaa
end

section
namespace Go.Proofs.Ytlgjplhffpmfpaa
open Go.RowKit Go.Deep

set_option maxHeartbeats 400000 in
theorem filled1_any (r : Option Addr) (c m : Nat) (x : List Int) (w : World) (hx : x.length = m) (h1 : 1 ≤ m) (hr : RowR w r x) :
    Calls Try.prog 117 #[.slice r m c] w fun e w' => e = .returned (.bool (x.getD 0 0 != 0)) ∧ w = w' := by
  obtain ⟨b, o, rfl, hc⟩ := hr (by omega)
  have c0 := hc 0 (by omega)
  rw [Nat.add_zero] at c0
  obtain ⟨y, hy⟩ : ∃ y, y = x.getD 0 0 := ⟨_, rfl⟩
  rw [← hy] at c0 ⊢
  clear hc hr hx hy
  go_enter Try.func117, Try.ntmps117
  go_wp2
  go_ret
  exact ⟨rfl, rfl⟩

set_option maxHeartbeats 400000 in
theorem firstFilled_any (a : Option Addr) (cap n : Nat) (l : List (List Int)) (w : World) (hn : l.length = n) (hT : Rec l) (hm : MatR w a l) :
    Calls Try.prog 106 #[.slice a n cap] w fun e w' => ∃ r, e = .returned (.int .i64 r) ∧ FirstAt (fun i => at2 l i 0 != 0) n r ∧ w = w' := by
  have h6 := hT.high
  rw [hn] at h6
  have E := Lib.hid (indexFunc_any 117 (fun i => at2 l i 0 != 0) a cap n l w hn hm (enters_of Try.func117 (by kernel_rfl) rfl) (by omega)
    (fun i r c hi hr => filled1_any r c _ (l.getD i []) w rfl (by rw [hT.row (by omega)]; exact hT.width.1) hr))
  clear hn hT hm h6
  go_enter Try.func106, Try.ntmps106
  go_wp2_with fail
  refine (E.out).mono ?_
  rintro e w' ⟨r, rfl, hr, rfl⟩
  go_wp2
  go_ret
  exact ⟨r, rfl, hr, rfl⟩

theorem mul_bdQ {x y B : Int} (hx : -B ≤ x ∧ x ≤ B) (hy : -B ≤ y ∧ y ≤ B) : -(B * B) ≤ x * y ∧ x * y ≤ B * B := by
  have hB : 0 ≤ B := by omega
  have e1 : (B - x) * (B - y) ≥ 0 := Int.mul_nonneg (by omega) (by omega)
  have e2 : (B + x) * (B + y) ≥ 0 := Int.mul_nonneg (by omega) (by omega)
  have e3 : (B - x) * (B + y) ≥ 0 := Int.mul_nonneg (by omega) (by omega)
  have e4 : (B + x) * (B - y) ≥ 0 := Int.mul_nonneg (by omega) (by omega)
  simp only [Int.sub_mul, Int.add_mul, Int.mul_sub, Int.mul_add] at e1 e2 e3 e4
  have c1 := Int.mul_comm B y
  have c2 := Int.mul_comm x B
  omega

set_option maxHeartbeats 2000000 in
theorem behindEntry_any (p r i k n cap : Nat) (q X : Int) (a : Option Addr) (l : List (List Int)) (w : World) (hn : l.length = n) (hT : Rec l) (hw : (l.getD 0 []).length = n) (hq : q ≠ 0) (hX : chio (at2 l) i k = q * X) (hXb : -4611686018427387904 ≤ X ∧ X ≤ 4611686018427387904) (hb : ∀ i j, i < n → j < n → -1944000000 ≤ at2 l i j ∧ at2 l i j ≤ 1944000000)
    (hbox : w.cell? ⟨p, 0, none⟩ = some (.slice a n cap)) (hbox2 : w.cell? ⟨r, 0, none⟩ = some (.int .i64 q)) (hm : MatR w a l) (hi : i + 1 < n) (hk : k + 1 < n) :
    Calls Try.prog 118 #[.int .i64 i, .int .i64 k, .pointer (some ⟨p, 0, none⟩), .pointer (some ⟨r, 0, none⟩)] w fun e w' => e = .returned (.int .i64 X) ∧ w.Since w.heap.size w' := by
  have h6 := hT.high
  rw [hn] at h6
  have hr1 : (l.getD (i + 1) []).length = n := by rw [hT.row (by omega), hw]
  obtain ⟨b, o, A, C, rfl, hc⟩ := hm (by omega)
  obtain ⟨r1, s1⟩ := hc (i + 1) (by omega)
  obtain ⟨r0, s0⟩ := hc 0 (by omega)
  obtain ⟨b1, o1, e1, t1⟩ := s1 (by omega)
  obtain ⟨b0, o0, e0, t0⟩ := s0 (by omega)
  have x11 := t1 (k + 1) (by omega)
  have x10 := t1 0 (by omega)
  have x01 := t0 (k + 1) (by omega)
  have x00 := t0 0 (by omega)
  rw [e1, hr1] at r1
  rw [e0, hw, Nat.add_zero] at r0
  rw [Nat.add_zero] at x10 x00
  have b11 := hb (i + 1) (k + 1) (by omega) (by omega)
  have b10 := hb (i + 1) 0 (by omega) (by omega)
  have b01 := hb 0 (k + 1) (by omega) (by omega)
  have b00 := hb 0 0 (by omega) (by omega)
  have hX' : at2 l (i + 1) (k + 1) * at2 l 0 0 - at2 l 0 (k + 1) * at2 l (i + 1) 0 = q * X := hX
  obtain ⟨y11, h11⟩ : ∃ y, at2 l (i + 1) (k + 1) = y := ⟨_, rfl⟩
  obtain ⟨y10, h10⟩ : ∃ y, at2 l (i + 1) 0 = y := ⟨_, rfl⟩
  obtain ⟨y01, h01⟩ : ∃ y, at2 l 0 (k + 1) = y := ⟨_, rfl⟩
  obtain ⟨y00, h00⟩ : ∃ y, at2 l 0 0 = y := ⟨_, rfl⟩
  rw [h11, h00, h01, h10] at hX'
  rw [h11] at b11
  rw [h10] at b10
  rw [h01] at b01
  rw [h00] at b00
  rw [show (l.getD (i + 1) []).getD (k + 1) 0 = y11 from h11] at x11
  rw [show (l.getD (i + 1) []).getD 0 0 = y10 from h10] at x10
  rw [show (l.getD 0 []).getD (k + 1) 0 = y01 from h01] at x01
  rw [show (l.getD 0 []).getD 0 0 = y00 from h00] at x00
  have m1 := mul_bdQ b11 b00
  have m2 := mul_bdQ b01 b10
  have w1 : IntKind.i64.wrap (y11 * y00) = y11 * y00 := IntWalk.i64_in _ ⟨by omega, by omega⟩
  have w2 : IntKind.i64.wrap (y01 * y10) = y01 * y10 := IntWalk.i64_in _ ⟨by omega, by omega⟩
  have w3 : IntKind.i64.wrap (y11 * y00 - y01 * y10) = q * X := (IntWalk.i64_in _ ⟨by omega, by omega⟩).trans hX'
  have w4 : Int.tdiv (q * X) q = X := Int.mul_tdiv_cancel_left _ hq
  have w5 : IntKind.i64.wrap X = X := IntWalk.i64_in _ ⟨by omega, by omega⟩
  have hq0 : (q == 0) = false := by simpa using hq
  clear hX hX' hb hm hc s1 s0 t1 t0 e1 e0 h11 h10 h01 h00 hT hn hw hr1 b11 b10 b01 b00 m1 m2 hXb
  go_enter Try.func118, Try.ntmps118
  go_wp2
  go_quiet (fail)
  go_wp2
  go_ret
  exact ⟨rfl, since_drewN (World.Since.refl _ _) _⟩

set_option maxRecDepth 100000 in
set_option maxHeartbeats 2000000 in
theorem behind_any (n cap : Nat) (q : Int) (X : Nat → Nat → Int) (a : Option Addr) (l : List (List Int)) (w : World) (hn : l.length = n) (hT : Rec l) (hw : (l.getD 0 []).length = n) (hq : q ≠ 0) (hX : ∀ i k, i + 1 < n → k + 1 < n → chio (at2 l) i k = q * X i k) (hXb : ∀ i k, i + 1 < n → k + 1 < n → -4611686018427387904 ≤ X i k ∧ X i k ≤ 4611686018427387904)
    (hb : 2 ≤ n → ∀ i j, i < n → j < n → -1944000000 ≤ at2 l i j ∧ at2 l i j ≤ 1944000000) (hm : MatR w a l) :
    Calls Try.prog 108 #[.slice a n cap, .int .i64 q] w fun e w' => e = .returned (.slice (some ⟨w.heap.size + 1 + 1, 0, none⟩) (n - 1) (n - 1)) ∧ w.Since w.heap.size w' ∧ OwnT w.heap.size w'.heap.size w' (some ⟨w.heap.size + 1 + 1, 0, none⟩) (tabF (n - 1) (n - 1) X) := by
  have h6 := hT.high
  have h1 := hT.low
  rw [hn] at h6 h1
  have hnt := fun (W : World) (hs : w.Since w.heap.size W) (hb0 : W.cell? ⟨w.heap.size, 0, none⟩ = some (.slice a n cap)) (hb1 : W.cell? ⟨w.heap.size + 1, 0, none⟩ = some (.int .i64 q)) =>
    newTable_any 118 #[.pointer (some ⟨w.heap.size, 0, none⟩), .pointer (some ⟨w.heap.size + 1, 0, none⟩)] (n - 1) (n - 1) X W (by omega) (by omega) (enters_of Try.func118 (by kernel_rfl) rfl)
      (fun W' i k hs' hi hk => behindEntry_any w.heap.size (w.heap.size + 1) i k n cap q (X i k) a l W' hn hT hw hq (hX i k (by omega) (by omega)) (hXb i k (by omega) (by omega)) (hb (by omega)) ((hs'.cell (a := ⟨w.heap.size, 0, none⟩) (World.block_lt_of_cell? _ _ hb0)).trans hb0) ((hs'.cell (a := ⟨w.heap.size + 1, 0, none⟩) (World.block_lt_of_cell? _ _ hb1)).trans hb1) (hm.since (hs.trans (since_mono hs' hs.size))) (by omega) (by omega))
  have HS1 := Lib.hid (show w.Since w.heap.size ((w.alloc (.cells #[.slice a n cap] 42)).alloc (.cells #[.int .i64 q] 3)) from (((World.Since.refl _ _).alloc (Nat.le_refl _) _).alloc (by simp) _))
  have hc0 := cell_new_l w (.slice a n cap) 42
  have hc1 := cell_new_l (w.alloc (.cells #[.slice a n cap] 42)) (.int .i64 q) 3
  simp only [World.size_alloc] at hc1
  have hcb0 : ((w.alloc (.cells #[.slice a n cap] 42)).alloc (.cells #[.int .i64 q] 3)).cell? ⟨w.heap.size, 0, none⟩ = some (.slice a n cap) := cell_alloc_l _ hc0.1
  have hcb1 := hc1.1
  have E := hnt _ HS1.out hcb0 hcb1
  have hz : ((w.alloc (.cells #[.slice a n cap] 42)).alloc (.cells #[.int .i64 q] 3)).heap.size = w.heap.size + 1 + 1 := by simp
  rw [hz] at E
  obtain ⟨m, hmm⟩ : ∃ m, n - 1 = m := ⟨_, rfl⟩
  have hnm : (n : Int) - 1 = (m : Int) := by omega
  rw [hmm] at E ⊢
  replace E := Lib.hid E
  clear hnt hm hT hn hc0 hc1 hw hq hX hXb hb hcb0 hcb1 hmm hz
  go_enter Try.func108, Try.ntmps108
  go_wp2_with fail
  refine (E.out).mono ?_
  rintro e w1 ⟨rfl, hs2, ho⟩
  go_wp2
  go_ret
  exact ⟨rfl, HS1.out.trans (since_mono hs2 (by omega)), ho.mono (by omega) (Nat.le_refl _)⟩

end Go.Proofs.Ytlgjplhffpmfpaa
end

section
namespace Go.Proofs.Ytlgjplhffpmfpaa
open Go.RowKit Go.Deep

theorem Bar.congr {N : Nat} {A : Nat → Nat → Int} {k : Nat} {t u : Nat → Nat → Int} {q s : Int} {F : Nat → Nat → Int} (h : Bar N A k t q s F) (hu : ∀ i j, i < N - k → j < N - k → u i j = t i j) : Bar N A k u q s F :=
  ⟨h.val, h.sgn, h.src, h.ne, fun d R C hR hC => by rw [dt_congr (d + 1) (g := fun i j => t (R i) (C j)) (fun i j hi hj => hu _ _ (hR i hi) (hC j hj)), h.main d R C hR hC], h.last⟩
theorem sw_ex (i r : Nat) : sw 0 i r = ex 0 i r := by unfold sw ex; repeat (first | split | omega)
theorem swapL_rec {L : List (List Int)} {m i : Nat} (hL : L.length = m) (hR : Rec L) (hw : (L.getD 0 []).length = m) (hi : i < m) : Rec (swapL L 0 i) ∧ ((swapL L 0 i).getD 0 []).length = m ∧ ∀ r, r < m → (swapL L 0 i).getD r [] = L.getD (ex 0 i r) [] := by
  have hlow := hR.low
  have hhigh := hR.high
  have hg : ∀ r, r < m → (swapL L 0 i).getD r [] = L.getD (ex 0 i r) [] := fun r hr => by rw [swapL_get L 0 i (by omega), sw_ex]
  have hlen : ∀ r, r < m → ((swapL L 0 i).getD r []).length = m := fun r hr => by rw [hg r hr, hR.row (by rw [hL]; exact ex_bd (by omega) hi hr), hw]
  have h0 := hlen 0 (by omega)
  refine ⟨⟨by rw [swapL_length]; exact hlow, by rw [swapL_length]; exact hhigh, by rw [h0]; omega, fun {r} hr => ?_⟩, h0, hg⟩
  rw [swapL_length, hL] at hr
  rw [hlen r hr, h0]
theorem tabF_rec {m : Nat} (h1 : 1 ≤ m) (h6 : m ≤ 6) (X : Nat → Nat → Int) : Rec (tabF m m X) ∧ ((tabF m m X).getD 0 []).length = m := by
  refine ⟨⟨by rw [tabF_length]; exact h1, by rw [tabF_length]; exact h6, by rw [tabF_len _ _ _ _ (by omega)]; omega, fun {r} hr => ?_⟩, tabF_len _ _ _ _ (by omega)⟩
  rw [tabF_length] at hr
  rw [tabF_len _ _ _ _ hr, tabF_len _ _ _ _ (by omega)]
theorem OwnT.top0 {lo hi : Nat} {w : World} {a : Option Addr} {l : List (List Int)} {m : Nat} (h : OwnT lo hi w a l) (hl : l.length = m) (h1 : 1 ≤ m) (hw : (l.getD 0 []).length = m) : ∃ b g c, a = some ⟨b, 0, none⟩ ∧ w.cell? ⟨b, 0, none⟩ = some (.slice (some ⟨g, 0, none⟩) m c) ∧ w.cell? ⟨g, 0, none⟩ = some (.int .i64 (at2 l 0 0)) := by
  obtain ⟨b, A, G, C, e, _, hr, _⟩ := h (by omega)
  obtain ⟨c1, c2⟩ := hr 0 (by omega)
  obtain ⟨e2, _, c3⟩ := c2 (by omega)
  rw [e2, hw] at c1
  exact ⟨b, G 0, C 0, e, c1, (c3 0 (by omega)).1⟩

structure PV (N : Nat) (A : Nat → Nat → Int) (k : Nat) (L : List (List Int)) (q s : Int) : Prop where
  le : k ≤ N
  len : L.length = N - k
  sq : 1 ≤ N - k → Rec L ∧ (L.getD 0 []).length = N - k
  bar : ∃ F, Bar N A k (at2 L) q s F
structure PW (N : Nat) (A : Nat → Nat → Int) (k m i : Nat) (L : List (List Int)) (q s : Int) (X : Nat → Nat → Int) (p s2 : Int) : Prop where
  sq : Rec (swapL L 0 i) ∧ ((swapL L 0 i).getD 0 []).length = m
  len : (swapL L 0 i).length = m
  piv : at2 (swapL L 0 i) 0 0 = p
  sgn : s2 = if i = 0 then s else -s
  eq : ∀ i' k', i' + 1 < m → k' + 1 < m → chio (at2 (swapL L 0 i)) i' k' = q * X i' k'
  bdX : ∀ i' k', i' + 1 < m → k' + 1 < m → -4611686018427387904 ≤ X i' k' ∧ X i' k' ≤ 4611686018427387904
  bd : 2 ≤ m → ∀ i' j', i' < m → j' < m → -1944000000 ≤ at2 (swapL L 0 i) i' j' ∧ at2 (swapL L 0 i) i' j' ≤ 1944000000
  next : PV N A (k + 1) (tabF (m - 1) (m - 1) X) p s2

theorem PV.step {N : Nat} {A : Nat → Nat → Int} {k m i : Nat} {L : List (List Int)} {q s : Int} (h : PV N A k L q s) (hN : N ≤ 6) (hA : ∀ i j, i < N → j < N → -30 ≤ A i j ∧ A i j ≤ 30) (hm : N - k = m) (hi : i < m) (h0 : at2 L i 0 ≠ 0) : ∃ X p s2, PW N A k m i L q s X p s2 := by
  obtain ⟨hR, hw⟩ := h.sq (by omega)
  obtain ⟨F, hB⟩ := h.bar
  have hl := h.len
  rw [hm] at hw hl
  obtain ⟨hR2, hw2, hg⟩ := swapL_rec hl hR hw hi
  have hat : ∀ r c, r < m → at2 (swapL L 0 i) r c = at2 L (ex 0 i r) c := fun r c hr => by unfold at2; rw [hg r hr]
  have hp : at2 (swapL L 0 i) 0 0 = at2 L i 0 := by rw [hat 0 0 (by omega)]; congr 1
  obtain ⟨F2, hB2⟩ : ∃ F2, Bar N A k (at2 (swapL L 0 i)) q (if i = 0 then s else -s) F2 := by
    by_cases hi0 : i = 0
    · subst hi0
      rw [if_pos rfl]
      exact ⟨F, hB.congr fun r c hr _ => by rw [hat r c (by omega), ex_self]⟩
    · rw [if_neg hi0]
      exact ⟨_, hB.swap (a := i) (by omega) hi0 fun r c hr _ => hat r c (by omega)⟩
  have hX : ∀ i' k', i' + 1 < m → k' + 1 < m → chio (at2 (swapL L 0 i)) i' k' = q * Int.tdiv (chio (at2 (swapL L 0 i)) i' k') q := fun i' k' h1 h2 => by
    obtain ⟨x, hx⟩ := hB2.exact (i := i') (j := k') (by omega) (by omega)
    rw [hx, Int.mul_tdiv_cancel_left _ hB2.ne]
  have hB3 := hB2.step (u := at2 (tabF (m - 1) (m - 1) fun i' k' => Int.tdiv (chio (at2 (swapL L 0 i)) i' k') q)) (by omega) (by rw [hp]; exact h0) (fun i' k' h1 h2 => by
    have e := tabF_at (m - 1) (m - 1) (fun i' k' => Int.tdiv (chio (at2 (swapL L 0 i)) i' k') q) i' k' (by omega) (by omega)
    rw [hX i' k' (by omega) (by omega)]
    exact congrArg (q * ·) e.symm)
  refine ⟨fun i' k' => Int.tdiv (chio (at2 (swapL L 0 i)) i' k') q, at2 (swapL L 0 i) 0 0, _, ⟨hR2, hw2⟩, by rw [swapL_length]; exact hl, rfl, rfl, hX, fun i' k' h1 h2 => ?_, fun h2 i' j' h3 h4 => ?_, ⟨by omega, by rw [tabF_length]; omega, fun h1 => ?_, ⟨F2, hB3⟩⟩⟩
  · have e := hB3.bd hN hA (i := i') (j := k') (by omega) (by omega)
    rw [show at2 (tabF (m - 1) (m - 1) fun i' k' => Int.tdiv (chio (at2 (swapL L 0 i)) i' k') q) i' k' = Int.tdiv (chio (at2 (swapL L 0 i)) i' k') q from tabF_at _ _ _ i' k' (by omega) (by omega)] at e
    have : bdN (k + 1 + 1) ≤ 349920000000 := by
      have h : k = 0 ∨ k = 1 ∨ k = 2 ∨ k = 3 ∨ k = 4 := by omega
      rcases h with h | h | h | h | h <;> (subst h; decide)
    omega
  · have e := hB2.bd hN hA (i := i') (j := j') (by omega) (by omega)
    have := bdN_le (n := k + 1) (by omega)
    omega
  · have := tabF_rec (m := m - 1) (by omega) (by omega) fun i' k' => Int.tdiv (chio (at2 (swapL L 0 i)) i' k') q
    rw [show N - (k + 1) = m - 1 by omega]
    exact this

theorem swapped0_any (a : Option Addr) (cap n k : Nat) (l : List (List Int)) (w : World) (hn : l.length = n) (hT : Rec l) (h0 : 0 < n) (hk : k < n) (hm : MatR w a l) :
    Calls Try.prog 107 #[.slice a n cap, .int .i64 0, .int .i64 k] w fun e w' => ∃ a' cap', e = .returned (.slice a' n cap') ∧ w.Since w.heap.size w' ∧ OwnT w.heap.size w'.heap.size w' a' (swapL l 0 k) :=
  swapped_any a cap n 0 k l w hn hT h0 hk hm

theorem swapped00_any (a : Option Addr) (cap n : Nat) (l : List (List Int)) (w : World) (hn : l.length = n) (hT : Rec l) (h0 : 0 < n) (hm : MatR w a l) :
    Calls Try.prog 107 #[.slice a n cap, .int .i64 0, .int .i64 0] w fun e w' => ∃ a' cap', e = .returned (.slice a' n cap') ∧ w.Since w.heap.size w' ∧ OwnT w.heap.size w'.heap.size w' a' (swapL l 0 0) :=
  swapped_any a cap n 0 0 l w hn hT h0 h0 hm

set_option maxRecDepth 100000 in
set_option maxHeartbeats 4000000 in
theorem byPivots_any (N : Nat) (l : List (List Int)) (a : Option Addr) (cap : Nat) (W : World) (hsq : SqD N l) (hN : N ≤ 6) (hm : MatR W a l) :
    Calls Try.prog 98 #[.slice a N cap] W fun e w' => e = .returned (.int .i64 (dt N (at2 l))) ∧ W.Since W.heap.size w' := by
  have hA : ∀ i j, i < N → j < N → -30 ≤ at2 l i j ∧ at2 l i j ≤ 30 := fun i j hi hj => by
    obtain ⟨hT, hw⟩ := hsq.2 (by omega)
    have := hsq.1
    exact hT.at (by omega) (by omega)
  have hst : PV N (at2 l) 0 l 1 1 := ⟨Nat.zero_le _, hsq.1, fun h1 => by
    obtain ⟨hT, hw⟩ := hsq.2 (by omega)
    exact ⟨hT.rec, hw⟩, ⟨_, Bar.start fun _ _ _ _ => rfl⟩⟩
  obtain ⟨A, hAA⟩ : ∃ A, A = at2 l := ⟨_, rfl⟩
  rw [← hAA] at hA hst ⊢
  have HST := Lib.hid hst
  have HA := Lib.hid hA
  have HM := Lib.hid hm
  clear hst hA hm hsq hAA
  go_enter Try.func98, Try.ntmps98
  go_wp2
  go_loopg [0, 3, 4, 5] N (fun g t s q _ wr => ∃ (k : Nat) (L : List (List Int)) (a' : Option Addr) (cap' : Nat) (u v : Int), g = N - k ∧ t = .slice a' (N - k) cap' ∧ s = .int .i64 u ∧ q = .int .i64 v ∧ W.Since W.heap.size wr ∧ MatR wr a' L ∧ PV N A k L v u)
  case atStart => exact ⟨0, l, a, cap, 1, 1, rfl, rfl, rfl, rfl, World.Since.refl _ _, HM.out, HST.out⟩
  case round =>
    obtain ⟨k, L, a1, c1, u, v, rfl, rfl, rfl, rfl, hS, hM, hP⟩ := hrel
    clear HST HM
    by_cases hlt : k < N
    · obtain ⟨m, hmm⟩ : ∃ m, N - k = m := ⟨_, rfl⟩
      have hm1 : 1 ≤ m := by omega
      obtain ⟨hR, hw⟩ := hP.sq (by omega)
      have hl := hP.len
      rw [hmm] at hl hw
      have E1 := Lib.hid (firstFilled_any a1 c1 m L wr hl hR hM)
      have hu : u = 1 ∨ u = -1 := by obtain ⟨F, hB⟩ := hP.bar; exact hB.sgn
      have hv0 : v ≠ 0 := by obtain ⟨F, hB⟩ := hP.bar; exact hB.ne
      have hZ := Lib.hid (fun (h : ∀ i, i < m → at2 L i 0 = 0) => by obtain ⟨F, hB⟩ := hP.bar; exact hB.zero hlt (fun i hi => h i (by omega)))
      have HS := Lib.hid hS
      have ESW := Lib.hid (fun (i : Nat) (hi : i < m) => swapped0_any a1 c1 m i L wr hl hR (by omega) hi hM)
      have ESW0 := Lib.hid (swapped00_any a1 c1 m L wr hl hR (by omega) hM)
      have HP := Lib.hid hP
      have hmi : (m : Int) > 0 := by omega
      have HMM := Lib.hid hmm
      have hgN : N - (k + 1) = m - 1 := by omega
      have HGN := Lib.hid hgN
      rw [hmm]
      clear hR hw hl hP hS hM hgN
      clear hmm
      go_wp2_with fail
      refine (E1.out).mono ?_
      rintro e w' ⟨r, rfl, hr, rfl⟩
      rcases hr with ⟨i, hi, rfl, hp, _⟩ | ⟨rfl, hno⟩
      · obtain ⟨X, p, s2, hPW⟩ := HP.out.step hN HA.out HMM.out hi (by simpa using hp)
        have E2 := Lib.hid (ESW.out i hi)
        clear ESW HP E1 hZ hp
        have hlen := hPW.len
        have E3 := Lib.hid (fun (a2 : Option Addr) (c2 : Nat) (V : World) (h : MatR V a2 (swapL L 0 i)) => behind_any m c2 v X a2 (swapL L 0 i) V hPW.len hPW.sq.1 hPW.sq.2 (by exact hv0) hPW.eq hPW.bdX hPW.bd h)
        have HPW := Lib.hid hPW
        have hs2 := hPW.sgn
        have ETOP := Lib.hid (fun (lo hi : Nat) (V : World) (a2 : Option Addr) (h : OwnT lo hi V a2 (swapL L 0 i)) => h.top0 hPW.len hm1 hPW.sq.2)
        rw [hPW.piv] at ETOP
        clear hlen hPW
        by_cases hi0 : i = 0
        · rw [if_pos hi0] at hs2
          subst hi0
          subst hs2
          clear E2
          have E2 := ESW0
          clear ESW0
          go_wp2_with (first
            | (go_at_call 107; refine (E2.out).mono ?_; rintro e w2 ⟨a2, c2, rfl, hsw, how⟩; obtain ⟨b3, g3, c3, rfl, t1, t2⟩ := ETOP.out _ _ _ _ how; have HO2 := Lib.hid how.matR; have HS2 := Lib.hid (HS.out.trans (since_mono hsw HS.out.size)); clear hsw how; have E4 := Lib.hid (E3.out _ c2 w2.drew (HO2.out.since (World.Since.refl _ _).drew)); have l1 : b3 < w2.heap.size := World.block_lt_of_cell? _ _ t1; have l2 : g3 < w2.heap.size := World.block_lt_of_cell? _ _ t2))
          go_region_held3 (fun w' => w'.cell? ⟨b3, 0, none⟩ = some (.slice (some ⟨g3, 0, none⟩) m c3) ∧ w'.cell? ⟨g3, 0, none⟩ = some (.int .i64 p)) (first | exact ⟨t1, t2⟩)
            (first
              | (go_at_call 108; refine (E4.out).mono ?_; rintro e w3 ⟨rfl, hs3, ho3⟩; have hs3 := since_of_drew hs3; have t1 := (hs3.cell (a := ⟨b3, 0, none⟩) l1).trans t1; have t2 := (hs3.cell (a := ⟨g3, 0, none⟩) l2).trans t2; have HO3 := Lib.hid ho3.matR; have HS3 := Lib.hid (HS2.out.trans (since_mono hs3 HS2.out.size)); clear hs3 ho3))
          go_wp2
          go_roundg (N - (k + 1))
          case measure => omega
          case rel => exact ⟨k + 1, _, _, _, _, _, rfl, by rw [HGN.out]; rfl, rfl, rfl, HS3.out, HO3.out, HPW.out.next⟩
        · rw [if_neg hi0] at hs2
          have hg0 : ((i : Int) > 0) := by omega
          clear ESW0 hi0
          have hwn : IntKind.i64.wrap (-u) = -u := IntWalk.i64_in _ ⟨by omega, by omega⟩
          subst hs2
          go_wp2_with (first
            | (go_at_call 107; refine (E2.out).mono ?_; rintro e w2 ⟨a2, c2, rfl, hsw, how⟩; obtain ⟨b3, g3, c3, rfl, t1, t2⟩ := ETOP.out _ _ _ _ how; have HO2 := Lib.hid how.matR; have HS2 := Lib.hid (HS.out.trans (since_mono hsw HS.out.size)); clear hsw how; have E4 := Lib.hid (E3.out _ c2 w2.drew (HO2.out.since (World.Since.refl _ _).drew)); have l1 : b3 < w2.heap.size := World.block_lt_of_cell? _ _ t1; have l2 : g3 < w2.heap.size := World.block_lt_of_cell? _ _ t2))
          go_region_held3 (fun w' => w'.cell? ⟨b3, 0, none⟩ = some (.slice (some ⟨g3, 0, none⟩) m c3) ∧ w'.cell? ⟨g3, 0, none⟩ = some (.int .i64 p)) (first | exact ⟨t1, t2⟩)
            (first
              | (go_at_call 108; refine (E4.out).mono ?_; rintro e w3 ⟨rfl, hs3, ho3⟩; have hs3 := since_of_drew hs3; have t1 := (hs3.cell (a := ⟨b3, 0, none⟩) l1).trans t1; have t2 := (hs3.cell (a := ⟨g3, 0, none⟩) l2).trans t2; have HO3 := Lib.hid ho3.matR; have HS3 := Lib.hid (HS2.out.trans (since_mono hs3 HS2.out.size)); clear hs3 ho3))
          go_wp2
          go_roundg (N - (k + 1))
          case measure => omega
          case rel => exact ⟨k + 1, _, _, _, _, _, rfl, by rw [HGN.out]; rfl, rfl, rfl, HS3.out, HO3.out, HPW.out.next⟩
      · have h0 := hZ.out (fun i hi => by simpa using hno i hi)
        go_wp2
        go_ret
        exact ⟨by rw [h0]; rfl, HS.out⟩
    · obtain ⟨F, hB⟩ := hP.bar
      have hkN : k = N := by have := hP.le; omega
      subst hkN
      have hd := hB.done
      have hb := dt_bd k A hN HA.out
      have hb6 : bdN k ≤ 349920000000 := by
        have h : k = 0 ∨ k = 1 ∨ k = 2 ∨ k = 3 ∨ k = 4 ∨ k = 5 ∨ k = 6 := by omega
        rcases h with h | h | h | h | h | h | h <;> (subst h; decide)
      rw [← hd] at hb
      have HD := Lib.hid hd
      have hwv : IntKind.i64.wrap (u * v) = u * v := IntWalk.i64_in _ ⟨by omega, by omega⟩
      have hz : k - k = 0 := Nat.sub_self k
      rw [hz]
      clear hB hd hb hb6 hz hP
      go_wp2
      go_ret
      exact ⟨by rw [← HD.out]; rfl, hS⟩

end Go.Proofs.Ytlgjplhffpmfpaa
end

section
namespace Go.Proofs.Ytlgjplhffpmfpaa
open Go.RowKit Go.Deep

theorem OwnT.but {lo hi rb : Nat} {w w' : World} {a : Option Addr} {l : List (List Int)} (h : OwnT lo hi w a l) (hb : rb < lo) (hg : w.grownBy w' (some rb)) : MatR w' a l := by
  intro h0
  obtain ⟨b, A, G, C, e, hbl, hr, _⟩ := h h0
  have hc : ∀ (x k : Nat) (v : Value), lo ≤ x → w.cell? ⟨x, k, none⟩ = some v → w'.cell? ⟨x, k, none⟩ = some v := fun x k v hx hv =>
    (World.cell?_of_block (a := ⟨x, k, none⟩) (hg.block x (World.block_lt_of_cell? _ _ hv) (by intro e; injection e with e; omega))).trans hv
  refine ⟨b, 0, A, C, e, fun r hrl => ?_⟩
  obtain ⟨c1, c2⟩ := hr r hrl
  rw [Nat.zero_add]
  refine ⟨hc _ _ _ hbl.1 c1, fun hp => ?_⟩
  obtain ⟨eA, hG, c3⟩ := c2 hp
  exact ⟨G r, 0, eA, fun i hi => by rw [Nat.zero_add]; exact hc _ _ _ hG.1 (c3 i hi).1⟩

theorem since_map (w : World) : w.Since w.heap.size (w.alloc (.map #[] 0)) := (World.Since.refl w.heap.size w).alloc (Nat.le_refl _) _

def mnP (l : List (List Int)) (x : Nat × Nat) : Int := dt (popcS x.1) (at2 (partL l x.1 x.2))

set_option maxRecDepth 100000 in
set_option maxHeartbeats 1000000 in
theorem minor_any (a : Option Addr) (cap n m r c : Nat) (l : List (List Int)) (w : World) (hn : l.length = n) (hmm : (l.getD 0 []).length = m) (hT : TabIn l) (hr : r < 2 ^ n) (hc : c < 2 ^ m) (hpc : popcS r = popcS c) (hm : MatR w a l) :
    Calls Try.prog 62 #[.slice a n cap, .int .i64 r, .int .i64 c] w fun e w' => e = .returned (.int .i64 (mnP l (r, c))) ∧ w.Since w.heap.size w' := by
  have h6 := hT.2.1
  have hw := hT.width
  rw [hn] at h6
  rw [hmm] at hw
  have hp6 : 2 ^ n ≤ 2 ^ 6 := Nat.pow_le_pow_right (by omega) h6
  have hp6' : 2 ^ m ≤ 2 ^ 6 := Nat.pow_le_pow_right (by omega) hw.2
  have hsq := part_sq hT (s := r) (c := c) (by rw [hn]; exact hr) (by rw [hmm]; exact hc) hpc
  have EP := part_any a cap n r c l (w.alloc (.map #[] 0)) hn hT (by omega) (by omega) (hm.since (since_map w))
  rw [hsq.1] at EP
  have EV := fun (a2 : Option Addr) (c2 : Nat) (V : World) (h : MatR V a2 (partL l r c)) => byPivots_any (popcS r) (partL l r c) a2 c2 V hsq (popcS_le r) h
  have hv : mnP l (r, c) = dt (popcS r) (at2 (partL l r c)) := rfl
  rw [hv]
  obtain ⟨L, hL⟩ : ∃ L, L = partL l r c := ⟨_, rfl⟩
  obtain ⟨k, hk⟩ : ∃ k, k = popcS r := ⟨_, rfl⟩
  simp only [← hk] at EP EV ⊢
  simp only [← hL] at EP EV ⊢
  obtain ⟨x, hx⟩ : ∃ x, x = dt k (at2 L) := ⟨_, rfl⟩
  simp only [← hx] at EV ⊢
  replace EP := Lib.hid EP
  replace EV := Lib.hid EV
  have hmk := @run_makeMap Try.prog
  clear hn hmm hT hr hc hpc hm h6 hw hp6 hp6' hsq hv hL hk hx
  go_enter Try.func62, Try.ntmps62
  go_wp2_with fail
  refine (EP.out).mono ?_
  rintro e w3 ⟨a3, c3, rfl, hs3, ho3⟩
  have HR := Lib.hid ((roads_made w).kept (grown_of_since (row := none) hs3) (by simp))
  have HS3 := Lib.hid ((since_map w).trans (since_mono hs3 (by simp)))
  have HA := Lib.hid (anyValue_of w.heap.size a3 k c3 x w3 HR.out (fun W' hg => EV.out a3 c3 W' (ho3.but (rb := w.heap.size) (by simp) hg)))
  have HSP := Lib.hid (fun (w4 : World) (hg : w3.grownBy w4 (some w.heap.size)) => (show w.Since w.heap.size w4 from ⟨hg.os.trans HS3.out.os, hg.tape.trans HS3.out.tape, hg.output.trans HS3.out.output, Nat.le_trans HS3.out.size hg.size, fun j hj => (hg.block j (Nat.lt_of_lt_of_le hj HS3.out.size) (by intro e; injection e with e; omega)).trans (HS3.out.block j hj)⟩))
  clear hs3 ho3
  go_wp2_with fail
  refine (HA.out).mono ?_
  rintro e w4 ⟨rfl, hg, hr⟩
  have HS4 := Lib.hid (HSP.out w4 hg)
  clear hg hr
  go_wp2
  go_ret
  exact ⟨rfl, HS4.out⟩

end Go.Proofs.Ytlgjplhffpmfpaa
end

section
namespace Go.Proofs.Ytlgjplhffpmfpaa
open Go.RowKit Go.Deep

def prow (k m : Nat) (r : Nat) : List (Nat × Nat) := (setsTo k (2 ^ m)).map fun c => (r, c)
def partsK (k n m : Nat) : List (Nat × Nat) := (setsTo k (2 ^ n)).flatMap (prow k m)
def partsTo (n m : Nat) : Nat → List (Nat × Nat)
  | 0 => []
  | j + 1 => partsTo n m j ++ partsK (j + 1) n m
def partsA (n m : Nat) : List (Nat × Nat) := partsTo n m (min n m)
theorem partsK_mem {k n m : Nat} {x : Nat × Nat} : x ∈ partsK k n m ↔ (x.1 < 2 ^ n ∧ popcS x.1 = k) ∧ (x.2 < 2 ^ m ∧ popcS x.2 = k) := by
  unfold partsK prow
  rw [List.mem_flatMap]
  constructor
  · rintro ⟨r, hr, hx⟩
    rw [List.mem_map] at hx
    obtain ⟨c, hc, rfl⟩ := hx
    exact ⟨(setsTo_mem k).1 hr, (setsTo_mem k).1 hc⟩
  · rintro ⟨h1, h2⟩
    exact ⟨x.1, (setsTo_mem k).2 h1, List.mem_map.2 ⟨x.2, (setsTo_mem k).2 h2, rfl⟩⟩
theorem partsTo_mem {n m : Nat} {x : Nat × Nat} : ∀ j, x ∈ partsTo n m j ↔ 1 ≤ popcS x.1 ∧ popcS x.1 ≤ j ∧ popcS x.1 = popcS x.2 ∧ x.1 < 2 ^ n ∧ x.2 < 2 ^ m
  | 0 => by
    show x ∈ [] ↔ _
    simp only [List.not_mem_nil, false_iff]
    omega
  | j + 1 => by
    show x ∈ partsTo n m j ++ partsK (j + 1) n m ↔ _
    rw [List.mem_append, partsTo_mem j, partsK_mem]
    omega
theorem popcP_fin : ∀ n : Fin 7, ∀ s : Fin 64, s.val < 2 ^ n.val → popcS s.val ≤ n.val := by decide +kernel
theorem popcP_pos_fin : ∀ s : Fin 64, s.val ≠ 0 → 1 ≤ popcS s.val := by decide +kernel
theorem popcP_le {n s : Nat} (h6 : n ≤ 6) (h : s < 2 ^ n) : popcS s ≤ n := by
  have p1 : 2 ^ n ≤ 2 ^ 6 := Nat.pow_le_pow_right (by omega) h6
  exact popcP_fin ⟨n, by omega⟩ ⟨s, by omega⟩ h
theorem popcP_pos {n s : Nat} (h6 : n ≤ 6) (h : s < 2 ^ n) (h0 : s ≠ 0) : 1 ≤ popcS s := by
  have p1 : 2 ^ n ≤ 2 ^ 6 := Nat.pow_le_pow_right (by omega) h6
  exact popcP_pos_fin ⟨s, by omega⟩ h0
theorem popcP_zero : popcS 0 = 0 := by decide
theorem partsA_mem {n m : Nat} (hn : n ≤ 6) (hm : m ≤ 6) {x : Nat × Nat} : x ∈ partsA n m ↔ x.1 ≠ 0 ∧ popcS x.1 = popcS x.2 ∧ x.1 < 2 ^ n ∧ x.2 < 2 ^ m := by
  unfold partsA
  rw [partsTo_mem]
  constructor
  · rintro ⟨h1, _, h2, h3, h4⟩
    exact ⟨fun e => by rw [e, popcP_zero] at h1; omega, h2, h3, h4⟩
  · rintro ⟨h1, h2, h3, h4⟩
    have := popcP_pos hn h3 h1
    have := popcP_le hn h3
    have := popcP_le hm h4
    exact ⟨by omega, by omega, h2, h3, h4⟩
def leastB (l : List (List Int)) (q : Int) (ps : List (Nat × Nat)) : Bool := ps.all fun x => decide (q ≤ mnP l x)
theorem leastB_snoc (l : List (List Int)) (q : Int) (ps : List (Nat × Nat)) (x : Nat × Nat) : leastB l q (ps ++ [x]) = (leastB l q ps && decide (q ≤ mnP l x)) := by
  unfold leastB; rw [List.all_append]; simp
theorem leastB_iff {l : List (List Int)} {q : Int} {ps : List (Nat × Nat)} : leastB l q ps = true ↔ ∀ x ∈ ps, q ≤ mnP l x := by
  unfold leastB; rw [List.all_eq_true]; simp
theorem leastB_no {l : List (List Int)} {q : Int} {ps : List (Nat × Nat)} {x : Nat × Nat} (hx : x ∈ ps) (h : mnP l x < q) : leastB l q ps = false := by
  cases e : leastB l q ps with
  | false => rfl
  | true => have := leastB_iff.1 e x hx; omega
def runS (f k : Nat) : Nat := (2 ^ k - 1) * 2 ^ f
theorem runS_fin : ∀ k f : Fin 7, k.val + f.val ≤ 6 → popcS (runS f.val k.val) = k.val ∧ runS f.val k.val < 2 ^ (k.val + f.val) ∧ (k.val ≠ 0 → runS f.val k.val ≠ 0) := by decide +kernel
def firstRow (m i : Nat) : List (Nat × Nat) := (List.range m).map fun k => (runS (i + 1 - (min i k + 1)) (min i k + 1), runS (k + 1 - (min i k + 1)) (min i k + 1))
def partsF (n m : Nat) : List (Nat × Nat) := (List.range n).flatMap (firstRow m)
theorem partsF_mem {n m : Nat} {x : Nat × Nat} : x ∈ partsF n m ↔ ∃ i k, i < n ∧ k < m ∧ x = (runS (i + 1 - (min i k + 1)) (min i k + 1), runS (k + 1 - (min i k + 1)) (min i k + 1)) := by
  unfold partsF firstRow
  rw [List.mem_flatMap]
  constructor
  · rintro ⟨i, hi, hx⟩
    rw [List.mem_map] at hx
    obtain ⟨k, hk, rfl⟩ := hx
    exact ⟨i, k, List.mem_range.1 hi, List.mem_range.1 hk, rfl⟩
  · rintro ⟨i, k, hi, hk, rfl⟩
    exact ⟨i, List.mem_range.2 hi, List.mem_map.2 ⟨k, List.mem_range.2 hk, rfl⟩⟩
theorem first_part {n m i k : Nat} (hn : n ≤ 6) (hm : m ≤ 6) (hi : i < n) (hk : k < m) : popcS (runS (i + 1 - (min i k + 1)) (min i k + 1)) = min i k + 1 ∧ popcS (runS (k + 1 - (min i k + 1)) (min i k + 1)) = min i k + 1 ∧ runS (i + 1 - (min i k + 1)) (min i k + 1) < 2 ^ n ∧ runS (k + 1 - (min i k + 1)) (min i k + 1) < 2 ^ m ∧ runS (i + 1 - (min i k + 1)) (min i k + 1) ≠ 0 := by
  have h1 := runS_fin ⟨min i k + 1, by omega⟩ ⟨i + 1 - (min i k + 1), by omega⟩ (by simp only; omega)
  have h2 := runS_fin ⟨min i k + 1, by omega⟩ ⟨k + 1 - (min i k + 1), by omega⟩ (by simp only; omega)
  simp only at h1 h2
  have e1 : min i k + 1 + (i + 1 - (min i k + 1)) = i + 1 := by omega
  have e2 : min i k + 1 + (k + 1 - (min i k + 1)) = k + 1 := by omega
  rw [e1] at h1
  rw [e2] at h2
  have p1 : 2 ^ (i + 1) ≤ 2 ^ n := Nat.pow_le_pow_right (by omega) (by omega)
  have p2 : 2 ^ (k + 1) ≤ 2 ^ m := Nat.pow_le_pow_right (by omega) (by omega)
  exact ⟨h1.1, h2.1, by omega, by omega, h1.2.2 (by omega)⟩
theorem partsF_ok {n m : Nat} (hn : n ≤ 6) (hm : m ≤ 6) {x : Nat × Nat} (hx : x ∈ partsF n m) : popcS x.1 = popcS x.2 ∧ x.1 < 2 ^ n ∧ x.2 < 2 ^ m ∧ x.1 ≠ 0 := by
  obtain ⟨i, k, hi, hk, rfl⟩ := partsF_mem.1 hx
  obtain ⟨h1, h2, h3, h4, h5⟩ := first_part hn hm hi hk
  exact ⟨h1.trans h2.symm, h3, h4, h5⟩
theorem partsF_len (n m : Nat) : (partsF n m).length = n * m := by
  unfold partsF firstRow
  rw [List.length_flatMap]
  simp only [List.length_map, List.length_range]
  induction n with
  | zero => simp
  | succ n ih => rw [List.range_succ, List.map_append, List.sum_append, ih, Nat.succ_mul]; simp
theorem prow_len (k m r : Nat) : (prow k m r).length ≤ 2 ^ m := by unfold prow; rw [List.length_map]; exact setsTo_len k _

end Go.Proofs.Ytlgjplhffpmfpaa
end

section
namespace Go.Proofs.Ytlgjplhffpmfpaa
open Go.RowKit Go.Deep Go.Shelf
attribute [local go_sem] Oper.semAt_some

def OldT (n₀ : Nat) (w0 W : World) : Prop := ∀ k, k < n₀ → W.heap[k]? = w0.heap[k]?
theorem OldT.cell {n₀ : Nat} {w0 W : World} (h : OldT n₀ w0 W) {a : Addr} (ha : a.block < n₀) : W.cell? a = w0.cell? a := World.cell?_of_block (h _ ha)
theorem OldT.grown {n₀ : Nat} {w0 X Y : World} {row : Option Nat} (h : OldT n₀ w0 X) (hz : n₀ ≤ X.heap.size) (hg : X.grownBy Y row) (hr : ∀ r, row = some r → n₀ ≤ r) : OldT n₀ w0 Y :=
  fun k hk => (hg.block k (by omega) (fun e => by have := hr k e.symm; omega)).trans (h k hk)
theorem OldT.keeps {n₀ : Nat} {w0 X Y : World} {own : Nat → Prop} (h : OldT n₀ w0 X) (hz : n₀ ≤ X.heap.size) (hk : Keeps own X Y) (ho : ∀ k, own k → n₀ ≤ k) : OldT n₀ w0 Y := fun k hlt => by
  have hx : k < X.heap.size := by omega
  have e := hk.same k X.heap[k] (fun o => by have := ho k o; omega) (Array.getElem?_eq_getElem hx)
  rw [e, ← h k hlt]
  exact (Array.getElem?_eq_getElem hx).symm
theorem MatR.oldT {w0 W : World} {a : Option Addr} {l : List (List Int)} (h : MatR w0 a l) (ho : OldT w0.heap.size w0 W) : MatR W a l := by
  intro h0
  obtain ⟨b, o, A, C, e, hc⟩ := h h0
  refine ⟨b, o, A, C, e, fun r hr => ?_⟩
  obtain ⟨c1, c2⟩ := hc r hr
  refine ⟨(ho.cell (World.block_lt_of_cell? _ _ c1)).trans c1, fun hp => ?_⟩
  obtain ⟨b', o', e', c3⟩ := c2 hp
  exact ⟨b', o', e', fun i hi => (ho.cell (World.block_lt_of_cell? _ _ (c3 i hi))).trans (c3 i hi)⟩
theorem Keeps.fromB {own : Nat → Prop} {A X Y : World} {row : Option Nat} (h : Keeps own A X) (hg : X.grownBy Y row) (hr : ∀ r, row = some r → A.heap.size ≤ r) : Keeps own A Y :=
  ⟨Nat.le_trans h.size hg.size, fun k o hk ho => (hg.block k (Array.getElem?_eq_some_iff.1 (h.same k o hk ho)).1 (fun e => by have := hr k e.symm; have := (Array.getElem?_eq_some_iff.1 ho).1; omega)).trans (h.same k o hk ho)⟩
theorem boxed_put {W : World} {B l : Nat} {t : TypeId} {v : Value} {o o' : Obj} (h : Boxed W B t v) (hl : W.heap[l]? = some o) (ho : o.isCells = false) : Boxed (W.putObj l o') B t v :=
  h.kept (grownBy_putObj' W l o') (fun e => by
    have e' : B = l := by injection e
    subst e'
    have h' : W.heap[B]? = _ := h
    rw [h'] at hl
    cases hl
    cases ho)

structure KB (n₀ : Nat) (w0 : World) (Bt Bk By lp : Nat) (a : Option Addr) (n cap : Nat) (k : Nat) (X : World) : Prop where
  bt : X.cell? ⟨Bt, 0, none⟩ = some (.slice a n cap)
  bk : X.cell? ⟨Bk, 0, none⟩ = some (.int .i64 (k : Int))
  yb : X.cell? ⟨By, 0, none⟩ = some (.func (.yield lp) #[] #[])
  old : OldT n₀ w0 X
theorem cell_own {X Y : World} {row : Option Nat} {b B : Nat} {v : Value} (h : X.cell? ⟨b, 0, none⟩ = some v) (hb : b < B) (hg : X.grownBy Y row) (hr : ∀ r, row = some r → B ≤ r) : Y.cell? ⟨b, 0, none⟩ = some v :=
  (World.cell?_of_block (a := ⟨b, 0, none⟩) (hg.block b (World.block_lt_of_cell? _ _ h) (fun e => by have := hr b e.symm; omega))).trans h
theorem KB.grown {n₀ : Nat} {w0 : World} {Bt Bk By lp : Nat} {a : Option Addr} {n cap k : Nat} {X Y : World} {row : Option Nat} {B : Nat} (h : KB n₀ w0 Bt Bk By lp a n cap k X) (hz : n₀ ≤ X.heap.size) (h1 : n₀ ≤ B ∧ Bt < B ∧ Bk < B ∧ By < B) (hg : X.grownBy Y row) (hr : ∀ r, row = some r → B ≤ r) : KB n₀ w0 Bt Bk By lp a n cap k Y :=
  ⟨cell_own h.bt h1.2.1 hg hr, cell_own h.bk h1.2.2.1 hg hr, cell_own h.yb h1.2.2.2 hg hr, h.old.grown hz hg (fun r e => by have := hr r e; omega)⟩
theorem KB.keeps {n₀ : Nat} {w0 : World} {Bt Bk By lp : Nat} {a : Option Addr} {n cap k : Nat} {X Y : World} {own : Nat → Prop} (h : KB n₀ w0 Bt Bk By lp a n cap k X) (hz : n₀ ≤ X.heap.size) (hk : Keeps own X Y) (ho : ∀ q, own q → n₀ ≤ q ∧ q ≠ Bt ∧ q ≠ Bk ∧ q ≠ By) : KB n₀ w0 Bt Bk By lp a n cap k Y :=
  ⟨hk.cell (a := ⟨Bt, 0, none⟩) (fun e => (ho _ e).2.1 rfl) h.bt, hk.cell (a := ⟨Bk, 0, none⟩) (fun e => (ho _ e).2.2.1 rfl) h.bk, hk.cell (a := ⟨By, 0, none⟩) (fun e => (ho _ e).2.2.2 rfl) h.yb, h.old.keeps hz hk (fun q e => (ho q e).1)⟩

theorem grown_drewP {a b : World} {row : Option Nat} (h : a.grownBy b row) : a.grownBy b.drew row := ⟨h.os, h.tape, h.output, h.size, h.block⟩
def encP (x : Nat × Nat) : Array Value := #[.int .i64 (x.1 : Int), .int .i64 (x.2 : Int)]

theorem kthParts_in (f : Nat) (a : Option Addr) (n cap : Nat) (k : Int) (w : World) :
    CallsIn Fence.wide f Try.prog 86 #[.slice a n cap, .int .i64 k] w fun e w' => e = .returned (.func (.func 93) #[] #[.pointer (some ⟨w.heap.size, 0, none⟩), .pointer (some ⟨w.heap.size + 1, 0, none⟩)]) ∧ w' = (w.alloc (.cells #[.slice a n cap] 42)).alloc (.cells #[.int .i64 k] 3) := by
  refine callsIn_of_wp Try.func86 rfl trivial ?_ rfl
  simp only [Try.ntmps86, List.size_toArray, List.length_cons, List.length_nil, Nat.reduceAdd, Nat.reduceSub, Array.replicate_succ, Array.replicate_zero, List.push_toArray, List.append_toArray, List.nil_append, List.cons_append]
  gi_wp2
  go_ret
  exact ⟨rfl, by simp⟩

theorem flat_len (k m : Nat) (hm : m ≤ 6) : ∀ rs : List Nat, (rs.flatMap (prow k m)).length ≤ rs.length * 64
  | [] => by simp
  | r :: rs => by
    have h1 := flat_len k m hm rs
    have h2 := prow_len k m r
    have p : 2 ^ m ≤ 2 ^ 6 := Nat.pow_le_pow_right (by omega) hm
    rw [List.flatMap_cons, List.length_append, List.length_cons, Nat.succ_mul]
    omega
theorem flat_snoc (k m : Nat) (rs : List Nat) (r : Nat) : (rs ++ [r]).flatMap (prow k m) = rs.flatMap (prow k m) ++ prow k m r := by simp

set_option maxRecDepth 100000 in
set_option maxHeartbeats 2000000 in
theorem kth_seqE (f : Nat) (hf : 12 ≤ f) (Bt Bk n m cap k : Nat) (a : Option Addr) (l : List (List Int)) (w0 w : World) (hn : l.length = n) (hT : TabIn l) (hmm : (l.getD 0 []).length = m) (hm : MatR w0 a l) (hold : OldT w0.heap.size w0 w) (_hz0 : w0.heap.size ≤ w.heap.size) (hBt : w0.heap.size ≤ Bt) (hBk : w0.heap.size ≤ Bk) (ct : w.cell? ⟨Bt, 0, none⟩ = some (.slice a n cap)) (ck : w.cell? ⟨Bk, 0, none⟩ = some (.int .i64 (k : Int))) :
    SeqE Fence.wide f Try.prog 93 #[.pointer (some ⟨Bt, 0, none⟩), .pointer (some ⟨Bk, 0, none⟩)] encP (fun x _ => x ∈ partsK k n m) (fun q => q < w0.heap.size ∨ q = Bt ∨ q = Bk) (fun ys => ys = partsK k n m) (fun _ => True) 4096 w := by
  intro lp J Jx own W hW hown hJ hJx hY hj
  have h6 := hT.2.1
  have h1 := hT.1
  have hw := hT.width
  rw [hn] at h6 h1
  rw [hmm] at hw
  have lt := World.block_lt_of_cell? _ _ ct
  have lk := World.block_lt_of_cell? _ _ ck
  simp only at lt lk
  have c1 := (hW.cell (p := ⟨Bt, 0, none⟩) lt).trans ct
  have c2 := (hW.cell (p := ⟨Bk, 0, none⟩) lk).trans ck
  have hWz := hW.size
  have hOW : OldT w0.heap.size w0 W := fun q hq => (hW.block q (by omega)).trans (hold q hq)
  have hso : ∀ q, own q → w0.heap.size ≤ q ∧ q ≠ Bt ∧ q ≠ Bk ∧ q < W.heap.size := fun q hq => by
    obtain ⟨g1, g2⟩ := hown q hq
    exact ⟨by
      by_cases e : q < w0.heap.size
      · exact absurd (.inl e) g2
      · omega, fun e => g2 (.inr (.inl e)), fun e => g2 (.inr (.inr e)), g1⟩
  have EW := fun (V : World) (h : OldT w0.heap.size w0 V) => width_any a cap n l V hn (by omega) (by omega) (hm.oldT h)
  rw [hmm] at EW
  replace EW := Lib.hid EW
  have p6 : 2 ^ n ≤ 2 ^ 6 := Nat.pow_le_pow_right (by omega) h6
  have p6' : 2 ^ m ≤ 2 ^ 6 := Nat.pow_le_pow_right (by omega) hw.2
  clear hold ct ck hm hmm hT
  refine callsIn_of_wp_marks Try.func93 rfl trivial ?_ rfl
  simp only [Try.ntmps93, List.size_toArray, List.length_cons, List.length_nil, Nat.reduceAdd, Nat.reduceSub, Array.replicate_succ, Array.replicate_zero, List.push_toArray, List.append_toArray, List.nil_append, List.cons_append]
  have c1 : (W.alloc (.cells #[.func (.yield lp) #[] #[]] 89)).cell? ⟨Bt, 0, none⟩ = _ := cell_alloc_l _ c1
  have c2 : (W.alloc (.cells #[.func (.yield lp) #[] #[]] 89)).cell? ⟨Bk, 0, none⟩ = _ := cell_alloc_l _ c2
  have y0 : (W.alloc (.cells #[.func (.yield lp) #[] #[]] 89)).cell? ⟨W.heap.size, 0, none⟩ = _ := (cell_new_l W _ _).1
  gi_wp2_with (refine ⟨trivial, fun _ => by omega, ?_⟩; gi_at_call 94; refine (sets_in _ _ _ _).mono ?_; rintro e w' ⟨rfl, rfl⟩)
  have hbn := (cell_new_l (W.alloc (.cells #[.func (.yield lp) #[] #[]] 89)) (.int .i64 n) 3).1
  have c3 := cell_alloc_l (.cells #[.int .i64 (k : Int)] 3) (cell_alloc_l (.cells #[.int .i64 (n : Int)] 3) c1)
  have c4 := cell_alloc_l (.cells #[.int .i64 (k : Int)] 3) (cell_alloc_l (.cells #[.int .i64 (n : Int)] 3) c2)
  have y3 := cell_alloc_l (.cells #[.int .i64 (k : Int)] 3) (cell_alloc_l (.cells #[.int .i64 (n : Int)] 3) y0)
  have hbn := cell_alloc_l (.cells #[.int .i64 (k : Int)] 3) hbn
  have hbk := (cell_new_l ((W.alloc (.cells #[.func (.yield lp) #[] #[]] 89)).alloc (.cells #[.int .i64 (n : Int)] 3)) (.int .i64 (k : Int)) 3).1
  have hg2 := ((World.grownBy_alloc W (.cells #[.func (.yield lp) #[] #[]] 89) none).trans (World.grownBy_alloc _ (.cells #[.int .i64 (n : Int)] 3) none)).trans (World.grownBy_alloc _ (.cells #[.int .i64 (k : Int)] 3) none)
  have hjV := hJ.alloc (.cells #[.int .i64 (k : Int)] 3) (hJ.alloc (.cells #[.int .i64 (n : Int)] 3) (hJ.alloc (.cells #[.func (.yield lp) #[] #[]] 89) hj))
  have zV : (((W.alloc (.cells #[.func (.yield lp) #[] #[]] 89)).alloc (.cells #[.int .i64 (n : Int)] 3)).alloc (.cells #[.int .i64 (k : Int)] 3)).heap.size = W.heap.size + 3 := by simp
  simp only [World.size_alloc] at hbn hbk
  obtain ⟨V, hV⟩ : ∃ V, ((W.alloc (.cells #[.func (.yield lp) #[] #[]] 89)).alloc (.cells #[.int .i64 (n : Int)] 3)).alloc (.cells #[.int .i64 (k : Int)] 3) = V := ⟨_, rfl⟩
  rw [hV] at hbn hbk c3 c4 y3 hg2 hjV zV ⊢
  clear hV c1 c2 y0
  have hKV : KB w0.heap.size w0 Bt Bk W.heap.size lp a n cap k V := ⟨c3, c4, y3, hOW.grown (by omega) hg2 (fun r e => by cases e)⟩
  have hB : ∀ X : World, V.heap.size ≤ X.heap.size → w0.heap.size ≤ X.heap.size := fun X h => by omega
  have hBB : w0.heap.size ≤ V.heap.size ∧ Bt < V.heap.size ∧ Bk < V.heap.size ∧ W.heap.size < V.heap.size := by omega
  have hso4 : ∀ q, own q → w0.heap.size ≤ q ∧ q ≠ Bt ∧ q ≠ Bk ∧ q ≠ W.heap.size := fun q hq => by have := hso q hq; omega
  refine rangeF (F := Fence.wide) (n := f) rfl (by omega) (gf := 100) (lb := #[.pointer (some ⟨W.heap.size + 1, 0, none⟩), .pointer (some ⟨W.heap.size + 1 + 1, 0, none⟩)]) rfl trivial (enters_of Try.func100 (by kernel_rfl) rfl)
    (sets_seqE (f - 1) (by omega) (W.heap.size + 1) (W.heap.size + 1 + 1) n k (2 ^ n) h6 rfl V (by omega) (by omega) hbn hbk) (fun _ => rfl) own (fun q hq => ⟨by have := hso q hq; omega, by have := hso q hq; omega⟩) (by rintro q (rfl | rfl) <;> omega)
    (fun (rs : List Nat) X => J (rs.flatMap (prow k m)) X ∧ KB w0.heap.size w0 Bt Bk W.heap.size lp a n cap k X ∧ V.heap.size ≤ X.heap.size)
    (fun c _ X => c = .ret ∧ ∃ q, Jx q X)
    (fun rs X Y row hs hg hr => ⟨hJ _ X Y row hs.1 hg (fun r e => by have := hr r e; omega), hs.2.1.grown (hB _ hs.2.2) hBB hg hr, Nat.le_trans hs.2.2 hg.size⟩)
    (fun c rs X Y row hs hg hr => ⟨hs.1, by
      obtain ⟨q, hq⟩ := hs.2
      exact ⟨q, hJx _ X Y row hq hg (fun r e => by have := hr r e; omega)⟩⟩)
    ⟨hjV, hKV, Nat.le_refl _⟩
    (fun x a' X => ∃ Bx, V.heap.size ≤ Bx ∧ Boxed X Bx 3 (.int .i64 (x : Int)) ∧ a' = { tmps := #[.func (.yield lp) #[] #[], .pointer (some ⟨Bt, 0, none⟩), .pointer (some ⟨Bk, 0, none⟩), .pointer (some ⟨W.heap.size, 0, none⟩), .pointer (some ⟨Bx, 0, none⟩), undef, .slice a n cap, .int .i64 n, .int .i64 k, .func (.func 100) #[] #[.pointer (some ⟨W.heap.size + 1, 0, none⟩), .pointer (some ⟨W.heap.size + 1 + 1, 0, none⟩)], .int .i64 (x : Int), undef, undef, undef, undef, undef, undef, undef, undef, undef, undef], defers := [] })
    (fun x a' X lq o o' hA hl ho => by obtain ⟨Bx, e1, e2, e3⟩ := hA; exact ⟨Bx, e1, boxed_put e2 hl ho, e3⟩)
    ?assign ?body ?done ?stop
  case assign =>
    rintro lq rs x X K hzX hi _ hK
    gi_wp2
    exact hK _ _ (Keeps.grown (World.grownBy_alloc _ _ none) (fun r e => by cases e)) ⟨hJ.alloc _ hi.1, hi.2.1.grown (hB _ hi.2.2) hBB (World.grownBy_alloc _ _ none) (fun r e => by cases e), by rw [World.size_alloc]; have := hi.2.2; omega⟩ ⟨X.heap.size, hi.2.2, Boxed.new X 3 _, rfl⟩
  case body =>
    rintro lq rs x a' X hlq hzX ⟨r, hr⟩ ⟨hjx, hKX, _⟩ ⟨hxl, hxk⟩ ⟨Bx, hBx, bX, rfl⟩ hlen
    have hmix : Try.prog.follows .mixedOrders = true := by kernel_rfl
    have cT : X.drew.cell? ⟨Bt, 0, none⟩ = _ := hKX.bt
    have cK : X.drew.cell? ⟨Bk, 0, none⟩ = _ := hKX.bk
    have hbx := bX.lt
    have HKX := Lib.hid hKX
    gi_wp2
    gi_region_with_o (first
      | (refine ⟨trivial, fun _ => by omega, ?_⟩; gi_at_call 38; refine (CallsIn.inRound lq (callsIn_wide.2 (EW.out X.drew HKX.out.old))).mono ?_; rintro e w' ⟨rfl, rfl⟩)
      | (refine ⟨trivial, fun _ => by omega, ?_⟩; gi_at_call 94; refine (CallsIn.inRound lq (sets_in _ _ _ _)).mono ?_; rintro e w' ⟨rfl, rfl⟩))
    all_goals
      gi_wp2
      have hgV : X.grownBy ((X.alloc (.cells #[.int .i64 (m : Int)] 3)).alloc (.cells #[.int .i64 (k : Int)] 3)).drew none := grown_drewP ((World.grownBy_alloc X (.cells #[.int .i64 (m : Int)] 3) none).trans (World.grownBy_alloc _ (.cells #[.int .i64 (k : Int)] 3) none))
      have bN2 : ((X.alloc (.cells #[.int .i64 (m : Int)] 3)).alloc (.cells #[.int .i64 (k : Int)] 3)).drew.cell? ⟨X.heap.size, 0, none⟩ = some (.int .i64 (m : Int)) := cell_alloc_l (.cells #[.int .i64 (k : Int)] 3) (cell_new_l X (.int .i64 (m : Int)) 3).1
      have bK2 : ((X.alloc (.cells #[.int .i64 (m : Int)] 3)).alloc (.cells #[.int .i64 (k : Int)] 3)).drew.cell? ⟨X.heap.size + 1, 0, none⟩ = some (.int .i64 (k : Int)) := by
        have := (cell_new_l (X.alloc (.cells #[.int .i64 (m : Int)] 3)) (.int .i64 (k : Int)) 3).1
        rw [World.size_alloc] at this
        exact this
      have zX : ((X.alloc (.cells #[.int .i64 (m : Int)] 3)).alloc (.cells #[.int .i64 (k : Int)] 3)).drew.heap.size = X.heap.size + 2 := by
        show ((X.alloc (.cells #[.int .i64 (m : Int)] 3)).alloc (.cells #[.int .i64 (k : Int)] 3)).heap.size = _
        simp
      obtain ⟨U, hU⟩ : ∃ U, ((X.alloc (.cells #[.int .i64 (m : Int)] 3)).alloc (.cells #[.int .i64 (k : Int)] 3)).drew = U := ⟨_, rfl⟩
      rw [hU] at bN2 bK2 hgV zX ⊢
      clear hU cT cK
      have hrU : U.heap[lq]? = some (.loop r) := (hgV.block lq (Array.getElem?_eq_some_iff.1 hr).1 (by simp)).trans hr
      have hKU := hKX.grown (hB _ hzX) hBB hgV (fun r e => by cases e)
      have hBU : w0.heap.size ≤ U.heap.size ∧ Bt < U.heap.size ∧ Bk < U.heap.size ∧ W.heap.size < U.heap.size := by omega
      have hfl := flat_len k m hw.2 rs
      refine rangeN (F := Fence.wide.inRound lq) (n := f - 1 - 1) (l₀ := lq) (r₀ := r) rfl hrU (by omega) (gf := 100) (lb := #[.pointer (some ⟨X.heap.size, 0, none⟩), .pointer (some ⟨X.heap.size + 1, 0, none⟩)]) rfl trivial (enters_of Try.func100 (by kernel_rfl) rfl)
        (SeqE.inRound lq (sets_seqE (f - 1 - 1 - 1) (by omega) X.heap.size (X.heap.size + 1) m k (2 ^ m) hw.2 rfl U (by omega) (by omega) bN2 bK2)) (fun _ => rfl) own (fun q hq => ⟨by have := hso q hq; omega, by have := hso q hq; omega⟩) (by rintro q (rfl | rfl) <;> omega)
        (fun (cs : List Nat) Y => (J (rs.flatMap (prow k m) ++ cs.map (fun c => (x, c))) Y ∧ KB w0.heap.size w0 Bt Bk W.heap.size lp a n cap k Y ∧ Boxed Y Bx 3 (.int .i64 (x : Int))) ∧ Keeps own X Y ∧ U.heap.size ≤ Y.heap.size)
        (fun c _ Y => c = .ret ∧ (∃ q, Jx q Y) ∧ Keeps own X Y)
        (fun cs Y Z row hs hg hr => ⟨⟨hJ _ Y Z row hs.1.1 hg (fun r e => by have := hr r e; omega), hs.1.2.1.grown (by have := hs.2.2; omega) hBU hg hr, hs.1.2.2.kept hg (fun e => by have := hr _ e.symm; omega)⟩, hs.2.1.fromB hg (fun r e => by have := hr r e; omega), Nat.le_trans hs.2.2 hg.size⟩)
        (fun c cs Y Z row hs hg hr => ⟨hs.1, by
          obtain ⟨q, hq⟩ := hs.2.1
          exact ⟨q, hJx _ Y Z row hq hg (fun r e => by have := hr r e; omega)⟩, hs.2.2.fromB hg (fun r e => by have := hr r e; omega)⟩)
        ⟨⟨by rw [List.map_nil, List.append_nil]; exact hJ _ X U none hjx hgV (fun r e => by cases e), hKU, bX.kept hgV (by simp)⟩, Keeps.grown hgV (fun r e => by cases e), Nat.le_refl _⟩
        (fun y a'' _ => a'' = { tmps := #[.func (.yield lp) #[] #[], .pointer (some ⟨Bt, 0, none⟩), .pointer (some ⟨Bk, 0, none⟩), .pointer (some ⟨W.heap.size, 0, none⟩), .pointer (some ⟨Bx, 0, none⟩), .int .i64 (y : Int), .slice a n cap, .int .i64 n, .int .i64 k, .func (.func 100) #[] #[.pointer (some ⟨W.heap.size + 1, 0, none⟩), .pointer (some ⟨W.heap.size + 1 + 1, 0, none⟩)], .int .i64 (x : Int), .slice a n cap, .int .i64 m, .int .i64 k, .func (.func 100) #[] #[.pointer (some ⟨X.heap.size, 0, none⟩), .pointer (some ⟨X.heap.size + 1, 0, none⟩)], .int .i64 (y : Int), undef, undef, undef, undef, undef], defers := [] })
        (fun _ _ _ _ _ _ hA _ _ => hA)
        ?assign2 ?body2 ?done2 ?stop2
      case assign2 =>
        rintro l3 cs y Y K _ hi _ hK
        gi_wp2
        exact hK _ _ (Keeps.refl _ _) hi rfl
      case body2 =>
        rintro l3 cs y a'' Y hl3 hzY _ ⟨⟨hjy, hKY, bY⟩, hkY, _⟩ ⟨hyl, hyk⟩ rfl hlen2
        have cX := bY.cell
        have cY := hKY.yb
        have hl4 : (rs.flatMap (prow k m) ++ cs.map (fun c => (x, c))).length < 4096 := by
          rw [List.length_append, List.length_map]
          have : rs.length * 64 ≤ 63 * 64 := Nat.mul_le_mul_right 64 (by omega)
          omega
        obtain ⟨fn, tmps, assign, body, hy, hR⟩ := yieldAt_any (m' := f - 1 - 1 - 1 - 1 - 1) (hY _ (x, y) Y hjy (partsK_mem.2 ⟨⟨hxl, hxk⟩, hyl, hyk⟩) hl4)
        dsimp only [encP] at hy
        have HKEEP := Lib.hid (show ∀ Z, Keeps own Y Z → Keeps own X Z ∧ KB w0.heap.size w0 Bt Bk W.heap.size lp a n cap k Z ∧ Boxed Z Bx 3 (.int .i64 (x : Int)) ∧ U.heap.size ≤ Z.heap.size from fun Z hk =>
          ⟨hkY.trans hk, hKY.keeps (by omega) hk hso4, hk.same _ _ (fun h => by have := hso _ h; omega) bY, by have := hk.size; omega⟩)
        clear hjy hKY bY hkY
        gi_wp2
        refine ⟨fun h => by omega, ?_⟩
        refine RoundIn.mono (F := (Fence.wide.inRound lq).inRound l3) hR ?_
        rintro e W3 (⟨rfl, hJ3, hk3⟩ | ⟨rfl, hx3, hk3⟩)
        · obtain ⟨q1, q2, q3, q4⟩ := HKEEP.out _ hk3
          gi_wp2
          exact ⟨hk3, ⟨⟨by rw [List.map_append, ← List.append_assoc]; exact hJ3, q2, q3⟩, q1, q4⟩⟩
        · obtain ⟨q1, q2, q3, q4⟩ := HKEEP.out _ hk3
          gi_wp2
          exact ⟨hk3, rfl, ⟨_, hx3⟩, q1⟩
      case done2 =>
        rintro cs Y rfl ⟨⟨hjy, hKY, bY⟩, hkY, hzY⟩
        gi_wp2
        exact ⟨hkY, by rw [flat_snoc]; exact hjy, hKY, by omega⟩
      case stop2 =>
        rintro c cs Y _ ⟨rfl, hq, hkY⟩
        gi_wp2
        exact ⟨hkY, rfl, hq⟩
  case done =>
    rintro D rs X hD hS ⟨hjx, _, _⟩ hK
    subst hS
    have hjz := hJ.put (.deferred none) hjx (show W.heap.size ≤ D by omega)
    gi_wp2
    show LeavesInM _ _ _ _ _ _ _ _ _
    refine ⟨by simp, .inl ⟨_, _, rfl, run_takeDeferred hK, ?_⟩⟩
    refine ⟨.tuple #[], ?_, ⟨_, rfl⟩, .inl ⟨_, rfl, hjz⟩⟩
    simp [results, Try.f93, go_sem]
  case stop =>
    rintro D c rs X hD _ ⟨rfl, q, hq⟩ hK
    have hjz := hJx.put (.deferred none) hq (show W.heap.size ≤ D by omega)
    gi_wp2
    show LeavesInM _ _ _ _ _ _ _ _ _
    refine ⟨by simp, .inl ⟨_, _, rfl, run_takeDeferred hK, ?_⟩⟩
    refine ⟨.tuple #[], ?_, ⟨_, rfl⟩, .inr ⟨q, trivial, hjz⟩⟩
    simp [results, Try.f93, go_sem]

end Go.Proofs.Ytlgjplhffpmfpaa
end

/- The contract of spec.l91Table. -/
import Derived.Test.YtbclpbgomkfabaaDraw1
import Derived.Deep.RegionHeld3
namespace Go.Proofs.Ytbclpbgomkfabaa
open Go.RowKit Go.Deep

theorem RW.set' {B : Nat} {w : World} {g cap k m : Nat} {x : List Int} (hm : x.length = m) (h : RW B w (.slice (some ⟨g, 0, none⟩) m cap) x) (hk : k < m) (y : Int) : RW B (w.setCell ⟨g, k, none⟩ (.int .i64 y)) (.slice (some ⟨g, 0, none⟩) m cap) (x.set k y) := by
  subst hm; exact h.set hk y
theorem RW.rowB {B : Nat} {w : World} {g k cap : Nat} {x : List Int} (h : RW B w (.slice (some ⟨g, 0, none⟩) k cap) x) (h0 : 0 < x.length) : B ≤ g ∧ RowB w g x := by
  obtain ⟨g', cap', e, h1, h2⟩ := h.form h0
  injection e with e
  injection e with e
  injection e with e
  subst e
  exact ⟨h1, h2⟩
theorem grown_set_any (w : World) (g k : Nat) (v : Value) : w.grownBy (w.setCell ⟨g, k, none⟩ v) (some g) := ⟨rfl, rfl, rfl, by simp, fun i _ hi => Below.heap_setCell _ _ _ _ (fun e => hi (by rw [e]))⟩
theorem grown_undrew' {W w' : World} {row : Option Nat} (h : W.drew.grownBy w' row) : W.grownBy w' row := ⟨h.os, h.tape, h.output, h.size, h.block⟩
theorem lens_snoc {l : List (List Int)} {x : List Int} {r m : Nat} (hl : l.length = r) (h : ∀ j, j < r → (l.getD j []).length = m) (hx : x.length = m) : ∀ j, j < r + 1 → ((l ++ [x]).getD j []).length = m := by
  intro j hj
  by_cases e : j = r
  · subst e; subst hl; simpa [List.getD] using hx
  · rw [show (l ++ [x]).getD j [] = l.getD j [] by simp [List.getD, List.getElem?_append_left (show j < l.length by omega)]]
    exact h j (by omega)

set_option maxRecDepth 100000 in
set_option maxHeartbeats 8000000 in
theorem l91Table_any (w0 w : World) (G nb c p n m : Nat) (a : Option Addr) (h : RD w0 w G a nb c 103 p) (hn : n ≤ 10) (hm1 : 1 ≤ m) (hm : m ≤ 10) (hp : p ≤ 50000) :
    Calls Try.prog 136 #[.pointer (some ⟨G, 0, none⟩), .int .i64 n, .int .i64 m] w fun e w' => ∃ v l A C p', e = .returned v ∧ l.length = n ∧ (∀ j, j < n → (l.getD j []).length = m) ∧ w.grownBy w' (some G) ∧ RD w0 w' G a nb c 103 p' ∧ p' ≤ p + 500 ∧ BD w.heap.size w' v l A C := by
  obtain ⟨i42, hi42⟩ := info42_parts
  obtain ⟨i3, hi3⟩ := info3_parts
  have HI := Lib.hid hi42
  have HJ := Lib.hid hi3
  have hG := h.lt
  have HRD := Lib.hid h
  clear h hi42 hi3
  go_enter Try.func136, Try.ntmps136
  go_wp2_with fail
  refine (pick_any w0 _ G nb c _ a _ (HRD.out.grown (World.grownBy_alloc w _ none) (fun k e => by cases e)) (by omega)).mono ?_
  rintro e w1 ⟨κ, rfl, hκ, hg, hd⟩
  have hk : κ = 0 ∨ κ = 1 ∨ κ = 2 ∨ κ = 3 := by omega
  have HST := Lib.hid ((BD.start w (fun _ => none) (fun _ => 0) (Nat.le_refl _)).kept hg hG)
  have HG1 := Lib.hid (grown_trans (World.grownBy_alloc w _ _) hg)
  have HD1 := Lib.hid hd
  clear hg hd hκ HRD
  go_wp2
  go_loopg [7, 9, 10, 11, 12, 13] n (fun g v i _ _ _ _ wr => ∃ r A C p' l, r ≤ n ∧ g = n - r ∧ i = .int .i64 (r : Nat) ∧ List.length l = r ∧ (∀ j, j < r → (List.getD l j []).length = m) ∧ w.grownBy wr (some G) ∧ RD w0 wr G a nb c 103 p' ∧ p' ≤ p + 1 + 40 * r ∧ BD w.heap.size wr v l A C)
  case atStart => exact ⟨0, _, _, _, [], Nat.zero_le _, rfl, rfl, rfl, fun j hj => by omega, HG1.out, HD1.out, by omega, HST.out⟩
  case round =>
    obtain ⟨r, A, C, p', l, hr, rfl, rfl, hl, hlm, hgw, hd, hp', hB⟩ := hrel
    clear HST HG1 HD1
    by_cases hlt : r < n
    · have HB := Lib.hid hB
      have HGW := Lib.hid hgw
      have HD := Lib.hid hd
      have hzw := hgw.size
      obtain ⟨wo, hwo⟩ : ∃ wo : World, wo = wr := ⟨_, rfl⟩
      clear hB hgw hd
      go_wp2
      subst hwo
      go_loopg [10, 11, 12] m (fun g v k _ wi => ∃ q x p'', q ≤ m ∧ g = m - q ∧ k = .int .i64 (q : Nat) ∧ List.length x = q ∧ wo.grownBy wi (some G) ∧ RD w0 wi G a nb c 103 p'' ∧ p'' ≤ p' + 2 * q ∧ RW wo.heap.size wi v x)
      case atStart => exact ⟨0, [], p', Nat.zero_le _, rfl, rfl, rfl, World.grownBy_alloc _ _ _, HD.out.grown (World.grownBy_alloc _ _ none) (fun k e => by cases e), by omega, World.ownsRow_made wo #[] 0 (Nat.le_refl _) (Nat.zero_le _) rfl⟩
      case round =>
        obtain ⟨q, x, p'', hq, rfl, rfl, hxl, hgi, hdi, hp'', hW⟩ := hrel
        clear HD
        have HD := Lib.hid hdi
        have HG := Lib.hid hgi
        have HW := Lib.hid hW
        have hz1 := hgi.size
        clear hdi hgi hW
        by_cases hlq : q < m
        · rcases hk with rfl | rfl | rfl | rfl
          all_goals
            go_wp2_with (first
              | (go_at_call 57; refine (pick_any w0 _ G nb c _ a _ HD.out (by omega)).mono ?_; rintro e w2 ⟨y, rfl, _, hg, hd⟩; have HW := Lib.hid (HW.out.kept hg (by omega)); have HG := Lib.hid (grown_trans HG.out hg); have HD := Lib.hid hd; have hz2 := HG.out.size; clear hd hg)
              | (at_builtin; (refine wpList_append_int _ rfl (.tmp 42) (.tmp 44) 43 rfl wo.heap.size i3 Try.underlying43 HJ.out.1 HJ.out.2.1 HJ.out.2.2.1 HJ.out.2.2.2 _ x rfl HW.out _ rfl (by omega) (by omega) ?_); intro v' w3 hrw hgr; have hge := fun i e => (World.ownsRow.lt HW.out i e).1; have HD := Lib.hid (HD.out.grown hgr (fun i e => by have := hge i e; omega)); have HG := Lib.hid (grown_new HG.out hgr hge); have HW := Lib.hid hrw; clear hgr hrw hge))
            go_roundg (m - (q + 1))
            case measure => omega
            case rel => exact ⟨q + 1, x ++ [_], _, by omega, rfl, by go_num, by rw [List.length_append, hxl]; rfl, HG.out, HD.out, by omega, HW.out⟩
        · have hqm : m = q := by omega
          subst hqm
          obtain ⟨g1, cp1, hv, hge, hrb⟩ := HW.out.form (by omega)
          rw [hxl] at hv
          subst hv
          clear hrb
          rcases hk with rfl | rfl | rfl | rfl
          · go_wp2_with (first
              | (at_builtin; (refine wpList_append_row _ rfl (.tmp 77) (.tmp 79) 31 rfl w.heap.size wo.heap.size i42 Try.underlying31 HI.out.1 HI.out.2.1 HI.out.2.2.1 HI.out.2.2.2 _ l A C rfl (HB.out.kept HG.out hG) g1 cp1 m x hxl (by omega) HW.out (HB.out.fresh rfl hge) hzw rfl (by omega) (by omega) ?_); intro v' w3 A' C' hbd hgr; have hbge := fun i e => (World.ownsRow.lt (HB.out.kept HG.out hG).own i e).1; have HD := Lib.hid (HD.out.grown hgr (fun i e => by have := hbge i e; omega)); have HGG := Lib.hid (grown_new (grown_trans HGW.out HG.out) hgr hbge); have HBD := Lib.hid hbd; clear hgr hbd hbge))
            go_roundg (n - (r + 1))
            case measure => omega
            case rel => exact ⟨r + 1, A', C', _, l ++ [x], by omega, rfl, by go_num, by rw [List.length_append, hl]; rfl, lens_snoc hl hlm hxl, HGG.out, HD.out, by omega, HBD.out⟩
          · go_wp2_with (first
              | (at_builtin; (refine wpList_append_row _ rfl (.tmp 77) (.tmp 79) 31 rfl w.heap.size wo.heap.size i42 Try.underlying31 HI.out.1 HI.out.2.1 HI.out.2.2.1 HI.out.2.2.2 _ l A C rfl (HB.out.kept HG.out hG) g1 cp1 m x hxl (by omega) HW.out (HB.out.fresh rfl hge) hzw rfl (by omega) (by omega) ?_); intro v' w3 A' C' hbd hgr; have hbge := fun i e => (World.ownsRow.lt (HB.out.kept HG.out hG).own i e).1; have HD := Lib.hid (HD.out.grown hgr (fun i e => by have := hbge i e; omega)); have HGG := Lib.hid (grown_new (grown_trans HGW.out HG.out) hgr hbge); have HBD := Lib.hid hbd; clear hgr hbd hbge))
            go_roundg (n - (r + 1))
            case measure => omega
            case rel => exact ⟨r + 1, A', C', _, l ++ [x], by omega, rfl, by go_num, by rw [List.length_append, hl]; rfl, lens_snoc hl hlm hxl, HGG.out, HD.out, by omega, HBD.out⟩
          · go_wp2_with (first
              | (at_builtin; (refine wpList_append_row _ rfl (.tmp 77) (.tmp 79) 31 rfl w.heap.size wo.heap.size i42 Try.underlying31 HI.out.1 HI.out.2.1 HI.out.2.2.1 HI.out.2.2.2 _ l A C rfl (HB.out.kept HG.out hG) g1 cp1 m x hxl (by omega) HW.out (HB.out.fresh rfl hge) hzw rfl (by omega) (by omega) ?_); intro v' w3 A' C' hbd hgr; have hbge := fun i e => (World.ownsRow.lt (HB.out.kept HG.out hG).own i e).1; have HD := Lib.hid (HD.out.grown hgr (fun i e => by have := hbge i e; omega)); have HGG := Lib.hid (grown_new (grown_trans HGW.out HG.out) hgr hbge); have HBD := Lib.hid hbd; clear hgr hbd hbge))
            go_roundg (n - (r + 1))
            case measure => omega
            case rel => exact ⟨r + 1, A', C', _, l ++ [x], by omega, rfl, by go_num, by rw [List.length_append, hl]; rfl, lens_snoc hl hlm hxl, HGG.out, HD.out, by omega, HBD.out⟩
          · by_cases hr0 : r = 0
            · have hr0' : decide ((0 : Int) < (r : Int)) = false := by simp; omega
              go_wp2_with (first
                | (at_builtin; (refine wpList_append_row _ rfl (.tmp 77) (.tmp 79) 31 rfl w.heap.size wo.heap.size i42 Try.underlying31 HI.out.1 HI.out.2.1 HI.out.2.2.1 HI.out.2.2.2 _ l A C rfl (HB.out.kept HG.out hG) g1 cp1 m x hxl (by omega) HW.out (HB.out.fresh rfl hge) hzw rfl (by omega) (by omega) ?_); intro v' w3 A' C' hbd hgr; have hbge := fun i e => (World.ownsRow.lt (HB.out.kept HG.out hG).own i e).1; have HD := Lib.hid (HD.out.grown hgr (fun i e => by have := hbge i e; omega)); have HGG := Lib.hid (grown_new (grown_trans HGW.out HG.out) hgr hbge); have HBD := Lib.hid hbd; clear hgr hbd hbge))
              go_roundg (n - (r + 1))
              case measure => omega
              case rel => exact ⟨r + 1, A', C', _, l ++ [x], by omega, rfl, by go_num, by rw [List.length_append, hl]; rfl, lens_snoc hl hlm hxl, HGG.out, HD.out, by omega, HBD.out⟩
            · have hr0' : decide ((0 : Int) < (r : Int)) = true := by simp; omega
              go_wp2_with fail
              refine (pick_any w0 _ G nb c _ a _ HD.out (by omega)).mono ?_
              rintro e w2 ⟨y, rfl, hy3, hg, hd⟩
              have HW := Lib.hid (HW.out.kept hg (by omega))
              have HG := Lib.hid (grown_trans HG.out hg)
              have HD := Lib.hid hd
              have hz2 := HG.out.size
              clear hd hg
              by_cases hy0 : y = 0
              · subst hy0
                obtain ⟨s, hs⟩ : ∃ s, r = s + 1 := ⟨r - 1, by omega⟩
                have hr1 : IntKind.i64.wrap ((r : Int) - 1) = (s : Int) := by rw [show (r : Int) - 1 = s by omega]; exact IntWalk.i64_in _ ⟨by omega, by omega⟩
                have hsr : s < r := by omega
                have HSS := Lib.hid hs
                clear hs
                obtain ⟨bb, cpp, cur, hv, hbb, hcur, hc⟩ := HB.out.top (by omega)
                rw [hl] at hv
                subst hv
                have ct := hc s (by omega)
                obtain ⟨g2, hA, hg2, hrb⟩ := HB.out.row (r := s) (by omega)
                rw [hlm s hsr, hA] at ct
                have t1 : wo.cell? ⟨bb, s, none⟩ = some (.slice (some ⟨g2, 0, none⟩) m (C s)) := by simp [World.cell?, hcur, ct]
                have lb : bb < wo.heap.size := (Array.getElem?_eq_some_iff.1 hcur).1
                have lg : g2 < wo.heap.size := hrb.lt
                have HT1 := Lib.hid t1
                have HRB := Lib.hid hrb
                have HA := Lib.hid hA
                have hls := hlm s hsr
                clear t1 hcur hc ct hrb hA
                go_wp2
                go_loopg [13] m (fun g k wi => ∃ q x p'', q ≤ m ∧ g = m - q ∧ k = .int .i64 (q : Nat) ∧ List.length x = m ∧ wo.grownBy wi (some G) ∧ RD w0 wi G a nb c 103 p'' ∧ p'' ≤ p' + 2 * m + 1 + q ∧ RW wo.heap.size wi (.slice (some ⟨g1, 0, none⟩) m cp1) x)
                case atStart => exact ⟨0, x, _, Nat.zero_le _, rfl, rfl, hxl, HG.out, HD.out, by omega, HW.out⟩
                case round =>
                  obtain ⟨q, x, p'', hq, rfl, rfl, hxl, hgi, hdi, hp'', hW⟩ := hrel
                  clear HD HG HW
                  have HD := Lib.hid hdi
                  have HG := Lib.hid hgi
                  have HW := Lib.hid hW
                  have hz1 := hgi.size
                  clear hdi hgi hW
                  by_cases hlq : q < m
                  · obtain ⟨z, hz⟩ : ∃ z, z = (l.getD s []).getD q 0 := ⟨_, rfl⟩
                    have q2 := HRB.out.cell (i := q) (by rw [hls]; exact hlq)
                    rw [← hz] at q2
                    have d1 := cell_grown HT1.out HG.out (show bb ≠ G by omega)
                    have d0 := cell_grown q2 HG.out (show g2 ≠ G by omega)
                    obtain ⟨hge2, hrw⟩ := HW.out.rowB (by omega)
                    have s1 := hrw.cell (i := q) (by omega)
                    have s2 := hrw.frozen q
                    clear q2 hz hrw
                    go_wp2
                    go_region_held3 (fun w' => w'.cell? ⟨bb, s, none⟩ = some (.slice (some ⟨g2, 0, none⟩) m (C s)) ∧ w'.cell? ⟨g2, q, none⟩ = some (.int .i64 z))
                      (first | exact ⟨d1, d0⟩ | exact ⟨q1, q0⟩ | exact ⟨cell_set_far q1 (by show bb ≠ g1; omega), cell_set_far q0 (by show g2 ≠ g1; omega)⟩)
                      (first
                        | (go_at_call 57; refine (pick_any w0 _ G nb c _ a _ (HD.out.later (World.Since.refl _ _).drew) (by omega)).mono ?_; rintro e w3 ⟨y3, rfl, _, hg, hd⟩; have hg := grown_undrew' hg; have HW := Lib.hid (HW.out.kept hg (by omega)); have HG := Lib.hid (grown_trans HG.out hg); have HD := Lib.hid hd; have q1 := cell_grown d1 hg (show bb ≠ G by omega); have q0 := cell_grown d0 hg (show g2 ≠ G by omega); have k1 := cell_grown s1 hg (show g1 ≠ G by omega); have k2 : w3.frozen? ⟨g1, q, none⟩ = false := (World.frozen?_of_block (hg.block g1 (World.block_lt_of_cell? _ _ s1) (fun e => by injection e with e; omega))).trans s2; clear hg hd))
                    clear d1 d0 q1 q0 k1 k2 s1 s2
                    go_wp2
                    go_roundg (m - (q + 1))
                    case measure => omega
                    case rel => exact ⟨q + 1, x.set q _, _, by omega, rfl, by go_num, by rw [List.length_set]; exact hxl, grown_set HG.out hge2 _, HD.out.grown (row := some g1) (grown_set_any _ _ _ _) (fun i e => by cases e; omega), by omega, RW.set' hxl HW.out hlq _⟩
                  · have hqm : m = q := by omega
                    subst hqm
                    go_wp2_with (first
                      | (at_builtin; (refine wpList_append_row _ rfl (.tmp 77) (.tmp 79) 31 rfl w.heap.size wo.heap.size i42 Try.underlying31 HI.out.1 HI.out.2.1 HI.out.2.2.1 HI.out.2.2.2 _ l A C rfl (HB.out.kept HG.out hG) g1 cp1 m x hxl (by omega) HW.out (HB.out.fresh rfl hge) hzw rfl (by omega) (by omega) ?_); intro v' w3 A' C' hbd hgr; have hbge := fun i e => (World.ownsRow.lt (HB.out.kept HG.out hG).own i e).1; have HD := Lib.hid (HD.out.grown hgr (fun i e => by have := hbge i e; omega)); have HGG := Lib.hid (grown_new (grown_trans HGW.out HG.out) hgr hbge); have HBD := Lib.hid hbd; clear hgr hbd hbge))
                    go_roundg (n - (r + 1))
                    case measure => omega
                    case rel => exact ⟨r + 1, A', C', _, l ++ [x], by omega, rfl, by go_num, by rw [List.length_append, hl]; rfl, lens_snoc hl hlm hxl, HGG.out, HD.out, by omega, HBD.out⟩
              · have hy0' : ((y : Int) == 0) = false := by simp; omega
                go_wp2_with (first
                  | (at_builtin; (refine wpList_append_row _ rfl (.tmp 77) (.tmp 79) 31 rfl w.heap.size wo.heap.size i42 Try.underlying31 HI.out.1 HI.out.2.1 HI.out.2.2.1 HI.out.2.2.2 _ l A C rfl (HB.out.kept HG.out hG) g1 cp1 m x hxl (by omega) HW.out (HB.out.fresh rfl hge) hzw rfl (by omega) (by omega) ?_); intro v' w3 A' C' hbd hgr; have hbge := fun i e => (World.ownsRow.lt (HB.out.kept HG.out hG).own i e).1; have HD := Lib.hid (HD.out.grown hgr (fun i e => by have := hbge i e; omega)); have HGG := Lib.hid (grown_new (grown_trans HGW.out HG.out) hgr hbge); have HBD := Lib.hid hbd; clear hgr hbd hbge))
                go_roundg (n - (r + 1))
                case measure => omega
                case rel => exact ⟨r + 1, A', C', _, l ++ [x], by omega, rfl, by go_num, by rw [List.length_append, hl]; rfl, lens_snoc hl hlm hxl, HGG.out, HD.out, by omega, HBD.out⟩
    · have : r = n := by omega
      subst this
      go_wp2
      go_ret
      exact ⟨_, l, A, C, p', rfl, hl, hlm, hgw, hd, by omega, hB⟩

end Go.Proofs.Ytbclpbgomkfabaa

/- The contract of spec.TableBeside. -/
import Derived.Test.YtkfondipmhjhjaaBesideTab
import Derived.Test.YtkfondipmhjhjaaZeros
import Derived.Deep.RegionHeld3
namespace Go.Proofs.Ytkfondipmhjhjaa
open Go.RowKit Go.Deep

theorem row_start (W : World) : (W.drew.alloc (.cells #[] 3)).ownsRow W.heap.size 3 1 (.slice (some ⟨W.heap.size, 0, none⟩) 0 0) 0 [] := World.ownsRow_made W.drew #[] 0 (Nat.le_refl _) (Nat.zero_le _) rfl
theorem row_cellsB {w W : World} {b' o' m : Nat} {x : List Int} (hx : x.length = m) (hs : w.Since w.heap.size W) (hce : ∀ j, j < m → w.cell? ⟨b', o' + j, none⟩ = some (.int .i64 (x.getD j 0))) : ∀ (j : Nat) (u : Value), (x.map (Value.int .i64))[j]? = some u → W.cell? ((⟨b', o', none⟩ : Addr).add j) = some u := fun j u hj => by
  rw [Go.WideShapes.add_plain]
  obtain ⟨hjl, he⟩ := List.getElem?_eq_some_iff.1 hj
  have hjx : j < m := by rw [← hx]; simpa using hjl
  have h2 := hce j hjx
  rw [hs.cell (a := ⟨b', o' + j, none⟩) (World.block_lt_of_cell? _ _ h2), h2, ← he]
  simp [List.getD, show j < x.length by omega]

theorem RB.rowB {wo wr : World} {g k cp : Nat} {x : List Int} (h : RB wo wr (.slice (some ⟨g, 0, none⟩) k cp) x) (h0 : 0 < x.length) : wo.heap.size ≤ g ∧ RowB wr g x := by
  obtain ⟨a, c, e, hr⟩ := h.slice
  obtain ⟨G, e2, h1, h2⟩ := hr h0
  subst e2
  injection e with e
  injection e with e
  injection e with e
  subst e
  exact ⟨h1, h2⟩
theorem grown_undrew {W w' : World} {row : Option Nat} (h : W.drew.grownBy w' row) : W.grownBy w' row := ⟨h.os, h.tape, h.output, h.size, h.block⟩

set_option maxRecDepth 100000 in
set_option maxHeartbeats 4000000 in
theorem specTableBeside_yes (a a2 : Option Addr) (cap cap2 n n2 : Nat) (l u : List (List Int)) (w : World) (hn : l.length = n) (hu : u.length = n2) (hsz : szL l ≤ 1048576) (hszu : szL u ≤ 1048576) (hm : MatR w a l) (hmu : MatR w a2 u) (hT : TabIn l) (hTu : TabIn u) :
    Calls Try.prog 44 #[.slice a n cap, .slice a2 n2 cap2] w (SpecT w (tabIn (besideL l u)) (besideL l u)) := by
  obtain ⟨i42, hi42⟩ := info42_parts
  obtain ⟨i3, hi3⟩ := info3_parts
  have HI := Lib.hid hi42
  have HJ := Lib.hid hi3
  have E := specTableIn_any a cap n l w hn hsz hm
  have E2 := fun (W : World) (hs : w.Since w.heap.size W) => specTableIn_any a2 cap2 n2 u W hu hszu (hmu.since hs)
  rw [tabIn_true hT] at E
  rw [tabIn_true hTu] at E2
  replace E := Lib.hid E
  replace E2 := Lib.hid E2
  have hw := hT.width
  have gw := hTu.width
  have h6 := hT.2.1
  have h1 := hT.1
  have g6 := hTu.2.1
  have g1 := hTu.1
  rw [hn] at h6 h1
  rw [hu] at g6 g1
  obtain ⟨m, hmm⟩ : ∃ m, (l.getD 0 []).length = m := ⟨_, rfl⟩
  obtain ⟨m2, hmm2⟩ : ∃ m, (u.getD 0 []).length = m := ⟨_, rfl⟩
  have hrow : ∀ r, r < n → (l.getD r []).length = m := fun r hr => by rw [hT.row (by omega), hmm]
  have hrowu : ∀ r, r < n2 → (u.getD r []).length = m2 := fun r hr => by rw [hTu.row (by omega), hmm2]
  have htl : (besideL l u).length = n + n2 := (besideL_length l u).trans (by rw [hn, hu])
  have hupp : ∀ r, r < n → (besideL l u).getD r [] = l.getD r [] ++ List.replicate m2 0 := fun r hr => by rw [besideL_top u hT (by omega), hmm2]
  have hlow : ∀ r, r < n2 → (besideL l u).getD (n + r) [] = List.replicate m 0 ++ u.getD r [] := fun r hr => by rw [← hn, besideL_bot l hTu (by omega), hmm]
  have hszl := szL_beside hT hTu
  rw [hmm] at hw
  rw [hmm2] at gw
  obtain ⟨bt, ot, At, Ct, rfl, hcc⟩ := hm (by omega)
  obtain ⟨bu, ou, Au, Cu, rfl, hcu⟩ := hmu (by omega)
  have htop : ∀ r, r < n → w.cell? ⟨bt, ot + r, none⟩ = some (.slice (At r) m (Ct r)) := fun r hr => by have := (hcc r (by omega)).1; rw [hrow r hr] at this; exact this
  have htopu : ∀ r, r < n2 → w.cell? ⟨bu, ou + r, none⟩ = some (.slice (Au r) m2 (Cu r)) := fun r hr => by have := (hcu r (by omega)).1; rw [hrowu r hr] at this; exact this
  have hrowr : ∀ r, r < n → ∃ b' o', At r = some ⟨b', o', none⟩ ∧ ∀ j, j < m → w.cell? ⟨b', o' + j, none⟩ = some (.int .i64 ((l.getD r []).getD j 0)) := fun r hr => by
    obtain ⟨b', o', e, h⟩ := (hcc r (by omega)).2 (by rw [hrow r hr]; omega)
    exact ⟨b', o', e, fun j hj => h j (by rw [hrow r hr]; exact hj)⟩
  have hrowru : ∀ r, r < n2 → ∃ b' o', Au r = some ⟨b', o', none⟩ ∧ ∀ j, j < m2 → w.cell? ⟨b', o' + j, none⟩ = some (.int .i64 ((u.getD r []).getD j 0)) := fun r hr => by
    obtain ⟨b', o', e, h⟩ := (hcu r (by omega)).2 (by rw [hrowu r hr]; omega)
    exact ⟨b', o', e, fun j hj => h j (by rw [hrowu r hr]; exact hj)⟩
  have HTOP := Lib.hid htop
  have HTOPU := Lib.hid htopu
  have HROWR := Lib.hid hrowr
  have HROWRU := Lib.hid hrowru
  have HROW := Lib.hid hrow
  have HROWU := Lib.hid hrowu
  obtain ⟨tl, htb⟩ : ∃ t, t = besideL l u := ⟨_, rfl⟩
  rw [← htb] at hszl htl ⊢
  simp only [← htb] at hupp hlow
  have HTL := Lib.hid htl
  have HUPP := Lib.hid hupp
  have HLOW := Lib.hid hlow
  have HN := Lib.hid hn
  have HU := Lib.hid hu
  clear htb hm hmu hn hu hmm hmm2 hrow hrowu hcc hcu htop htopu hrowr hrowru hT hTu hsz hszu hi3 hi42 hupp hlow htl
  go_enter Try.func44, Try.ntmps44
  go_wp2_with fail
  refine (E.out).mono ?_
  rintro e w1 ⟨rfl, hd⟩
  have hs := hd.since w.heap.size
  clear hd
  go_wp2_with fail
  refine (E2.out w1 hs).mono ?_
  rintro e w2 ⟨rfl, hd⟩
  have hs2 := hs.trans (since_mono (hd.since w1.heap.size) hs.size)
  obtain ⟨w0, hw0⟩ : ∃ w0, w0 = w2 := ⟨_, rfl⟩
  have hst := bt_start w2 (fun _ => none) (fun _ => 0) #[] rfl
  have HS := Lib.hid (fun (W : World) (h : w2.Since w2.heap.size W) => hs2.trans (since_mono h hs2.size))
  have hz2 := hs2.size
  rw [← hw0] at hst
  clear hd hs hs2
  go_wp2
  subst hw0
  go_loopg [6, 7] n (fun g v i wr => ∃ r : Nat, ∃ A C, r ≤ n ∧ g = n - r ∧ i = .int .i64 r ∧ BT w0 wr v (tl.take r) A C)
  case atStart => exact ⟨0, _, _, Nat.zero_le _, rfl, rfl, hst⟩
  case round =>
    obtain ⟨r, A, C, hr, rfl, rfl, hR⟩ := hrel
    clear hst
    by_cases hlt : r < n
    · obtain ⟨b1, o1, hA, hce⟩ := HROWR.out r hlt
      have d1 := HTOP.out r hlt
      have d0 := HTOPU.out 0 (by omega)
      rw [Nat.add_zero] at d0
      rw [hA] at d1
      have hsr := HS.out wr hR.since
      rw [← hsr.cell (a := ⟨bt, ot + r, none⟩) (World.block_lt_of_cell? _ _ d1)] at d1
      rw [← hsr.cell (a := ⟨bu, ou, none⟩) (World.block_lt_of_cell? _ _ d0)] at d0
      have l1 : bt < wr.heap.size := World.block_lt_of_cell? _ _ d1
      have l0 : bu < wr.heap.size := World.block_lt_of_cell? _ _ d0
      have l01 : bt < w0.heap.size := by have := World.block_lt_of_cell? _ _ (HTOP.out r hlt); have h : bt < w.heap.size := this; omega
      have l00 : bu < w0.heap.size := by have := World.block_lt_of_cell? _ _ (HTOPU.out 0 (by omega)); have h : bu < w.heap.size := this; omega
      obtain ⟨x1, hx1⟩ : ∃ x, x = l.getD r [] := ⟨_, rfl⟩
      have hl1 := HROW.out r hlt
      rw [← hx1] at hce hl1
      have HCE := Lib.hid (fun (o : Obj) => row_cellsB hl1 ((hsr.drew).alloc (by have := hsr.size; simpa using this) o) hce)
      have HX1 := Lib.hid hx1
      have HL1 := Lib.hid hl1
      have HOR := Lib.hid (row_start wr)
      have HR := Lib.hid hR
      have hsz := hR.since.size
      have hlen : (tl.take r).length = r := by rw [List.length_take, HTL.out]; omega
      have hup := HUPP.out r hlt
      rw [← hx1] at hup
      have HUP := Lib.hid hup
      clear hA hce hx1 hl1 hR hsr hup
      have p0 : (0 : Int) < (n2 : Int) := by omega
      have p1 : 0 < n2 := by omega
      go_wp2
      go_region_held3 (fun w' => w'.cell? ⟨bt, ot + r, none⟩ = some (.slice (some ⟨b1, o1, none⟩) m (Ct r)) ∧ w'.cell? ⟨bu, ou, none⟩ = some (.slice (Au 0) m2 (Cu 0)))
        (first | exact ⟨d1, d0⟩ | exact ⟨cell_alloc_l _ d1, cell_alloc_l _ d0⟩ | exact ⟨q1, q0⟩ | exact ⟨cell_alloc_l _ q1, cell_alloc_l _ q0⟩)
        (first
          | (refine step_append_lies _ rfl (.tmp 28) (.tmp 32) 28 rfl wr.heap.size 3 i3 (.int .i64 0) 1 8 Try.underlying28 HJ.out.1 HJ.out.2.1 HJ.out.2.2.1 HJ.out.2.2.2 rfl (by decide) (.slice (some ⟨wr.heap.size, 0, none⟩) 0 0) 0 [] rfl HOR.out ⟨b1, o1, none⟩ m _ (x1.map (Value.int .i64)) rfl (by rw [List.length_map, HL1.out]; omega) (HCE.out _) (fun u hu => by obtain ⟨z, _, rfl⟩ := List.mem_map.1 hu; rfl) (by omega) (by unfold maxLen; omega) (by omega) (by simp) _ rfl ?_; intro g1 cp1 w1 hown1 hgrow1 _ _;
              have hrb1 := RB.of_append #[] HL1.out hown1 (grown_undrew hgrow1); have HRB1 := Lib.hid hrb1; have q1 := (hrb1.since.cell (a := ⟨bt, ot + r, none⟩) l1).trans d1; have q0 := (hrb1.since.cell (a := ⟨bu, ou, none⟩) l0).trans d0; have hz1 := hrb1.since.size; clear hrb1 hown1 hgrow1)
          | (refine step_append_zeros _ rfl (.tmp 33) (.tmp 37) 28 3 rfl wr.heap.size 3 i3 .i64 .i64 Try.underlying28 Try.underlying3 HJ.out.1 HJ.out.2.1 HJ.out.2.2.1 HJ.out.2.2.2 (.slice (some ⟨g1, 0, none⟩) (0 + m) cp1) m (x1.map (Value.int .i64)) rfl (by have h := HRB1.out.own; rw [HL1.out] at h; exact h) (by omega) m2 rfl (by omega) (by omega) (by omega) ?_; intro g2 cp2 w2 hown2 hgrow2;
              have hrb2 := HRB1.out.zeros HL1.out hown2 hgrow2; have HRB2 := Lib.hid hrb2; have q1 := (hrb2.since.cell (a := ⟨bt, ot + r, none⟩) l1).trans d1; have q0 := (hrb2.since.cell (a := ⟨bu, ou, none⟩) l0).trans d0; have hz3 := hrb2.since.size; clear hrb2 hown2 hgrow2)
          | (refine step_append_lies _ rfl (.tmp 27) (.tmp 39) 23 rfl w0.heap.size 28 i42 (.slice none 0 0) 1 24 Try.underlying23 HI.out.1 HI.out.2.1 HI.out.2.2.1 HI.out.2.2.2 rfl (by decide) _ _ _ rfl ((HR.out.later HRB2.out.since).own.alloc _) ⟨w2.heap.size, 0, none⟩ 1 1 [.slice (some ⟨g2, 0, none⟩) (m + m2) cp2] rfl rfl (cell_one_at _ _ _ rfl) (fun x hx => by simp at hx; subst hx; rfl) (by omega) (by unfold maxLen; omega) (by omega) (by simp; omega) _ rfl ?_; intro g3 cp3 w3 hown3 hgrow3 _ _;
              have hxl : (x1 ++ List.replicate m2 (0 : Int)).length = m + m2 := (by rw [List.length_append, List.length_replicate, HL1.out]);
              have hrr := HRB2.out.rowB (by omega); have hP := (HR.out.later HRB2.out.since).push (rv := .slice (some ⟨g2, 0, none⟩) (m + m2) cp2) (x := x1 ++ List.replicate m2 0) (a := some ⟨g2, 0, none⟩) (cp := cp2) (by rw [hxl]) (fun _ => ⟨g2, rfl, by omega, hrr.2⟩) (fun _ => HR.out.fresh rfl hrr.1) hown3 hgrow3; rw [← HUP.out, ← take_succ_get tl (by rw [HTL.out]; omega), hlen] at hP; have HP := Lib.hid hP; have q1 := (hP.since.cell (a := ⟨bt, ot + r, none⟩) l01).trans (((HR.out.since.cell (a := ⟨bt, ot + r, none⟩) l01).symm).trans d1); have q0 := (hP.since.cell (a := ⟨bu, ou, none⟩) l00).trans (((HR.out.since.cell (a := ⟨bu, ou, none⟩) l00).symm).trans d0); clear hP hown3 hgrow3 hrr hxl))
      clear q1 q0 hz1 hz3 hlen p0 p1 d1 d0 l1 l0 l01 l00 hsz
      go_wp2
      go_roundg (n - (r + 1))
      case measure => omega
      case rel => exact ⟨r + 1, _, _, by omega, rfl, by go_num, HP.out⟩
    · have : r = n := by omega
      subst this
      have HST := Lib.hid hR
      clear hR
      have hmk := run_make_row' (P := Try.prog) 28 3 (.int .i64 0) 8 Try.underlying28 Try.info3 rfl .i64 .i64 m (by omega) (by omega)
      have HMK := Lib.hid hmk
      clear hmk
      go_wp2
      go_loopg [6, 8] n2 (fun g v i wr => ∃ q : Nat, ∃ A C, q ≤ n2 ∧ g = n2 - q ∧ i = .int .i64 q ∧ BT w0 wr v (tl.take (r + q)) A C)
      case atStart => exact ⟨0, _, _, Nat.zero_le _, rfl, rfl, HST.out⟩
      case round =>
        obtain ⟨q, A', C', hq, rfl, rfl, hR⟩ := hrel
        clear HST
        by_cases hlt : q < n2
        · obtain ⟨b1, o1, hA, hce⟩ := HROWRU.out q hlt
          have d1 := HTOPU.out q hlt
          have d0 := HTOP.out 0 (by omega)
          rw [Nat.add_zero] at d0
          rw [hA] at d1
          have hsr := HS.out wr hR.since
          rw [← hsr.cell (a := ⟨bu, ou + q, none⟩) (World.block_lt_of_cell? _ _ d1)] at d1
          rw [← hsr.cell (a := ⟨bt, ot, none⟩) (World.block_lt_of_cell? _ _ d0)] at d0
          have l1 : bu < wr.heap.size := World.block_lt_of_cell? _ _ d1
          have l0 : bt < wr.heap.size := World.block_lt_of_cell? _ _ d0
          have l01 : bu < w0.heap.size := by have := World.block_lt_of_cell? _ _ (HTOPU.out q hlt); have h : bu < w.heap.size := this; omega
          have l00 : bt < w0.heap.size := by have := World.block_lt_of_cell? _ _ (HTOP.out 0 (by omega)); have h : bt < w.heap.size := this; omega
          obtain ⟨x1, hx1⟩ : ∃ x, x = u.getD q [] := ⟨_, rfl⟩
          have hl1 := HROWU.out q hlt
          rw [← hx1] at hce hl1
          have HCE := Lib.hid (fun (o : Obj) => row_cellsB hl1 ((hsr.drew).alloc (by have := hsr.size; simpa using this) o) hce)
          have HL1 := Lib.hid hl1
          have HOM := Lib.hid (owns_made wr m (by omega))
          have HR := Lib.hid hR
          have hsz := hR.since.size
          have hlen : (tl.take (r + q)).length = r + q := by rw [List.length_take, HTL.out]; omega
          have hup := HLOW.out q hlt
          rw [← hx1] at hup
          have HUP := Lib.hid hup
          clear hA hce hx1 hl1 hR hsr hup
          have p1 : 0 < r := by omega
          have hmk := HMK.out
          go_wp2
          go_region_held3 (fun w' => w'.cell? ⟨bu, ou + q, none⟩ = some (.slice (some ⟨b1, o1, none⟩) m2 (Cu q)) ∧ w'.cell? ⟨bt, ot, none⟩ = some (.slice (At 0) m (Ct 0)))
            (first | exact ⟨d1, d0⟩ | exact ⟨cell_alloc_l _ d1, cell_alloc_l _ d0⟩ | exact ⟨q1, q0⟩ | exact ⟨cell_alloc_l _ q1, cell_alloc_l _ q0⟩)
            (first
              | (refine step_append_lies _ rfl (.tmp 52) (.tmp 56) 28 rfl wr.heap.size 3 i3 (.int .i64 0) 1 8 Try.underlying28 HJ.out.1 HJ.out.2.1 HJ.out.2.2.1 HJ.out.2.2.2 rfl (by decide) (.slice (some ⟨wr.heap.size, 0, none⟩) m m) m (List.replicate m (.int .i64 0)) rfl HOM.out ⟨b1, o1, none⟩ m2 _ (x1.map (Value.int .i64)) rfl (by rw [List.length_map, HL1.out]; omega) (HCE.out _) (fun u hu => by obtain ⟨z, _, rfl⟩ := List.mem_map.1 hu; rfl) (by omega) (by unfold maxLen; omega) (by omega) (by simp) _ rfl ?_; intro g2 cp2 w2 hown2 hgrow2 _ _;
                  have hrb2 := RB.of_made ((World.Since.refl _ _).alloc (Nat.le_refl _) _) HOM.out HL1.out hown2 (grown_undrew hgrow2); have HRB2 := Lib.hid hrb2; have q1 := (hrb2.since.cell (a := ⟨bu, ou + q, none⟩) l1).trans d1; have q0 := (hrb2.since.cell (a := ⟨bt, ot, none⟩) l0).trans d0; have hz3 := hrb2.since.size; clear hrb2 hown2 hgrow2)
              | (refine step_append_lies _ rfl (.tmp 47) (.tmp 58) 23 rfl w0.heap.size 28 i42 (.slice none 0 0) 1 24 Try.underlying23 HI.out.1 HI.out.2.1 HI.out.2.2.1 HI.out.2.2.2 rfl (by decide) _ _ _ rfl ((HR.out.later HRB2.out.since).own.alloc _) ⟨w2.heap.size, 0, none⟩ 1 1 [.slice (some ⟨g2, 0, none⟩) (m + m2) cp2] rfl rfl (cell_one_at _ _ _ rfl) (fun x hx => by simp at hx; subst hx; rfl) (by omega) (by unfold maxLen; omega) (by omega) (by simp; omega) _ rfl ?_; intro g3 cp3 w3 hown3 hgrow3 _ _;
                  have hxl : (List.replicate m (0 : Int) ++ x1).length = m + m2 := (by rw [List.length_append, List.length_replicate, HL1.out]);
                  have hrr := HRB2.out.rowB (by omega); have hP := (HR.out.later HRB2.out.since).push (rv := .slice (some ⟨g2, 0, none⟩) (m + m2) cp2) (x := List.replicate m 0 ++ x1) (a := some ⟨g2, 0, none⟩) (cp := cp2) (by rw [hxl]) (fun _ => ⟨g2, rfl, by omega, hrr.2⟩) (fun _ => HR.out.fresh rfl hrr.1) hown3 hgrow3; rw [← HUP.out, ← take_succ_get tl (by rw [HTL.out]; omega), hlen] at hP; have HP := Lib.hid hP; have q1 := (hP.since.cell (a := ⟨bu, ou + q, none⟩) l01).trans (((HR.out.since.cell (a := ⟨bu, ou + q, none⟩) l01).symm).trans d1); have q0 := (hP.since.cell (a := ⟨bt, ot, none⟩) l00).trans (((HR.out.since.cell (a := ⟨bt, ot, none⟩) l00).symm).trans d0); clear hP hown3 hgrow3 hrr hxl))
          clear q1 q0 hz3 hlen p1 d1 d0 l1 l0 l01 l00 hsz hmk
          go_wp2
          go_roundg (n2 - (q + 1))
          case measure => omega
          case rel => exact ⟨q + 1, _, _, by omega, rfl, by go_num, HP.out⟩
        · have : q = n2 := by omega
          subst this
          rw [List.take_of_length_le (by rw [HTL.out]; exact Nat.le_refl _)] at hR
          obtain ⟨ra, rcp, hv, hin⟩ := hR.slice
          rw [HTL.out] at hv
          subst hv
          have HSS := Lib.hid (HS.out wr hR.since)
          have HF := Lib.hid hin
          have hzz := hR.since.size
          have hz0 := (HS.out w0 (World.Since.refl _ _)).size
          clear hR
          go_wp2_with fail
          refine (l1Done_any ra rcp _ _ _ tl wr HTL.out hszl HF.out).mono ?_
          rintro e w4 ⟨a', cap', rfl, hs4, ho4⟩
          go_wp2
          go_ret2
          exact ⟨a', cap', rfl, HSS.out.trans (since_mono hs4 HSS.out.size), ho4.mono hz0 hs4.size⟩

set_option maxHeartbeats 1000000 in
theorem specTableBeside_any (a a2 : Option Addr) (cap cap2 n n2 : Nat) (l u : List (List Int)) (w : World) (hn : l.length = n) (hu : u.length = n2) (hsz : szL l ≤ 1048576) (hszu : szL u ≤ 1048576) (hm : MatR w a l) (hmu : MatR w a2 u) :
    Calls Try.prog 44 #[.slice a n cap, .slice a2 n2 cap2] w (SpecT w (besideOk l u) (besideL l u)) := by
  have E := Lib.hid (specTableIn_any a cap n l w hn hsz hm)
  have E2 := Lib.hid (fun (W : World) (hs : w.Since w.heap.size W) => specTableIn_any a2 cap2 n2 u W hu hszu (hmu.since hs))
  cases hT : tabIn l with
  | false =>
    have hok : besideOk l u = false := by unfold besideOk; rw [hT]; rfl
    rw [hT] at E
    rw [hok]
    clear hT hsz hm hn hok hu hszu hmu E2
    go_enter Try.func44, Try.ntmps44
    go_wp2_with fail
    refine (E.out).mono ?_
    rintro e w1 ⟨rfl, hd⟩
    have hs := hd.since w.heap.size
    clear hd
    go_wp2_with fail
    refine (l1None_any w1).mono ?_
    rintro e w3 ⟨rfl, hs3⟩
    go_wp2
    go_ret2
    exact ⟨_, _, rfl, hs.trans (since_mono hs3 hs.size), InT.nil _ _ _ _⟩
  | true =>
    rw [hT] at E
    cases hTu : tabIn u with
    | false =>
      have hok : besideOk l u = false := by unfold besideOk; rw [hT, hTu]; rfl
      rw [hTu] at E2
      rw [hok]
      clear hT hsz hm hn hok hu hszu hmu hTu
      go_enter Try.func44, Try.ntmps44
      go_wp2_with fail
      refine (E.out).mono ?_
      rintro e w1 ⟨rfl, hd⟩
      have hs := hd.since w.heap.size
      clear hd
      go_wp2_with fail
      refine (E2.out w1 hs).mono ?_
      rintro e w2 ⟨rfl, hd⟩
      have hs2 := hs.trans (since_mono (hd.since w1.heap.size) hs.size)
      clear hd
      go_wp2_with fail
      refine (l1None_any w2).mono ?_
      rintro e w3 ⟨rfl, hs3⟩
      go_wp2
      go_ret2
      exact ⟨_, _, rfl, hs2.trans (since_mono hs3 hs2.size), InT.nil _ _ _ _⟩
    | true =>
      have hok : besideOk l u = tabIn (besideL l u) := by unfold besideOk; rw [hT, hTu]; rfl
      rw [hok]
      exact specTableBeside_yes a a2 cap cap2 n n2 l u w hn hu hsz hszu hm hmu (tabIn_of hT) (tabIn_of hTu)

end Go.Proofs.Ytkfondipmhjhjaa

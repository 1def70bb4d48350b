/- The contract of impl.ValueOther. -/
import Derived.Test.YtikjeaoapeaabaaNewTableX
import Derived.Test.YtikjeaoapeaabaaMinorJ
import Derived.Test.YtikjeaoapeaabaaOtherV
namespace Go.Proofs.Ytikjeaoapeaabaa
open Go.RowKit Go.Deep

set_option maxRecDepth 100000 in
set_option maxHeartbeats 2000000 in
theorem otherEntry_any (pr ps rb i k n cap : Nat) (a : Option Addr) (l : List (List Int)) (W : World) (hn : l.length = n) (hT : TabIn l) (hw : (l.getD 0 []).length = n) (hi : i < n) (hk : k < n)
    (h2 : W.cell? ⟨pr, 0, none⟩ = some (.map (some rb))) (h3 : W.cell? ⟨ps, 0, none⟩ = some (.slice a n cap)) (hm : MatR W a l) (hr : RoadsAt W rb) (hn1 : pr ≠ rb) (hn2 : ps ≠ rb) :
    Calls Try.prog 69 #[.int .i64 i, .int .i64 k, .pointer (some ⟨pr, 0, none⟩), .pointer (some ⟨ps, 0, none⟩)] W fun e w' => e = .returned (.int .i64 (othF l n i k)) ∧ W.grownBy w' (some rb) ∧ RoadsAt w' rb := by
  have h6 := hT.2.1
  rw [hn] at h6
  have ES := fun (V : World) => signOf_any (i + k) (by omega) V
  rw [show ((i + k : Nat) : Int) = (i : Int) + k by omega] at ES
  have EP := fun (V : World) (h : W.Since W.heap.size V) => without_any a cap n k i l V hn hT hw hk hi (hm.since h)
  have hbl := but_lt ⟨n, by omega⟩ ⟨k, by omega⟩ hk
  have hbl' := but_lt ⟨n, by omega⟩ ⟨i, by omega⟩ hi
  have hbp := popcS_but ⟨n, by omega⟩ ⟨k, by omega⟩ hk
  have hbp' := popcS_but ⟨n, by omega⟩ ⟨i, by omega⟩ hi
  simp only at hbl hbl' hbp hbp'
  have hsq := part_sq hT (s := 2 ^ n - 1 - 2 ^ k) (c := 2 ^ n - 1 - 2 ^ i) (by rw [hn]; exact hbl.1) (by rw [hw]; exact hbl'.1) (by rw [hbp, hbp'])
  rw [hbp] at hsq
  have hfb : -(34012224000000 : Int) ≤ ordF (partL l (2 ^ n - 1 - 2 ^ k) (2 ^ n - 1 - 2 ^ i)) (n - 1) (n - 1) 0 ∧ ordF (partL l (2 ^ n - 1 - 2 ^ k) (2 ^ n - 1 - 2 ^ i)) (n - 1) (n - 1) 0 ≤ 34012224000000 := by
    by_cases h0 : 1 ≤ n - 1
    · have hb := ordF_bd (hsq.2 h0).1 hsq.1 (hsq.2 h0).2 (n - 1) (Nat.le_refl _) 0
      have := p180_le (n - 1) (by omega)
      omega
    · rw [show n - 1 = 0 by omega, ordF_zero]; omega
  have hv : othF l n i k = sn (i + k) * ordF (partL l (2 ^ n - 1 - 2 ^ k) (2 ^ n - 1 - 2 ^ i)) (n - 1) (n - 1) 0 := by unfold othF; rw [sg_sn]
  rw [ordF_all _ (by omega)] at hv hfb
  rw [hv]
  simp only [hsq.1] at EP
  obtain ⟨L, hL⟩ : ∃ L, L = partL l (2 ^ n - 1 - 2 ^ k) (2 ^ n - 1 - 2 ^ i) := ⟨_, rfl⟩
  rw [← hL] at hsq hfb ⊢
  simp only [← hL] at EP
  have EV := fun (a2 : Option Addr) (c2 : Nat) (V : World) (h : MatR V a2 L) => byPivots_any (n - 1) L a2 c2 V hsq (by omega) h
  obtain ⟨n1, hnn⟩ : ∃ m, m = n - 1 := ⟨_, rfl⟩
  rw [← hnn] at hfb ⊢
  simp only [← hnn] at EV EP
  obtain ⟨x, hx⟩ : ∃ x, x = dt n1 (at2 L) := ⟨_, rfl⟩
  rw [← hx] at hfb ⊢
  simp only [← hx] at EV
  have hwx : IntKind.i64.wrap (sn (i + k) * x) = sn (i + k) * x := IntWalk.i64_in _ (by unfold sn; split <;> (constructor <;> omega))
  obtain ⟨s, hs⟩ : ∃ s, s = sn (i + k) := ⟨_, rfl⟩
  rw [← hs] at hwx ⊢
  simp only [← hs] at ES
  replace ES := Lib.hid ES
  replace EP := Lib.hid EP
  replace EV := Lib.hid EV
  have HR := Lib.hid hr
  have hlt := hr.lt
  clear hr hm hn hT hw hsq hfb hv hL hx hs hbl hbl' hbp hbp' hnn
  go_enter Try.func69, Try.ntmps69
  have hwik : IntKind.i64.wrap ((i : Int) + k) = (i : Int) + k := IntWalk.i64_in _ ⟨by omega, by omega⟩
  have l2 : pr < W.heap.size := World.block_lt_of_cell? _ _ h2
  have l3 : ps < W.heap.size := World.block_lt_of_cell? _ _ h3
  go_wp2
  go_region_held3 (fun w' => w'.cell? ⟨pr, 0, none⟩ = some (.map (some rb)) ∧ w'.cell? ⟨ps, 0, none⟩ = some (.slice a n cap)) (first | exact ⟨h2, h3⟩)
    (first
      | (go_at_call 70; refine (ES.out _).mono ?_; rintro e w' ⟨rfl, rfl⟩)
      | (go_at_call 71; refine (EP.out _ ?_).mono ?_; (exact (World.Since.refl _ _).drew); rintro e w3 ⟨a3, c3, rfl, hs3, ho3⟩; have hs3 : W.Since W.heap.size w3 := since_of_drew hs3; have h2 := (hs3.cell (a := ⟨pr, 0, none⟩) l2).trans h2; have h3 := (hs3.cell (a := ⟨ps, 0, none⟩) l3).trans h3; have HR3 := Lib.hid (HR.out.kept (grown_of_since (row := none) hs3) (by simp)); have HG3 := Lib.hid (grown_of_since (row := some rb) hs3); have ho3 : OwnT W.heap.size w3.heap.size w3 a3 L := ho3; have HA := Lib.hid (anyValue_of rb a3 n1 c3 x w3 HR3.out (fun W' hg => EV.out a3 c3 W' (ho3.but hlt hg))); clear hs3 ho3)
      | (go_at_call 63; refine (HA.out).mono ?_; rintro e w4 ⟨rfl, hg, hr⟩; have h2 := (World.cell?_of_block (a := ⟨pr, 0, none⟩) (hg.block pr (World.block_lt_of_cell? _ _ h2) (by intro e; injection e with e; exact hn1 e))).trans h2; have h3 := (World.cell?_of_block (a := ⟨ps, 0, none⟩) (hg.block ps (World.block_lt_of_cell? _ _ h3) (by intro e; injection e with e; exact hn2 e))).trans h3; have HG4 := Lib.hid (HG3.out.trans hg); have HR4 := Lib.hid hr; clear hg hr))
  all_goals
    go_wp2
    go_ret
    exact ⟨rfl, HG4.out, HR4.out⟩

set_option maxRecDepth 100000 in
set_option maxHeartbeats 2000000 in
theorem implValueOther_any (a : Option Addr) (cap n : Nat) (l : List (List Int)) (w : World) (hn : l.length = n) (hsz : szL l ≤ 1048576) (hm : MatR w a l) :
    Calls Try.prog 27 #[.slice a n cap] w (ImplT w (sqB l) (tabF n n (othF l n))) := by
  obtain ⟨W0, hW0⟩ : ∃ W0, W0 = ((w.alloc (.map #[] 0)).alloc (.cells #[.slice a n cap] 54)).alloc (.cells #[.map (some w.heap.size)] 57) := ⟨_, rfl⟩
  have hS0 : w.Since w.heap.size W0 := by rw [hW0]; exact (((World.Since.refl w.heap.size w).alloc (Nat.le_refl _) _).alloc (by simp) _).alloc (by simp; omega) _
  have hz0 : W0.heap.size = w.heap.size + 1 + 1 + 1 := by rw [hW0]; simp
  have hr0 : RoadsAt W0 w.heap.size := by rw [hW0]; exact ((roads_made w).kept (World.grownBy_alloc _ _ none) (by simp)).kept (World.grownBy_alloc _ _ none) (by simp)
  have c1 := cell_new_l (w.alloc (.map #[] 0)) (.slice a n cap) 54
  have c2 := cell_new_l ((w.alloc (.map #[] 0)).alloc (.cells #[.slice a n cap] 54)) (.map (some w.heap.size)) 57
  simp only [World.size_alloc] at c1 c2
  have k1 : W0.cell? ⟨w.heap.size + 1, 0, none⟩ = some (.slice a n cap) := by rw [hW0]; exact cell_alloc_l _ c1.1
  have k2 : W0.cell? ⟨w.heap.size + 1 + 1, 0, none⟩ = some (.map (some w.heap.size)) := by rw [hW0]; exact c2.1
  have E := isSquare_any a cap n l W0 hn hsz (hm.since hS0)
  have hmk := @run_makeMap Try.prog
  cases hs : sqB l with
  | false =>
    rw [hs] at E
    replace E := Lib.hid E
    have HS := Lib.hid hS0
    clear hs hm hn hsz c1 c2 k1 k2 hr0 hz0 hS0
    go_enter Try.func27, Try.ntmps27
    go_wp2_with fail
    rw [← hW0]
    refine (E.out).mono ?_
    rintro e w1 ⟨rfl, hd⟩
    have HD := Lib.hid (HS.out.trans (since_mono hd HS.out.size))
    clear hd
    go_wp2
    go_ret2
    exact ⟨none, 0, rfl, HD.out, OwnT.nil _ _ _ _⟩
  | true =>
    rw [hs] at E
    replace E := Lib.hid E
    obtain ⟨hT, hw⟩ := sqB_of hs
    rw [hn] at hw
    have h6 := hT.2.1
    rw [hn] at h6
    have ENT := Lib.hid (fun (W1 : World) (hd : W0.Since W0.heap.size W1) =>
      newTableX_any (some w.heap.size) (fun W => RoadsAt W w.heap.size) 69 #[.pointer (some ⟨w.heap.size + 1 + 1, 0, none⟩), .pointer (some ⟨w.heap.size + 1, 0, none⟩)] n n (othF l n) W1 (by omega) (by omega) (enters_of Try.func69 (by kernel_rfl) rfl)
        (fun r e => by injection e with e; have := hd.size; omega) (fun W W' g h1 h2 h3 => h1.kept h3 (by intro e; injection e with e; have := hd.size; omega)) (hr0.kept (grown_of_since (row := none) hd) (by simp))
        (fun W i k hg hI hi hk => otherEntry_any (w.heap.size + 1 + 1) (w.heap.size + 1) w.heap.size i k n cap a l W hn hT hw.symm hi hk
          ((World.cell?_of_block (a := ⟨w.heap.size + 1 + 1, 0, none⟩) (hg.block _ (by have := hd.size; show w.heap.size + 1 + 1 < _; omega) (by intro e; injection e with e; simp only at e; omega))).trans ((hd.cell (a := ⟨w.heap.size + 1 + 1, 0, none⟩) (World.block_lt_of_cell? _ _ k2)).trans k2))
          ((World.cell?_of_block (a := ⟨w.heap.size + 1, 0, none⟩) (hg.block _ (by have := hd.size; show w.heap.size + 1 < _; omega) (by intro e; injection e with e; simp only at e; omega))).trans ((hd.cell (a := ⟨w.heap.size + 1, 0, none⟩) (World.block_lt_of_cell? _ _ k1)).trans k1))
          (hm.since (hS0.trans (⟨hg.os.trans hd.os, hg.tape.trans hd.tape, hg.output.trans hd.output, Nat.le_trans (by have := hd.size; omega) (Nat.le_trans hd.size hg.size), fun j hj => (hg.block j (by have := hd.size; omega) (by intro e; injection e with e; omega)).trans (hd.block j (by omega))⟩ : W0.Since w.heap.size W))) hI (by omega) (by omega)))
    have HS := Lib.hid hS0
    have HZ := Lib.hid hz0
    have K1 := Lib.hid k1
    clear hs hm hn hsz c1 c2 k1 k2 hr0 hz0 hS0 hT hw
    go_enter Try.func27, Try.ntmps27
    go_wp2_with fail
    rw [← hW0]
    refine (E.out).mono ?_
    rintro e w1 ⟨rfl, hd⟩
    have HD := Lib.hid hd
    clear hd
    go_wp2_with fail
    refine (ENT.out w1 HD.out).mono ?_
    rintro e w2 ⟨rfl, hg, ho⟩
    have hs2 : w.Since w.heap.size w2 := ⟨hg.1.os.trans (HD.out.os.trans HS.out.os), hg.1.tape.trans (HD.out.tape.trans HS.out.tape), hg.1.output.trans (HD.out.output.trans HS.out.output), by have h1 := hg.1.size; have h2 := HD.out.size; have h3 := HZ.out; omega, fun j hj => (hg.1.block j (by have h2 := HD.out.size; have h3 := HZ.out; omega) (by intro e; injection e with e; omega)).trans ((HD.out.block j (by have h3 := HZ.out; omega)).trans (HS.out.block j hj))⟩
    have HS2 := Lib.hid hs2
    have HO := Lib.hid (ho.mono (show w.heap.size ≤ w1.heap.size by have h2 := HD.out.size; have h3 := HZ.out; omega) (Nat.le_refl _))
    clear hs2 ho hg
    go_wp2
    go_ret2
    exact ⟨_, n, by rw [show (resT true (tabF n n (othF l n))).length = n from tabF_length _ _ _]; rfl, HS2.out, HO.out⟩

end Go.Proofs.Ytikjeaoapeaabaa

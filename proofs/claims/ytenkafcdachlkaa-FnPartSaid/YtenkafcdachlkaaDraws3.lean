/- The contracts of spec.l91Sets and spec.DrawTablePart. -/
import Derived.Test.YtenkafcdachlkaaDraws
import Derived.Deep.RegionHeld3
namespace Go.Proofs.Ytenkafcdachlkaa
open Go.RowKit Go.Deep

set_option maxRecDepth 100000 in
set_option maxHeartbeats 2000000 in
theorem l91Sets_any (a : Option Addr) (nb cb : Nat) (w : World) (hc : nb ≤ cb) (h63 : cb ≤ 9223372036854775807) (hb : BytR w a nb) :
    Calls Try.prog 78 #[.slice a nb cb] w fun e w' => ∃ a' cap l, ∃ (x y : Int), e = .returned (.tuple #[.slice a' l.length cap, .int .i64 x, .int .i64 y]) ∧ w.Since w.heap.size w' ∧ DrawnT w w' 5 5 a' l := by
  have E := Lib.hid (l6Open_any a nb cb w hc h63 hb)
  clear hb
  go_enter Try.func78, Try.ntmps78
  go_wp2_with fail
  refine (E.out).mono ?_
  rintro e w1 ⟨n', c', rfl, hs, hz, hd⟩
  have HD0 := Lib.hid hd
  clear hd
  have hz1 : w.heap.size < w1.heap.size := by omega
  clear hz
  go_wp2_with fail
  refine (l91Some_any w w1 w.heap.size n' c' 0 5 5 a HD0.out (by omega) (by omega) (by omega) (by omega) (by omega)).mono ?_
  rintro e w2 ⟨a', cap', l, p', rfl, hg, hd2, hp, h1, h5, hl, hit⟩
  have HG0 := Lib.hid hg
  have HIT := Lib.hid hit
  have HL := Lib.hid hl
  have HD := Lib.hid hd2
  obtain ⟨nn, hnn⟩ : ∃ n, l.length = n := ⟨_, rfl⟩
  rw [hnn] at h1 h5 ⊢
  have HN := Lib.hid hnn
  clear hg hit hl hd2 hnn
  obtain ⟨bt, ot, At, Gt, Ot, Ct, rfl, hbt, hrt⟩ := HIT.out (by rw [HN.out]; omega)
  have c0 := (hrt 0 (by rw [HN.out]; omega)).1
  rw [Nat.add_zero] at c0
  obtain ⟨m0, hm0⟩ : ∃ m, (l.getD 0 []).length = m := ⟨_, rfl⟩
  rw [hm0] at c0
  have hm1 := HL.out 0 (by rw [HN.out]; omega)
  rw [hm0] at hm1
  have q0 : w2.drew.cell? ⟨bt, ot, none⟩ = some (.slice (At 0) m0 (Ct 0)) := c0
  have HG := Lib.hid (show w2.grownBy w2.drew (some w.heap.size) from ⟨rfl, rfl, rfl, Nat.le_refl _, fun _ _ _ => rfl⟩)
  have HD := Lib.hid (HD.out.later (World.Since.refl _ _).drew)
  have hn1 : 0 < nn := by omega
  have hn0 : (0 : Int) < (nn : Int) := by omega
  clear hm0 hrt
  go_wp2
  go_region_held3 (fun w' => w'.cell? ⟨bt, ot, none⟩ = some (.slice (At 0) m0 (Ct 0)))
    (first | exact q0 | exact c0)
    (first
      | (go_at_call 60; refine (pick_any w _ w.heap.size n' c' _ a _ HD.out (by omega)).mono ?_; rintro e wk ⟨y, rfl, hy, hg, hd⟩; have q0 := cell_grown q0 hg (show bt ≠ w.heap.size by omega); have HG := Lib.hid (grown_trans HG.out hg); have HD := Lib.hid hd; clear hd hg))
  all_goals
    have hs2 : w.Since w.heap.size w2 := hs.trans (since_grown HG0.out (Nat.le_refl _) hs.size)
    have hs3 := hs2.trans (since_grown HG.out (Nat.le_refl _) hs2.size)
    go_wp2
    go_ret3
    exact ⟨_, _, l, _, _, by rw [HN.out]; rfl, hs3, by rw [HN.out]; exact h1, by rw [HN.out]; exact h5, HL.out, (HIT.out.kept HG.out hz1).mono hs.size HG.out.size⟩

set_option maxHeartbeats 1000000 in
theorem drawPart_any (a : Option Addr) (nb cb : Nat) (w : World) (hc : nb ≤ cb) (h63 : cb ≤ 9223372036854775807) (hb : BytR w a nb) :
    Calls Try.prog 34 #[.slice a nb cb] w fun e w' => ∃ a' cap l, ∃ (x y : Int), e = .returned (.tuple #[.slice a' l.length cap, .int .i64 x, .int .i64 y]) ∧ w.Since w.heap.size w' ∧ DrawnT w w' 5 5 a' l := by
  have E := Lib.hid (l91Sets_any a nb cb w hc h63 hb)
  clear hb
  go_enter Try.func34, Try.ntmps34
  go_wp2_with fail
  refine (E.out).mono ?_
  rintro e w1 ⟨a', cap, l, x, y, rfl, hs, hl⟩
  go_wp2
  go_ret3
  exact ⟨a', cap, l, x, y, rfl, hs, hl⟩

end Go.Proofs.Ytenkafcdachlkaa

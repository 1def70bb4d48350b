/- The contracts of the functions that draw two tables of fitting sides. -/
import Derived.Test.YtkfondipmhjhjaaDraws
namespace Go.Proofs.Ytkfondipmhjhjaa
open Go.RowKit Go.Deep

theorem drawnT_of {w w' : World} {l : List (List Int)} {n m R K : Nat} {a : Option Addr} (hl : l.length = n) (hm : ∀ j, j < n → (l.getD j []).length = m) (h1 : 1 ≤ n ∧ n ≤ R) (h2 : 1 ≤ m ∧ m ≤ K + 1) (h : InT w.heap.size w'.heap.size w' a l) : DrawnT w w' R K a l :=
  ⟨by omega, by omega, fun j hj => by rw [hm j (by omega)]; exact h2, h⟩

set_option maxRecDepth 100000 in
set_option maxHeartbeats 2000000 in
theorem l91Made_any (a : Option Addr) (nb cb : Nat) (w : World) (hc : nb ≤ cb) (h63 : cb ≤ 9223372036854775807) (hb : BytR w a nb) :
    Calls Try.prog 76 #[.slice a nb cb] w fun e w' => ∃ a' cap l b' cap2 u, e = .returned (.tuple #[.slice a' l.length cap, .slice b' u.length cap2]) ∧ w.Since w.heap.size w' ∧ DrawnT w w' 5 5 a' l ∧ DrawnT w w' 5 5 b' u := by
  have E := Lib.hid (l6Open_any a nb cb w hc h63 hb)
  clear hb
  go_enter Try.func76, Try.ntmps76
  go_wp2_with fail
  refine (E.out).mono ?_
  rintro e w1 ⟨n', c', rfl, hs, hz, hd⟩
  have HD1 := Lib.hid hd
  have HS := Lib.hid hs
  have hz1 : w.heap.size < w1.heap.size := by omega
  clear hd hs hz
  go_wp2_with fail
  refine (pick_any w _ w.heap.size n' c' _ a _ HD1.out (by omega)).mono ?_
  rintro e w2 ⟨y2, rfl, hy2, hg2, hd2⟩
  have HD2 := Lib.hid hd2
  have HG2 := Lib.hid hg2
  clear hd2 hg2
  obtain ⟨n, hn, hhn⟩ : ∃ n : Nat, IntKind.i64.wrap (1 + (y2 : Int)) = n ∧ n = y2 + 1 := ⟨y2 + 1, (IntWalk.i64_in _ ⟨by omega, by omega⟩).trans (by omega), rfl⟩
  have hbn : 1 ≤ n ∧ n ≤ 4 := by omega
  clear hhn hy2
  go_wp2_with fail
  refine (pick_any w _ w.heap.size n' c' _ a _ HD2.out (by omega)).mono ?_
  rintro e w3 ⟨y3, rfl, hy3, hg3, hd3⟩
  have HD3 := Lib.hid hd3
  have HG3 := Lib.hid hg3
  clear hd3 hg3
  obtain ⟨m, hm, hhm⟩ : ∃ m : Nat, IntKind.i64.wrap (1 + (y3 : Int)) = m ∧ m = y3 + 1 := ⟨y3 + 1, (IntWalk.i64_in _ ⟨by omega, by omega⟩).trans (by omega), rfl⟩
  have hbm : 1 ≤ m ∧ m ≤ 4 := by omega
  clear hhm hy3
  go_wp2_with fail
  refine (l91Table_any w _ w.heap.size n' c' _ n m a HD3.out (by omega) (by omega) (by omega) (by omega)).mono ?_
  rintro e w4 ⟨vl, l, Al, Cl, pl, rfl, hll, hlml, hg4, hd4, hpl, hBl⟩
  obtain ⟨al, cpl, hvl, hITl⟩ := hBl.inT
  rw [hll] at hvl
  subst hvl
  have HD4 := Lib.hid hd4
  have HG4 := Lib.hid hg4
  have HLl := Lib.hid hll
  have HLMl := Lib.hid hlml
  have HITl := Lib.hid hITl
  clear hd4 hg4 hll hlml hITl hBl
  go_wp2_with fail
  refine (pick_any w _ w.heap.size n' c' _ a _ HD4.out (by omega)).mono ?_
  rintro e w5 ⟨y5, rfl, hy5, hg5, hd5⟩
  have HD5 := Lib.hid hd5
  have HG5 := Lib.hid hg5
  clear hd5 hg5
  obtain ⟨d5, hq5, hd5⟩ : ∃ d : Nat, IntKind.i64.wrap ((y5 : Int) / 23) = d ∧ d ≤ 1 := ⟨y5 / 23, (IntWalk.i64_in _ ⟨by omega, by omega⟩).trans (by omega), by omega⟩
  obtain ⟨n2, hn2, hhn2⟩ : ∃ n2 : Nat, IntKind.i64.wrap ((m : Int) + (d5 : Int)) = n2 ∧ 1 ≤ n2 ∧ n2 ≤ 5 := ⟨m + d5, (IntWalk.i64_in _ ⟨by omega, by omega⟩).trans (by omega), by omega, by omega⟩
  clear hy5
  go_wp2_with fail
  refine (pick_any w _ w.heap.size n' c' _ a _ HD5.out (by omega)).mono ?_
  rintro e w6 ⟨y6, rfl, hy6, hg6, hd6⟩
  have HD6 := Lib.hid hd6
  have HG6 := Lib.hid hg6
  clear hd6 hg6
  obtain ⟨m2, hm2, hhm2⟩ : ∃ m2 : Nat, IntKind.i64.wrap (1 + (y6 : Int)) = m2 ∧ m2 = y6 + 1 := ⟨y6 + 1, (IntWalk.i64_in _ ⟨by omega, by omega⟩).trans (by omega), rfl⟩
  have hbm2 : 1 ≤ m2 ∧ m2 ≤ 4 := by omega
  clear hhm2 hy6
  go_wp2_with fail
  refine (l91Table_any w _ w.heap.size n' c' _ n2 m2 a HD6.out (by omega) (by omega) (by omega) (by omega)).mono ?_
  rintro e w7 ⟨vu, u, Au, Cu, pu, rfl, hlu, hlmu, hg7, hd7, hpu, hBu⟩
  obtain ⟨au, cpu, hvu, hITu⟩ := hBu.inT
  rw [hlu] at hvu
  subst hvu
  have HD7 := Lib.hid hd7
  have HG7 := Lib.hid hg7
  have HLu := Lib.hid hlu
  have HLMu := Lib.hid hlmu
  have HITu := Lib.hid hITu
  clear hd7 hg7 hlu hlmu hITu hBu
  have hall := grown_trans (grown_trans (grown_trans (grown_trans (grown_trans (HG2.out) HG3.out) HG4.out) HG5.out) HG6.out) HG7.out
  have hbl := (grown_trans (HG2.out) HG3.out).size
  have hbu := (grown_trans (grown_trans (grown_trans (grown_trans (HG2.out) HG3.out) HG4.out) HG5.out) HG6.out).size
  have hs1 := HS.out.size
  have hfin := HS.out.trans (since_grown hall (Nat.le_refl _) hs1)
  have itl := (HITl.out.kept (grown_trans (grown_trans (HG5.out) HG6.out) HG7.out) (by omega)).mono (show w.heap.size ≤ _ by omega) (grown_trans (grown_trans (HG5.out) HG6.out) HG7.out).size
  have itu := HITu.out.mono (show w.heap.size ≤ _ by omega) (Nat.le_refl _)
  go_wp2
  go_ret2
  exact ⟨_, _, l, _, _, u, by rw [HLl.out, HLu.out]; rfl, hfin, drawnT_of HLl.out HLMl.out (by omega) (by omega) itl, drawnT_of HLu.out HLMu.out (by omega) (by omega) itu⟩

set_option maxHeartbeats 1000000 in
theorem drawMake_any (a : Option Addr) (nb cb : Nat) (w : World) (hc : nb ≤ cb) (h63 : cb ≤ 9223372036854775807) (hb : BytR w a nb) :
    Calls Try.prog 37 #[.slice a nb cb] w fun e w' => ∃ a' cap l b' cap2 u, e = .returned (.tuple #[.slice a' l.length cap, .slice b' u.length cap2]) ∧ w.Since w.heap.size w' ∧ DrawnT w w' 5 5 a' l ∧ DrawnT w w' 5 5 b' u := by
  have E := Lib.hid (l91Made_any a nb cb w hc h63 hb)
  clear hb
  go_enter Try.func37, Try.ntmps37
  go_wp2_with fail
  refine (E.out).mono ?_
  rintro e w1 ⟨a', cap, l, b', cap2, u, rfl, hs, hl, hu⟩
  go_wp2
  go_ret2
  exact ⟨a', cap, l, b', cap2, u, rfl, hs, hl, hu⟩

end Go.Proofs.Ytkfondipmhjhjaa

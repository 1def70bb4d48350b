/- The walk of laws.FnTrace. -/
import Derived.Test.YtkfondipmhjhjaaSquareD
import Derived.Test.YtkfondipmhjhjaaFnTurn
import Derived.Test.YtkfondipmhjhjaaAcross
import Derived.Test.YtkfondipmhjhjaaTraceQ
import Derived.Test.YtkfondipmhjhjaaTraceI
namespace Go.Proofs.Ytkfondipmhjhjaa
open Go.RowKit Go.Deep

set_option maxRecDepth 100000 in
set_option maxHeartbeats 4000000 in
theorem fnTrace (a : Option Addr) (cap n : Nat) (w : World) (hc : n ≤ cap) (h63 : cap ≤ 9223372036854775807) (hb : BytR w a n) :
    Calls Try.prog 8 #[.slice a n cap] w fun e w' => e = .returned (.bool true) ∧ w.Since w.heap.size w' := by
  by_cases hlen : 1048576 < n
  · have hl' : decide ((1048576 : Int) < (n : Int)) = true := by simp; omega
    clear hb
    go_enter Try.func8, Try.ntmps8
    go_wp2
    go_ret
    exact ⟨rfl, World.Since.refl _ _⟩
  · have hl' : decide ((1048576 : Int) < (n : Int)) = false := by simp; omega
    have ED := Lib.hid (drawValueTrace_any a n cap w hc h63 hb)
    clear hb
    go_enter Try.func8, Try.ntmps8
    go_wp2_with fail
    refine (ED.out).mono ?_
    rintro e w1 ⟨a1, c1, l, rfl, hs1, h1, h5, hlens, hit⟩
    have hsz : szL l ≤ 1048576 := szL_of h5 (fun j hj => (hlens j hj).2) (by decide)
    obtain ⟨nn, hn⟩ : ∃ nn, l.length = nn := ⟨_, rfl⟩
    rw [hn]
    have HN := Lib.hid hn
    have HSZ := Lib.hid hsz
    have HM := Lib.hid (fun (W : World) (h : w1.Since w1.heap.size W) => hit.matR.since h)
    have HS1 := Lib.hid hs1
    obtain ⟨ok, hok⟩ : ∃ ok, sqB l = ok := ⟨_, rfl⟩
    obtain ⟨v, hv⟩ : ∃ v, (if ok = true then sumN (trF l) nn else 0) = v := ⟨_, rfl⟩
    have E1 := implValueTrace_any a1 c1 nn l w1 hn hsz hit.matR
    have E2 := fun (W : World) (h : w1.Since w1.heap.size W) => specValueTrace_any a1 c1 nn l W hn hsz (hit.matR.since h)
    unfold SpecW at E1
    unfold SpecV at E2
    rw [hok, hv] at E1
    simp only [hok, hv] at E2
    replace E1 := Lib.hid E1
    replace E2 := Lib.hid E2
    have HOK := Lib.hid hok
    have HV := Lib.hid hv
    clear hn hsz hit hs1 h1 h5 hlens hok hv
    go_wp2_with fail
    refine (E1.out).mono ?_
    rintro e w2 ⟨rfl, hs2⟩
    have HS2 := Lib.hid hs2
    clear hs2
    go_wp2_with fail
    refine (E2.out w2 HS2.out).mono ?_
    rintro e w3 ⟨rfl, hd3⟩
    have HS3 := Lib.hid (HS2.out.trans (since_mono (hd3.since _) HS2.out.size))
    clear hd3
    cases ok with
    | false =>
      go_wp2
      go_ret
      exact ⟨rfl, HS1.out.trans (since_mono HS3.out HS1.out.size)⟩
    | true =>
      have hv := HV.out
      rw [if_pos rfl] at hv
      obtain ⟨hT, hw, ht1, ht2, ht3, ht4⟩ := trace_turn HOK.out HN.out
      obtain ⟨hz1, hz2, hz3, hz4, hz5, hz6, hz7⟩ := trace_neg HOK.out HN.out
      have E5 := across_any a1 c1 nn l w3 HN.out hT (HM.out w3 HS3.out)
      rw [hw] at E5
      have E6 := fun (a' : Option Addr) (c' : Nat) (W : World) (h : MatR W a' (turnL l)) => implValueTrace_any a' c' nn (turnL l) W ht2 ht3 h
      have E7 := fun (W : World) (h : w1.Since w1.heap.size W) => implTableTimes_any a1 c1 nn l (-1) W HN.out HSZ.out (HM.out W h)
      have E8 := fun (a' : Option Addr) (c' : Nat) (W : World) (h : MatR W a' (timesL l (-1))) => implValueTrace_any a' c' nn (timesL l (-1)) W hz3 hz4 h
      unfold SpecW at E6 E8
      unfold ImplT at E7
      simp only [ht1, ht4, hv, if_true] at E6
      simp only [hz2, hz5, hv, if_true] at E8
      rw [hv] at hz6 hz7
      simp only [hz1, resT, if_true, hz3] at E7
      have hneg : IntKind.i64.wrap (0 - v) = -v := (IntWalk.i64_in _ ⟨by omega, by omega⟩).trans (by omega)
      replace E5 := Lib.hid E5
      replace E6 := Lib.hid E6
      replace E7 := Lib.hid E7
      replace E8 := Lib.hid E8
      clear hT hw ht1 ht2 ht3 ht4 hz1 hz2 hz3 hz4 hz5 hv
      go_wp2_with fail
      refine (E5.out).mono ?_
      rintro e w5 ⟨a5, c5, rfl, hs5, ho5⟩
      have HS5 := Lib.hid (HS3.out.trans (since_mono hs5 HS3.out.size))
      have HX5 := Lib.hid ho5.matR
      clear hs5 ho5
      go_wp2_with fail
      refine (E6.out a5 c5 w5 HX5.out).mono ?_
      rintro e w6 ⟨rfl, hs6⟩
      have HS6 := Lib.hid (HS5.out.trans (since_mono hs6 HS5.out.size))
      clear hs6
      go_wp2_with fail
      refine (E7.out w6 HS6.out).mono ?_
      rintro e w7 ⟨a7, c7, rfl, hs7, ho7⟩
      have HS7 := Lib.hid (HS6.out.trans (since_mono hs7 HS6.out.size))
      have HX7 := Lib.hid ho7.matR
      clear hs7 ho7
      go_wp2_with fail
      refine (E8.out a7 c7 w7 HX7.out).mono ?_
      rintro e w8 ⟨rfl, hs8⟩
      have HS8 := Lib.hid (HS7.out.trans (since_mono hs8 HS7.out.size))
      clear hs8
      go_wp2
      go_ret
      exact ⟨rfl, HS1.out.trans (since_mono HS8.out HS1.out.size)⟩

end Go.Proofs.Ytkfondipmhjhjaa

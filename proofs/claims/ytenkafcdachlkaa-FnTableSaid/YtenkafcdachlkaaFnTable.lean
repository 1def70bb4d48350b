/- The walk of laws.FnTable. -/
import Derived.Test.YtenkafcdachlkaaDraws
import Derived.Test.YtenkafcdachlkaaFnTurn
import Derived.Test.YtenkafcdachlkaaSameImpl
namespace Go.Proofs.Ytenkafcdachlkaa
open Go.RowKit Go.Deep

theorem sameOk_self {l : List (List Int)} (h : tabIn l = true) : sameOk l l = true := by unfold sameOk; rw [h]; simp

set_option maxRecDepth 100000 in
set_option maxHeartbeats 2000000 in
theorem fnTable (a : Option Addr) (cap n : Nat) (w : World) (hc : n ≤ cap) (h63 : cap ≤ 9223372036854775807) (hb : BytR w a n) :
    Calls Try.prog 3 #[.slice a n cap] w fun e w' => e = .returned (.bool true) ∧ w.Since w.heap.size w' := by
  by_cases hlen : 1048576 < n
  · have hl' : decide ((1048576 : Int) < (n : Int)) = true := by simp; omega
    clear hb
    go_enter Try.func3, Try.ntmps3
    go_wp2
    go_ret
    exact ⟨rfl, World.Since.refl _ _⟩
  · have hl' : decide ((1048576 : Int) < (n : Int)) = false := by simp; omega
    have ED := Lib.hid (drawIn_any a n cap w hc h63 hb)
    clear hb
    go_enter Try.func3, Try.ntmps3
    go_wp2_with fail
    refine (ED.out).mono ?_
    rintro e w1 ⟨a1, c1, l, rfl, hs1, h1, h5, hlens, hit⟩
    have hsz : szL l ≤ 1048576 := szL_of h5 (fun j hj => (hlens j hj).2) (by decide)
    obtain ⟨nn, hn⟩ : ∃ nn, l.length = nn := ⟨_, rfl⟩
    rw [hn]
    have HM := fun (W : World) (h : w1.Since w1.heap.size W) => hit.matR.since h
    have HS1 := Lib.hid hs1
    obtain ⟨ok, hok⟩ : ∃ ok, tabIn l = ok := ⟨_, rfl⟩
    have E1 := implTableIn_any a1 c1 nn l w1 hn hsz hit.matR
    have E2 := fun (W : World) (h : w1.Since w1.heap.size W) => specTableIn_any a1 c1 nn l W hn hsz (HM W h)
    have E3 := fun (W : World) (h : w1.Since w1.heap.size W) => implTableTurn_any a1 c1 nn l W hn hsz (HM W h)
    have E5 := fun (W : World) (h : w1.Since w1.heap.size W) => implTableSame_any a1 a1 c1 c1 nn nn l l W hn hn hsz hsz (HM W h) (HM W h)
    rw [hok] at E1
    simp only [hok] at E2
    replace E1 := Lib.hid E1
    replace E2 := Lib.hid E2
    have HOK := Lib.hid hok
    replace E3 := Lib.hid E3
    replace E5 := Lib.hid E5
    clear hn hsz hit hs1 h1 h5 hlens HM hok
    go_wp2_with fail
    refine (E1.out).mono ?_
    rintro e w2 ⟨rfl, hs2⟩
    have HS2 := Lib.hid hs2
    clear hs2
    go_wp2_with fail
    refine (E2.out w2 HS2.out).mono ?_
    rintro e w3 ⟨rfl, hd3⟩
    have HS3 := Lib.hid (HS2.out.trans (since_mono (hd3.since w2.heap.size) HS2.out.size))
    clear hd3
    cases ok with
    | false =>
      go_wp2
      go_ret
      exact ⟨rfl, HS1.out.trans (since_mono HS3.out HS1.out.size)⟩
    | true =>
      have E3' := E3.out w3 HS3.out
      have hT := tabIn_of HOK.out
      have hTT := tabIn_turn hT
      unfold ImplT at E3'
      rw [HOK.out] at E3'
      have hsq := szL_turn hT
      obtain ⟨M, hM⟩ : ∃ M, turnL l = M := ⟨_, rfl⟩
      rw [hM] at E3' hTT hsq
      obtain ⟨q, hq⟩ : ∃ q, M.length = q := ⟨_, rfl⟩
      rw [show (resT true M).length = q from hq] at E3'
      have HTT := Lib.hid hTT
      have HSQ := Lib.hid hsq
      have HQ := Lib.hid hq
      replace E3 := Lib.hid E3'
      clear E3' hT hTT hsq hM hq
      go_wp2_with fail
      refine (E3.out).mono ?_
      rintro e w4 ⟨a4, c4, rfl, hs4, ho4⟩
      have HS4 := Lib.hid (HS3.out.trans (since_mono hs4 HS3.out.size))
      have E4 := implTableIn_any a4 c4 q M w4 HQ.out HSQ.out ho4.matR
      rw [HTT.out] at E4
      replace E4 := Lib.hid E4
      clear hs4 ho4
      go_wp2_with fail
      refine (E4.out).mono ?_
      rintro e w5 ⟨rfl, hs5⟩
      have HS5 := Lib.hid (HS4.out.trans (since_mono hs5 HS4.out.size))
      clear hs5
      have E6 := E5.out w5 HS5.out
      rw [sameOk_self HOK.out] at E6
      replace E6 := Lib.hid E6
      go_wp2_with fail
      refine (E6.out).mono ?_
      rintro e w6 ⟨rfl, hs6⟩
      have HS6 := Lib.hid (HS5.out.trans (since_mono hs6 HS5.out.size))
      clear hs6
      go_wp2
      go_ret
      exact ⟨rfl, HS1.out.trans (since_mono HS6.out HS1.out.size)⟩

end Go.Proofs.Ytenkafcdachlkaa

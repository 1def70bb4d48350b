/- The walk of laws.FnChainPairs. -/
import Derived.Test.YtdbomnhlgaohaaaDrawCh
import Derived.Test.YtdbomnhlgaohaaaChainI
import Derived.Test.YtdbomnhlgaohaaaChainJ
import Derived.Test.YtdbomnhlgaohaaaChainQ
namespace Go.Proofs.Ytdbomnhlgaohaaa
open Go.RowKit Go.Deep

set_option maxRecDepth 100000 in
set_option maxHeartbeats 4000000 in
theorem fnChainPairs (a : Option Addr) (cap n : Nat) (w : World) (hc : n ≤ cap) (h63 : cap ≤ 9223372036854775807) (hb : BytR w a n) :
    Calls Try.prog 5 #[.slice a n cap] w fun e w' => e = .returned (.bool true) ∧ w.Since w.heap.size w' := by
  by_cases hlen : 1048576 < n
  · have hl' : decide ((1048576 : Int) < (n : Int)) = true := by simp; omega
    clear hb
    go_enter Try.func5, Try.ntmps5
    go_wp2
    go_ret
    exact ⟨rfl, World.Since.refl _ _⟩
  · have hl' : decide ((1048576 : Int) < (n : Int)) = false := by simp; omega
    have ED := Lib.hid (drawChainPairs_any a n cap w hc h63 hb)
    clear hb
    go_enter Try.func5, Try.ntmps5
    go_wp2_with fail
    refine (ED.out).mono ?_
    rintro e w1 ⟨ax, cx, x, rfl, hs1, hx7, hr, hcap⟩
    obtain ⟨m, hm⟩ : ∃ m, x.length = m := ⟨_, rfl⟩
    rw [hm] at hx7 hcap ⊢
    have HS1 := Lib.hid hs1
    have E1 := implChainPairs_any ax cx m x w1 hm (by omega) hr
    have E2 := fun (W : World) (h : w1.Since w1.heap.size W) => specChainPairs_any ax cx m x W hm hcap.1 hcap.2 (hr.since h)
    have E3 := fun (W : World) (h : w1.Since w1.heap.size W) => implChainValue_any ax cx m x W hm (by omega) (hr.since h)
    cases hok : l9B x with
    | false =>
      rw [hok] at E1
      simp only [hok] at E2
      replace E1 := Lib.hid E1
      replace E2 := Lib.hid E2
      clear hok hr hm hs1 E3
      go_wp2_with fail
      refine (E1.out).mono ?_
      rintro e w2 ⟨rfl, hs2⟩
      have HS2 := Lib.hid hs2
      clear hs2
      go_wp2_with fail
      refine (E2.out w2 HS2.out).mono ?_
      rintro e w3 ⟨rfl, hs3⟩
      go_wp2
      go_ret
      exact ⟨rfl, HS1.out.trans (since_mono (HS2.out.trans (since_mono hs3 HS2.out.size)) HS1.out.size)⟩
    | true =>
      obtain ⟨v, hv⟩ : ∃ v, chV x = v := ⟨_, rfl⟩
      rw [hok, hv] at E1
      simp only [hok, hv] at E2 E3
      replace E1 := Lib.hid E1
      replace E2 := Lib.hid E2
      replace E3 := Lib.hid E3
      clear hok hr hm hs1 hv
      go_wp2_with fail
      refine (E1.out).mono ?_
      rintro e w2 ⟨rfl, hs2⟩
      have HS2 := Lib.hid hs2
      clear hs2
      go_wp2_with fail
      refine (E2.out w2 HS2.out).mono ?_
      rintro e w3 ⟨rfl, hs3⟩
      have HS3 := Lib.hid (HS2.out.trans (since_mono hs3 HS2.out.size))
      clear hs3
      go_wp2_with fail
      refine (E3.out w3 HS3.out).mono ?_
      rintro e w4 ⟨rfl, hs4⟩
      go_wp2
      go_ret
      exact ⟨rfl, HS1.out.trans (since_mono (HS3.out.trans (since_mono hs4 HS3.out.size)) HS1.out.size)⟩

end Go.Proofs.Ytdbomnhlgaohaaa

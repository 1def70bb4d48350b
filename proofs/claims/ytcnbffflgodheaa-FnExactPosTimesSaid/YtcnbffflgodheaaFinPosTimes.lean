/- The walk of laws.FnExactPosTimes at any arguments. -/
import Derived.Test.YtcnbffflgodheaaLawPosTimes
import Derived.Test.YtcnbffflgodheaaTimesV
namespace Go.Proofs.Ytcnbffflgodheaa
open Go.RowKit Go.Deep

theorem lawPosTimes (a0 : Option Addr) (cap0 n0 : Nat) (l0 : List (List Int)) (a1 : Option Addr) (cap1 n1 : Nat) (l1 : List Int) (w : World) (hn0 : l0.length = n0) (h630 : n0 ≤ 9223372036854775807) (hl0 : ∀ r, r < l0.length → (l0.getD r []).length ≤ 9223372036854775807) (hm0 : MatR w a0 l0) (hn1 : l1.length = n1) (h631 : n1 ≤ 9223372036854775807) (hm1 : RowR w a1 l1) :
    Calls Try.prog 13 #[.slice a0 n0 cap0, .slice a1 n1 cap1] w fun e w' => e = .returned (.bool true) ∧ w.Since w.heap.size w' :=
  lawPosTimes_aux a0 cap0 n0 l0 a1 cap1 n1 l1 (ptOk l0 l1) (if ptOk l0 l1 = true then ptL l0 l1 n1 else []) w hn0 h630 hl0 hm0 hn1 h631 hm1
    (by
      cases h : ptOk l0 l1 with
      | false => simp
      | true =>
        rw [if_pos rfl, ptL_length]
        unfold ptOk at h
        simp only [Bool.and_eq_true] at h
        have h2 := (tabIn_of h.1).2.1
        omega)
    (fun hz W b0 c0 b1 c1 h0 h1 => (specPosTimes_any b0 b1 c0 c1 n0 n1 l0 l1 W hn0 hn1 hz.1 h0 h1).mono fun _ _ h => h)
    (fun hz W b0 c0 b1 c1 h0 h1 => (implPosTimes_any b0 b1 c0 c1 n0 n1 l0 l1 W hn0 hn1 hz.2 hz.1 h0 h1).mono fun _ _ h => h)

end Go.Proofs.Ytcnbffflgodheaa

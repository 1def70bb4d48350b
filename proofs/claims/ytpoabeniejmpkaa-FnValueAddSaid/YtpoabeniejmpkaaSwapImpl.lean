/- The contract of impl.TableSwap. -/
import Derived.Test.YtpoabeniejmpkaaSwapped
import Derived.Test.YtpoabeniejmpkaaPartTab
import Derived.Test.YtpoabeniejmpkaaAddImpl
namespace Go.Proofs.Ytpoabeniejmpkaa
open Go.RowKit Go.Deep


/-- Does TableSwap succeed? -/
noncomputable def swapOk (l : List (List Int)) (i k : Int) : Bool := tabIn l && (rowB i l.length && rowB k l.length)
theorem swapOk_tab {l : List (List Int)} {i k : Int} (h : swapOk l i k = true) : TabIn (swapL l i.toNat k.toNat) := by
  unfold swapOk at h
  rw [Bool.and_eq_true, Bool.and_eq_true] at h
  obtain ⟨i, rfl, hi⟩ := rowB_of h.2.1
  obtain ⟨k, rfl, hk⟩ := rowB_of h.2.2
  exact swapL_tab (tabIn_of h.1) hi hk
theorem szL_swapOk (l : List (List Int)) (i k : Int) (h : swapOk l i k = true) : szL (swapL l i.toNat k.toNat) ≤ 1048576 := szL_tab (swapOk_tab h)



set_option maxHeartbeats 1000000 in
theorem implTableSwap_any (a : Option Addr) (cap n : Nat) (l : List (List Int)) (i k : Int) (w : World) (hn : l.length = n) (hsz : szL l ≤ 1048576) (hm : MatR w a l) :
    Calls Try.prog 43 #[.slice a n cap, .int .i64 i, .int .i64 k] w (ImplT w (swapOk l i k) (swapL l i.toNat k.toNat)) := by
  have E := Lib.hid (implTableIn_any a cap n l w hn hsz hm)
  cases hT : tabIn l with
  | false =>
    have hok : swapOk l i k = false := by unfold swapOk; rw [hT]; rfl
    rw [hT] at E
    rw [hok]
    clear hT hsz hm hn hok
    go_enter Try.func43, Try.ntmps43
    go_wp2_with fail
    refine (E.out).mono ?_
    rintro e w1 ⟨rfl, hs⟩
    go_wp2
    go_ret2
    exact ⟨_, _, rfl, hs, OwnT.nil _ _ _ _⟩
  | true =>
    have hTT := tabIn_of hT
    have h1 := hTT.1
    have h6 := hTT.2.1
    rw [hn] at h1 h6
    rw [hT] at E
    have E2 := Lib.hid (fun W => hasRow_any a cap n i W h1 h6)
    have E3 := Lib.hid (fun W => hasRow_any a cap n k W h1 h6)
    cases hfr : rowB i n with
    | false =>
      have hok : swapOk l i k = false := by unfold swapOk; rw [hT, hn, hfr]; rfl
      rw [hfr] at E2
      rw [hok]
      clear hT hsz hm hn hok hTT hfr E3
      go_enter Try.func43, Try.ntmps43
      go_wp2_with fail
      refine (E.out).mono ?_
      rintro e w1 ⟨rfl, hs⟩
      go_wp2_with fail
      refine (E2.out w1).mono ?_
      rintro e w2 ⟨rfl, rfl⟩
      go_wp2
      go_ret2
      exact ⟨_, _, rfl, hs, OwnT.nil _ _ _ _⟩
    | true =>
      rw [hfr] at E2
      cases hto : rowB k n with
      | false =>
        have hok : swapOk l i k = false := by unfold swapOk; rw [hT, hn, hfr, hto]; rfl
        rw [hto] at E3
        rw [hok]
        clear hT hsz hm hn hok hTT hfr hto
        go_enter Try.func43, Try.ntmps43
        go_wp2_with fail
        refine (E.out).mono ?_
        rintro e w1 ⟨rfl, hs⟩
        go_wp2_with fail
        refine (E2.out w1).mono ?_
        rintro e w2 ⟨rfl, rfl⟩
        go_wp2_with fail
        refine (E3.out w1).mono ?_
        rintro e w2 ⟨rfl, rfl⟩
        go_wp2
        go_ret2
        exact ⟨_, _, rfl, hs, OwnT.nil _ _ _ _⟩
      | true =>
        rw [hto] at E3
        have hok : swapOk l i k = true := by unfold swapOk; rw [hT, hn, hfr, hto]; rfl
        rw [hok]
        obtain ⟨i, rfl, hfl⟩ := rowB_of hfr
        obtain ⟨k, rfl, htl⟩ := rowB_of hto
        simp only [Int.toNat_natCast]
        have HE2 := Lib.hid (fun (W : World) (hs : w.Since w.heap.size W) => swapped_any a cap n i k l W hn hTT.rec hfl htl (hm.since hs))
        have HTL := Lib.hid ((swapL_length l i k).trans hn)
        have hTS := swapL_tab hTT (by rw [hn]; exact hfl) (by rw [hn]; exact htl)
        have HTS := Lib.hid (tabIn_true hTS)
        have HSZ := Lib.hid (szL_tab hTS)
        clear hT hsz hm hn hok hTT hfr hto hTS
        go_enter Try.func43, Try.ntmps43
        go_wp2_with fail
        refine (E.out).mono ?_
        rintro e w1 ⟨rfl, hs⟩
        go_wp2_with fail
        refine (E2.out w1).mono ?_
        rintro e w2 ⟨rfl, rfl⟩
        go_wp2_with fail
        refine (E3.out w1).mono ?_
        rintro e w2 ⟨rfl, rfl⟩
        go_wp2_with fail
        refine (HE2.out w1 hs).mono ?_
        rintro e w2 ⟨a2, cap2, rfl, hs2, ho⟩
        have hs12 : w.Since w.heap.size w2 := hs.trans (since_mono hs2 hs.size)
        have hz := hs.size
        have E6 := result_any a2 cap2 n _ _ (swapL l i k) w2 HTL.out HSZ.out ho
        rw [HTS.out] at E6
        replace E6 := Lib.hid E6
        go_wp2_with fail
        refine (E6.out).mono ?_
        rintro e w3 ⟨a', cap', rfl, hs3, ho3⟩
        go_wp2
        go_ret2
        exact ⟨a', cap', rfl, hs12.trans (since_mono hs3 hs12.size), ho3.mono hz hs3.size⟩

end Go.Proofs.Ytpoabeniejmpkaa

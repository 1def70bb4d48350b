/- For every list of lists, laws.FnExactTableIn returns true and leaves its argument as it was. -/
import Derived.Test.YtmcbephlhjceaaaTabInImpl
import Derived.Test.YtmcbephlhjceaaaOpen
namespace Go.Proofs.Ytmcbephlhjceaaa
open Go.RowKit Go.Deep

set_option maxRecDepth 100000 in
set_option maxHeartbeats 1000000 in
theorem lawTableIn (a : Option Addr) (cap n : Nat) (l : List (List Int)) (w : World) (hn : l.length = n) (h63 : n ≤ 9223372036854775807) (hl : ∀ r, r < l.length → (l.getD r []).length ≤ 9223372036854775807) (hm : MatR w a l) :
    Calls Try.prog 3 #[.slice a n cap] w fun e w' => e = .returned (.bool true) ∧ w.Since w.heap.size w' := by
  subst hn
  have E1 := Lib.hid (szIntSS_any a cap l 1048576 w (by omega) (by omega) h63 hl hm)
  have HL := Lib.hid hl
  have HM := Lib.hid hm
  clear hl hm
  obtain ⟨n, hn⟩ : ∃ n, l.length = n := ⟨_, rfl⟩
  rw [hn] at E1 h63 ⊢
  have HN := Lib.hid hn
  clear hn
  go_enter Try.func3, Try.ntmps3
  go_wp2_with fail
  refine (E1.out).mono ?_
  rintro e w' ⟨r, rfl, hr1, hr2, rfl⟩
  by_cases hr0 : r < 0
  · go_wp2
    go_ret
    exact ⟨rfl, World.Since.refl _ _⟩
  · have hsz : szL l ≤ 1048576 := by have := hr2 (by omega); omega
    clear hr2
    have hcopy := fun (W : World) (hs : w.Since w.heap.size W) => toIntSS_any a cap n l W HN.out hsz (HM.out.since hs)
    have HCP := Lib.hid hcopy
    clear hcopy
    go_wp2_with fail
    refine (HCP.out _ (World.Since.refl _ _)).mono ?_
    rintro e w1 ⟨rfl, m1⟩
    go_wp2_with fail
    refine (specTableIn_any _ _ _ l w1 HN.out hsz (m1.matR HN.out)).mono ?_
    rintro e w2 ⟨rfl, d2⟩
    have s2 : w.Since w.heap.size w2 := m1.since.trans (d2.since _)
    go_wp2_with fail
    refine (HCP.out _ s2).mono ?_
    rintro e w3 ⟨rfl, m3⟩
    have s3 : w.Since w.heap.size w3 := s2.trans (since_mono m3.since s2.size)
    go_wp2_with fail
    refine (implTableIn_any _ _ _ l w3 HN.out hsz (m3.matR HN.out)).mono ?_
    rintro e w4 ⟨rfl, m4⟩
    have s4 : w.Since w.heap.size w4 := s3.trans (since_mono m4 s3.size)
    have x4 : MatR w4 (some ⟨w2.heap.size, 0, none⟩) l := (m3.matR HN.out).since m4
    go_wp2_with fail
    refine (HCP.out _ s4).mono ?_
    rintro e w5 ⟨rfl, m5⟩
    have s5 : w.Since w.heap.size w5 := s4.trans (since_mono m5.since s4.size)
    have x5 : MatR w5 (some ⟨w2.heap.size, 0, none⟩) l := x4.since m5.since
    go_wp2_with fail
    refine (eqIntSS_same _ _ _ _ _ l w5 HN.out h63 HL.out x5 (m5.matR HN.out)).mono ?_
    rintro e w6 ⟨rfl, d6⟩
    go_wp2
    go_ret
    exact ⟨rfl, s5.trans (d6.since _)⟩

end Go.Proofs.Ytmcbephlhjceaaa

/- The contract of table.turned for numbers of any size. -/
import Derived.Test.YtcnbffflgodheaaTurnImpl
import Derived.Test.YtcnbffflgodheaaPartImpl
namespace Go.Proofs.Ytcnbffflgodheaa
open Go.RowKit Go.Deep

set_option maxRecDepth 100000 in
set_option maxHeartbeats 2000000 in
theorem turnedR_any (a : Option Addr) (cap n : Nat) (l : List (List Int)) (w : World) (hn : l.length = n) (hT : Rec l) (hm : MatR w a l) :
    Calls Try.prog 56 #[.slice a n cap] w fun e w' => e = .returned (.slice (some ⟨w.heap.size + 1, 0, none⟩) (l.getD 0 []).length (l.getD 0 []).length) ∧ w.Since w.heap.size w' ∧ OwnT w.heap.size w'.heap.size w' (some ⟨w.heap.size + 1, 0, none⟩) (turnL l) := by
  have hw := hT.width
  have h6 := hT.high
  rw [hn] at h6
  have h1 := hT.low
  rw [hn] at h1
  have hwid := fun (W : World) (hs : w.Since w.heap.size W) => width_any a cap n l W hn (by omega) (by omega) (hm.since hs)
  have hnt := fun (W : World) (hs : w.Since w.heap.size W) (hbox : W.cell? ⟨w.heap.size, 0, none⟩ = some (.slice a n cap)) =>
    newTable_any 94 #[.pointer (some ⟨w.heap.size, 0, none⟩)] (l.getD 0 []).length n (fun k i => at2 l i k) W (by omega) (by omega) (enters_of Try.func94 (by kernel_rfl) rfl)
      (fun W' i k hs' hi hk => turnEntry_any w.heap.size i k n cap a l W' hn ((hs'.cell (a := ⟨w.heap.size, 0, none⟩) (World.block_lt_of_cell? _ _ hbox)).trans hbox) (hm.since (hs.trans (since_mono hs' hs.size))) hk (by rw [hT.row (by omega)]; exact hi))
  obtain ⟨m, hmm⟩ : ∃ m, (l.getD 0 []).length = m := ⟨_, rfl⟩
  have htl : turnL l = tabF m n fun k i => at2 l i k := by unfold turnL; rw [hmm, hn]
  rw [hmm] at hwid hnt hw ⊢
  rw [htl]
  have HW := Lib.hid hwid
  have HNT := Lib.hid hnt
  have hs1 : w.Since w.heap.size (w.alloc (.cells #[.slice a n cap] 54)) := (World.Since.refl _ _).alloc (Nat.le_refl _) _
  have HS1 := Lib.hid hs1
  have hc := cell_new_l w (.slice a n cap) 54
  have hcb := hc.1
  clear hwid hnt hm hT hn hmm htl hs1 hc
  go_enter Try.func56, Try.ntmps56
  go_wp2
  go_region_held3 (fun w' => w'.cell? ⟨w.heap.size, 0, none⟩ = some (.slice a n cap)) (go_keep)
    (first
      | (go_at_call 66; refine (HW.out _ ?_).mono ?_; (exact World.Since.drew HS1.out); rintro e w1 ⟨rfl, rfl⟩)
      | (go_at_call 93; refine (HNT.out _ ?_ ?_).mono ?_; (exact World.Since.drew HS1.out); (exact hcb); rintro e w1 ⟨rfl, hs2, ho⟩; have hcc := hs2.cell (a := ⟨w.heap.size, 0, none⟩) (World.block_lt_of_cell? _ _ hcb); simp only [World.cell?_drew, hcb] at hcc))
  all_goals
    go_wp2
    go_ret
    refine ⟨rfl, HS1.out.trans (since_mono (since_of_drew hs2) (by simp)), ?_⟩
    have hz : (w.alloc (.cells #[.slice a n cap] 54)).drew.heap.size = w.heap.size + 1 := by simp
    rw [hz] at ho
    exact ho.mono (by omega) (Nat.le_refl _)

end Go.Proofs.Ytcnbffflgodheaa

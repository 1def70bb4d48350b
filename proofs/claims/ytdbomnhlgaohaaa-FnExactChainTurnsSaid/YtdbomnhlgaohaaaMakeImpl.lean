/- The contract of impl.TableMake. -/
import Derived.Test.YtdbomnhlgaohaaaSumSpec
import Derived.Test.YtdbomnhlgaohaaaMakeEntry
namespace Go.Proofs.Ytdbomnhlgaohaaa
open Go.RowKit Go.Deep

def makeL (l u : List (List Int)) : List (List Int) := tabF l.length (u.getD 0 []).length fun i k => sumN (dotF l u i k) u.length
theorem makeL_length (l u : List (List Int)) : (makeL l u).length = l.length := tabF_length _ _ _

set_option maxRecDepth 100000 in
set_option maxHeartbeats 2000000 in
theorem product_any (a : Option Addr) (cap n : Nat) (l : List (List Int)) (a2 : Option Addr) (cap2 n2 : Nat) (u : List (List Int)) (w : World) (hn : l.length = n) (hT : TabIn l) (hm : MatR w a l) (hu : u.length = n2) (hTu : TabIn u) (huw : (l.getD 0 []).length = n2) (hmu : MatR w a2 u) :
    Calls Try.prog 82 #[.slice a n cap, .slice a2 n2 cap2] w fun e w' => e = .returned (.slice (some ⟨w.heap.size + 1 + 1, 0, none⟩) n n) ∧ w.Since w.heap.size w' ∧ OwnT w.heap.size w'.heap.size w' (some ⟨w.heap.size + 1 + 1, 0, none⟩) (makeL l u) := by
  have hw := hTu.width
  have h6 := hT.2.1
  rw [hn] at h6
  have g6 := hTu.2.1
  have g1 := hTu.1
  rw [hu] at g6 g1
  have hwid := fun (W : World) (hs : w.Since w.heap.size W) => width_any a2 cap2 n2 u W hu (by omega) (by omega) (hmu.since hs)
  obtain ⟨m2, hmm⟩ : ∃ m, (u.getD 0 []).length = m := ⟨_, rfl⟩
  have hnt := fun (W : World) (hs : w.Since w.heap.size W) (hb0 : W.cell? ⟨w.heap.size, 0, none⟩ = some (.slice a n cap)) (hb1 : W.cell? ⟨w.heap.size + 1, 0, none⟩ = some (.slice a2 n2 cap2)) =>
    newTable_any 95 #[.pointer (some ⟨w.heap.size + 1, 0, none⟩), .pointer (some ⟨w.heap.size, 0, none⟩)] n m2 (fun i k => sumN (dotF l u i k) n2) W (by omega) (by omega) (enters_of Try.func95 (by kernel_rfl) rfl)
      (fun W' i k hs' hi hk => prodEntry_any (w.heap.size + 1) w.heap.size i k n n2 n2 m2 cap cap2 a a2 l u W' hn hu hT hTu huw hmm rfl ((hs'.cell (a := ⟨w.heap.size + 1, 0, none⟩) (World.block_lt_of_cell? _ _ hb1)).trans hb1) ((hs'.cell (a := ⟨w.heap.size, 0, none⟩) (World.block_lt_of_cell? _ _ hb0)).trans hb0) (hm.since (hs.trans (since_mono hs' hs.size))) (hmu.since (hs.trans (since_mono hs' hs.size))) hi hk)
  have htl : makeL l u = tabF n m2 (fun i k => sumN (dotF l u i k) n2) := by unfold makeL; rw [hmm, hn, hu]
  rw [hmm] at hwid hw
  rw [htl]
  have HW := Lib.hid hwid
  have HNT := Lib.hid hnt
  have HS1 := Lib.hid (show w.Since w.heap.size ((w.alloc (.cells #[.slice a n cap] 50)).alloc (.cells #[.slice a2 n2 cap2] 50)) from (((World.Since.refl _ _).alloc (Nat.le_refl _) _).alloc (by simp) _))
  have hc0 := cell_new_l w (.slice a n cap) 50
  have hc1 := cell_new_l (w.alloc (.cells #[.slice a n cap] 50)) (.slice a2 n2 cap2) 50
  simp only [World.size_alloc] at hc1
  have hcb0 : ((w.alloc (.cells #[.slice a n cap] 50)).alloc (.cells #[.slice a2 n2 cap2] 50)).cell? ⟨w.heap.size, 0, none⟩ = some (.slice a n cap) := (cell_alloc_l _ hc0.1)
  have hcb1 : ((w.alloc (.cells #[.slice a n cap] 50)).alloc (.cells #[.slice a2 n2 cap2] 50)).cell? ⟨w.heap.size + 1, 0, none⟩ = some (.slice a2 n2 cap2) := hc1.1
  clear hwid hnt hm hT hn hmm htl hc0 hc1 hu hTu huw hmu
  go_enter Try.func82, Try.ntmps82
  go_wp2
  go_region_held3 (fun w' => w'.cell? ⟨w.heap.size, 0, none⟩ = some (.slice a n cap) ∧ w'.cell? ⟨w.heap.size + 1, 0, none⟩ = some (.slice a2 n2 cap2)) (go_keep)
    (first
      | (go_at_call 83; refine (HW.out _ ?_).mono ?_; (exact World.Since.drew HS1.out); rintro e w1 ⟨rfl, rfl⟩)
      | (go_at_call 74; refine (HNT.out _ ?_ ?_ ?_).mono ?_; (exact World.Since.drew HS1.out); (exact hcb0); (exact hcb1); rintro e w1 ⟨rfl, hs2, ho⟩; have hcc := hs2.cell (a := ⟨w.heap.size, 0, none⟩) (World.block_lt_of_cell? _ _ hcb0); simp only [World.cell?_drew, hcb0] at hcc; have hcd := hs2.cell (a := ⟨w.heap.size + 1, 0, none⟩) (World.block_lt_of_cell? _ _ hcb1); simp only [World.cell?_drew, hcb1] at hcd))
  all_goals
    go_wp2
    go_ret
    refine ⟨rfl, HS1.out.trans (since_mono (since_of_drew hs2) (by simp; omega)), ?_⟩
    have hz : ((w.alloc (.cells #[.slice a n cap] 50)).alloc (.cells #[.slice a2 n2 cap2] 50)).drew.heap.size = w.heap.size + 1 + 1 := by simp
    rw [hz] at ho
    exact ho.mono (by omega) (Nat.le_refl _)

/-- Does TableMake succeed? -/
noncomputable def makeOk (l u : List (List Int)) : Bool := tabIn l && (tabIn u && (((l.getD 0 []).length == u.length) && tabIn (makeL l u)))
theorem szL_make {l u : List (List Int)} (h : TabIn l) (hu : TabIn u) : szL (makeL l u) ≤ 1048576 := szL_tabF _ _ _ (by have := h.2.1; omega) (by have := hu.width; omega)

end Go.Proofs.Ytdbomnhlgaohaaa

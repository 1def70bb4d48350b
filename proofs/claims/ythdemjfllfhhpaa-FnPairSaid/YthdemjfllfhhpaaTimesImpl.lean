/- The contract of impl.TableTimes. -/
import Derived.Test.YthdemjfllfhhpaaTurnImpl
namespace Go.Proofs.Ythdemjfllfhhpaa
open Go.RowKit Go.Deep

def timesL (l : List (List Int)) (f : Int) : List (List Int) := tabF l.length (l.getD 0 []).length fun i k => at2 l i k * f
theorem timesL_length (l : List (List Int)) (f : Int) : (timesL l f).length = l.length := tabF_length _ _ _
theorem mul_bd {a b : Int} (h1 : -30 ≤ a) (h2 : a ≤ 30) (h3 : -30 ≤ b) (h4 : b ≤ 30) : -900 ≤ a * b ∧ a * b ≤ 900 := by
  have h : ∀ x : Nat, ∀ y : Nat, x ≤ 30 → y ≤ 30 → x * y ≤ 900 := fun x y hx hy => Nat.le_trans (Nat.mul_le_mul hx hy) (by decide)
  have h5 := h a.natAbs b.natAbs (by omega) (by omega)
  rw [← Int.natAbs_mul] at h5
  omega

set_option maxHeartbeats 1000000 in
theorem timesEntry_any (p r i k n cap : Nat) (f : Int) (a : Option Addr) (l : List (List Int)) (w : World) (hn : l.length = n) (hT : TabIn l) (hbox : w.cell? ⟨p, 0, none⟩ = some (.slice a n cap)) (hbox2 : w.cell? ⟨r, 0, none⟩ = some (.int .i64 f)) (hm : MatR w a l) (hi : i < n) (hk : k < (l.getD 0 []).length)
    (hf1 : -30 ≤ f) (hf2 : f ≤ 30) :
    Calls Try.prog 127 #[.int .i64 i, .int .i64 k, .pointer (some ⟨p, 0, none⟩), .pointer (some ⟨r, 0, none⟩)] w fun e w' => e = .returned (.int .i64 (at2 l i k * f)) ∧ w.Since w.heap.size w' := by
  have hb := hT.at (i := i) (k := k) (by rw [hn]; exact hi) hk
  have hkr : k < (l.getD i []).length := by rw [hT.row (by rw [hn]; exact hi)]; exact hk
  obtain ⟨b, o, b', o', c, rfl, h1, h2⟩ := hm.entry (by rw [hn]; exact hi) hkr
  obtain ⟨y, hy⟩ : ∃ y, y = at2 l i k := ⟨_, rfl⟩
  obtain ⟨m, hmm⟩ : ∃ m, m = (l.getD i []).length := ⟨_, rfl⟩
  rw [← hy] at h2 hb ⊢
  rw [← hmm] at h1 hkr
  have hp := mul_bd hb.1 hb.2 hf1 hf2
  have hwr : IntKind.i64.wrap (y * f) = y * f := IntWalk.i64_in _ ⟨by omega, by omega⟩
  clear hy hmm hn hm hT hb hk hf1 hf2
  go_enter Try.func127, Try.ntmps127
  go_wp2
  go_quiet (fail)
  go_wp2
  go_ret
  exact ⟨rfl, since_drewN (World.Since.refl _ _) _⟩

set_option maxRecDepth 100000 in
set_option maxHeartbeats 2000000 in
theorem times_any (a : Option Addr) (cap n : Nat) (l : List (List Int)) (f : Int) (w : World) (hn : l.length = n) (hT : TabIn l) (hm : MatR w a l) (hf1 : -30 ≤ f) (hf2 : f ≤ 30) :
    Calls Try.prog 113 #[.slice a n cap, .int .i64 f] w fun e w' => e = .returned (.slice (some ⟨w.heap.size + 1 + 1, 0, none⟩) n n) ∧ w.Since w.heap.size w' ∧ OwnT w.heap.size w'.heap.size w' (some ⟨w.heap.size + 1 + 1, 0, none⟩) (timesL l f) := by
  have hw := hT.width
  have h6 := hT.2.1
  rw [hn] at h6
  have h1 := hT.1
  rw [hn] at h1
  have hwid := fun (W : World) (hs : w.Since w.heap.size W) => width_any a cap n l W hn (by omega) (by omega) (hm.since hs)
  have hnt := fun (W : World) (hs : w.Since w.heap.size W) (hb0 : W.cell? ⟨w.heap.size, 0, none⟩ = some (.slice a n cap)) (hb1 : W.cell? ⟨w.heap.size + 1, 0, none⟩ = some (.int .i64 f)) =>
    newTable_any 127 #[.pointer (some ⟨w.heap.size, 0, none⟩), .pointer (some ⟨w.heap.size + 1, 0, none⟩)] n (l.getD 0 []).length (fun i k => at2 l i k * f) W (by omega) (by omega) (enters_of Try.func127 (by kernel_rfl) rfl)
      (fun W' i k hs' hi hk => timesEntry_any w.heap.size (w.heap.size + 1) i k n cap f a l W' hn hT ((hs'.cell (a := ⟨w.heap.size, 0, none⟩) (World.block_lt_of_cell? _ _ hb0)).trans hb0) ((hs'.cell (a := ⟨w.heap.size + 1, 0, none⟩) (World.block_lt_of_cell? _ _ hb1)).trans hb1) (hm.since (hs.trans (since_mono hs' hs.size))) hi hk hf1 hf2)
  obtain ⟨m, hmm⟩ : ∃ m, (l.getD 0 []).length = m := ⟨_, rfl⟩
  have htl : timesL l f = tabF n m (fun i k => at2 l i k * f) := by unfold timesL; rw [hmm, hn]
  rw [hmm] at hwid hnt hw
  rw [htl]
  have HW := Lib.hid hwid
  have HNT := Lib.hid hnt
  have HS1 := Lib.hid (show w.Since w.heap.size ((w.alloc (.cells #[.slice a n cap] 48)).alloc (.cells #[.int .i64 f] 3)) from (((World.Since.refl _ _).alloc (Nat.le_refl _) _).alloc (by simp) _))
  have hc0 := cell_new_l w (.slice a n cap) 48
  have hc1 := cell_new_l (w.alloc (.cells #[.slice a n cap] 48)) (.int .i64 f) 3
  simp only [World.size_alloc] at hc1
  have hcb0 : ((w.alloc (.cells #[.slice a n cap] 48)).alloc (.cells #[.int .i64 f] 3)).cell? ⟨w.heap.size, 0, none⟩ = some (.slice a n cap) := (cell_alloc_l _ hc0.1)
  have hcb1 : ((w.alloc (.cells #[.slice a n cap] 48)).alloc (.cells #[.int .i64 f] 3)).cell? ⟨w.heap.size + 1, 0, none⟩ = some (.int .i64 f) := hc1.1
  clear hwid hnt hm hT hn hmm htl hc0 hc1
  go_enter Try.func113, Try.ntmps113
  go_wp2
  go_region_held3 (fun w' => w'.cell? ⟨w.heap.size, 0, none⟩ = some (.slice a n cap)) (go_keep)
    (first
      | (go_at_call 58; refine (HW.out _ ?_).mono ?_; (exact World.Since.drew HS1.out); rintro e w1 ⟨rfl, rfl⟩)
      | (go_at_call 79; refine (HNT.out _ ?_ ?_ ?_).mono ?_; (exact World.Since.drew HS1.out); (exact hcb0); (exact hcb1); rintro e w1 ⟨rfl, hs2, ho⟩; have hcc := hs2.cell (a := ⟨w.heap.size, 0, none⟩) (World.block_lt_of_cell? _ _ hcb0); simp only [World.cell?_drew, hcb0] at hcc))
  all_goals
    go_wp2
    go_ret
    refine ⟨rfl, HS1.out.trans (since_mono (since_of_drew hs2) (by simp; omega)), ?_⟩
    have hz : ((w.alloc (.cells #[.slice a n cap] 48)).alloc (.cells #[.int .i64 f] 3)).drew.heap.size = w.heap.size + 1 + 1 := by simp
    rw [hz] at ho
    exact ho.mono (by omega) (Nat.le_refl _)

/-- Does TableTimes succeed? -/
noncomputable def timesOk (l : List (List Int)) (f : Int) : Bool := tabIn l && (inB f (-30) 30 && tabIn (timesL l f))
theorem szL_times {l : List (List Int)} (f : Int) (h : TabIn l) : szL (timesL l f) ≤ 1048576 := szL_tabF _ _ _ (by have := h.2.1; omega) (by have := h.width; omega)

end Go.Proofs.Ythdemjfllfhhpaa

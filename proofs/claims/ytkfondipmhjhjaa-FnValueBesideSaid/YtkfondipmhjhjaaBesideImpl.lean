/- The contract of impl.TableBeside. -/
import Derived.Test.YtkfondipmhjhjaaSumSpec
import Derived.Deep.DeepCutAuto
namespace Go.Proofs.Ytkfondipmhjhjaa
open Go.RowKit Go.Deep

def besideF (l u : List (List Int)) (n m : Nat) (i k : Nat) : Int := if i < n ∧ k < m then at2 l i k else if n ≤ i ∧ m ≤ k then at2 u (i - n) (k - m) else 0
def besideL (l u : List (List Int)) : List (List Int) := tabF (l.length + u.length) ((l.getD 0 []).length + (u.getD 0 []).length) (besideF l u l.length (l.getD 0 []).length)
theorem besideL_length (l u : List (List Int)) : (besideL l u).length = l.length + u.length := tabF_length _ _ _

set_option maxHeartbeats 2000000 in
theorem besideEntry_any (ph pw pt pu i k n n2 m m2 cap cap2 : Nat) (a a2 : Option Addr) (l u : List (List Int)) (w : World) (hn : l.length = n) (hu : u.length = n2) (hT : TabIn l) (hTu : TabIn u) (hmm : (l.getD 0 []).length = m) (hmm2 : (u.getD 0 []).length = m2)
    (hb1 : w.cell? ⟨ph, 0, none⟩ = some (.int .i64 n)) (hb2 : w.cell? ⟨pw, 0, none⟩ = some (.int .i64 m)) (hb3 : w.cell? ⟨pt, 0, none⟩ = some (.slice a n cap)) (hb4 : w.cell? ⟨pu, 0, none⟩ = some (.slice a2 n2 cap2)) (hm : MatR w a l) (hmu : MatR w a2 u) (hi : i < n + n2) (hk : k < m + m2) :
    Calls Try.prog 111 #[.int .i64 i, .int .i64 k, .pointer (some ⟨ph, 0, none⟩), .pointer (some ⟨pw, 0, none⟩), .pointer (some ⟨pt, 0, none⟩), .pointer (some ⟨pu, 0, none⟩)] w fun e w' => e = .returned (.int .i64 (besideF l u n m i k)) ∧ w.Since w.heap.size w' := by
  have h6 := hT.2.1
  have g6 := hTu.2.1
  have hw := hT.width
  have gw := hTu.width
  rw [hn] at h6
  rw [hu] at g6
  rw [hmm] at hw
  rw [hmm2] at gw
  unfold besideF
  by_cases h1 : i < n ∧ k < m
  · rw [if_pos h1]
    obtain ⟨hin, hkm⟩ := h1
    have hrl : (l.getD i []).length = m := by rw [hT.row (by omega), hmm]
    obtain ⟨b, o, b', o', c, rfl, e1, e2⟩ := hm.entry (i := i) (k := k) (by omega) (by omega)
    rw [hrl] at e1
    obtain ⟨y, hy⟩ : ∃ y, at2 l i k = y := ⟨_, rfl⟩
    rw [hy] at e2 ⊢
    have d1 : decide ((i : Int) < n) = true := by simp; omega
    clear hm hmu hT hTu hn hu hmm hmm2 hrl hy
    go_enter Try.func111, Try.ntmps111
    go_wp2
    go_ret
    exact ⟨rfl, World.Since.refl _ _⟩
  · rw [if_neg h1]
    by_cases h2 : n ≤ i ∧ m ≤ k
    · rw [if_pos h2]
      obtain ⟨hin, hkm⟩ := h2
      obtain ⟨r, hr⟩ : ∃ r, i = n + r := ⟨i - n, by omega⟩
      obtain ⟨c, hc⟩ : ∃ c, k = m + c := ⟨k - m, by omega⟩
      subst hr; subst hc
      have hrl : (u.getD r []).length = m2 := by rw [hTu.row (by omega), hmm2]
      rw [show n + r - n = r by omega, show m + c - m = c by omega]
      obtain ⟨b, o, b', o', cc, rfl, e1, e2⟩ := hmu.entry (i := r) (k := c) (by omega) (by omega)
      rw [hrl] at e1
      obtain ⟨y, hy⟩ : ∃ y, at2 u r c = y := ⟨_, rfl⟩
      rw [hy] at e2 ⊢
      have d1 : decide (((n + r : Nat) : Int) < n) = false := by simp; omega
      have d2 : decide ((n : Int) ≤ ((n + r : Nat) : Int)) = true := by simp; omega
      have d3 : decide ((m : Int) ≤ ((m + c : Nat) : Int)) = true := by simp; omega
      have hw1 : IntKind.i64.wrap (((n + r : Nat) : Int) - n) = r := by rw [show ((n + r : Nat) : Int) - n = r by omega]; exact IntWalk.i64_in _ ⟨by omega, by omega⟩
      have hw2 : IntKind.i64.wrap (((m + c : Nat) : Int) - m) = c := by rw [show ((m + c : Nat) : Int) - m = c by omega]; exact IntWalk.i64_in _ ⟨by omega, by omega⟩
      have hr2 : (r : Int) < n2 := by omega
      have hc2 : (c : Int) < m2 := by omega
      clear hm hmu hT hTu hn hu hmm hmm2 hrl hy
      go_enter Try.func111, Try.ntmps111
      go_wp2
      go_quiet (fail)
      go_wp2
      go_ret
      exact ⟨rfl, since_drewN (World.Since.refl _ _) _⟩
    · rw [if_neg h2]
      by_cases h3 : i < n
      · have h4 : ¬ k < m := fun h => h1 ⟨h3, h⟩
        have d1 : decide ((i : Int) < n) = true := by simp; omega
        have d2 : decide ((k : Int) < m) = false := by simp; omega
        have d3 : decide ((n : Int) ≤ (i : Int)) = false := by simp; omega
        clear hm hmu hT hTu hn hu hmm hmm2 h1 h2
        go_enter Try.func111, Try.ntmps111
        go_wp2
        go_ret
        exact ⟨rfl, World.Since.refl _ _⟩
      · have h4 : k < m := by
          by_cases h5 : k < m
          · exact h5
          · exact absurd ⟨by omega, by omega⟩ h2
        have d1 : decide ((i : Int) < n) = false := by simp; omega
        have d3 : decide ((n : Int) ≤ (i : Int)) = true := by simp; omega
        have d4 : decide ((m : Int) ≤ (k : Int)) = false := by simp; omega
        clear hm hmu hT hTu hn hu hmm hmm2 h1 h2
        go_enter Try.func111, Try.ntmps111
        go_wp2
        go_ret
        exact ⟨rfl, World.Since.refl _ _⟩

theorem newTable_int (K : Nat) (caps : Array Value) (ht wd : Nat) (f : Nat → Nat → Int) (w : World) (x y : Int) (hx : x = ht) (hy : y = wd) (hh : ht ≤ 1000) (hw : wd ≤ 1000) (eg : ∀ args w, (callFunc K args).run Try.prog w = .ok (.enter K args) w)
    (hent : ∀ (W : World) (i k : Nat), w.Since w.heap.size W → i < ht → k < wd → Calls Try.prog K (#[.int .i64 i, .int .i64 k] ++ caps) W fun e w' => e = .returned (.int .i64 (f i k)) ∧ W.Since W.heap.size w') :
    Calls Try.prog 93 #[.int .i64 x, .int .i64 y, .func (.func K) #[] caps] w fun e w' => e = .returned (.slice (some ⟨w.heap.size, 0, none⟩) ht ht) ∧ w.Since w.heap.size w' ∧ OwnT w.heap.size w'.heap.size w' (some ⟨w.heap.size, 0, none⟩) (tabF ht wd f) := by
  subst hx; subst hy; exact newTable_any K caps ht wd f w hh hw eg hent

/-- What stands in the boxes of the method: both tables, the height and the width of the first one. -/
def BesR (w : World) (n m : Nat) (tv uv : Value) (p5 p6 : Value) (wx : World) : Prop :=
  ∃ g5 g6 : Nat, p5 = .pointer (some ⟨g5, 0, none⟩) ∧ p6 = .pointer (some ⟨g6, 0, none⟩) ∧ wx.cell? ⟨g5, 0, none⟩ = some (.int .i64 n) ∧ wx.cell? ⟨g6, 0, none⟩ = some (.int .i64 m) ∧
    wx.cell? ⟨w.heap.size, 0, none⟩ = some tv ∧ wx.cell? ⟨w.heap.size + 1, 0, none⟩ = some uv ∧ w.Since w.heap.size wx
theorem bes_cells (w : World) (tv uv x y : Value) (t : TypeId) :
    ((((w.alloc (.cells #[tv] t)).alloc (.cells #[uv] t)).alloc (.cells #[x] 3)).alloc (.cells #[y] 3)).cell? ⟨w.heap.size, 0, none⟩ = some tv ∧ ((((w.alloc (.cells #[tv] t)).alloc (.cells #[uv] t)).alloc (.cells #[x] 3)).alloc (.cells #[y] 3)).cell? ⟨w.heap.size + 1, 0, none⟩ = some uv ∧
    ((((w.alloc (.cells #[tv] t)).alloc (.cells #[uv] t)).alloc (.cells #[x] 3)).alloc (.cells #[y] 3)).cell? ⟨w.heap.size + 1 + 1, 0, none⟩ = some x ∧ ((((w.alloc (.cells #[tv] t)).alloc (.cells #[uv] t)).alloc (.cells #[x] 3)).alloc (.cells #[y] 3)).cell? ⟨w.heap.size + 1 + 1 + 1, 0, none⟩ = some y ∧
    w.Since w.heap.size ((((w.alloc (.cells #[tv] t)).alloc (.cells #[uv] t)).alloc (.cells #[x] 3)).alloc (.cells #[y] 3)) := by
  have c0 := cell_new_l w tv t
  have c1 := cell_new_l (w.alloc (.cells #[tv] t)) uv t
  have c2 := cell_new_l ((w.alloc (.cells #[tv] t)).alloc (.cells #[uv] t)) x 3
  have c3 := cell_new_l (((w.alloc (.cells #[tv] t)).alloc (.cells #[uv] t)).alloc (.cells #[x] 3)) y 3
  simp only [World.size_alloc] at c1 c2 c3
  exact ⟨cell_alloc_l _ (cell_alloc_l _ (cell_alloc_l _ c0.1)), cell_alloc_l _ (cell_alloc_l _ c1.1), cell_alloc_l _ c2.1, c3.1, ((((World.Since.refl _ _).alloc (Nat.le_refl _) _).alloc (by simp) _).alloc (by simp; omega) _).alloc (by simp; omega) _⟩
theorem bes_one (w : World) (n m : Nat) (tv uv : Value) (t : TypeId) : BesR w n m tv uv (.pointer (some ⟨w.heap.size + 1 + 1, 0, none⟩)) (.pointer (some ⟨w.heap.size + 1 + 1 + 1, 0, none⟩)) ((((w.alloc (.cells #[tv] t)).alloc (.cells #[uv] t)).alloc (.cells #[.int .i64 n] 3)).alloc (.cells #[.int .i64 m] 3)).drew := by
  obtain ⟨h1, h2, h3, h4, h5⟩ := bes_cells w tv uv (.int .i64 n) (.int .i64 m) t
  exact ⟨_, _, rfl, rfl, h3, h4, h1, h2, h5.drew⟩
theorem bes_two (w : World) (n m : Nat) (tv uv : Value) (t : TypeId) : BesR w n m tv uv (.pointer (some ⟨w.heap.size + 1 + 1 + 1, 0, none⟩)) (.pointer (some ⟨w.heap.size + 1 + 1, 0, none⟩)) ((((w.alloc (.cells #[tv] t)).alloc (.cells #[uv] t)).alloc (.cells #[.int .i64 m] 3)).alloc (.cells #[.int .i64 n] 3)).drew := by
  obtain ⟨h1, h2, h3, h4, h5⟩ := bes_cells w tv uv (.int .i64 m) (.int .i64 n) t
  exact ⟨_, _, rfl, rfl, h4, h3, h1, h2, h5.drew⟩

set_option maxRecDepth 100000 in
set_option maxHeartbeats 600000 in
theorem beside_any (a a2 : Option Addr) (cap cap2 n n2 : Nat) (l u : List (List Int)) (w : World) (hn : l.length = n) (hu : u.length = n2) (hm : MatR w a l) (hmu : MatR w a2 u) (hT : TabIn l) (hTu : TabIn u) :
    Calls Try.prog 85 #[.slice a n cap, .slice a2 n2 cap2] w fun e w' => ∃ a' cap', e = .returned (.slice a' (n + n2) cap') ∧ w.Since w.heap.size w' ∧ OwnT w.heap.size w'.heap.size w' a' (besideL l u) := by
  have h6 := hT.2.1
  have g6 := hTu.2.1
  have h1 := hT.1
  have g1 := hTu.1
  have hw := hT.width
  have gw := hTu.width
  rw [hn] at h6 h1
  rw [hu] at g6 g1
  have hwid := fun (W : World) (hs : w.Since w.heap.size W) => width_any a cap n l W hn (by omega) (by omega) (hm.since hs)
  have hwid2 := fun (W : World) (hs : w.Since w.heap.size W) => width_any a2 cap2 n2 u W hu (by omega) (by omega) (hmu.since hs)
  have hs2 : w.Since w.heap.size ((w.alloc (.cells #[.slice a n cap] 58)).alloc (.cells #[.slice a2 n2 cap2] 58)) := ((World.Since.refl _ _).alloc (Nat.le_refl _) _).alloc (by simp) _
  have c0 := cell_new_l w (.slice a n cap) 58
  have c1 := cell_new_l (w.alloc (.cells #[.slice a n cap] 58)) (.slice a2 n2 cap2) 58
  simp only [World.size_alloc] at c1
  have d0 : ((w.alloc (.cells #[.slice a n cap] 58)).alloc (.cells #[.slice a2 n2 cap2] 58)).cell? ⟨w.heap.size, 0, none⟩ = some (.slice a n cap) := cell_alloc_l _ c0.1
  have d1 := c1.1
  obtain ⟨m, hmm⟩ : ∃ m, (l.getD 0 []).length = m := ⟨_, rfl⟩
  obtain ⟨m2, hmm2⟩ : ∃ m, (u.getD 0 []).length = m := ⟨_, rfl⟩
  rw [hmm] at hwid hw
  rw [hmm2] at hwid2 gw
  have hnt := fun (W : World) (hs : w.Since w.heap.size W) (g5 g6 : Nat) (hb0 : W.cell? ⟨w.heap.size, 0, none⟩ = some (.slice a n cap)) (hb1 : W.cell? ⟨w.heap.size + 1, 0, none⟩ = some (.slice a2 n2 cap2)) (hb5 : W.cell? ⟨g5, 0, none⟩ = some (.int .i64 n)) (hb6 : W.cell? ⟨g6, 0, none⟩ = some (.int .i64 m)) (x y : Int) (hx : x = ((n + n2 : Nat) : Int)) (hy : y = ((m + m2 : Nat) : Int)) =>
    newTable_int 111 #[.pointer (some ⟨g5, 0, none⟩), .pointer (some ⟨g6, 0, none⟩), .pointer (some ⟨w.heap.size, 0, none⟩), .pointer (some ⟨w.heap.size + 1, 0, none⟩)] (n + n2) (m + m2) (besideF l u n m) W x y hx hy (by omega) (by omega) (enters_of Try.func111 (by kernel_rfl) rfl)
      (fun W' i k hs' hi hk => besideEntry_any g5 g6 w.heap.size (w.heap.size + 1) i k n n2 m m2 cap cap2 a a2 l u W' hn hu hT hTu hmm hmm2 ((hs'.cell (a := ⟨g5, 0, none⟩) (World.block_lt_of_cell? _ _ hb5)).trans hb5) ((hs'.cell (a := ⟨g6, 0, none⟩) (World.block_lt_of_cell? _ _ hb6)).trans hb6)
        ((hs'.cell (a := ⟨w.heap.size, 0, none⟩) (World.block_lt_of_cell? _ _ hb0)).trans hb0) ((hs'.cell (a := ⟨w.heap.size + 1, 0, none⟩) (World.block_lt_of_cell? _ _ hb1)).trans hb1) (hm.since (hs.trans (since_mono hs' hs.size))) (hmu.since (hs.trans (since_mono hs' hs.size))) hi hk)
  have hbl : besideL l u = tabF (n + n2) (m + m2) (besideF l u n m) := by unfold besideL; rw [hn, hu, hmm, hmm2]
  rw [hbl]
  have HNT := Lib.hid hnt
  have HW := Lib.hid hwid
  have HW2 := Lib.hid hwid2
  have HS2 := Lib.hid hs2
  clear hwid hwid2 hs2 c0 c1 hnt hm hmu hT hTu hn hu hmm hmm2 hbl
  go_enter Try.func85, Try.ntmps85
  go_upto_region 1 with fail
  go_cut [5, 6] (fun p5 p6 wx => BesR w n m (.slice a n cap) (.slice a2 n2 cap2) p5 p6 wx)
  case first =>
    go_region_held3 (fun w' => w'.cell? ⟨w.heap.size, 0, none⟩ = some (.slice a n cap)) (go_keep)
      (first
        | (go_at_call 77; refine (HW.out _ ?_).mono ?_; (first | exact World.Since.drew HS2.out | exact (World.Since.drew HS2.out).alloc (by simp; omega) _ | exact ((World.Since.drew HS2.out).alloc (by simp; omega) _).alloc (by simp; omega) _); rintro e w1 ⟨rfl, rfl⟩))
    all_goals (go_wp2_with fail; go_meet; first | exact bes_one _ _ _ _ _ _ | exact bes_two _ _ _ _ _ _)
  case rest =>
    obtain ⟨g5, g6, rfl, rfl, b5, b6, b0, b1, hsx⟩ := hcut
    have HSX := Lib.hid hsx
    have hzx := hsx.size
    clear hsx d0 d1
    go_wp2
    go_region_held3 (fun w' => w'.cell? ⟨g5, 0, none⟩ = some (.int .i64 n) ∧ w'.cell? ⟨w.heap.size + 1, 0, none⟩ = some (.slice a2 n2 cap2) ∧ w'.cell? ⟨g6, 0, none⟩ = some (.int .i64 m)) (go_keep)
      (first
        | (go_at_call 77; refine (HW2.out _ ?_).mono ?_; (exact World.Since.drew HSX.out); rintro e w1 ⟨rfl, rfl⟩)
        | (go_at_call 93; refine (HNT.out _ ?_ _ _ ?_ ?_ ?_ ?_ _ _ ?_ ?_).mono ?_; (exact World.Since.drew HSX.out); (exact b0); (exact b1); (exact b5); (exact b6); (exact (IntWalk.i64_in _ ⟨by omega, by omega⟩).trans (by omega)); (exact (IntWalk.i64_in _ ⟨by omega, by omega⟩).trans (by omega)); rintro e w1 ⟨rfl, hs3, ho⟩;
            have q5 := (hs3.cell (a := ⟨g5, 0, none⟩) (World.block_lt_of_cell? _ _ b5)).trans b5; have q6 := (hs3.cell (a := ⟨g6, 0, none⟩) (World.block_lt_of_cell? _ _ b6)).trans b6; have q1 := (hs3.cell (a := ⟨w.heap.size + 1, 0, none⟩) (World.block_lt_of_cell? _ _ b1)).trans b1))
    all_goals
      go_wp2
      go_ret
      exact ⟨_, _, rfl, HSX.out.trans (since_mono (since_of_drew hs3) hzx), ho.mono (by simpa using hzx) (Nat.le_refl _)⟩

end Go.Proofs.Ytkfondipmhjhjaa

/- Marking a table of one's own, and looking whether the marks are held. -/
import Derived.Test.YtdbomnhlgaohaaaOwn
namespace Go.Proofs.Ytdbomnhlgaohaaa
open Go.RowKit Go.Deep

/-- The first r rows are marked, the others as they were. -/
def mixT (k : Int) (l : List (List Int)) (r : Nat) : List (List Int) := (List.range l.length).map fun i => if i < r then markRow (k + (sumTo l i : Nat)) (l.getD i []).length else l.getD i []
theorem mixT_length (k : Int) (l : List (List Int)) (r : Nat) : (mixT k l r).length = l.length := by simp [mixT]
theorem mixT_get (k : Int) (l : List (List Int)) (r i : Nat) (h : i < l.length) : (mixT k l r).getD i [] = if i < r then markRow (k + (sumTo l i : Nat)) (l.getD i []).length else l.getD i [] := by simp [mixT, List.getD, h]
theorem mixT_len (k : Int) (l : List (List Int)) (r i : Nat) (h : i < l.length) : ((mixT k l r).getD i []).length = (l.getD i []).length := by
  rw [mixT_get k l r i h]; split
  · exact markRow_length _ _
  · rfl
theorem mixT_all (k : Int) (l : List (List Int)) : mixT k l l.length = markT k l := by
  unfold mixT markT
  exact List.map_congr_left fun i hi => by rw [if_pos (List.mem_range.1 hi)]

/-- 'OwnT', its parts named. -/
structure OwnD (lo hi : Nat) (w : World) (b : Nat) (A : Nat → Option Addr) (G C : Nat → Nat) (n : Nat) (L : Nat → Nat) (Z : Nat → Nat → Int) : Prop where
  top : ∀ r, r < n → w.cell? ⟨b, r, none⟩ = some (.slice (A r) (L r) (C r))
  addr : ∀ r, r < n → 0 < L r → A r = some ⟨G r, 0, none⟩
  inside : ∀ r, r < n → 0 < L r → lo ≤ G r ∧ G r < hi ∧ G r ≠ b
  cell : ∀ r, r < n → ∀ i, i < L r → w.cell? ⟨G r, i, none⟩ = some (.int .i64 (Z r i))
  free : ∀ r, r < n → ∀ i, i < L r → w.frozen? ⟨G r, i, none⟩ = false
  apart : ∀ r r', r < n → r' < n → 0 < L r → 0 < L r' → G r = G r' → r = r'

theorem OwnT.parts {lo hi : Nat} {w : World} {a : Option Addr} {l : List (List Int)} (h : OwnT lo hi w a l) (h0 : 0 < l.length) :
    ∃ (b : Nat) (A : Nat → Option Addr) (G C : Nat → Nat), a = some ⟨b, 0, none⟩ ∧ (lo ≤ b ∧ b < hi) ∧ OwnD lo hi w b A G C l.length (fun r => (l.getD r []).length) (fun r i => (l.getD r []).getD i 0) := by
  obtain ⟨b, A, G, C, e, hb, hr, hd⟩ := h h0
  exact ⟨b, A, G, C, e, hb, fun r h1 => (hr r h1).1, fun r h1 h2 => ((hr r h1).2 h2).1, fun r h1 h2 => ((hr r h1).2 h2).2.1, fun r h1 i hi => (((hr r h1).2 (by omega)).2.2 i hi).1, fun r h1 i hi => (((hr r h1).2 (by omega)).2.2 i hi).2, hd⟩

theorem OwnD.ownT {lo hi : Nat} {w : World} {b : Nat} {A : Nat → Option Addr} {G C : Nat → Nat} {n : Nat} {L : Nat → Nat} {Z : Nat → Nat → Int} {l : List (List Int)} (h : OwnD lo hi w b A G C n L Z) (hb : lo ≤ b ∧ b < hi) (hn : l.length = n)
    (hL : ∀ r, r < n → (l.getD r []).length = L r) (hZ : ∀ r, r < n → ∀ i, i < L r → (l.getD r []).getD i 0 = Z r i) : OwnT lo hi w (some ⟨b, 0, none⟩) l := by
  intro _
  subst hn
  refine ⟨b, A, G, C, rfl, hb, fun r hr => ⟨by rw [hL r hr]; exact h.top r hr, fun h0 => ?_⟩, fun r r' h1 h2 h3 h4 e => h.apart r r' h1 h2 (by rw [← hL r h1]; exact h3) (by rw [← hL r' h2]; exact h4) e⟩
  rw [hL r hr] at h0 ⊢
  exact ⟨h.addr r hr h0, h.inside r hr h0, fun i hi => ⟨by rw [hZ r hr i hi]; exact h.cell r hr i hi, h.free r hr i hi⟩⟩

theorem OwnD.mark {lo hi : Nat} {w w' : World} {b : Nat} {A : Nat → Option Addr} {G C : Nat → Nat} {n : Nat} {L : Nat → Nat} {Z : Nat → Nat → Int} (h : OwnD lo hi w b A G C n L Z) {r g : Nat} {k : Int} (hr : r < n)
    (hg : 0 < L r → g = G r) (hg0 : L r = 0 → w.heap.size ≤ g) (hM : Marked g (L r) k (L r) (Z r) w w') : OwnD lo hi w' b A G C n L (fun r' i => if r' = r then k + i else Z r' i) := by
  have hne : ∀ r', r' < n → 0 < L r' → r' ≠ r → G r' ≠ g := by
    intro r' h1 h2 h3 e
    by_cases h4 : 0 < L r
    · exact h3 (h.apart r' r h1 hr h2 h4 (by rw [e, hg h4]))
    · have h5 := World.block_lt_of_cell? _ _ (h.cell r' h1 0 h2)
      have h6 := hg0 (by omega)
      have : G r' < w.heap.size := h5
      omega
  have hbg : b ≠ g := by
    intro e
    have h5 : b < w.heap.size := World.block_lt_of_cell? _ _ (h.top r hr)
    by_cases h4 : 0 < L r
    · exact (h.inside r hr h4).2.2 (by rw [← hg h4, e])
    · have h6 := hg0 (by omega); omega
  refine ⟨fun r' h1 => (World.cell?_of_block (hM.block b hbg)).trans (h.top r' h1), h.addr, h.inside, fun r' h1 i hi => ?_, fun r' h1 i hi => ?_, h.apart⟩
  · by_cases e : r' = r
    · subst e
      rw [if_pos rfl, ← hg (by omega), hM.cell i hi, if_pos hi]
    · rw [if_neg e]
      exact (World.cell?_of_block (hM.block (G r') (hne r' h1 (by omega) e))).trans (h.cell r' h1 i hi)
  · by_cases e : r' = r
    · subst e
      rw [← hg (by omega)]; exact hM.frozen i hi
    · exact (World.frozen?_of_block (hM.block (G r') (hne r' h1 (by omega) e))).trans (h.free r' h1 i hi)

theorem OwnD.congr {lo hi : Nat} {w : World} {b : Nat} {A : Nat → Option Addr} {G C : Nat → Nat} {n : Nat} {L : Nat → Nat} {Z Z' : Nat → Nat → Int} (h : OwnD lo hi w b A G C n L Z) (e : ∀ r, r < n → ∀ i, i < L r → Z r i = Z' r i) : OwnD lo hi w b A G C n L Z' :=
  ⟨h.top, h.addr, h.inside, fun r hr i hi => by rw [h.cell r hr i hi, e r hr i hi], h.free, h.apart⟩

theorem Marked.frame {g m lo hi : Nat} {k : Int} {j : Nat} {f : Nat → Int} {w w' : World} (h : Marked g m k j f w w') (hg : (lo ≤ g ∧ g < hi) ∨ w.heap.size ≤ g) : Frame lo hi w w' :=
  ⟨h.os, h.tape, h.output, by rw [h.size]; exact Nat.le_refl _, fun b hb ho => h.block b (by rintro rfl; omega)⟩

/-- What stands in row r at i when the first q rows are marked. -/
def mixF (k : Int) (l : List (List Int)) (q r i : Nat) : Int := if r < q then k + (sumTo l r : Nat) + i else (l.getD r []).getD i 0

set_option maxHeartbeats 1000000 in
theorem markIntSS_any (a : Option Addr) (lo hi cap n : Nat) (k : Int) (l : List (List Int)) (w : World) (hn : l.length = n) (hsz : szL l ≤ 1048576) (h0 : 0 ≤ k) (hk : k ≤ 1048577) (hO : OwnT lo hi w a l) :
    Calls Try.prog 37 #[.slice a n cap, .int .i64 k] w fun e w' => e = .returned (.int .i64 (k + (sumTo l n : Nat))) ∧ OwnT lo hi w' a (markT k l) ∧ Frame lo hi w w' ∧ w'.heap.size = w.heap.size := by
  by_cases hn0 : n = 0
  · subst hn0
    have hl0 : l = [] := List.length_eq_zero_iff.1 hn
    subst hl0
    clear hO hsz
    go_enter Try.func37, Try.ntmps37
    go_wp2
    go_loopg [1, 5] 0 (fun g q i wr => q = .int .i64 k ∧ i = .int .i64 0 ∧ wr = w)
    case atStart => exact ⟨rfl, rfl, rfl⟩
    case round =>
      obtain ⟨rfl, rfl, rfl⟩ := hrel
      go_wp2
      go_ret
      exact ⟨ret_int (by simp [sumTo]), OwnT.nil _ _ _ _, Frame.refl _ _ _, rfl⟩
  · obtain ⟨b, A, G, C, ha, hb, hD⟩ := hO.parts (by omega)
    subst ha
    have hnn : n ≤ 1048576 := by unfold szL at hsz; omega
    rw [hn] at hD
    have HN := Lib.hid hn
    have hst : OwnD lo hi w b A G C n (fun r => (l.getD r []).length) (mixF k l 0) := hD.congr fun r _ i _ => by unfold mixF; rw [if_neg (by omega)]
    clear hO hD hn hn0
    go_enter Try.func37, Try.ntmps37
    go_wp2
    go_loopg [1, 5] n (fun gg q i wr => ∃ r : Nat, r ≤ n ∧ gg = n - r ∧ i = .int .i64 r ∧ q = .int .i64 (k + (sumTo l r : Nat)) ∧ OwnD lo hi wr b A G C n (fun r => (l.getD r []).length) (mixF k l r) ∧ Frame lo hi w wr ∧ wr.heap.size = w.heap.size)
    case atStart => exact ⟨0, Nat.zero_le _, rfl, rfl, by simp [sumTo], hst, Frame.refl _ _ _, rfl⟩
    case round =>
      obtain ⟨r, hr, rfl, rfl, rfl, hR, hF, hS⟩ := hrel
      have HS := Lib.hid hS
      clear hst hS
      by_cases hlt : r < n
      · have hst1 := sumTo_le l (r := r) (s := l.length) (by rw [HN.out]; omega)
        have hst2 := sumTo_le l (r := r + 1) (s := l.length) (by rw [HN.out]; omega)
        have c1 := hR.top r hlt
        obtain ⟨m, hm⟩ : ∃ m, (l.getD r []).length = m := ⟨_, rfl⟩
        have hs1 : sumTo l (r + 1) = sumTo l r + m := by rw [← hm]; rfl
        rw [hs1] at hst2
        have hmk : (sumTo l r + m : Nat) ≤ 1048576 := by unfold szL at hsz; omega
        obtain ⟨s, hs⟩ : ∃ s, sumTo l r = s := ⟨_, rfl⟩
        rw [hs] at hs1 hmk ⊢
        have e1 := markIntS_any (A r) (if 0 < m then G r else wr.heap.size) (C r) m (k + (s : Nat)) ((List.range m).map fun i => mixF k l r r i) wr (by simp) (by omega) (by omega)
          (fun h => by rw [if_pos h]; exact hR.addr r hlt (by rw [hm]; exact h)) (fun i hi => by
            rw [if_pos (by omega), hR.cell r hlt i (by rw [hm]; exact hi)]; simp [List.getD, hi]) (fun i hi => by rw [if_pos (by omega)]; exact hR.free r hlt i (by rw [hm]; exact hi))
        have E1 := Lib.hid e1
        have HM := Lib.hid hm
        have HS1 := Lib.hid hs1
        have HSS := Lib.hid hs
        rw [hm] at c1
        clear hm hs1 hs e1 hst1 hst2
        go_wp2_with fail
        refine (E1.out).mono ?_
        rintro e w1 ⟨rfl, hM⟩
        have hmF : Frame lo hi wr w1 := hM.frame (by
          by_cases h : 0 < m
          · rw [if_pos h]
            have := hR.inside r hlt (by show 0 < (l.getD r []).length; rw [HM.out]; exact h)
            exact .inl ⟨this.1, this.2.1⟩
          · rw [if_neg h]; exact .inr (Nat.le_refl _))
        have hnew : OwnD lo hi w1 b A G C n (fun r => (l.getD r []).length) (mixF k l (r + 1)) := by
          refine (hR.mark (r := r) (g := if 0 < m then G r else wr.heap.size) (k := k + (s : Nat)) hlt (fun h => by have h' : 0 < (l.getD r []).length := h; rw [HM.out] at h'; rw [if_pos h']) (fun h => by have h' : (l.getD r []).length = 0 := h; rw [HM.out] at h'; rw [if_neg (by omega)]; exact Nat.le_refl _) ?_).congr ?_
          · rw [HM.out]
            refine ⟨hM.os, hM.tape, hM.output, hM.size, hM.block, fun i hi => ?_, hM.frozen⟩
            rw [hM.cell i hi, if_pos hi, if_pos hi]
          · intro r' hr' i hi
            by_cases e : r' = r
            · subst e
              unfold mixF
              rw [if_pos rfl, if_pos (by omega), HSS.out]
            · unfold mixF
              rw [if_neg e]
              by_cases h2 : r' < r
              · rw [if_pos h2, if_pos (by omega)]
              · rw [if_neg h2, if_neg (by omega)]
        clear c1
        go_wp2
        go_roundg (n - (r + 1))
        case measure => omega
        case rel => exact ⟨r + 1, by omega, rfl, by go_num, by rw [HS1.out]; rw [show k + ((s + m : Nat) : Int) = k + s + m by omega], hnew, hF.trans hmF, by rw [hM.size, HS.out]⟩
      · have : r = n := by omega
        subst this
        go_wp2
        go_ret
        exact ⟨rfl, hR.ownT hb (by rw [markT_length, HN.out]) (fun r' hr' => markT_len k l r' (by rw [HN.out]; exact hr')) (fun r' hr' i hi => by
          rw [markT_get k l r' (by rw [HN.out]; exact hr'), markRow_get _ _ _ hi]; unfold mixF; rw [if_pos hr']), hF, HS.out⟩

set_option maxHeartbeats 1000000 in
/-- A row that holds the marks from k on. -/
theorem heldIntS_any (a : Option Addr) (cap m : Nat) (k : Int) (w : World) (h0 : 0 ≤ k) (hk : k + m ≤ 4000000) (hr : RowR w a (markRow k m)) :
    Calls Try.prog 39 #[.slice a m cap, .int .i64 k] w fun e w' => e = .returned (.int .i64 (k + m)) ∧ w = w' := by
  have HR := Lib.hid hr
  clear hr
  go_enter Try.func39, Try.ntmps39
  go_wp2
  go_loopg [1, 5] m (fun gg q i wr => ∃ j : Nat, j ≤ m ∧ gg = m - j ∧ i = .int .i64 j ∧ q = .int .i64 (k + j) ∧ w = wr)
  case atStart => exact ⟨0, Nat.zero_le _, rfl, rfl, by simp, rfl⟩
  case round =>
    obtain ⟨j, hj, rfl, rfl, rfl, rfl⟩ := hrel
    by_cases hlt : j < m
    · obtain ⟨b, o, rfl, hc⟩ := HR.out (by rw [markRow_length]; omega)
      have cj := hc j (by rw [markRow_length]; exact hlt)
      rw [markRow_get _ _ _ hlt] at cj
      clear hc
      go_wp2
      go_roundg (m - (j + 1))
      case measure => omega
      case rel => exact ⟨j + 1, by omega, rfl, by go_num, by rw [show k + ((j + 1 : Nat) : Int) = k + j + 1 by omega], rfl⟩
    · have : j = m := by omega
      subst this
      go_wp2
      go_ret
      exact ⟨rfl, rfl⟩

set_option maxHeartbeats 1000000 in
/-- A table that holds the marks from k on. -/
theorem heldIntSS_any (a : Option Addr) (cap n : Nat) (k : Int) (l : List (List Int)) (w : World) (hn : l.length = n) (hsz : szL l ≤ 1048576) (h0 : 0 ≤ k) (hk : k ≤ 1048577) (hm : MatR w a (markT k l)) :
    Calls Try.prog 38 #[.slice a n cap, .int .i64 k] w fun e w' => e = .returned (.int .i64 (k + (sumTo l n : Nat))) ∧ w = w' := by
  have hnn : n ≤ 1048576 := by unfold szL at hsz; omega
  have HN := Lib.hid hn
  have HMM := Lib.hid hm
  clear hn hm
  go_enter Try.func38, Try.ntmps38
  go_wp2
  go_loopg [1, 5] n (fun gg q i wr => ∃ r : Nat, r ≤ n ∧ gg = n - r ∧ i = .int .i64 r ∧ q = .int .i64 (k + (sumTo l r : Nat)) ∧ w = wr)
  case atStart => exact ⟨0, Nat.zero_le _, rfl, rfl, by simp [sumTo], rfl⟩
  case round =>
    obtain ⟨r, hr, rfl, rfl, rfl, rfl⟩ := hrel
    by_cases hlt : r < n
    · obtain ⟨b, o, A, C, rfl, hc⟩ := HMM.out (by rw [markT_length, HN.out]; omega)
      obtain ⟨c1, r1⟩ := hc r (by rw [markT_length, HN.out]; exact hlt)
      rw [markT_get k l r (by rw [HN.out]; exact hlt)] at c1 r1
      rw [markRow_length] at c1
      have hst2 := sumTo_le l (r := r + 1) (s := l.length) (by rw [HN.out]; omega)
      obtain ⟨m, hm⟩ : ∃ m, (l.getD r []).length = m := ⟨_, rfl⟩
      have hs1 : sumTo l (r + 1) = sumTo l r + m := by rw [← hm]; rfl
      rw [hs1] at hst2
      have hmk : (sumTo l r + m : Nat) ≤ 1048576 := by unfold szL at hsz; omega
      obtain ⟨s, hs⟩ : ∃ s, sumTo l r = s := ⟨_, rfl⟩
      rw [hs] at hs1 hmk r1 ⊢
      rw [hm] at c1 r1
      have E1 := Lib.hid (heldIntS_any (A r) (C r) m (k + (s : Nat)) w (by omega) (by omega) r1)
      have HS1 := Lib.hid hs1
      clear hm hs1 hs hst2 hc r1
      go_wp2_with fail
      refine (E1.out).mono ?_
      rintro e w1 ⟨rfl, rfl⟩
      go_wp2
      go_roundg (n - (r + 1))
      case measure => omega
      case rel => exact ⟨r + 1, by omega, rfl, by go_num, by rw [HS1.out]; rw [show k + ((s + m : Nat) : Int) = k + s + m by omega], rfl⟩
    · have : r = n := by omega
      subst this
      go_wp2
      go_ret
      exact ⟨rfl, rfl⟩

end Go.Proofs.Ytdbomnhlgaohaaa

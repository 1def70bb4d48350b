/- The contract of valueByPivots: the value of the square. -/
import Derived.Test.YtkahgpgnfodpgaaBehind
import Derived.Test.YtkahgpgnfodpgaaRowsF
namespace Go.Proofs.Ytkahgpgnfodpgaa
open Go.RowKit Go.Deep

theorem Bar.congr {N : Nat} {A : Nat → Nat → Int} {k : Nat} {t u : Nat → Nat → Int} {q s : Int} {F : Nat → Nat → Int} (h : Bar N A k t q s F) (hu : ∀ i j, i < N - k → j < N - k → u i j = t i j) : Bar N A k u q s F :=
  ⟨h.val, h.sgn, h.src, h.ne, fun d R C hR hC => by rw [dt_congr (d + 1) (g := fun i j => t (R i) (C j)) (fun i j hi hj => hu _ _ (hR i hi) (hC j hj)), h.main d R C hR hC], h.last⟩
theorem sw_ex (i r : Nat) : sw 0 i r = ex 0 i r := by unfold sw ex; repeat (first | split | omega)
theorem swapL_rec {L : List (List Int)} {m i : Nat} (hL : L.length = m) (hR : Rec L) (hw : (L.getD 0 []).length = m) (hi : i < m) : Rec (swapL L 0 i) ∧ ((swapL L 0 i).getD 0 []).length = m ∧ ∀ r, r < m → (swapL L 0 i).getD r [] = L.getD (ex 0 i r) [] := by
  have hlow := hR.low
  have hhigh := hR.high
  have hg : ∀ r, r < m → (swapL L 0 i).getD r [] = L.getD (ex 0 i r) [] := fun r hr => by rw [swapL_get L 0 i (by omega), sw_ex]
  have hlen : ∀ r, r < m → ((swapL L 0 i).getD r []).length = m := fun r hr => by rw [hg r hr, hR.row (by rw [hL]; exact ex_bd (by omega) hi hr), hw]
  have h0 := hlen 0 (by omega)
  refine ⟨⟨by rw [swapL_length]; exact hlow, by rw [swapL_length]; exact hhigh, by rw [h0]; omega, fun {r} hr => ?_⟩, h0, hg⟩
  rw [swapL_length, hL] at hr
  rw [hlen r hr, h0]
theorem tabF_rec {m : Nat} (h1 : 1 ≤ m) (h6 : m ≤ 6) (X : Nat → Nat → Int) : Rec (tabF m m X) ∧ ((tabF m m X).getD 0 []).length = m := by
  refine ⟨⟨by rw [tabF_length]; exact h1, by rw [tabF_length]; exact h6, by rw [tabF_len _ _ _ _ (by omega)]; omega, fun {r} hr => ?_⟩, tabF_len _ _ _ _ (by omega)⟩
  rw [tabF_length] at hr
  rw [tabF_len _ _ _ _ hr, tabF_len _ _ _ _ (by omega)]
theorem OwnT.top0 {lo hi : Nat} {w : World} {a : Option Addr} {l : List (List Int)} {m : Nat} (h : OwnT lo hi w a l) (hl : l.length = m) (h1 : 1 ≤ m) (hw : (l.getD 0 []).length = m) : ∃ b g c, a = some ⟨b, 0, none⟩ ∧ w.cell? ⟨b, 0, none⟩ = some (.slice (some ⟨g, 0, none⟩) m c) ∧ w.cell? ⟨g, 0, none⟩ = some (.int .i64 (at2 l 0 0)) := by
  obtain ⟨b, A, G, C, e, _, hr, _⟩ := h (by omega)
  obtain ⟨c1, c2⟩ := hr 0 (by omega)
  obtain ⟨e2, _, c3⟩ := c2 (by omega)
  rw [e2, hw] at c1
  exact ⟨b, G 0, C 0, e, c1, (c3 0 (by omega)).1⟩

/-- What is so before a column is taken. -/
structure PV (N : Nat) (A : Nat → Nat → Int) (k : Nat) (L : List (List Int)) (q s : Int) : Prop where
  le : k ≤ N
  len : L.length = N - k
  sq : 1 ≤ N - k → Rec L ∧ (L.getD 0 []).length = N - k
  bar : ∃ F, Bar N A k (at2 L) q s F
/-- What a column with a number that is not 0 leads to. -/
structure PW (N : Nat) (A : Nat → Nat → Int) (k m i : Nat) (L : List (List Int)) (q s : Int) (X : Nat → Nat → Int) (p s2 : Int) : Prop where
  sq : Rec (swapL L 0 i) ∧ ((swapL L 0 i).getD 0 []).length = m
  len : (swapL L 0 i).length = m
  piv : at2 (swapL L 0 i) 0 0 = p
  sgn : s2 = if i = 0 then s else -s
  eq : ∀ i' k', i' + 1 < m → k' + 1 < m → chio (at2 (swapL L 0 i)) i' k' = q * X i' k'
  bdX : ∀ i' k', i' + 1 < m → k' + 1 < m → -4611686018427387904 ≤ X i' k' ∧ X i' k' ≤ 4611686018427387904
  bd : 2 ≤ m → ∀ i' j', i' < m → j' < m → -1944000000 ≤ at2 (swapL L 0 i) i' j' ∧ at2 (swapL L 0 i) i' j' ≤ 1944000000
  next : PV N A (k + 1) (tabF (m - 1) (m - 1) X) p s2

theorem PV.step {N : Nat} {A : Nat → Nat → Int} {k m i : Nat} {L : List (List Int)} {q s : Int} (h : PV N A k L q s) (hN : N ≤ 6) (hA : ∀ i j, i < N → j < N → -30 ≤ A i j ∧ A i j ≤ 30) (hm : N - k = m) (hi : i < m) (h0 : at2 L i 0 ≠ 0) : ∃ X p s2, PW N A k m i L q s X p s2 := by
  obtain ⟨hR, hw⟩ := h.sq (by omega)
  obtain ⟨F, hB⟩ := h.bar
  have hl := h.len
  rw [hm] at hw hl
  obtain ⟨hR2, hw2, hg⟩ := swapL_rec hl hR hw hi
  have hat : ∀ r c, r < m → at2 (swapL L 0 i) r c = at2 L (ex 0 i r) c := fun r c hr => by unfold at2; rw [hg r hr]
  have hp : at2 (swapL L 0 i) 0 0 = at2 L i 0 := by rw [hat 0 0 (by omega)]; congr 1
  obtain ⟨F2, hB2⟩ : ∃ F2, Bar N A k (at2 (swapL L 0 i)) q (if i = 0 then s else -s) F2 := by
    by_cases hi0 : i = 0
    · subst hi0
      rw [if_pos rfl]
      exact ⟨F, hB.congr fun r c hr _ => by rw [hat r c (by omega), ex_self]⟩
    · rw [if_neg hi0]
      exact ⟨_, hB.swap (a := i) (by omega) hi0 fun r c hr _ => hat r c (by omega)⟩
  have hX : ∀ i' k', i' + 1 < m → k' + 1 < m → chio (at2 (swapL L 0 i)) i' k' = q * Int.tdiv (chio (at2 (swapL L 0 i)) i' k') q := fun i' k' h1 h2 => by
    obtain ⟨x, hx⟩ := hB2.exact (i := i') (j := k') (by omega) (by omega)
    rw [hx, Int.mul_tdiv_cancel_left _ hB2.ne]
  have hB3 := hB2.step (u := at2 (tabF (m - 1) (m - 1) fun i' k' => Int.tdiv (chio (at2 (swapL L 0 i)) i' k') q)) (by omega) (by rw [hp]; exact h0) (fun i' k' h1 h2 => by
    have e := tabF_at (m - 1) (m - 1) (fun i' k' => Int.tdiv (chio (at2 (swapL L 0 i)) i' k') q) i' k' (by omega) (by omega)
    rw [hX i' k' (by omega) (by omega)]
    exact congrArg (q * ·) e.symm)
  refine ⟨fun i' k' => Int.tdiv (chio (at2 (swapL L 0 i)) i' k') q, at2 (swapL L 0 i) 0 0, _, ⟨hR2, hw2⟩, by rw [swapL_length]; exact hl, rfl, rfl, hX, fun i' k' h1 h2 => ?_, fun h2 i' j' h3 h4 => ?_, ⟨by omega, by rw [tabF_length]; omega, fun h1 => ?_, ⟨F2, hB3⟩⟩⟩
  · have e := hB3.bd hN hA (i := i') (j := k') (by omega) (by omega)
    rw [show at2 (tabF (m - 1) (m - 1) fun i' k' => Int.tdiv (chio (at2 (swapL L 0 i)) i' k') q) i' k' = Int.tdiv (chio (at2 (swapL L 0 i)) i' k') q from tabF_at _ _ _ i' k' (by omega) (by omega)] at e
    have : bdN (k + 1 + 1) ≤ 349920000000 := by
      have h : k = 0 ∨ k = 1 ∨ k = 2 ∨ k = 3 ∨ k = 4 := by omega
      rcases h with h | h | h | h | h <;> (subst h; decide)
    omega
  · have e := hB2.bd hN hA (i := i') (j := j') (by omega) (by omega)
    have := bdN_le (n := k + 1) (by omega)
    omega
  · have := tabF_rec (m := m - 1) (by omega) (by omega) fun i' k' => Int.tdiv (chio (at2 (swapL L 0 i)) i' k') q
    rw [show N - (k + 1) = m - 1 by omega]
    exact this

theorem swapped0_any (a : Option Addr) (cap n k : Nat) (l : List (List Int)) (w : World) (hn : l.length = n) (hT : Rec l) (h0 : 0 < n) (hk : k < n) (hm : MatR w a l) :
    Calls Try.prog 142 #[.slice a n cap, .int .i64 0, .int .i64 k] w fun e w' => ∃ a' cap', e = .returned (.slice a' n cap') ∧ w.Since w.heap.size w' ∧ OwnT w.heap.size w'.heap.size w' a' (swapL l 0 k) :=
  swapped_any a cap n 0 k l w hn hT h0 hk hm

theorem swapped00_any (a : Option Addr) (cap n : Nat) (l : List (List Int)) (w : World) (hn : l.length = n) (hT : Rec l) (h0 : 0 < n) (hm : MatR w a l) :
    Calls Try.prog 142 #[.slice a n cap, .int .i64 0, .int .i64 0] w fun e w' => ∃ a' cap', e = .returned (.slice a' n cap') ∧ w.Since w.heap.size w' ∧ OwnT w.heap.size w'.heap.size w' a' (swapL l 0 0) :=
  swapped_any a cap n 0 0 l w hn hT h0 h0 hm

set_option maxRecDepth 100000 in
set_option maxHeartbeats 4000000 in
theorem byPivots_any (N : Nat) (l : List (List Int)) (a : Option Addr) (cap : Nat) (W : World) (hsq : SqD N l) (hN : N ≤ 6) (hm : MatR W a l) :
    Calls Try.prog 128 #[.slice a N cap] W fun e w' => e = .returned (.int .i64 (dt N (at2 l))) ∧ W.Since W.heap.size w' := by
  have hA : ∀ i j, i < N → j < N → -30 ≤ at2 l i j ∧ at2 l i j ≤ 30 := fun i j hi hj => by
    obtain ⟨hT, hw⟩ := hsq.2 (by omega)
    have := hsq.1
    exact hT.at (by omega) (by omega)
  have hst : PV N (at2 l) 0 l 1 1 := ⟨Nat.zero_le _, hsq.1, fun h1 => by
    obtain ⟨hT, hw⟩ := hsq.2 (by omega)
    exact ⟨hT.rec, hw⟩, ⟨_, Bar.start fun _ _ _ _ => rfl⟩⟩
  obtain ⟨A, hAA⟩ : ∃ A, A = at2 l := ⟨_, rfl⟩
  rw [← hAA] at hA hst ⊢
  have HST := Lib.hid hst
  have HA := Lib.hid hA
  have HM := Lib.hid hm
  clear hst hA hm hsq hAA
  go_enter Try.func128, Try.ntmps128
  go_wp2
  go_loopg [0, 3, 4, 5] N (fun g t s q _ wr => ∃ (k : Nat) (L : List (List Int)) (a' : Option Addr) (cap' : Nat) (u v : Int), g = N - k ∧ t = .slice a' (N - k) cap' ∧ s = .int .i64 u ∧ q = .int .i64 v ∧ W.Since W.heap.size wr ∧ MatR wr a' L ∧ PV N A k L v u)
  case atStart => exact ⟨0, l, a, cap, 1, 1, rfl, rfl, rfl, rfl, World.Since.refl _ _, HM.out, HST.out⟩
  case round =>
    obtain ⟨k, L, a1, c1, u, v, rfl, rfl, rfl, rfl, hS, hM, hP⟩ := hrel
    clear HST HM
    by_cases hlt : k < N
    · obtain ⟨m, hmm⟩ : ∃ m, N - k = m := ⟨_, rfl⟩
      have hm1 : 1 ≤ m := by omega
      obtain ⟨hR, hw⟩ := hP.sq (by omega)
      have hl := hP.len
      rw [hmm] at hl hw
      have E1 := Lib.hid (firstFilled_any a1 c1 m L wr hl hR hM)
      have hu : u = 1 ∨ u = -1 := by obtain ⟨F, hB⟩ := hP.bar; exact hB.sgn
      have hv0 : v ≠ 0 := by obtain ⟨F, hB⟩ := hP.bar; exact hB.ne
      have hZ := Lib.hid (fun (h : ∀ i, i < m → at2 L i 0 = 0) => by obtain ⟨F, hB⟩ := hP.bar; exact hB.zero hlt (fun i hi => h i (by omega)))
      have HS := Lib.hid hS
      have ESW := Lib.hid (fun (i : Nat) (hi : i < m) => swapped0_any a1 c1 m i L wr hl hR (by omega) hi hM)
      have ESW0 := Lib.hid (swapped00_any a1 c1 m L wr hl hR (by omega) hM)
      have HP := Lib.hid hP
      have hmi : (m : Int) > 0 := by omega
      have HMM := Lib.hid hmm
      have hgN : N - (k + 1) = m - 1 := by omega
      have HGN := Lib.hid hgN
      rw [hmm]
      clear hR hw hl hP hS hM hgN
      clear hmm
      go_wp2_with fail
      refine (E1.out).mono ?_
      rintro e w' ⟨r, rfl, hr, rfl⟩
      rcases hr with ⟨i, hi, rfl, hp, _⟩ | ⟨rfl, hno⟩
      · obtain ⟨X, p, s2, hPW⟩ := HP.out.step hN HA.out HMM.out hi (by simpa using hp)
        have E2 := Lib.hid (ESW.out i hi)
        clear ESW HP E1 hZ hp
        have hlen := hPW.len
        have E3 := Lib.hid (fun (a2 : Option Addr) (c2 : Nat) (V : World) (h : MatR V a2 (swapL L 0 i)) => behind_any m c2 v X a2 (swapL L 0 i) V hPW.len hPW.sq.1 hPW.sq.2 (by exact hv0) hPW.eq hPW.bdX hPW.bd h)
        have HPW := Lib.hid hPW
        have hs2 := hPW.sgn
        have ETOP := Lib.hid (fun (lo hi : Nat) (V : World) (a2 : Option Addr) (h : OwnT lo hi V a2 (swapL L 0 i)) => h.top0 hPW.len hm1 hPW.sq.2)
        rw [hPW.piv] at ETOP
        clear hlen hPW
        by_cases hi0 : i = 0
        · rw [if_pos hi0] at hs2
          subst hi0
          subst hs2
          clear E2
          have E2 := ESW0
          clear ESW0
          go_wp2_with (first
            | (go_at_call 142; refine (E2.out).mono ?_; rintro e w2 ⟨a2, c2, rfl, hsw, how⟩; obtain ⟨b3, g3, c3, rfl, t1, t2⟩ := ETOP.out _ _ _ _ how; have HO2 := Lib.hid how.matR; have HS2 := Lib.hid (HS.out.trans (since_mono hsw HS.out.size)); clear hsw how; have E4 := Lib.hid (E3.out _ c2 w2.drew (HO2.out.since (World.Since.refl _ _).drew)); have l1 : b3 < w2.heap.size := World.block_lt_of_cell? _ _ t1; have l2 : g3 < w2.heap.size := World.block_lt_of_cell? _ _ t2))
          go_region_held3 (fun w' => w'.cell? ⟨b3, 0, none⟩ = some (.slice (some ⟨g3, 0, none⟩) m c3) ∧ w'.cell? ⟨g3, 0, none⟩ = some (.int .i64 p)) (first | exact ⟨t1, t2⟩)
            (first
              | (go_at_call 143; refine (E4.out).mono ?_; rintro e w3 ⟨rfl, hs3, ho3⟩; have hs3 := since_of_drew hs3; have t1 := (hs3.cell (a := ⟨b3, 0, none⟩) l1).trans t1; have t2 := (hs3.cell (a := ⟨g3, 0, none⟩) l2).trans t2; have HO3 := Lib.hid ho3.matR; have HS3 := Lib.hid (HS2.out.trans (since_mono hs3 HS2.out.size)); clear hs3 ho3))
          go_wp2
          go_roundg (N - (k + 1))
          case measure => omega
          case rel => exact ⟨k + 1, _, _, _, _, _, rfl, by rw [HGN.out]; rfl, rfl, rfl, HS3.out, HO3.out, HPW.out.next⟩
        · rw [if_neg hi0] at hs2
          have hg0 : ((i : Int) > 0) := by omega
          clear ESW0 hi0
          have hwn : IntKind.i64.wrap (-u) = -u := IntWalk.i64_in _ ⟨by omega, by omega⟩
          subst hs2
          go_wp2_with (first
            | (go_at_call 142; refine (E2.out).mono ?_; rintro e w2 ⟨a2, c2, rfl, hsw, how⟩; obtain ⟨b3, g3, c3, rfl, t1, t2⟩ := ETOP.out _ _ _ _ how; have HO2 := Lib.hid how.matR; have HS2 := Lib.hid (HS.out.trans (since_mono hsw HS.out.size)); clear hsw how; have E4 := Lib.hid (E3.out _ c2 w2.drew (HO2.out.since (World.Since.refl _ _).drew)); have l1 : b3 < w2.heap.size := World.block_lt_of_cell? _ _ t1; have l2 : g3 < w2.heap.size := World.block_lt_of_cell? _ _ t2))
          go_region_held3 (fun w' => w'.cell? ⟨b3, 0, none⟩ = some (.slice (some ⟨g3, 0, none⟩) m c3) ∧ w'.cell? ⟨g3, 0, none⟩ = some (.int .i64 p)) (first | exact ⟨t1, t2⟩)
            (first
              | (go_at_call 143; refine (E4.out).mono ?_; rintro e w3 ⟨rfl, hs3, ho3⟩; have hs3 := since_of_drew hs3; have t1 := (hs3.cell (a := ⟨b3, 0, none⟩) l1).trans t1; have t2 := (hs3.cell (a := ⟨g3, 0, none⟩) l2).trans t2; have HO3 := Lib.hid ho3.matR; have HS3 := Lib.hid (HS2.out.trans (since_mono hs3 HS2.out.size)); clear hs3 ho3))
          go_wp2
          go_roundg (N - (k + 1))
          case measure => omega
          case rel => exact ⟨k + 1, _, _, _, _, _, rfl, by rw [HGN.out]; rfl, rfl, rfl, HS3.out, HO3.out, HPW.out.next⟩
      · have h0 := hZ.out (fun i hi => by simpa using hno i hi)
        go_wp2
        go_ret
        exact ⟨by rw [h0]; rfl, HS.out⟩
    · obtain ⟨F, hB⟩ := hP.bar
      have hkN : k = N := by have := hP.le; omega
      subst hkN
      have hd := hB.done
      have hb := dt_bd k A hN HA.out
      have hb6 : bdN k ≤ 349920000000 := by
        have h : k = 0 ∨ k = 1 ∨ k = 2 ∨ k = 3 ∨ k = 4 ∨ k = 5 ∨ k = 6 := by omega
        rcases h with h | h | h | h | h | h | h <;> (subst h; decide)
      rw [← hd] at hb
      have HD := Lib.hid hd
      have hwv : IntKind.i64.wrap (u * v) = u * v := IntWalk.i64_in _ ⟨by omega, by omega⟩
      have hz : k - k = 0 := Nat.sub_self k
      rw [hz]
      clear hB hd hb hb6 hz hP
      go_wp2
      go_ret
      exact ⟨by rw [← HD.out]; rfl, hS⟩

end Go.Proofs.Ytkahgpgnfodpgaa

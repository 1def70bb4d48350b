import Derived.Test.YtlgjplhffpmfpaaRoads
import Derived.Test.YtlgjplhffpmfpaaSig
import Derived.Test.YtlgjplhffpmfpaaBehind
import Derived.Test.YtlgjplhffpmfpaaRowsF
import Derived.Test.YtlgjplhffpmfpaaMembers
import Derived.Test.YtlgjplhffpmfpaaFnFirstLa
import Derived.Test.YtlgjplhffpmfpaaMinorV
import Derived.Test.YtlgjplhffpmfpaaSets
import Derived.Test.YtlgjplhffpmfpaaRankV
import Derived.RangeFuncNested
import Derived.RangeFuncLeaves
import Derived.OwnWalkIn
import Derived.Test.YtlgjplhffpmfpaaSeqF
import Derived.Laws.EntriesVeiled
import Derived.WalkHide
import Derived.LoopNIn
import Derived.Test.YtlgjplhffpmfpaaRound
import Derived.OrdersHeld
import Derived.Test.YtlgjplhffpmfpaaTabInImpl
import Derived.Test.YtlgjplhffpmfpaaL2Square
import Derived.Test.YtlgjplhffpmfpaaBar
import Derived.Test.YtlgjplhffpmfpaaOrdF
import Derived.Test.YtlgjplhffpmfpaaPartImpl
import Derived.Test.YtlgjplhffpmfpaaSwapped
import Derived.Test.YtlgjplhffpmfpaaAddImpl
import Derived.Test.YtlgjplhffpmfpaaAddSpec
import Derived.Test.YtlgjplhffpmfpaaTimesSpec
import Derived.Test.YtlgjplhffpmfpaaSumSpec
import Derived.Test.YtlgjplhffpmfpaaHarn2
import Derived.Test.YtlgjplhffpmfpaaRows
import Derived.Test.YtlgjplhffpmfpaaData
import Derived.ProofKit
import Derived.Deep.Matrix

section
namespace Go.Proofs.Ytlgjplhffpmfpaa
open Go.RowKit Go.Deep

theorem since_of_map {W w' : World} {o : Obj} (hg : (W.alloc o).grownBy w' (some W.heap.size)) : W.Since W.heap.size w' := by
  have h0 := (World.Since.refl W.heap.size W).alloc (Nat.le_refl _) o
  have h1 := hg.size
  simp only [World.size_alloc] at h1
  exact ⟨hg.os.trans h0.os, hg.tape.trans h0.tape, hg.output.trans h0.output, by omega, fun k hk => (hg.block k (by simp; omega) (by intro e; injection e with e; omega)).trans (h0.block k hk)⟩

set_option maxHeartbeats 400000 in
theorem anyValue_of (rb : Nat) (a : Option Addr) (n cap : Nat) (x : Int) (W : World) (hr : RoadsAt W rb) (ht : ∀ W', W.grownBy W' (some rb) → Calls Try.prog 98 #[.slice a n cap] W' (fun e w' => e = .returned (.int .i64 x) ∧ W'.Since W'.heap.size w')) :
    Calls Try.prog 81 #[.map (some rb), .slice a n cap] W (fun e w' => e = .returned (.int .i64 x) ∧ W.grownBy w' (some rb) ∧ RoadsAt w' rb) := by
  have E := Lib.hid (roads_2 rb a n cap x W hr ht)
  clear hr ht
  go_enter Try.func81, Try.ntmps81
  go_wp2_with fail
  refine (E.out).mono ?_
  rintro e w' ⟨rfl, hg, hr⟩
  go_wp2
  go_ret
  exact ⟨rfl, hg, hr⟩

end Go.Proofs.Ytlgjplhffpmfpaa
end

section
namespace Go.Proofs.Ytlgjplhffpmfpaa
open Go.RowKit Go.Deep

theorem Bar.congr {N : Nat} {A : Nat → Nat → Int} {k : Nat} {t u : Nat → Nat → Int} {q s : Int} {F : Nat → Nat → Int} (h : Bar N A k t q s F) (hu : ∀ i j, i < N - k → j < N - k → u i j = t i j) : Bar N A k u q s F :=
  ⟨h.val, h.sgn, h.src, h.ne, fun d R C hR hC => by rw [dt_congr (d + 1) (g := fun i j => t (R i) (C j)) (fun i j hi hj => hu _ _ (hR i hi) (hC j hj)), h.main d R C hR hC], h.last⟩
theorem sw_ex (i r : Nat) : sw 0 i r = ex 0 i r := by unfold sw ex; repeat (first | split | omega)
theorem swapL_rec {L : List (List Int)} {m i : Nat} (hL : L.length = m) (hR : Rec L) (hw : (L.getD 0 []).length = m) (hi : i < m) : Rec (swapL L 0 i) ∧ ((swapL L 0 i).getD 0 []).length = m ∧ ∀ r, r < m → (swapL L 0 i).getD r [] = L.getD (ex 0 i r) [] := by
  have hlow := hR.low
  have hhigh := hR.high
  have hg : ∀ r, r < m → (swapL L 0 i).getD r [] = L.getD (ex 0 i r) [] := fun r hr => by rw [swapL_get L 0 i (by omega), sw_ex]
  have hlen : ∀ r, r < m → ((swapL L 0 i).getD r []).length = m := fun r hr => by rw [hg r hr, hR.row (by rw [hL]; exact ex_bd (by omega) hi hr), hw]
  have h0 := hlen 0 (by omega)
  refine ⟨⟨by rw [swapL_length]; exact hlow, by rw [swapL_length]; exact hhigh, by rw [h0]; omega, fun {r} hr => ?_⟩, h0, hg⟩
  rw [swapL_length, hL] at hr
  rw [hlen r hr, h0]
theorem tabF_rec {m : Nat} (h1 : 1 ≤ m) (h6 : m ≤ 6) (X : Nat → Nat → Int) : Rec (tabF m m X) ∧ ((tabF m m X).getD 0 []).length = m := by
  refine ⟨⟨by rw [tabF_length]; exact h1, by rw [tabF_length]; exact h6, by rw [tabF_len _ _ _ _ (by omega)]; omega, fun {r} hr => ?_⟩, tabF_len _ _ _ _ (by omega)⟩
  rw [tabF_length] at hr
  rw [tabF_len _ _ _ _ hr, tabF_len _ _ _ _ (by omega)]
theorem OwnT.top0 {lo hi : Nat} {w : World} {a : Option Addr} {l : List (List Int)} {m : Nat} (h : OwnT lo hi w a l) (hl : l.length = m) (h1 : 1 ≤ m) (hw : (l.getD 0 []).length = m) : ∃ b g c, a = some ⟨b, 0, none⟩ ∧ w.cell? ⟨b, 0, none⟩ = some (.slice (some ⟨g, 0, none⟩) m c) ∧ w.cell? ⟨g, 0, none⟩ = some (.int .i64 (at2 l 0 0)) := by
  obtain ⟨b, A, G, C, e, _, hr, _⟩ := h (by omega)
  obtain ⟨c1, c2⟩ := hr 0 (by omega)
  obtain ⟨e2, _, c3⟩ := c2 (by omega)
  rw [e2, hw] at c1
  exact ⟨b, G 0, C 0, e, c1, (c3 0 (by omega)).1⟩

structure PV (N : Nat) (A : Nat → Nat → Int) (k : Nat) (L : List (List Int)) (q s : Int) : Prop where
  le : k ≤ N
  len : L.length = N - k
  sq : 1 ≤ N - k → Rec L ∧ (L.getD 0 []).length = N - k
  bar : ∃ F, Bar N A k (at2 L) q s F
structure PW (N : Nat) (A : Nat → Nat → Int) (k m i : Nat) (L : List (List Int)) (q s : Int) (X : Nat → Nat → Int) (p s2 : Int) : Prop where
  sq : Rec (swapL L 0 i) ∧ ((swapL L 0 i).getD 0 []).length = m
  len : (swapL L 0 i).length = m
  piv : at2 (swapL L 0 i) 0 0 = p
  sgn : s2 = if i = 0 then s else -s
  eq : ∀ i' k', i' + 1 < m → k' + 1 < m → chio (at2 (swapL L 0 i)) i' k' = q * X i' k'
  bdX : ∀ i' k', i' + 1 < m → k' + 1 < m → -4611686018427387904 ≤ X i' k' ∧ X i' k' ≤ 4611686018427387904
  bd : 2 ≤ m → ∀ i' j', i' < m → j' < m → -1944000000 ≤ at2 (swapL L 0 i) i' j' ∧ at2 (swapL L 0 i) i' j' ≤ 1944000000
  next : PV N A (k + 1) (tabF (m - 1) (m - 1) X) p s2

theorem PV.step {N : Nat} {A : Nat → Nat → Int} {k m i : Nat} {L : List (List Int)} {q s : Int} (h : PV N A k L q s) (hN : N ≤ 6) (hA : ∀ i j, i < N → j < N → -30 ≤ A i j ∧ A i j ≤ 30) (hm : N - k = m) (hi : i < m) (h0 : at2 L i 0 ≠ 0) : ∃ X p s2, PW N A k m i L q s X p s2 := by
  obtain ⟨hR, hw⟩ := h.sq (by omega)
  obtain ⟨F, hB⟩ := h.bar
  have hl := h.len
  rw [hm] at hw hl
  obtain ⟨hR2, hw2, hg⟩ := swapL_rec hl hR hw hi
  have hat : ∀ r c, r < m → at2 (swapL L 0 i) r c = at2 L (ex 0 i r) c := fun r c hr => by unfold at2; rw [hg r hr]
  have hp : at2 (swapL L 0 i) 0 0 = at2 L i 0 := by rw [hat 0 0 (by omega)]; congr 1
  obtain ⟨F2, hB2⟩ : ∃ F2, Bar N A k (at2 (swapL L 0 i)) q (if i = 0 then s else -s) F2 := by
    by_cases hi0 : i = 0
    · subst hi0
      rw [if_pos rfl]
      exact ⟨F, hB.congr fun r c hr _ => by rw [hat r c (by omega), ex_self]⟩
    · rw [if_neg hi0]
      exact ⟨_, hB.swap (a := i) (by omega) hi0 fun r c hr _ => hat r c (by omega)⟩
  have hX : ∀ i' k', i' + 1 < m → k' + 1 < m → chio (at2 (swapL L 0 i)) i' k' = q * Int.tdiv (chio (at2 (swapL L 0 i)) i' k') q := fun i' k' h1 h2 => by
    obtain ⟨x, hx⟩ := hB2.exact (i := i') (j := k') (by omega) (by omega)
    rw [hx, Int.mul_tdiv_cancel_left _ hB2.ne]
  have hB3 := hB2.step (u := at2 (tabF (m - 1) (m - 1) fun i' k' => Int.tdiv (chio (at2 (swapL L 0 i)) i' k') q)) (by omega) (by rw [hp]; exact h0) (fun i' k' h1 h2 => by
    have e := tabF_at (m - 1) (m - 1) (fun i' k' => Int.tdiv (chio (at2 (swapL L 0 i)) i' k') q) i' k' (by omega) (by omega)
    rw [hX i' k' (by omega) (by omega)]
    exact congrArg (q * ·) e.symm)
  refine ⟨fun i' k' => Int.tdiv (chio (at2 (swapL L 0 i)) i' k') q, at2 (swapL L 0 i) 0 0, _, ⟨hR2, hw2⟩, by rw [swapL_length]; exact hl, rfl, rfl, hX, fun i' k' h1 h2 => ?_, fun h2 i' j' h3 h4 => ?_, ⟨by omega, by rw [tabF_length]; omega, fun h1 => ?_, ⟨F2, hB3⟩⟩⟩
  · have e := hB3.bd hN hA (i := i') (j := k') (by omega) (by omega)
    rw [show at2 (tabF (m - 1) (m - 1) fun i' k' => Int.tdiv (chio (at2 (swapL L 0 i)) i' k') q) i' k' = Int.tdiv (chio (at2 (swapL L 0 i)) i' k') q from tabF_at _ _ _ i' k' (by omega) (by omega)] at e
    have : bdN (k + 1 + 1) ≤ 349920000000 := by
      have h : k = 0 ∨ k = 1 ∨ k = 2 ∨ k = 3 ∨ k = 4 := by omega
      rcases h with h | h | h | h | h <;> (subst h; decide)
    omega
  · have e := hB2.bd hN hA (i := i') (j := j') (by omega) (by omega)
    have := bdN_le (n := k + 1) (by omega)
    omega
  · have := tabF_rec (m := m - 1) (by omega) (by omega) fun i' k' => Int.tdiv (chio (at2 (swapL L 0 i)) i' k') q
    rw [show N - (k + 1) = m - 1 by omega]
    exact this

theorem swapped0_any (a : Option Addr) (cap n k : Nat) (l : List (List Int)) (w : World) (hn : l.length = n) (hT : Rec l) (h0 : 0 < n) (hk : k < n) (hm : MatR w a l) :
    Calls Try.prog 107 #[.slice a n cap, .int .i64 0, .int .i64 k] w fun e w' => ∃ a' cap', e = .returned (.slice a' n cap') ∧ w.Since w.heap.size w' ∧ OwnT w.heap.size w'.heap.size w' a' (swapL l 0 k) :=
  swapped_any a cap n 0 k l w hn hT h0 hk hm

theorem swapped00_any (a : Option Addr) (cap n : Nat) (l : List (List Int)) (w : World) (hn : l.length = n) (hT : Rec l) (h0 : 0 < n) (hm : MatR w a l) :
    Calls Try.prog 107 #[.slice a n cap, .int .i64 0, .int .i64 0] w fun e w' => ∃ a' cap', e = .returned (.slice a' n cap') ∧ w.Since w.heap.size w' ∧ OwnT w.heap.size w'.heap.size w' a' (swapL l 0 0) :=
  swapped_any a cap n 0 0 l w hn hT h0 h0 hm

set_option maxRecDepth 100000 in
set_option maxHeartbeats 4000000 in
theorem byPivots_any (N : Nat) (l : List (List Int)) (a : Option Addr) (cap : Nat) (W : World) (hsq : SqD N l) (hN : N ≤ 6) (hm : MatR W a l) :
    Calls Try.prog 98 #[.slice a N cap] W fun e w' => e = .returned (.int .i64 (dt N (at2 l))) ∧ W.Since W.heap.size w' := by
  have hA : ∀ i j, i < N → j < N → -30 ≤ at2 l i j ∧ at2 l i j ≤ 30 := fun i j hi hj => by
    obtain ⟨hT, hw⟩ := hsq.2 (by omega)
    have := hsq.1
    exact hT.at (by omega) (by omega)
  have hst : PV N (at2 l) 0 l 1 1 := ⟨Nat.zero_le _, hsq.1, fun h1 => by
    obtain ⟨hT, hw⟩ := hsq.2 (by omega)
    exact ⟨hT.rec, hw⟩, ⟨_, Bar.start fun _ _ _ _ => rfl⟩⟩
  obtain ⟨A, hAA⟩ : ∃ A, A = at2 l := ⟨_, rfl⟩
  rw [← hAA] at hA hst ⊢
  have HST := Lib.hid hst
  have HA := Lib.hid hA
  have HM := Lib.hid hm
  clear hst hA hm hsq hAA
  go_enter Try.func98, Try.ntmps98
  go_wp2
  go_loopg [0, 3, 4, 5] N (fun g t s q _ wr => ∃ (k : Nat) (L : List (List Int)) (a' : Option Addr) (cap' : Nat) (u v : Int), g = N - k ∧ t = .slice a' (N - k) cap' ∧ s = .int .i64 u ∧ q = .int .i64 v ∧ W.Since W.heap.size wr ∧ MatR wr a' L ∧ PV N A k L v u)
  case atStart => exact ⟨0, l, a, cap, 1, 1, rfl, rfl, rfl, rfl, World.Since.refl _ _, HM.out, HST.out⟩
  case round =>
    obtain ⟨k, L, a1, c1, u, v, rfl, rfl, rfl, rfl, hS, hM, hP⟩ := hrel
    clear HST HM
    by_cases hlt : k < N
    · obtain ⟨m, hmm⟩ : ∃ m, N - k = m := ⟨_, rfl⟩
      have hm1 : 1 ≤ m := by omega
      obtain ⟨hR, hw⟩ := hP.sq (by omega)
      have hl := hP.len
      rw [hmm] at hl hw
      have E1 := Lib.hid (firstFilled_any a1 c1 m L wr hl hR hM)
      have hu : u = 1 ∨ u = -1 := by obtain ⟨F, hB⟩ := hP.bar; exact hB.sgn
      have hv0 : v ≠ 0 := by obtain ⟨F, hB⟩ := hP.bar; exact hB.ne
      have hZ := Lib.hid (fun (h : ∀ i, i < m → at2 L i 0 = 0) => by obtain ⟨F, hB⟩ := hP.bar; exact hB.zero hlt (fun i hi => h i (by omega)))
      have HS := Lib.hid hS
      have ESW := Lib.hid (fun (i : Nat) (hi : i < m) => swapped0_any a1 c1 m i L wr hl hR (by omega) hi hM)
      have ESW0 := Lib.hid (swapped00_any a1 c1 m L wr hl hR (by omega) hM)
      have HP := Lib.hid hP
      have hmi : (m : Int) > 0 := by omega
      have HMM := Lib.hid hmm
      have hgN : N - (k + 1) = m - 1 := by omega
      have HGN := Lib.hid hgN
      rw [hmm]
      clear hR hw hl hP hS hM hgN
      clear hmm
      go_wp2_with fail
      refine (E1.out).mono ?_
      rintro e w' ⟨r, rfl, hr, rfl⟩
      rcases hr with ⟨i, hi, rfl, hp, _⟩ | ⟨rfl, hno⟩
      · obtain ⟨X, p, s2, hPW⟩ := HP.out.step hN HA.out HMM.out hi (by simpa using hp)
        have E2 := Lib.hid (ESW.out i hi)
        clear ESW HP E1 hZ hp
        have hlen := hPW.len
        have E3 := Lib.hid (fun (a2 : Option Addr) (c2 : Nat) (V : World) (h : MatR V a2 (swapL L 0 i)) => behind_any m c2 v X a2 (swapL L 0 i) V hPW.len hPW.sq.1 hPW.sq.2 (by exact hv0) hPW.eq hPW.bdX hPW.bd h)
        have HPW := Lib.hid hPW
        have hs2 := hPW.sgn
        have ETOP := Lib.hid (fun (lo hi : Nat) (V : World) (a2 : Option Addr) (h : OwnT lo hi V a2 (swapL L 0 i)) => h.top0 hPW.len hm1 hPW.sq.2)
        rw [hPW.piv] at ETOP
        clear hlen hPW
        by_cases hi0 : i = 0
        · rw [if_pos hi0] at hs2
          subst hi0
          subst hs2
          clear E2
          have E2 := ESW0
          clear ESW0
          go_wp2_with (first
            | (go_at_call 107; refine (E2.out).mono ?_; rintro e w2 ⟨a2, c2, rfl, hsw, how⟩; obtain ⟨b3, g3, c3, rfl, t1, t2⟩ := ETOP.out _ _ _ _ how; have HO2 := Lib.hid how.matR; have HS2 := Lib.hid (HS.out.trans (since_mono hsw HS.out.size)); clear hsw how; have E4 := Lib.hid (E3.out _ c2 w2.drew (HO2.out.since (World.Since.refl _ _).drew)); have l1 : b3 < w2.heap.size := World.block_lt_of_cell? _ _ t1; have l2 : g3 < w2.heap.size := World.block_lt_of_cell? _ _ t2))
          go_region_held3 (fun w' => w'.cell? ⟨b3, 0, none⟩ = some (.slice (some ⟨g3, 0, none⟩) m c3) ∧ w'.cell? ⟨g3, 0, none⟩ = some (.int .i64 p)) (first | exact ⟨t1, t2⟩)
            (first
              | (go_at_call 108; refine (E4.out).mono ?_; rintro e w3 ⟨rfl, hs3, ho3⟩; have hs3 := since_of_drew hs3; have t1 := (hs3.cell (a := ⟨b3, 0, none⟩) l1).trans t1; have t2 := (hs3.cell (a := ⟨g3, 0, none⟩) l2).trans t2; have HO3 := Lib.hid ho3.matR; have HS3 := Lib.hid (HS2.out.trans (since_mono hs3 HS2.out.size)); clear hs3 ho3))
          go_wp2
          go_roundg (N - (k + 1))
          case measure => omega
          case rel => exact ⟨k + 1, _, _, _, _, _, rfl, by rw [HGN.out]; rfl, rfl, rfl, HS3.out, HO3.out, HPW.out.next⟩
        · rw [if_neg hi0] at hs2
          have hg0 : ((i : Int) > 0) := by omega
          clear ESW0 hi0
          have hwn : IntKind.i64.wrap (-u) = -u := IntWalk.i64_in _ ⟨by omega, by omega⟩
          subst hs2
          go_wp2_with (first
            | (go_at_call 107; refine (E2.out).mono ?_; rintro e w2 ⟨a2, c2, rfl, hsw, how⟩; obtain ⟨b3, g3, c3, rfl, t1, t2⟩ := ETOP.out _ _ _ _ how; have HO2 := Lib.hid how.matR; have HS2 := Lib.hid (HS.out.trans (since_mono hsw HS.out.size)); clear hsw how; have E4 := Lib.hid (E3.out _ c2 w2.drew (HO2.out.since (World.Since.refl _ _).drew)); have l1 : b3 < w2.heap.size := World.block_lt_of_cell? _ _ t1; have l2 : g3 < w2.heap.size := World.block_lt_of_cell? _ _ t2))
          go_region_held3 (fun w' => w'.cell? ⟨b3, 0, none⟩ = some (.slice (some ⟨g3, 0, none⟩) m c3) ∧ w'.cell? ⟨g3, 0, none⟩ = some (.int .i64 p)) (first | exact ⟨t1, t2⟩)
            (first
              | (go_at_call 108; refine (E4.out).mono ?_; rintro e w3 ⟨rfl, hs3, ho3⟩; have hs3 := since_of_drew hs3; have t1 := (hs3.cell (a := ⟨b3, 0, none⟩) l1).trans t1; have t2 := (hs3.cell (a := ⟨g3, 0, none⟩) l2).trans t2; have HO3 := Lib.hid ho3.matR; have HS3 := Lib.hid (HS2.out.trans (since_mono hs3 HS2.out.size)); clear hs3 ho3))
          go_wp2
          go_roundg (N - (k + 1))
          case measure => omega
          case rel => exact ⟨k + 1, _, _, _, _, _, rfl, by rw [HGN.out]; rfl, rfl, rfl, HS3.out, HO3.out, HPW.out.next⟩
      · have h0 := hZ.out (fun i hi => by simpa using hno i hi)
        go_wp2
        go_ret
        exact ⟨by rw [h0]; rfl, HS.out⟩
    · obtain ⟨F, hB⟩ := hP.bar
      have hkN : k = N := by have := hP.le; omega
      subst hkN
      have hd := hB.done
      have hb := dt_bd k A hN HA.out
      have hb6 : bdN k ≤ 349920000000 := by
        have h : k = 0 ∨ k = 1 ∨ k = 2 ∨ k = 3 ∨ k = 4 ∨ k = 5 ∨ k = 6 := by omega
        rcases h with h | h | h | h | h | h | h <;> (subst h; decide)
      rw [← hd] at hb
      have HD := Lib.hid hd
      have hwv : IntKind.i64.wrap (u * v) = u * v := IntWalk.i64_in _ ⟨by omega, by omega⟩
      have hz : k - k = 0 := Nat.sub_self k
      rw [hz]
      clear hB hd hb hb6 hz hP
      go_wp2
      go_ret
      exact ⟨by rw [← HD.out]; rfl, hS⟩

end Go.Proofs.Ytlgjplhffpmfpaa
end

section
namespace Go.Proofs.Ytlgjplhffpmfpaa
open Go.RowKit Go.Deep

theorem OwnT.but {lo hi rb : Nat} {w w' : World} {a : Option Addr} {l : List (List Int)} (h : OwnT lo hi w a l) (hb : rb < lo) (hg : w.grownBy w' (some rb)) : MatR w' a l := by
  intro h0
  obtain ⟨b, A, G, C, e, hbl, hr, _⟩ := h h0
  have hc : ∀ (x k : Nat) (v : Value), lo ≤ x → w.cell? ⟨x, k, none⟩ = some v → w'.cell? ⟨x, k, none⟩ = some v := fun x k v hx hv =>
    (World.cell?_of_block (a := ⟨x, k, none⟩) (hg.block x (World.block_lt_of_cell? _ _ hv) (by intro e; injection e with e; omega))).trans hv
  refine ⟨b, 0, A, C, e, fun r hrl => ?_⟩
  obtain ⟨c1, c2⟩ := hr r hrl
  rw [Nat.zero_add]
  refine ⟨hc _ _ _ hbl.1 c1, fun hp => ?_⟩
  obtain ⟨eA, hG, c3⟩ := c2 hp
  exact ⟨G r, 0, eA, fun i hi => by rw [Nat.zero_add]; exact hc _ _ _ hG.1 (c3 i hi).1⟩

theorem since_map (w : World) : w.Since w.heap.size (w.alloc (.map #[] 0)) := (World.Since.refl w.heap.size w).alloc (Nat.le_refl _) _

def mnP (l : List (List Int)) (x : Nat × Nat) : Int := dt (popcS x.1) (at2 (partL l x.1 x.2))

set_option maxRecDepth 100000 in
set_option maxHeartbeats 1000000 in
theorem minor_any (a : Option Addr) (cap n m r c : Nat) (l : List (List Int)) (w : World) (hn : l.length = n) (hmm : (l.getD 0 []).length = m) (hT : TabIn l) (hr : r < 2 ^ n) (hc : c < 2 ^ m) (hpc : popcS r = popcS c) (hm : MatR w a l) :
    Calls Try.prog 62 #[.slice a n cap, .int .i64 r, .int .i64 c] w fun e w' => e = .returned (.int .i64 (mnP l (r, c))) ∧ w.Since w.heap.size w' := by
  have h6 := hT.2.1
  have hw := hT.width
  rw [hn] at h6
  rw [hmm] at hw
  have hp6 : 2 ^ n ≤ 2 ^ 6 := Nat.pow_le_pow_right (by omega) h6
  have hp6' : 2 ^ m ≤ 2 ^ 6 := Nat.pow_le_pow_right (by omega) hw.2
  have hsq := part_sq hT (s := r) (c := c) (by rw [hn]; exact hr) (by rw [hmm]; exact hc) hpc
  have EP := part_any a cap n r c l (w.alloc (.map #[] 0)) hn hT (by omega) (by omega) (hm.since (since_map w))
  rw [hsq.1] at EP
  have EV := fun (a2 : Option Addr) (c2 : Nat) (V : World) (h : MatR V a2 (partL l r c)) => byPivots_any (popcS r) (partL l r c) a2 c2 V hsq (popcS_le r) h
  have hv : mnP l (r, c) = dt (popcS r) (at2 (partL l r c)) := rfl
  rw [hv]
  obtain ⟨L, hL⟩ : ∃ L, L = partL l r c := ⟨_, rfl⟩
  obtain ⟨k, hk⟩ : ∃ k, k = popcS r := ⟨_, rfl⟩
  simp only [← hk] at EP EV ⊢
  simp only [← hL] at EP EV ⊢
  obtain ⟨x, hx⟩ : ∃ x, x = dt k (at2 L) := ⟨_, rfl⟩
  simp only [← hx] at EV ⊢
  replace EP := Lib.hid EP
  replace EV := Lib.hid EV
  have hmk := @run_makeMap Try.prog
  clear hn hmm hT hr hc hpc hm h6 hw hp6 hp6' hsq hv hL hk hx
  go_enter Try.func62, Try.ntmps62
  go_wp2_with fail
  refine (EP.out).mono ?_
  rintro e w3 ⟨a3, c3, rfl, hs3, ho3⟩
  have HR := Lib.hid ((roads_made w).kept (grown_of_since (row := none) hs3) (by simp))
  have HS3 := Lib.hid ((since_map w).trans (since_mono hs3 (by simp)))
  have HA := Lib.hid (anyValue_of w.heap.size a3 k c3 x w3 HR.out (fun W' hg => EV.out a3 c3 W' (ho3.but (rb := w.heap.size) (by simp) hg)))
  have HSP := Lib.hid (fun (w4 : World) (hg : w3.grownBy w4 (some w.heap.size)) => (show w.Since w.heap.size w4 from ⟨hg.os.trans HS3.out.os, hg.tape.trans HS3.out.tape, hg.output.trans HS3.out.output, Nat.le_trans HS3.out.size hg.size, fun j hj => (hg.block j (Nat.lt_of_lt_of_le hj HS3.out.size) (by intro e; injection e with e; omega)).trans (HS3.out.block j hj)⟩))
  clear hs3 ho3
  go_wp2_with fail
  refine (HA.out).mono ?_
  rintro e w4 ⟨rfl, hg, hr⟩
  have HS4 := Lib.hid (HSP.out w4 hg)
  clear hg hr
  go_wp2
  go_ret
  exact ⟨rfl, HS4.out⟩

end Go.Proofs.Ytlgjplhffpmfpaa
end

section
namespace Go.Proofs.Ytlgjplhffpmfpaa
open Go.RowKit Go.Deep

def prow (k m : Nat) (r : Nat) : List (Nat × Nat) := (setsTo k (2 ^ m)).map fun c => (r, c)
def partsK (k n m : Nat) : List (Nat × Nat) := (setsTo k (2 ^ n)).flatMap (prow k m)
def partsTo (n m : Nat) : Nat → List (Nat × Nat)
  | 0 => []
  | j + 1 => partsTo n m j ++ partsK (j + 1) n m
def partsA (n m : Nat) : List (Nat × Nat) := partsTo n m (min n m)
theorem partsK_mem {k n m : Nat} {x : Nat × Nat} : x ∈ partsK k n m ↔ (x.1 < 2 ^ n ∧ popcS x.1 = k) ∧ (x.2 < 2 ^ m ∧ popcS x.2 = k) := by
  unfold partsK prow
  rw [List.mem_flatMap]
  constructor
  · rintro ⟨r, hr, hx⟩
    rw [List.mem_map] at hx
    obtain ⟨c, hc, rfl⟩ := hx
    exact ⟨(setsTo_mem k).1 hr, (setsTo_mem k).1 hc⟩
  · rintro ⟨h1, h2⟩
    exact ⟨x.1, (setsTo_mem k).2 h1, List.mem_map.2 ⟨x.2, (setsTo_mem k).2 h2, rfl⟩⟩
theorem partsTo_mem {n m : Nat} {x : Nat × Nat} : ∀ j, x ∈ partsTo n m j ↔ 1 ≤ popcS x.1 ∧ popcS x.1 ≤ j ∧ popcS x.1 = popcS x.2 ∧ x.1 < 2 ^ n ∧ x.2 < 2 ^ m
  | 0 => by
    show x ∈ [] ↔ _
    simp only [List.not_mem_nil, false_iff]
    omega
  | j + 1 => by
    show x ∈ partsTo n m j ++ partsK (j + 1) n m ↔ _
    rw [List.mem_append, partsTo_mem j, partsK_mem]
    omega
theorem popcP_fin : ∀ n : Fin 7, ∀ s : Fin 64, s.val < 2 ^ n.val → popcS s.val ≤ n.val := by decide +kernel
theorem popcP_pos_fin : ∀ s : Fin 64, s.val ≠ 0 → 1 ≤ popcS s.val := by decide +kernel
theorem popcP_le {n s : Nat} (h6 : n ≤ 6) (h : s < 2 ^ n) : popcS s ≤ n := by
  have p1 : 2 ^ n ≤ 2 ^ 6 := Nat.pow_le_pow_right (by omega) h6
  exact popcP_fin ⟨n, by omega⟩ ⟨s, by omega⟩ h
theorem popcP_pos {n s : Nat} (h6 : n ≤ 6) (h : s < 2 ^ n) (h0 : s ≠ 0) : 1 ≤ popcS s := by
  have p1 : 2 ^ n ≤ 2 ^ 6 := Nat.pow_le_pow_right (by omega) h6
  exact popcP_pos_fin ⟨s, by omega⟩ h0
theorem popcP_zero : popcS 0 = 0 := by decide
theorem partsA_mem {n m : Nat} (hn : n ≤ 6) (hm : m ≤ 6) {x : Nat × Nat} : x ∈ partsA n m ↔ x.1 ≠ 0 ∧ popcS x.1 = popcS x.2 ∧ x.1 < 2 ^ n ∧ x.2 < 2 ^ m := by
  unfold partsA
  rw [partsTo_mem]
  constructor
  · rintro ⟨h1, _, h2, h3, h4⟩
    exact ⟨fun e => by rw [e, popcP_zero] at h1; omega, h2, h3, h4⟩
  · rintro ⟨h1, h2, h3, h4⟩
    have := popcP_pos hn h3 h1
    have := popcP_le hn h3
    have := popcP_le hm h4
    exact ⟨by omega, by omega, h2, h3, h4⟩
def leastB (l : List (List Int)) (q : Int) (ps : List (Nat × Nat)) : Bool := ps.all fun x => decide (q ≤ mnP l x)
theorem leastB_snoc (l : List (List Int)) (q : Int) (ps : List (Nat × Nat)) (x : Nat × Nat) : leastB l q (ps ++ [x]) = (leastB l q ps && decide (q ≤ mnP l x)) := by
  unfold leastB; rw [List.all_append]; simp
theorem leastB_iff {l : List (List Int)} {q : Int} {ps : List (Nat × Nat)} : leastB l q ps = true ↔ ∀ x ∈ ps, q ≤ mnP l x := by
  unfold leastB; rw [List.all_eq_true]; simp
theorem leastB_no {l : List (List Int)} {q : Int} {ps : List (Nat × Nat)} {x : Nat × Nat} (hx : x ∈ ps) (h : mnP l x < q) : leastB l q ps = false := by
  cases e : leastB l q ps with
  | false => rfl
  | true => have := leastB_iff.1 e x hx; omega
def runS (f k : Nat) : Nat := (2 ^ k - 1) * 2 ^ f
theorem runS_fin : ∀ k f : Fin 7, k.val + f.val ≤ 6 → popcS (runS f.val k.val) = k.val ∧ runS f.val k.val < 2 ^ (k.val + f.val) ∧ (k.val ≠ 0 → runS f.val k.val ≠ 0) := by decide +kernel
def firstRow (m i : Nat) : List (Nat × Nat) := (List.range m).map fun k => (runS (i + 1 - (min i k + 1)) (min i k + 1), runS (k + 1 - (min i k + 1)) (min i k + 1))
def partsF (n m : Nat) : List (Nat × Nat) := (List.range n).flatMap (firstRow m)
theorem partsF_mem {n m : Nat} {x : Nat × Nat} : x ∈ partsF n m ↔ ∃ i k, i < n ∧ k < m ∧ x = (runS (i + 1 - (min i k + 1)) (min i k + 1), runS (k + 1 - (min i k + 1)) (min i k + 1)) := by
  unfold partsF firstRow
  rw [List.mem_flatMap]
  constructor
  · rintro ⟨i, hi, hx⟩
    rw [List.mem_map] at hx
    obtain ⟨k, hk, rfl⟩ := hx
    exact ⟨i, k, List.mem_range.1 hi, List.mem_range.1 hk, rfl⟩
  · rintro ⟨i, k, hi, hk, rfl⟩
    exact ⟨i, List.mem_range.2 hi, List.mem_map.2 ⟨k, List.mem_range.2 hk, rfl⟩⟩
theorem first_part {n m i k : Nat} (hn : n ≤ 6) (hm : m ≤ 6) (hi : i < n) (hk : k < m) : popcS (runS (i + 1 - (min i k + 1)) (min i k + 1)) = min i k + 1 ∧ popcS (runS (k + 1 - (min i k + 1)) (min i k + 1)) = min i k + 1 ∧ runS (i + 1 - (min i k + 1)) (min i k + 1) < 2 ^ n ∧ runS (k + 1 - (min i k + 1)) (min i k + 1) < 2 ^ m ∧ runS (i + 1 - (min i k + 1)) (min i k + 1) ≠ 0 := by
  have h1 := runS_fin ⟨min i k + 1, by omega⟩ ⟨i + 1 - (min i k + 1), by omega⟩ (by simp only; omega)
  have h2 := runS_fin ⟨min i k + 1, by omega⟩ ⟨k + 1 - (min i k + 1), by omega⟩ (by simp only; omega)
  simp only at h1 h2
  have e1 : min i k + 1 + (i + 1 - (min i k + 1)) = i + 1 := by omega
  have e2 : min i k + 1 + (k + 1 - (min i k + 1)) = k + 1 := by omega
  rw [e1] at h1
  rw [e2] at h2
  have p1 : 2 ^ (i + 1) ≤ 2 ^ n := Nat.pow_le_pow_right (by omega) (by omega)
  have p2 : 2 ^ (k + 1) ≤ 2 ^ m := Nat.pow_le_pow_right (by omega) (by omega)
  exact ⟨h1.1, h2.1, by omega, by omega, h1.2.2 (by omega)⟩
theorem partsF_ok {n m : Nat} (hn : n ≤ 6) (hm : m ≤ 6) {x : Nat × Nat} (hx : x ∈ partsF n m) : popcS x.1 = popcS x.2 ∧ x.1 < 2 ^ n ∧ x.2 < 2 ^ m ∧ x.1 ≠ 0 := by
  obtain ⟨i, k, hi, hk, rfl⟩ := partsF_mem.1 hx
  obtain ⟨h1, h2, h3, h4, h5⟩ := first_part hn hm hi hk
  exact ⟨h1.trans h2.symm, h3, h4, h5⟩
theorem partsF_len (n m : Nat) : (partsF n m).length = n * m := by
  unfold partsF firstRow
  rw [List.length_flatMap]
  simp only [List.length_map, List.length_range]
  induction n with
  | zero => simp
  | succ n ih => rw [List.range_succ, List.map_append, List.sum_append, ih, Nat.succ_mul]; simp
theorem prow_len (k m r : Nat) : (prow k m r).length ≤ 2 ^ m := by unfold prow; rw [List.length_map]; exact setsTo_len k _

end Go.Proofs.Ytlgjplhffpmfpaa
end

section
namespace Go.Proofs.Ytlgjplhffpmfpaa
open Go.RowKit Go.Deep

end Go.Proofs.Ytlgjplhffpmfpaa
end

section
namespace Go.Proofs.Ytlgjplhffpmfpaa
open Go.RowKit Go.Deep

theorem runS_wrap : ∀ k f : Fin 7, k.val + f.val ≤ 6 → wrap64 (wrap64 (wrap64 (2 ^ k.val) - 1) * 2 ^ f.val) = ((runS f.val k.val : Nat) : Int) := by decide +kernel
theorem run_any (f k : Nat) (h : k + f ≤ 6) (w : World) : Calls Try.prog 33 #[.int .i64 f, .int .i64 k] w fun e w' => e = .returned (.int .i64 (runS f k : Nat)) ∧ w = w' := by
  go_enter Try.func33, Try.ntmps33
  go_wp2
  go_ret
  have e := runS_wrap ⟨k, by omega⟩ ⟨f, by omega⟩ (by simp only; omega)
  simp only at e
  exact ⟨by rw [← e]; rfl, rfl⟩

def fpart (i k : Nat) : Nat × Nat := (runS (i + 1 - (min i k + 1)) (min i k + 1), runS (k + 1 - (min i k + 1)) (min i k + 1))

set_option maxRecDepth 100000 in
set_option maxHeartbeats 4000000 in
theorem specPosFirst_any (a : Option Addr) (cap n : Nat) (l : List (List Int)) (w : World) (hn : l.length = n) (hsz : szL l ≤ 1048576) (hm : MatR w a l) :
    Calls Try.prog 9 #[.slice a n cap] w fun e w' => e = .returned (.bool (tabIn l && leastB l 1 (partsF n (l.getD 0 []).length))) ∧ w.Since w.heap.size w' := by
  have E := Lib.hid (specTableIn_any a cap n l w hn hsz hm)
  cases hTb : tabIn l with
  | false =>
    rw [hTb] at E
    clear hTb hsz hm hn
    go_enter Try.func9, Try.ntmps9
    go_wp2_with fail
    refine (E.out).mono ?_
    rintro e w1 ⟨rfl, hd⟩
    have HS := Lib.hid (hd.since w.heap.size)
    clear hd
    go_wp2
    go_ret
    exact ⟨rfl, HS.out⟩
  | true =>
    rw [hTb] at E
    have hT := tabIn_of hTb
    obtain ⟨m, hmm⟩ : ∃ m, (l.getD 0 []).length = m := ⟨_, rfl⟩
    rw [hmm]
    have h6 := hT.2.1
    have h1 := hT.1
    have hw := hT.width
    rw [hn] at h6 h1
    rw [hmm] at hw
    have hsq : ∀ s c, s < 2 ^ n → c < 2 ^ m → popcS s = popcS c → SqD (popcS s) (partL l s c) := fun s c hs hc h => part_sq hT (by rw [hn]; exact hs) (by rw [hmm]; exact hc) h
    have p1 : 2 ^ n ≤ 2 ^ 6 := Nat.pow_le_pow_right (by omega) h6
    have p2 : 2 ^ m ≤ 2 ^ 6 := Nat.pow_le_pow_right (by omega) hw.2
    have HPART := Lib.hid (fun (s c : Nat) (hs : s ≤ 63) (hc : c ≤ 63) (W : World) (h : w.Since w.heap.size W) => l1Part_any a cap n s c l W hn hT hs hc (hm.since h))
    have HSQ := Lib.hid hsq
    obtain ⟨b, o, A, C, rfl, hc⟩ := hm (by omega)
    have c0 := (hc 0 (by omega)).1
    rw [Nat.add_zero, hmm] at c0
    have C0 := Lib.hid c0
    have HALL := Lib.hid (show (∀ i k, i < n → k < m → 1 ≤ mnP l (fpart i k)) → leastB l 1 (partsF n m) = true from fun h => leastB_iff.2 fun x hx => by
      obtain ⟨i, k, hi, hk, rfl⟩ := partsF_mem.1 hx
      exact h i k hi hk)
    have HNO := Lib.hid (show ∀ i k, i < n → k < m → mnP l (fpart i k) < 1 → leastB l 1 (partsF n m) = false from fun i k hi hk h => leastB_no (partsF_mem.2 ⟨i, k, hi, hk, rfl⟩) h)
    have hn1 : 0 < n := by omega
    clear hn hT hTb hmm hm hsq hc c0 hsz
    go_enter Try.func9, Try.ntmps9
    go_wp2_with fail
    refine (E.out).mono ?_
    rintro e w1 ⟨rfl, hd⟩
    have HS := Lib.hid (hd.since w.heap.size)
    clear hd
    go_wp2
    go_loopg [3, 4, 5] n (fun g iv _ _ wr => ∃ i : Nat, i ≤ n ∧ g = n - i ∧ iv = .int .i64 i ∧ (∀ i' k, i' < i → k < m → 1 ≤ mnP l (fpart i' k)) ∧ w.Since w.heap.size wr)
    case atStart => exact ⟨0, Nat.zero_le _, rfl, rfl, fun i' k h => by omega, HS.out⟩
    case round =>
      obtain ⟨i, hi, rfl, rfl, hlo, hS⟩ := hrel
      by_cases hlt : i < n
      · have HLO := Lib.hid hlo
        clear hlo
        go_wp2
        go_loopg [4, 5] m (fun g kv _ wi => ∃ k : Nat, k ≤ m ∧ g = m - k ∧ kv = .int .i64 k ∧ (∀ k', k' < k → 1 ≤ mnP l (fpart i k')) ∧ w.Since w.heap.size wi)
        case atStart => exact ⟨0, Nat.zero_le _, rfl, rfl, fun k' h => by omega, hS⟩
        case round =>
          obtain ⟨k, hk, rfl, rfl, hki, hI⟩ := hrel
          have hcc := (hI.cell (a := ⟨b, o, none⟩) (World.block_lt_of_cell? _ _ C0.out)).trans C0.out
          clear hS
          by_cases hlc : k < m
          · have hI2 := Lib.hid hI
            have HKI := Lib.hid hki
            clear hki
            obtain ⟨e, he⟩ : ∃ e, min i k + 1 = e := ⟨_, rfl⟩
            obtain ⟨f1, f2, f3, f4, f5⟩ := first_part h6 hw.2 hlt hlc
            have hfp : fpart i k = (runS (i + 1 - e) e, runS (k + 1 - e) e) := by unfold fpart; rw [he]
            rw [he] at f1 f2 f3 f4 f5
            have R1 := fun (W : World) => run_any (i + 1 - e) e (by omega) W
            have R2 := fun (W : World) => run_any (k + 1 - e) e (by omega) W
            have HNOI := Lib.hid (HNO.out i k hlt hlc)
            have HNEXT := Lib.hid (show 1 ≤ mnP l (fpart i k) → ∀ k', k' < k + 1 → 1 ≤ mnP l (fpart i k') from fun h k' hk' => by
              by_cases e : k' < k
              · exact HKI.out k' e
              · have e2 : k' = k := by omega
                rw [e2]; exact h)
            rw [hfp] at HNOI HNEXT
            have ei : ((i + 1 - e : Nat) : Int) = (i : Int) + 1 - (e : Int) := by omega
            have ek : ((k + 1 - e : Nat) : Int) = (k : Int) + 1 - (e : Int) := by omega
            rw [ei] at R1
            rw [ek] at R2
            obtain ⟨s, hs⟩ : ∃ s, runS (i + 1 - e) e = s := ⟨_, rfl⟩
            obtain ⟨c, hc⟩ : ∃ s, runS (k + 1 - e) e = s := ⟨_, rfl⟩
            simp only [hs] at R1 f1 f3 f5 HNOI HNEXT
            simp only [hc] at R2 f2 f4 HNOI HNEXT
            have hpe : popcS s = popcS c := f1.trans f2.symm
            have hsq := HSQ.out s c f3 f4 hpe
            have EP := fun (W : World) (h : w.Since w.heap.size W) => HPART.out s c (by omega) (by omega) W h
            have EV := fun (a3 : Option Addr) (k3 : Nat) (W : World) (h : MatR W a3 (partL l s c)) => l2Value_sq a3 k3 (popcS s) (partL l s c) hsq W h
            simp only [ordF_all _ (popcS_le s)] at EV
            have hv0 : mnP l (s, c) = dt (popcS s) (at2 (partL l s c)) := rfl
            simp only [← hv0] at EV
            rw [f1] at hsq
            obtain ⟨L, hL⟩ : ∃ L, partL l s c = L := ⟨_, rfl⟩
            rw [hL] at hsq
            simp only [hL, hsq.1] at EP EV
            obtain ⟨v, hv⟩ : ∃ v, mnP l (s, c) = v := ⟨_, rfl⟩
            simp only [hv, f1] at EV
            rw [hv] at HNOI HNEXT
            replace EP := Lib.hid EP
            replace EV := Lib.hid EV
            replace R1 := Lib.hid R1
            replace R2 := Lib.hid R2
            clear hI hpe hsq hL hv hv0 hfp f1 f2 f3 f4 f5 hs hc ei ek
            by_cases hik : k < i
            · have hwe : IntKind.i64.wrap ((k : Int) + 1) = (e : Int) := by rw [IntWalk.i64_in _ ⟨by omega, by omega⟩]; omega
              rw [show (k : Int) + 1 - (e : Int) = 0 by omega] at R2
              by_cases hvq : v ≤ 0
              · have hvb : decide (v ≤ 0) = true := by simpa using hvq
                go_wp2_with fail
                refine (R1.out wr).mono ?_
                rintro e w2 ⟨rfl, rfl⟩
                go_wp2_with fail
                refine (R2.out wr).mono ?_
                rintro e w2 ⟨rfl, rfl⟩
                go_wp2_with fail
                refine (EP.out wr hI2.out).mono ?_
                rintro e w3 ⟨a3, k3, rfl, hs3, hi3⟩
                have HS3 := Lib.hid (hI2.out.trans (since_mono hs3 hI2.out.size))
                go_wp2_with fail
                refine (EV.out a3 k3 w3 hi3.matR).mono ?_
                rintro e w4 ⟨rfl, hd4⟩
                have HS4 := Lib.hid (HS3.out.trans (since_mono (hd4.since w3.heap.size) HS3.out.size))
                clear hs3 hi3 hd4
                go_wp2
                go_ret
                exact ⟨by rw [HNOI.out (by omega)]; rfl, HS4.out⟩
              · have hvb : decide (v ≤ 0) = false := by simpa using hvq
                go_wp2_with fail
                refine (R1.out wr).mono ?_
                rintro e w2 ⟨rfl, rfl⟩
                go_wp2_with fail
                refine (R2.out wr).mono ?_
                rintro e w2 ⟨rfl, rfl⟩
                go_wp2_with fail
                refine (EP.out wr hI2.out).mono ?_
                rintro e w3 ⟨a3, k3, rfl, hs3, hi3⟩
                have HS3 := Lib.hid (hI2.out.trans (since_mono hs3 hI2.out.size))
                go_wp2_with fail
                refine (EV.out a3 k3 w3 hi3.matR).mono ?_
                rintro e w4 ⟨rfl, hd4⟩
                have HS4 := Lib.hid (HS3.out.trans (since_mono (hd4.since w3.heap.size) HS3.out.size))
                clear hs3 hi3 hd4
                go_wp2
                go_roundg (m - (k + 1))
                case measure => omega
                case rel => exact ⟨k + 1, by omega, rfl, by go_num, HNEXT.out (by omega), HS4.out⟩
            · have hwe : IntKind.i64.wrap ((i : Int) + 1) = (e : Int) := by rw [IntWalk.i64_in _ ⟨by omega, by omega⟩]; omega
              rw [show (i : Int) + 1 - (e : Int) = 0 by omega] at R1
              by_cases hvq : v ≤ 0
              · have hvb : decide (v ≤ 0) = true := by simpa using hvq
                go_wp2_with fail
                refine (R1.out wr).mono ?_
                rintro e w2 ⟨rfl, rfl⟩
                go_wp2_with fail
                refine (R2.out wr).mono ?_
                rintro e w2 ⟨rfl, rfl⟩
                go_wp2_with fail
                refine (EP.out wr hI2.out).mono ?_
                rintro e w3 ⟨a3, k3, rfl, hs3, hi3⟩
                have HS3 := Lib.hid (hI2.out.trans (since_mono hs3 hI2.out.size))
                go_wp2_with fail
                refine (EV.out a3 k3 w3 hi3.matR).mono ?_
                rintro e w4 ⟨rfl, hd4⟩
                have HS4 := Lib.hid (HS3.out.trans (since_mono (hd4.since w3.heap.size) HS3.out.size))
                clear hs3 hi3 hd4
                go_wp2
                go_ret
                exact ⟨by rw [HNOI.out (by omega)]; rfl, HS4.out⟩
              · have hvb : decide (v ≤ 0) = false := by simpa using hvq
                go_wp2_with fail
                refine (R1.out wr).mono ?_
                rintro e w2 ⟨rfl, rfl⟩
                go_wp2_with fail
                refine (R2.out wr).mono ?_
                rintro e w2 ⟨rfl, rfl⟩
                go_wp2_with fail
                refine (EP.out wr hI2.out).mono ?_
                rintro e w3 ⟨a3, k3, rfl, hs3, hi3⟩
                have HS3 := Lib.hid (hI2.out.trans (since_mono hs3 hI2.out.size))
                go_wp2_with fail
                refine (EV.out a3 k3 w3 hi3.matR).mono ?_
                rintro e w4 ⟨rfl, hd4⟩
                have HS4 := Lib.hid (HS3.out.trans (since_mono (hd4.since w3.heap.size) HS3.out.size))
                clear hs3 hi3 hd4
                go_wp2
                go_roundg (m - (k + 1))
                case measure => omega
                case rel => exact ⟨k + 1, by omega, rfl, by go_num, HNEXT.out (by omega), HS4.out⟩
          · obtain rfl : k = m := by omega
            have HNX := Lib.hid (show ∀ i' k', i' < i + 1 → k' < k → 1 ≤ mnP l (fpart i' k') from fun i' k' h1 h2 => by
              by_cases e : i' < i
              · exact HLO.out i' k' e h2
              · have e2 : i' = i := by omega
                rw [e2]; exact hki k' h2)
            have hI2 := Lib.hid hI
            clear hI hki
            go_wp2
            go_roundg (n - (i + 1))
            case measure => omega
            case rel => exact ⟨i + 1, by omega, rfl, by go_num, HNX.out, hI2.out⟩
      · obtain rfl : i = n := by omega
        have HY := Lib.hid (HALL.out fun i' k h1 h2 => hlo i' k h1 h2)
        have HSS := Lib.hid hS
        clear hlo hS
        go_wp2
        go_ret
        exact ⟨by rw [HY.out]; rfl, HSS.out⟩

end Go.Proofs.Ytlgjplhffpmfpaa
end

section
namespace Go.Proofs.Ytlgjplhffpmfpaa
open Go.RowKit Go.Deep Go.Shelf

def Kp2 (Bn Bk : Nat) (X Y : World) : Prop := Y.cell? ⟨Bn, 0, none⟩ = X.cell? ⟨Bn, 0, none⟩ ∧ Y.cell? ⟨Bk, 0, none⟩ = X.cell? ⟨Bk, 0, none⟩
theorem Kp2.refl (Bn Bk : Nat) (X : World) : Kp2 Bn Bk X X := ⟨rfl, rfl⟩
theorem Kp2.trans {Bn Bk : Nat} {A B C : World} (h : Kp2 Bn Bk A B) (k : Kp2 Bn Bk B C) : Kp2 Bn Bk A C := ⟨k.1.trans h.1, k.2.trans h.2⟩
theorem cell_grown_ne {X Y : World} {row : Option Nat} (h : X.grownBy Y row) {b : Nat} (hb : b < X.heap.size) (hne : row ≠ some b) : Y.cell? ⟨b, 0, none⟩ = X.cell? ⟨b, 0, none⟩ := by
  have e : Y.heap[b]? = X.heap[b]? := h.block b hb (fun e => hne e.symm)
  simp only [World.cell?, e]
theorem Kp2.grown {Bn Bk : Nat} {X Y : World} {row : Option Nat} (h : X.grownBy Y row) (h1 : Bn < X.heap.size) (h2 : Bk < X.heap.size) (h3 : row ≠ some Bn) (h4 : row ≠ some Bk) : Kp2 Bn Bk X Y := ⟨cell_grown_ne h h1 h3, cell_grown_ne h h2 h4⟩
theorem kp2_b {Bn Bk : Nat} {w : World} (h1 : Bn < w.heap.size) (h2 : Bk < w.heap.size) (W : World) (l : Nat) (o o' : Obj) (hl : w.heap.size ≤ l) (h : W.heap[l]? = some o) (_ : o.isCells = false) (_ : o.isWalk = false) : Kp2 Bn Bk W (W.putObj l o') := by
  have := (Array.getElem?_eq_some_iff.1 h).1
  exact Kp2.grown (grownBy_putObj' W l o') (by omega) (by omega) (fun e => by cases e; omega) (fun e => by cases e; omega)

set_option maxHeartbeats 1000000 in
theorem sets_in (n : Nat) (N k : Int) (w : World) :
    CallsIn Fence.wide n Try.prog 94 #[.int .i64 N, .int .i64 k] w fun e w' => e = .returned (.func (.func 100) #[] #[.pointer (some ⟨w.heap.size, 0, none⟩), .pointer (some ⟨w.heap.size + 1, 0, none⟩)]) ∧ w' = (w.alloc (.cells #[.int .i64 N] 3)).alloc (.cells #[.int .i64 k] 3) := by
  refine callsIn_of_wp Try.func94 rfl trivial ?_ rfl
  simp only [Try.ntmps94, List.size_toArray, List.length_cons, List.length_nil, Nat.reduceAdd, Nat.reduceSub, Array.replicate_succ, Array.replicate_zero, List.push_toArray, List.append_toArray, List.nil_append, List.cons_append]
  gi_wp2
  go_ret
  exact ⟨rfl, rfl⟩

abbrev SetK (k M : Nat) := { x : Nat // x < M ∧ popcS x = k }
theorem sets_stops (n : Nat) (hn : 2 ≤ n) (Bn Bk N k M : Nat) (hN : N ≤ 6) (hM : 2 ^ N = M) (w : World) (h1 : Bn < w.heap.size) (h2 : Bk < w.heap.size)
    (hBn : w.cell? ⟨Bn, 0, none⟩ = some (.int .i64 N)) (hBk : w.cell? ⟨Bk, 0, none⟩ = some (.int .i64 k)) :
    SeqStopsK Fence.wide n Try.prog 100 #[.pointer (some ⟨Bn, 0, none⟩), .pointer (some ⟨Bk, 0, none⟩)] (fun x : SetK k M => #[Value.int .i64 (x.1 : Int)]) (Kp2 Bn Bk) (fun ys => ys.map (·.1) = setsTo k M) (fun _ => True) M w := fun l J Jx W hW hJ _ hY h0 => by
  refine CallsIn.mono (sets1_in n hn l Bn Bk N k M hN hM (Kp2 Bn Bk) (fun _ _ h => h) (fun pre W => ∃ ys : List (SetK k M), ys.map (·.1) = pre ∧ J ys W) (fun _ W => ∃ ys, Jx ys W) (fun s V hV => ?_) (fun pre x V hV hp hx hk => ?_) W
    ((hW.cell (p := ⟨Bn, 0, none⟩) h1).trans hBn) ((hW.cell (p := ⟨Bk, 0, none⟩) h2).trans hBk) ⟨[], rfl, h0⟩) ?_
  · obtain ⟨ys, e, hj⟩ := hV
    exact ⟨ys, e, hJ ys V V.drew none hj ⟨rfl, rfl, rfl, Nat.le_refl _, fun _ _ _ => rfl⟩ (fun r e => by cases e)⟩
  · obtain ⟨ys, e, hj⟩ := hV
    have hl : ys.length < M := by
      have := congrArg List.length e
      rw [List.length_map, hp] at this
      have := setsTo_len k x
      omega
    obtain ⟨fn, tmps, assign, body, hy, hR⟩ := hY ys ⟨x, hx, hk⟩ V hj hl
    refine ⟨fn, tmps, assign, body, hy, hR.mono ?_⟩
    rintro e W' (⟨r1, r2, r3⟩ | ⟨r1, r2⟩)
    · exact .inl ⟨r1, ⟨ys ++ [⟨x, hx, hk⟩], by rw [List.map_append, ‹ys.map _ = pre›]; rfl, r2⟩, r3⟩
    · exact .inr ⟨r1, _, r2⟩
  · rintro e W' ⟨r1, (⟨zs, rfl, ys, e2, hj⟩ | ⟨pre, _, ys, hj⟩)⟩
    · exact ⟨r1, .inl ⟨ys, e2, hj⟩⟩
    · exact ⟨r1, .inr ⟨ys, trivial, hj⟩⟩

end Go.Proofs.Ytlgjplhffpmfpaa
end

section
namespace Go.Proofs.Ytlgjplhffpmfpaa
open Go.RowKit Go.Deep Go.Shelf

theorem sets_seqE (n : Nat) (hn : 2 ≤ n) (Bn Bk N k M : Nat) (hN : N ≤ 6) (hM : 2 ^ N = M) (w : World) (h1 : Bn < w.heap.size) (h2 : Bk < w.heap.size)
    (hBn : w.cell? ⟨Bn, 0, none⟩ = some (.int .i64 N)) (hBk : w.cell? ⟨Bk, 0, none⟩ = some (.int .i64 k)) :
    SeqE Fence.wide n Try.prog 100 #[.pointer (some ⟨Bn, 0, none⟩), .pointer (some ⟨Bk, 0, none⟩)] (fun x : Nat => #[Value.int .i64 (x : Int)]) (fun x _ => x < M ∧ popcS x = k) (fun q => q = Bn ∨ q = Bk) (fun ys => ys = setsTo k M) (fun _ => True) M w := by
  intro l J Jx own W hW hown hJ hJx hY hj
  refine CallsIn.mono (sets1_in n hn l Bn Bk N k M hN hM (Kp2 Bn Bk) (fun _ _ h => h)
    (fun pre W => J pre W ∧ W.cell? ⟨Bn, 0, none⟩ = some (.int .i64 N) ∧ W.cell? ⟨Bk, 0, none⟩ = some (.int .i64 k)) (fun pre W => Jx pre W) (fun s V hV => ?_) (fun pre x V hV hp hx hk => ?_) W
    ((hW.cell (p := ⟨Bn, 0, none⟩) h1).trans hBn) ((hW.cell (p := ⟨Bk, 0, none⟩) h2).trans hBk) ⟨hj, (hW.cell (p := ⟨Bn, 0, none⟩) h1).trans hBn, (hW.cell (p := ⟨Bk, 0, none⟩) h2).trans hBk⟩) ?_
  · exact ⟨hJ s V V.drew none hV.1 ⟨rfl, rfl, rfl, Nat.le_refl _, fun _ _ _ => rfl⟩ (fun r e => by cases e), hV.2.1, hV.2.2⟩
  · have hl : pre.length < M := by
      rw [hp]
      have := setsTo_len k x
      omega
    obtain ⟨hjv, c1, c2⟩ := hV
    obtain ⟨fn, tmps, assign, body, hy, hR⟩ := hY pre x V hjv ⟨hx, hk⟩ hl
    refine ⟨fn, tmps, assign, body, hy, hR.mono ?_⟩
    rintro e W' (⟨r1, r2, r3⟩ | ⟨r1, r2, _⟩)
    · have d1 := r3.cell (a := ⟨Bn, 0, none⟩) (fun h => (hown _ h).2 (.inl rfl)) c1
      have d2 := r3.cell (a := ⟨Bk, 0, none⟩) (fun h => (hown _ h).2 (.inr rfl)) c2
      exact .inl ⟨r1, ⟨r2, d1, d2⟩, d1.trans c1.symm, d2.trans c2.symm⟩
    · exact .inr ⟨r1, r2⟩
  · rintro e W' ⟨r1, (⟨zs, rfl, hj2⟩ | ⟨pre, _, hj2⟩)⟩
    · exact ⟨r1, .inl ⟨_, rfl, hj2.1⟩⟩
    · exact ⟨r1, .inr ⟨_, trivial, hj2⟩⟩

end Go.Proofs.Ytlgjplhffpmfpaa
end

section
namespace Go.Proofs.Ytlgjplhffpmfpaa
open Go.RowKit Go.Deep Go.Shelf
attribute [local go_sem] Oper.semAt_some

def OldT (n₀ : Nat) (w0 W : World) : Prop := ∀ k, k < n₀ → W.heap[k]? = w0.heap[k]?
theorem OldT.cell {n₀ : Nat} {w0 W : World} (h : OldT n₀ w0 W) {a : Addr} (ha : a.block < n₀) : W.cell? a = w0.cell? a := World.cell?_of_block (h _ ha)
theorem OldT.grown {n₀ : Nat} {w0 X Y : World} {row : Option Nat} (h : OldT n₀ w0 X) (hz : n₀ ≤ X.heap.size) (hg : X.grownBy Y row) (hr : ∀ r, row = some r → n₀ ≤ r) : OldT n₀ w0 Y :=
  fun k hk => (hg.block k (by omega) (fun e => by have := hr k e.symm; omega)).trans (h k hk)
theorem OldT.keeps {n₀ : Nat} {w0 X Y : World} {own : Nat → Prop} (h : OldT n₀ w0 X) (hz : n₀ ≤ X.heap.size) (hk : Keeps own X Y) (ho : ∀ k, own k → n₀ ≤ k) : OldT n₀ w0 Y := fun k hlt => by
  have hx : k < X.heap.size := by omega
  have e := hk.same k X.heap[k] (fun o => by have := ho k o; omega) (Array.getElem?_eq_getElem hx)
  rw [e, ← h k hlt]
  exact (Array.getElem?_eq_getElem hx).symm
theorem MatR.oldT {w0 W : World} {a : Option Addr} {l : List (List Int)} (h : MatR w0 a l) (ho : OldT w0.heap.size w0 W) : MatR W a l := by
  intro h0
  obtain ⟨b, o, A, C, e, hc⟩ := h h0
  refine ⟨b, o, A, C, e, fun r hr => ?_⟩
  obtain ⟨c1, c2⟩ := hc r hr
  refine ⟨(ho.cell (World.block_lt_of_cell? _ _ c1)).trans c1, fun hp => ?_⟩
  obtain ⟨b', o', e', c3⟩ := c2 hp
  exact ⟨b', o', e', fun i hi => (ho.cell (World.block_lt_of_cell? _ _ (c3 i hi))).trans (c3 i hi)⟩
theorem Keeps.fromB {own : Nat → Prop} {A X Y : World} {row : Option Nat} (h : Keeps own A X) (hg : X.grownBy Y row) (hr : ∀ r, row = some r → A.heap.size ≤ r) : Keeps own A Y :=
  ⟨Nat.le_trans h.size hg.size, fun k o hk ho => (hg.block k (Array.getElem?_eq_some_iff.1 (h.same k o hk ho)).1 (fun e => by have := hr k e.symm; have := (Array.getElem?_eq_some_iff.1 ho).1; omega)).trans (h.same k o hk ho)⟩
theorem boxed_put {W : World} {B l : Nat} {t : TypeId} {v : Value} {o o' : Obj} (h : Boxed W B t v) (hl : W.heap[l]? = some o) (ho : o.isCells = false) : Boxed (W.putObj l o') B t v :=
  h.kept (grownBy_putObj' W l o') (fun e => by
    have e' : B = l := by injection e
    subst e'
    have h' : W.heap[B]? = _ := h
    rw [h'] at hl
    cases hl
    cases ho)

structure KB (n₀ : Nat) (w0 : World) (Bt Bk By lp : Nat) (a : Option Addr) (n cap : Nat) (k : Nat) (X : World) : Prop where
  bt : X.cell? ⟨Bt, 0, none⟩ = some (.slice a n cap)
  bk : X.cell? ⟨Bk, 0, none⟩ = some (.int .i64 (k : Int))
  yb : X.cell? ⟨By, 0, none⟩ = some (.func (.yield lp) #[] #[])
  old : OldT n₀ w0 X
theorem cell_own {X Y : World} {row : Option Nat} {b B : Nat} {v : Value} (h : X.cell? ⟨b, 0, none⟩ = some v) (hb : b < B) (hg : X.grownBy Y row) (hr : ∀ r, row = some r → B ≤ r) : Y.cell? ⟨b, 0, none⟩ = some v :=
  (World.cell?_of_block (a := ⟨b, 0, none⟩) (hg.block b (World.block_lt_of_cell? _ _ h) (fun e => by have := hr b e.symm; omega))).trans h
theorem KB.grown {n₀ : Nat} {w0 : World} {Bt Bk By lp : Nat} {a : Option Addr} {n cap k : Nat} {X Y : World} {row : Option Nat} {B : Nat} (h : KB n₀ w0 Bt Bk By lp a n cap k X) (hz : n₀ ≤ X.heap.size) (h1 : n₀ ≤ B ∧ Bt < B ∧ Bk < B ∧ By < B) (hg : X.grownBy Y row) (hr : ∀ r, row = some r → B ≤ r) : KB n₀ w0 Bt Bk By lp a n cap k Y :=
  ⟨cell_own h.bt h1.2.1 hg hr, cell_own h.bk h1.2.2.1 hg hr, cell_own h.yb h1.2.2.2 hg hr, h.old.grown hz hg (fun r e => by have := hr r e; omega)⟩
theorem KB.keeps {n₀ : Nat} {w0 : World} {Bt Bk By lp : Nat} {a : Option Addr} {n cap k : Nat} {X Y : World} {own : Nat → Prop} (h : KB n₀ w0 Bt Bk By lp a n cap k X) (hz : n₀ ≤ X.heap.size) (hk : Keeps own X Y) (ho : ∀ q, own q → n₀ ≤ q ∧ q ≠ Bt ∧ q ≠ Bk ∧ q ≠ By) : KB n₀ w0 Bt Bk By lp a n cap k Y :=
  ⟨hk.cell (a := ⟨Bt, 0, none⟩) (fun e => (ho _ e).2.1 rfl) h.bt, hk.cell (a := ⟨Bk, 0, none⟩) (fun e => (ho _ e).2.2.1 rfl) h.bk, hk.cell (a := ⟨By, 0, none⟩) (fun e => (ho _ e).2.2.2 rfl) h.yb, h.old.keeps hz hk (fun q e => (ho q e).1)⟩

theorem grown_drewP {a b : World} {row : Option Nat} (h : a.grownBy b row) : a.grownBy b.drew row := ⟨h.os, h.tape, h.output, h.size, h.block⟩
def encP (x : Nat × Nat) : Array Value := #[.int .i64 (x.1 : Int), .int .i64 (x.2 : Int)]

theorem kthParts_in (f : Nat) (a : Option Addr) (n cap : Nat) (k : Int) (w : World) :
    CallsIn Fence.wide f Try.prog 86 #[.slice a n cap, .int .i64 k] w fun e w' => e = .returned (.func (.func 93) #[] #[.pointer (some ⟨w.heap.size, 0, none⟩), .pointer (some ⟨w.heap.size + 1, 0, none⟩)]) ∧ w' = (w.alloc (.cells #[.slice a n cap] 42)).alloc (.cells #[.int .i64 k] 3) := by
  refine callsIn_of_wp Try.func86 rfl trivial ?_ rfl
  simp only [Try.ntmps86, List.size_toArray, List.length_cons, List.length_nil, Nat.reduceAdd, Nat.reduceSub, Array.replicate_succ, Array.replicate_zero, List.push_toArray, List.append_toArray, List.nil_append, List.cons_append]
  gi_wp2
  go_ret
  exact ⟨rfl, by simp⟩

theorem flat_len (k m : Nat) (hm : m ≤ 6) : ∀ rs : List Nat, (rs.flatMap (prow k m)).length ≤ rs.length * 64
  | [] => by simp
  | r :: rs => by
    have h1 := flat_len k m hm rs
    have h2 := prow_len k m r
    have p : 2 ^ m ≤ 2 ^ 6 := Nat.pow_le_pow_right (by omega) hm
    rw [List.flatMap_cons, List.length_append, List.length_cons, Nat.succ_mul]
    omega
theorem flat_snoc (k m : Nat) (rs : List Nat) (r : Nat) : (rs ++ [r]).flatMap (prow k m) = rs.flatMap (prow k m) ++ prow k m r := by simp

set_option maxRecDepth 100000 in
set_option maxHeartbeats 2000000 in
theorem kth_seqE (f : Nat) (hf : 12 ≤ f) (Bt Bk n m cap k : Nat) (a : Option Addr) (l : List (List Int)) (w0 w : World) (hn : l.length = n) (hT : TabIn l) (hmm : (l.getD 0 []).length = m) (hm : MatR w0 a l) (hold : OldT w0.heap.size w0 w) (_hz0 : w0.heap.size ≤ w.heap.size) (hBt : w0.heap.size ≤ Bt) (hBk : w0.heap.size ≤ Bk) (ct : w.cell? ⟨Bt, 0, none⟩ = some (.slice a n cap)) (ck : w.cell? ⟨Bk, 0, none⟩ = some (.int .i64 (k : Int))) :
    SeqE Fence.wide f Try.prog 93 #[.pointer (some ⟨Bt, 0, none⟩), .pointer (some ⟨Bk, 0, none⟩)] encP (fun x _ => x ∈ partsK k n m) (fun q => q < w0.heap.size ∨ q = Bt ∨ q = Bk) (fun ys => ys = partsK k n m) (fun _ => True) 4096 w := by
  intro lp J Jx own W hW hown hJ hJx hY hj
  have h6 := hT.2.1
  have h1 := hT.1
  have hw := hT.width
  rw [hn] at h6 h1
  rw [hmm] at hw
  have lt := World.block_lt_of_cell? _ _ ct
  have lk := World.block_lt_of_cell? _ _ ck
  simp only at lt lk
  have c1 := (hW.cell (p := ⟨Bt, 0, none⟩) lt).trans ct
  have c2 := (hW.cell (p := ⟨Bk, 0, none⟩) lk).trans ck
  have hWz := hW.size
  have hOW : OldT w0.heap.size w0 W := fun q hq => (hW.block q (by omega)).trans (hold q hq)
  have hso : ∀ q, own q → w0.heap.size ≤ q ∧ q ≠ Bt ∧ q ≠ Bk ∧ q < W.heap.size := fun q hq => by
    obtain ⟨g1, g2⟩ := hown q hq
    exact ⟨by
      by_cases e : q < w0.heap.size
      · exact absurd (.inl e) g2
      · omega, fun e => g2 (.inr (.inl e)), fun e => g2 (.inr (.inr e)), g1⟩
  have EW := fun (V : World) (h : OldT w0.heap.size w0 V) => width_any a cap n l V hn (by omega) (by omega) (hm.oldT h)
  rw [hmm] at EW
  replace EW := Lib.hid EW
  have p6 : 2 ^ n ≤ 2 ^ 6 := Nat.pow_le_pow_right (by omega) h6
  have p6' : 2 ^ m ≤ 2 ^ 6 := Nat.pow_le_pow_right (by omega) hw.2
  clear hold ct ck hm hmm hT
  refine callsIn_of_wp_marks Try.func93 rfl trivial ?_ rfl
  simp only [Try.ntmps93, List.size_toArray, List.length_cons, List.length_nil, Nat.reduceAdd, Nat.reduceSub, Array.replicate_succ, Array.replicate_zero, List.push_toArray, List.append_toArray, List.nil_append, List.cons_append]
  have c1 : (W.alloc (.cells #[.func (.yield lp) #[] #[]] 89)).cell? ⟨Bt, 0, none⟩ = _ := cell_alloc_l _ c1
  have c2 : (W.alloc (.cells #[.func (.yield lp) #[] #[]] 89)).cell? ⟨Bk, 0, none⟩ = _ := cell_alloc_l _ c2
  have y0 : (W.alloc (.cells #[.func (.yield lp) #[] #[]] 89)).cell? ⟨W.heap.size, 0, none⟩ = _ := (cell_new_l W _ _).1
  gi_wp2_with (refine ⟨trivial, fun _ => by omega, ?_⟩; gi_at_call 94; refine (sets_in _ _ _ _).mono ?_; rintro e w' ⟨rfl, rfl⟩)
  have hbn := (cell_new_l (W.alloc (.cells #[.func (.yield lp) #[] #[]] 89)) (.int .i64 n) 3).1
  have c3 := cell_alloc_l (.cells #[.int .i64 (k : Int)] 3) (cell_alloc_l (.cells #[.int .i64 (n : Int)] 3) c1)
  have c4 := cell_alloc_l (.cells #[.int .i64 (k : Int)] 3) (cell_alloc_l (.cells #[.int .i64 (n : Int)] 3) c2)
  have y3 := cell_alloc_l (.cells #[.int .i64 (k : Int)] 3) (cell_alloc_l (.cells #[.int .i64 (n : Int)] 3) y0)
  have hbn := cell_alloc_l (.cells #[.int .i64 (k : Int)] 3) hbn
  have hbk := (cell_new_l ((W.alloc (.cells #[.func (.yield lp) #[] #[]] 89)).alloc (.cells #[.int .i64 (n : Int)] 3)) (.int .i64 (k : Int)) 3).1
  have hg2 := ((World.grownBy_alloc W (.cells #[.func (.yield lp) #[] #[]] 89) none).trans (World.grownBy_alloc _ (.cells #[.int .i64 (n : Int)] 3) none)).trans (World.grownBy_alloc _ (.cells #[.int .i64 (k : Int)] 3) none)
  have hjV := hJ.alloc (.cells #[.int .i64 (k : Int)] 3) (hJ.alloc (.cells #[.int .i64 (n : Int)] 3) (hJ.alloc (.cells #[.func (.yield lp) #[] #[]] 89) hj))
  have zV : (((W.alloc (.cells #[.func (.yield lp) #[] #[]] 89)).alloc (.cells #[.int .i64 (n : Int)] 3)).alloc (.cells #[.int .i64 (k : Int)] 3)).heap.size = W.heap.size + 3 := by simp
  simp only [World.size_alloc] at hbn hbk
  obtain ⟨V, hV⟩ : ∃ V, ((W.alloc (.cells #[.func (.yield lp) #[] #[]] 89)).alloc (.cells #[.int .i64 (n : Int)] 3)).alloc (.cells #[.int .i64 (k : Int)] 3) = V := ⟨_, rfl⟩
  rw [hV] at hbn hbk c3 c4 y3 hg2 hjV zV ⊢
  clear hV c1 c2 y0
  have hKV : KB w0.heap.size w0 Bt Bk W.heap.size lp a n cap k V := ⟨c3, c4, y3, hOW.grown (by omega) hg2 (fun r e => by cases e)⟩
  have hB : ∀ X : World, V.heap.size ≤ X.heap.size → w0.heap.size ≤ X.heap.size := fun X h => by omega
  have hBB : w0.heap.size ≤ V.heap.size ∧ Bt < V.heap.size ∧ Bk < V.heap.size ∧ W.heap.size < V.heap.size := by omega
  have hso4 : ∀ q, own q → w0.heap.size ≤ q ∧ q ≠ Bt ∧ q ≠ Bk ∧ q ≠ W.heap.size := fun q hq => by have := hso q hq; omega
  refine rangeF (F := Fence.wide) (n := f) rfl (by omega) (gf := 100) (lb := #[.pointer (some ⟨W.heap.size + 1, 0, none⟩), .pointer (some ⟨W.heap.size + 1 + 1, 0, none⟩)]) rfl trivial (enters_of Try.func100 (by kernel_rfl) rfl)
    (sets_seqE (f - 1) (by omega) (W.heap.size + 1) (W.heap.size + 1 + 1) n k (2 ^ n) h6 rfl V (by omega) (by omega) hbn hbk) (fun _ => rfl) own (fun q hq => ⟨by have := hso q hq; omega, by have := hso q hq; omega⟩) (by rintro q (rfl | rfl) <;> omega)
    (fun (rs : List Nat) X => J (rs.flatMap (prow k m)) X ∧ KB w0.heap.size w0 Bt Bk W.heap.size lp a n cap k X ∧ V.heap.size ≤ X.heap.size)
    (fun c _ X => c = .ret ∧ ∃ q, Jx q X)
    (fun rs X Y row hs hg hr => ⟨hJ _ X Y row hs.1 hg (fun r e => by have := hr r e; omega), hs.2.1.grown (hB _ hs.2.2) hBB hg hr, Nat.le_trans hs.2.2 hg.size⟩)
    (fun c rs X Y row hs hg hr => ⟨hs.1, by
      obtain ⟨q, hq⟩ := hs.2
      exact ⟨q, hJx _ X Y row hq hg (fun r e => by have := hr r e; omega)⟩⟩)
    ⟨hjV, hKV, Nat.le_refl _⟩
    (fun x a' X => ∃ Bx, V.heap.size ≤ Bx ∧ Boxed X Bx 3 (.int .i64 (x : Int)) ∧ a' = { tmps := #[.func (.yield lp) #[] #[], .pointer (some ⟨Bt, 0, none⟩), .pointer (some ⟨Bk, 0, none⟩), .pointer (some ⟨W.heap.size, 0, none⟩), .pointer (some ⟨Bx, 0, none⟩), undef, .slice a n cap, .int .i64 n, .int .i64 k, .func (.func 100) #[] #[.pointer (some ⟨W.heap.size + 1, 0, none⟩), .pointer (some ⟨W.heap.size + 1 + 1, 0, none⟩)], .int .i64 (x : Int), undef, undef, undef, undef, undef, undef, undef, undef, undef, undef], defers := [] })
    (fun x a' X lq o o' hA hl ho => by obtain ⟨Bx, e1, e2, e3⟩ := hA; exact ⟨Bx, e1, boxed_put e2 hl ho, e3⟩)
    ?assign ?body ?done ?stop
  case assign =>
    rintro lq rs x X K hzX hi _ hK
    gi_wp2
    exact hK _ _ (Keeps.grown (World.grownBy_alloc _ _ none) (fun r e => by cases e)) ⟨hJ.alloc _ hi.1, hi.2.1.grown (hB _ hi.2.2) hBB (World.grownBy_alloc _ _ none) (fun r e => by cases e), by rw [World.size_alloc]; have := hi.2.2; omega⟩ ⟨X.heap.size, hi.2.2, Boxed.new X 3 _, rfl⟩
  case body =>
    rintro lq rs x a' X hlq hzX ⟨r, hr⟩ ⟨hjx, hKX, _⟩ ⟨hxl, hxk⟩ ⟨Bx, hBx, bX, rfl⟩ hlen
    have hmix : Try.prog.follows .mixedOrders = true := by kernel_rfl
    have cT : X.drew.cell? ⟨Bt, 0, none⟩ = _ := hKX.bt
    have cK : X.drew.cell? ⟨Bk, 0, none⟩ = _ := hKX.bk
    have hbx := bX.lt
    have HKX := Lib.hid hKX
    gi_wp2
    gi_region_with_o (first
      | (refine ⟨trivial, fun _ => by omega, ?_⟩; gi_at_call 38; refine (CallsIn.inRound lq (callsIn_wide.2 (EW.out X.drew HKX.out.old))).mono ?_; rintro e w' ⟨rfl, rfl⟩)
      | (refine ⟨trivial, fun _ => by omega, ?_⟩; gi_at_call 94; refine (CallsIn.inRound lq (sets_in _ _ _ _)).mono ?_; rintro e w' ⟨rfl, rfl⟩))
    all_goals
      gi_wp2
      have hgV : X.grownBy ((X.alloc (.cells #[.int .i64 (m : Int)] 3)).alloc (.cells #[.int .i64 (k : Int)] 3)).drew none := grown_drewP ((World.grownBy_alloc X (.cells #[.int .i64 (m : Int)] 3) none).trans (World.grownBy_alloc _ (.cells #[.int .i64 (k : Int)] 3) none))
      have bN2 : ((X.alloc (.cells #[.int .i64 (m : Int)] 3)).alloc (.cells #[.int .i64 (k : Int)] 3)).drew.cell? ⟨X.heap.size, 0, none⟩ = some (.int .i64 (m : Int)) := cell_alloc_l (.cells #[.int .i64 (k : Int)] 3) (cell_new_l X (.int .i64 (m : Int)) 3).1
      have bK2 : ((X.alloc (.cells #[.int .i64 (m : Int)] 3)).alloc (.cells #[.int .i64 (k : Int)] 3)).drew.cell? ⟨X.heap.size + 1, 0, none⟩ = some (.int .i64 (k : Int)) := by
        have := (cell_new_l (X.alloc (.cells #[.int .i64 (m : Int)] 3)) (.int .i64 (k : Int)) 3).1
        rw [World.size_alloc] at this
        exact this
      have zX : ((X.alloc (.cells #[.int .i64 (m : Int)] 3)).alloc (.cells #[.int .i64 (k : Int)] 3)).drew.heap.size = X.heap.size + 2 := by
        show ((X.alloc (.cells #[.int .i64 (m : Int)] 3)).alloc (.cells #[.int .i64 (k : Int)] 3)).heap.size = _
        simp
      obtain ⟨U, hU⟩ : ∃ U, ((X.alloc (.cells #[.int .i64 (m : Int)] 3)).alloc (.cells #[.int .i64 (k : Int)] 3)).drew = U := ⟨_, rfl⟩
      rw [hU] at bN2 bK2 hgV zX ⊢
      clear hU cT cK
      have hrU : U.heap[lq]? = some (.loop r) := (hgV.block lq (Array.getElem?_eq_some_iff.1 hr).1 (by simp)).trans hr
      have hKU := hKX.grown (hB _ hzX) hBB hgV (fun r e => by cases e)
      have hBU : w0.heap.size ≤ U.heap.size ∧ Bt < U.heap.size ∧ Bk < U.heap.size ∧ W.heap.size < U.heap.size := by omega
      have hfl := flat_len k m hw.2 rs
      refine rangeN (F := Fence.wide.inRound lq) (n := f - 1 - 1) (l₀ := lq) (r₀ := r) rfl hrU (by omega) (gf := 100) (lb := #[.pointer (some ⟨X.heap.size, 0, none⟩), .pointer (some ⟨X.heap.size + 1, 0, none⟩)]) rfl trivial (enters_of Try.func100 (by kernel_rfl) rfl)
        (SeqE.inRound lq (sets_seqE (f - 1 - 1 - 1) (by omega) X.heap.size (X.heap.size + 1) m k (2 ^ m) hw.2 rfl U (by omega) (by omega) bN2 bK2)) (fun _ => rfl) own (fun q hq => ⟨by have := hso q hq; omega, by have := hso q hq; omega⟩) (by rintro q (rfl | rfl) <;> omega)
        (fun (cs : List Nat) Y => (J (rs.flatMap (prow k m) ++ cs.map (fun c => (x, c))) Y ∧ KB w0.heap.size w0 Bt Bk W.heap.size lp a n cap k Y ∧ Boxed Y Bx 3 (.int .i64 (x : Int))) ∧ Keeps own X Y ∧ U.heap.size ≤ Y.heap.size)
        (fun c _ Y => c = .ret ∧ (∃ q, Jx q Y) ∧ Keeps own X Y)
        (fun cs Y Z row hs hg hr => ⟨⟨hJ _ Y Z row hs.1.1 hg (fun r e => by have := hr r e; omega), hs.1.2.1.grown (by have := hs.2.2; omega) hBU hg hr, hs.1.2.2.kept hg (fun e => by have := hr _ e.symm; omega)⟩, hs.2.1.fromB hg (fun r e => by have := hr r e; omega), Nat.le_trans hs.2.2 hg.size⟩)
        (fun c cs Y Z row hs hg hr => ⟨hs.1, by
          obtain ⟨q, hq⟩ := hs.2.1
          exact ⟨q, hJx _ Y Z row hq hg (fun r e => by have := hr r e; omega)⟩, hs.2.2.fromB hg (fun r e => by have := hr r e; omega)⟩)
        ⟨⟨by rw [List.map_nil, List.append_nil]; exact hJ _ X U none hjx hgV (fun r e => by cases e), hKU, bX.kept hgV (by simp)⟩, Keeps.grown hgV (fun r e => by cases e), Nat.le_refl _⟩
        (fun y a'' _ => a'' = { tmps := #[.func (.yield lp) #[] #[], .pointer (some ⟨Bt, 0, none⟩), .pointer (some ⟨Bk, 0, none⟩), .pointer (some ⟨W.heap.size, 0, none⟩), .pointer (some ⟨Bx, 0, none⟩), .int .i64 (y : Int), .slice a n cap, .int .i64 n, .int .i64 k, .func (.func 100) #[] #[.pointer (some ⟨W.heap.size + 1, 0, none⟩), .pointer (some ⟨W.heap.size + 1 + 1, 0, none⟩)], .int .i64 (x : Int), .slice a n cap, .int .i64 m, .int .i64 k, .func (.func 100) #[] #[.pointer (some ⟨X.heap.size, 0, none⟩), .pointer (some ⟨X.heap.size + 1, 0, none⟩)], .int .i64 (y : Int), undef, undef, undef, undef, undef], defers := [] })
        (fun _ _ _ _ _ _ hA _ _ => hA)
        ?assign2 ?body2 ?done2 ?stop2
      case assign2 =>
        rintro l3 cs y Y K _ hi _ hK
        gi_wp2
        exact hK _ _ (Keeps.refl _ _) hi rfl
      case body2 =>
        rintro l3 cs y a'' Y hl3 hzY _ ⟨⟨hjy, hKY, bY⟩, hkY, _⟩ ⟨hyl, hyk⟩ rfl hlen2
        have cX := bY.cell
        have cY := hKY.yb
        have hl4 : (rs.flatMap (prow k m) ++ cs.map (fun c => (x, c))).length < 4096 := by
          rw [List.length_append, List.length_map]
          have : rs.length * 64 ≤ 63 * 64 := Nat.mul_le_mul_right 64 (by omega)
          omega
        obtain ⟨fn, tmps, assign, body, hy, hR⟩ := yieldAt_any (m' := f - 1 - 1 - 1 - 1 - 1) (hY _ (x, y) Y hjy (partsK_mem.2 ⟨⟨hxl, hxk⟩, hyl, hyk⟩) hl4)
        dsimp only [encP] at hy
        have HKEEP := Lib.hid (show ∀ Z, Keeps own Y Z → Keeps own X Z ∧ KB w0.heap.size w0 Bt Bk W.heap.size lp a n cap k Z ∧ Boxed Z Bx 3 (.int .i64 (x : Int)) ∧ U.heap.size ≤ Z.heap.size from fun Z hk =>
          ⟨hkY.trans hk, hKY.keeps (by omega) hk hso4, hk.same _ _ (fun h => by have := hso _ h; omega) bY, by have := hk.size; omega⟩)
        clear hjy hKY bY hkY
        gi_wp2
        refine ⟨fun h => by omega, ?_⟩
        refine RoundIn.mono (F := (Fence.wide.inRound lq).inRound l3) hR ?_
        rintro e W3 (⟨rfl, hJ3, hk3⟩ | ⟨rfl, hx3, hk3⟩)
        · obtain ⟨q1, q2, q3, q4⟩ := HKEEP.out _ hk3
          gi_wp2
          exact ⟨hk3, ⟨⟨by rw [List.map_append, ← List.append_assoc]; exact hJ3, q2, q3⟩, q1, q4⟩⟩
        · obtain ⟨q1, q2, q3, q4⟩ := HKEEP.out _ hk3
          gi_wp2
          exact ⟨hk3, rfl, ⟨_, hx3⟩, q1⟩
      case done2 =>
        rintro cs Y rfl ⟨⟨hjy, hKY, bY⟩, hkY, hzY⟩
        gi_wp2
        exact ⟨hkY, by rw [flat_snoc]; exact hjy, hKY, by omega⟩
      case stop2 =>
        rintro c cs Y _ ⟨rfl, hq, hkY⟩
        gi_wp2
        exact ⟨hkY, rfl, hq⟩
  case done =>
    rintro D rs X hD hS ⟨hjx, _, _⟩ hK
    subst hS
    have hjz := hJ.put (.deferred none) hjx (show W.heap.size ≤ D by omega)
    gi_wp2
    show LeavesInM _ _ _ _ _ _ _ _ _
    refine ⟨by simp, .inl ⟨_, _, rfl, run_takeDeferred hK, ?_⟩⟩
    refine ⟨.tuple #[], ?_, ⟨_, rfl⟩, .inl ⟨_, rfl, hjz⟩⟩
    simp [results, Try.f93, go_sem]
  case stop =>
    rintro D c rs X hD _ ⟨rfl, q, hq⟩ hK
    have hjz := hJx.put (.deferred none) hq (show W.heap.size ≤ D by omega)
    gi_wp2
    show LeavesInM _ _ _ _ _ _ _ _ _
    refine ⟨by simp, .inl ⟨_, _, rfl, run_takeDeferred hK, ?_⟩⟩
    refine ⟨.tuple #[], ?_, ⟨_, rfl⟩, .inr ⟨q, trivial, hjz⟩⟩
    simp [results, Try.f93, go_sem]

end Go.Proofs.Ytlgjplhffpmfpaa
end

section
namespace Go.Proofs.Ytlgjplhffpmfpaa
open Go.RowKit Go.Deep Go.Shelf
attribute [local go_sem] Oper.semAt_some

set_option maxHeartbeats 400000 in
theorem hasKth_any (a : Option Addr) (cap n m k : Nat) (l : List (List Int)) (w : World) (hn : l.length = n) (hT : TabIn l) (hmm : (l.getD 0 []).length = m) (hm : MatR w a l) :
    Calls Try.prog 85 #[.slice a n cap, .int .i64 k] w fun e w' => e = .returned (.bool (inB k 0 (min n m : Nat))) ∧ w = w' := by
  have h6 := hT.2.1
  have h1 := hT.1
  rw [hn] at h6 h1
  have EW := width_any a cap n l w hn (by omega) (by omega) hm
  rw [hmm] at EW
  have EI := Lib.hid (fun x => inRange_any k 0 x w)
  replace EW := Lib.hid EW
  clear hn hT hmm hm
  have hmi : ((min n m : Nat) : Int) = min (n : Int) (m : Int) := by omega
  rw [hmi]
  go_enter Try.func85, Try.ntmps85
  go_wp2_with fail
  refine (EW.out).mono ?_
  rintro e w2 ⟨rfl, rfl⟩
  go_wp2_with fail
  all_goals
    refine (EI.out _).mono ?_
    rintro e w3 ⟨rfl, rfl⟩
    go_wp2
    go_ret
    first
      | (have e : min (n : Int) (m : Int) = m := by omega
         rw [e]; exact ⟨rfl, rfl⟩)
      | (have e : min (n : Int) (m : Int) = n := by omega
         rw [e]; exact ⟨rfl, rfl⟩)

def mkD (Ds : List Nat) : List Deferred := Ds.map fun D => { target := .collected D, args := #[] }
def MK (B C : Nat) (Ds : List Nat) (W : World) : Prop := Ds.Nodup ∧ ∀ D ∈ Ds, B ≤ D ∧ D < C ∧ W.heap[D]? = some (.deferred (some []))
theorem MK.grown {B C : Nat} {Ds : List Nat} {X Y : World} {row : Option Nat} (h : MK B C Ds X) (hg : X.grownBy Y row) (hr : ∀ r, row = some r → C ≤ r) : MK B C Ds Y :=
  ⟨h.1, fun D hD => by
    obtain ⟨h1, h2, h3⟩ := h.2 D hD
    exact ⟨h1, h2, (hg.block D (Array.getElem?_eq_some_iff.1 h3).1 (fun e => by have := hr D e.symm; omega)).trans h3⟩⟩
theorem MK.keeps {B C : Nat} {Ds : List Nat} {X Y : World} {own : Nat → Prop} (h : MK B C Ds X) (hk : Keeps own X Y) (ho : ∀ q, own q → q < B) : MK B C Ds Y :=
  ⟨h.1, fun D hD => by
    obtain ⟨h1, h2, h3⟩ := h.2 D hD
    exact ⟨h1, h2, hk.same D _ (fun e => by have := ho D e; omega) h3⟩⟩
theorem MK.mono {B C C' : Nat} {Ds : List Nat} {X : World} (h : MK B C Ds X) (hc : C ≤ C') : MK B C' Ds X := ⟨h.1, fun D hD => by
  obtain ⟨h1, h2, h3⟩ := h.2 D hD
  exact ⟨h1, by omega, h3⟩⟩
theorem MK.cons {B C C' D : Nat} {Ds : List Nat} {X : World} (h : MK B C Ds X) (hB : B ≤ C) (hD : C ≤ D) (hD2 : D < C') (hK : X.heap[D]? = some (.deferred (some []))) : MK B C' (D :: Ds) X :=
  ⟨List.nodup_cons.2 ⟨fun e => by have := (h.2 D e).2.1; omega, h.1⟩, fun E hE => by
    rcases List.mem_cons.1 hE with e | e
    · subst e; exact ⟨by omega, hD2, hK⟩
    · obtain ⟨h1, h2, h3⟩ := h.2 E e
      exact ⟨h1, by omega, h3⟩⟩
theorem leaves_marks {F : Fence} {n : Nat} {P : Program} {fn : Func} {tmps : Array Value} {R : Ending → World → Prop} {B C : Nat} (T : World → Prop) (hT : ∀ X D, T X → B ≤ D → T (X.putObj D (.deferred none))) (hfin : ∀ X, T X → LeavesIn F n P fn tmps R [] .returning X) :
    ∀ (Ds : List Nat) (W : World), MK B C Ds W → T W → LeavesInM F n P fn tmps R (mkD Ds) .returning W
  | [], W, _, h => hfin W h
  | D :: Ds, W, hm, h => by
    obtain ⟨h1, h2⟩ := hm
    rw [List.nodup_cons] at h1
    obtain ⟨g1, _, g2⟩ := h2 D (by simp)
    refine ⟨by simp, .inl ⟨_, _, rfl, run_takeDeferred g2, ?_⟩⟩
    refine leaves_marks (C := C) T hT hfin Ds _ (⟨h1.2, fun E hE => ?_⟩ : MK B C Ds _) (hT _ _ h g1)
    obtain ⟨q1, q3, q2⟩ := h2 E (by simp [hE])
    exact ⟨q1, q3, (World.putObj_heap_other (fun e => h1.1 (by first | exact e ▸ hE | (subst e; exact hE)))).trans q2⟩
structure AB (n₀ : Nat) (w0 : World) (Bt By lp : Nat) (a : Option Addr) (n cap : Nat) (X : World) : Prop where
  bt : X.cell? ⟨Bt, 0, none⟩ = some (.slice a n cap)
  yb : X.cell? ⟨By, 0, none⟩ = some (.func (.yield lp) #[] #[])
  old : OldT n₀ w0 X
theorem AB.grown {n₀ : Nat} {w0 : World} {Bt By lp : Nat} {a : Option Addr} {n cap : Nat} {X Y : World} {row : Option Nat} {B : Nat} (h : AB n₀ w0 Bt By lp a n cap X) (hz : n₀ ≤ X.heap.size) (h1 : n₀ ≤ B ∧ Bt < B ∧ By < B) (hg : X.grownBy Y row) (hr : ∀ r, row = some r → B ≤ r) : AB n₀ w0 Bt By lp a n cap Y :=
  ⟨cell_own h.bt h1.2.1 hg hr, cell_own h.yb h1.2.2 hg hr, h.old.grown hz hg (fun r e => by have := hr r e; omega)⟩
theorem AB.keeps {n₀ : Nat} {w0 : World} {Bt By lp : Nat} {a : Option Addr} {n cap : Nat} {X Y : World} {own : Nat → Prop} (h : AB n₀ w0 Bt By lp a n cap X) (hz : n₀ ≤ X.heap.size) (hk : Keeps own X Y) (ho : ∀ q, own q → n₀ ≤ q ∧ q ≠ Bt ∧ q ≠ By) : AB n₀ w0 Bt By lp a n cap Y :=
  ⟨hk.cell (a := ⟨Bt, 0, none⟩) (fun e => (ho _ e).2.1 rfl) h.bt, hk.cell (a := ⟨By, 0, none⟩) (fun e => (ho _ e).2.2 rfl) h.yb, h.old.keeps hz hk (fun q e => (ho q e).1)⟩

theorem partsTo_len {n m : Nat} (h6 : n ≤ 6) (hm : m ≤ 6) : ∀ j, (partsTo n m j).length ≤ j * 4096
  | 0 => by simp [partsTo]
  | j + 1 => by
    have h1 := partsTo_len h6 hm j
    have h2 := flat_len (j + 1) m hm (setsTo (j + 1) (2 ^ n))
    have h3 := setsTo_len (j + 1) (2 ^ n)
    have p : 2 ^ n ≤ 2 ^ 6 := Nat.pow_le_pow_right (by omega) h6
    have h4 : (setsTo (j + 1) (2 ^ n)).length * 64 ≤ 64 * 64 := Nat.mul_le_mul_right 64 (by omega)
    show (partsTo n m j ++ partsK (j + 1) n m).length ≤ _
    rw [List.length_append]
    have e : (partsK (j + 1) n m).length = ((setsTo (j + 1) (2 ^ n)).flatMap (prow (j + 1) m)).length := rfl
    omega

set_option maxRecDepth 100000 in
set_option maxHeartbeats 2000000 in
theorem all_seqE (f : Nat) (hf : 16 ≤ f) (Bt n m cap : Nat) (a : Option Addr) (l : List (List Int)) (w0 w : World) (hn : l.length = n) (hT : TabIn l) (hmm : (l.getD 0 []).length = m) (hm : MatR w0 a l) (hold : OldT w0.heap.size w0 w) (_hz0 : w0.heap.size ≤ w.heap.size) (hBt : w0.heap.size ≤ Bt) (ct : w.cell? ⟨Bt, 0, none⟩ = some (.slice a n cap)) :
    SeqE Fence.wide f Try.prog 84 #[.pointer (some ⟨Bt, 0, none⟩)] encP (fun x _ => x ∈ partsA n m) (fun q => q < w0.heap.size ∨ q = Bt) (fun ys => ys = partsA n m) (fun _ => True) 32768 w := by
  intro lp J Jx own W hW hown hJ hJx hY hj
  have h6 := hT.2.1
  have h1 := hT.1
  have hw := hT.width
  rw [hn] at h6 h1
  rw [hmm] at hw
  have lt := World.block_lt_of_cell? _ _ ct
  simp only at lt
  have c1 := (hW.cell (p := ⟨Bt, 0, none⟩) lt).trans ct
  have hWz := hW.size
  have hOW : OldT w0.heap.size w0 W := fun q hq => (hW.block q (by omega)).trans (hold q hq)
  have hso : ∀ q, own q → w0.heap.size ≤ q ∧ q ≠ Bt ∧ q < W.heap.size := fun q hq => by
    obtain ⟨g1, g2⟩ := hown q hq
    exact ⟨by
      by_cases e : q < w0.heap.size
      · exact absurd (.inl e) g2
      · omega, fun e => g2 (.inr e), g1⟩
  have EK := Lib.hid (fun (k : Nat) (V : World) (h : OldT w0.heap.size w0 V) => hasKth_any a cap n m k l V hn hT hmm (hm.oldT h))
  have HSEQ := Lib.hid (fun (g : Nat) (hg : 12 ≤ g) (Bt' Bk' k : Nat) (V : World) => kth_seqE g hg Bt' Bk' n m cap k a l w0 V hn hT hmm hm)
  clear hold ct hm hmm hT hn
  refine callsIn_of_wp_marks Try.func84 rfl trivial ?_ rfl
  simp only [Try.ntmps84, List.size_toArray, List.length_cons, List.length_nil, Nat.reduceAdd, Nat.reduceSub, Array.replicate_succ, Array.replicate_zero, List.push_toArray, List.append_toArray, List.nil_append, List.cons_append]
  have c2 : (W.alloc (.cells #[.func (.yield lp) #[] #[]] 89)).cell? ⟨Bt, 0, none⟩ = _ := cell_alloc_l _ c1
  have y0 : (W.alloc (.cells #[.func (.yield lp) #[] #[]] 89)).cell? ⟨W.heap.size, 0, none⟩ = _ := (cell_new_l W _ _).1
  have hg1 := World.grownBy_alloc W (.cells #[.func (.yield lp) #[] #[]] 89) none
  have hA1 : AB w0.heap.size w0 Bt W.heap.size lp a n cap (W.alloc (.cells #[.func (.yield lp) #[] #[]] 89)) := ⟨c2, y0, hOW.grown (by omega) hg1 (fun r e => by cases e)⟩
  have hj1 := hJ.alloc (.cells #[.func (.yield lp) #[] #[]] 89) hj
  have hso3 : ∀ q, own q → w0.heap.size ≤ q ∧ q ≠ Bt ∧ q ≠ W.heap.size := fun q hq => by have := hso q hq; omega
  gi_wp2
  refine wpIn_loop (fun a' X => ∃ (j : Nat) (Ds : List Nat) (u6 u7 u8 u9 u10 u11 u12 u13 : Value), 1 ≤ j ∧ j ≤ min n m + 1 ∧ a' = { tmps := #[.func (.yield lp) #[] #[], .pointer (some ⟨Bt, 0, none⟩), .pointer (some ⟨W.heap.size, 0, none⟩), .int .i64 (j : Int), undef, undef, u6, u7, u8, u9, u10, u11, u12, u13, undef, undef, undef, undef, undef, undef, undef], defers := mkD Ds } ∧ J (partsTo n m (j - 1)) X ∧ AB w0.heap.size w0 Bt W.heap.size lp a n cap X ∧ MK W.heap.size X.heap.size Ds X ∧ W.heap.size + 1 ≤ X.heap.size)
    (fun a' _ => 8 - (intOf (a'.tmps.getD 3 undef)).toNat) ⟨1, [], _, _, _, _, _, _, _, _, Nat.le_refl _, by omega, rfl, hj1, hA1, ⟨List.nodup_nil, fun D hD => by cases hD⟩, by simp⟩ ?_
  rintro a' X ⟨j, Ds, u6, u7, u8, u9, u10, u11, u12, u13, hj1', hj2, rfl, hjx, hAX, hMK, hzX⟩
  have EKj := Lib.hid (EK.out j X hAX.old)
  have cT := hAX.bt
  by_cases hjm : j ≤ min n m
  · have hin : inB (j : Int) 0 (min n m : Nat) = true := by simp [inB]; omega
    rw [hin] at EKj
    gi_wp2_with (first
      | (refine ⟨trivial, fun _ => by omega, ?_⟩; gi_at_call 85; refine (callsIn_wide.2 EKj.out).mono ?_; rintro e w' ⟨rfl, rfl⟩)
      | (refine ⟨trivial, fun _ => by omega, ?_⟩; gi_at_call 86; refine (kthParts_in _ _ _ _ _ _).mono ?_; rintro e w' ⟨rfl, rfl⟩))
    have hg2 := (World.grownBy_alloc X (.cells #[.slice a n cap] 42) none).trans (World.grownBy_alloc _ (.cells #[.int .i64 (j : Int)] 3) none)
    have bt2 : ((X.alloc (.cells #[.slice a n cap] 42)).alloc (.cells #[.int .i64 (j : Int)] 3)).cell? ⟨X.heap.size, 0, none⟩ = some (.slice a n cap) := cell_alloc_l _ (cell_new_l X _ _).1
    have bk2 : ((X.alloc (.cells #[.slice a n cap] 42)).alloc (.cells #[.int .i64 (j : Int)] 3)).cell? ⟨X.heap.size + 1, 0, none⟩ = some (.int .i64 (j : Int)) := by
      have := (cell_new_l (X.alloc (.cells #[.slice a n cap] 42)) (.int .i64 (j : Int)) 3).1
      rw [World.size_alloc] at this
      exact this
    have zV : ((X.alloc (.cells #[.slice a n cap] 42)).alloc (.cells #[.int .i64 (j : Int)] 3)).heap.size = X.heap.size + 2 := by simp
    obtain ⟨V, hV⟩ : ∃ V, (X.alloc (.cells #[.slice a n cap] 42)).alloc (.cells #[.int .i64 (j : Int)] 3) = V := ⟨_, rfl⟩
    rw [hV] at hg2 bt2 bk2 zV ⊢
    clear hV
    have hBX : w0.heap.size ≤ X.heap.size ∧ Bt < X.heap.size ∧ W.heap.size < X.heap.size := by omega
    have hAV := hAX.grown (by omega) hBX hg2 (fun r e => by cases e)
    have hMV := hMK.grown hg2 (fun r e => by cases e)
    have hpl := partsTo_len h6 hw.2 (j - 1)
    refine rangeF (F := Fence.wide) (n := f) rfl (by omega) (gf := 93) (lb := #[.pointer (some ⟨X.heap.size, 0, none⟩), .pointer (some ⟨X.heap.size + 1, 0, none⟩)]) rfl trivial (enters_of Try.func93 (by kernel_rfl) rfl)
      (HSEQ.out (f - 1) (by omega) X.heap.size (X.heap.size + 1) j V hAV.old (by omega) (by omega) (by omega) bt2 bk2) (fun _ => rfl) own (fun q hq => ⟨by have := hso q hq; omega, by have := hso q hq; omega⟩) (fun q hq => by omega)
      (fun (ps : List (Nat × Nat)) Y => (J (partsTo n m (j - 1) ++ ps) Y ∧ AB w0.heap.size w0 Bt W.heap.size lp a n cap Y ∧ MK W.heap.size X.heap.size Ds Y) ∧ V.heap.size ≤ Y.heap.size)
      (fun c _ Y => c = .ret ∧ (∃ q, Jx q Y) ∧ MK W.heap.size X.heap.size Ds Y)
      (fun ps Y Z row hs hg hr => ⟨⟨hJ _ Y Z row hs.1.1 hg (fun r e => by have := hr r e; omega), hs.1.2.1.grown (by have := hs.2; omega) hBX hg (fun r e => by have := hr r e; omega), hs.1.2.2.grown hg (fun r e => by have := hr r e; omega)⟩, Nat.le_trans hs.2 hg.size⟩)
      (fun c ps Y Z row hs hg hr => ⟨hs.1, by
        obtain ⟨q, hq⟩ := hs.2.1
        exact ⟨q, hJx _ Y Z row hq hg (fun r e => by have := hr r e; omega)⟩, hs.2.2.grown hg (fun r e => by have := hr r e; omega)⟩)
      ⟨⟨by rw [List.append_nil]; exact hJ _ X V none hjx hg2 (fun r e => by cases e), hAV, hMV⟩, Nat.le_refl _⟩
      (fun x a'' _ => a'' = { tmps := #[.func (.yield lp) #[] #[], .pointer (some ⟨Bt, 0, none⟩), .pointer (some ⟨W.heap.size, 0, none⟩), .int .i64 (j : Int), .int .i64 (x.1 : Int), .int .i64 (x.2 : Int), .slice a n cap, .int .i64 (j : Int), .bool true, u9, u10, .slice a n cap, .int .i64 (j : Int), .func (.func 93) #[] #[.pointer (some ⟨X.heap.size, 0, none⟩), .pointer (some ⟨X.heap.size + 1, 0, none⟩)], .int .i64 (x.1 : Int), .int .i64 (x.2 : Int), undef, undef, undef, undef, undef], defers := [] })
      (fun _ _ _ _ _ _ hA _ _ => hA)
      ?assign ?body ?done ?stop
    case assign =>
      rintro lq ps x Y K _ hi _ hK
      simp only [encP]
      gi_wp2
      exact hK _ _ (Keeps.refl _ _) hi rfl
    case body =>
      rintro lq ps x a'' Y hlq hzY _ ⟨⟨hjy, hAY, hMY⟩, _⟩ hpx rfl hlen
      have cY := hAY.yb
      have hxA : x ∈ partsA n m := by
        obtain ⟨⟨g1, g2⟩, g3, g4⟩ := partsK_mem.1 hpx
        exact (partsTo_mem _).2 ⟨by omega, by omega, by omega, g1, g3⟩
      have hl4 : (partsTo n m (j - 1) ++ ps).length < 32768 := by
        rw [List.length_append]
        omega
      obtain ⟨fn, tmps, assign, body, hy, hR⟩ := yieldAt_any (m' := f - 1 - 1 - 1) (hY _ x Y hjy hxA hl4)
      dsimp only [encP] at hy
      have HKEEP := Lib.hid (show ∀ Z, Keeps own Y Z → AB w0.heap.size w0 Bt W.heap.size lp a n cap Z ∧ MK W.heap.size X.heap.size Ds Z ∧ V.heap.size ≤ Z.heap.size from fun Z hk =>
        ⟨hAY.keeps (by omega) hk hso3, hMY.keeps hk (fun q hq => (hso q hq).2.2), by have := hk.size; omega⟩)
      clear hjy hAY hMY hxA
      obtain ⟨x1, x2⟩ := x
      simp only at hy hR ⊢
      gi_wp2
      refine ⟨fun h => by omega, ?_⟩
      refine RoundIn.mono (F := Fence.wide.inRound lq) hR ?_
      rintro e W3 (⟨rfl, hJ3, hk3⟩ | ⟨rfl, hx3, hk3⟩)
      · obtain ⟨q1, q2, q3⟩ := HKEEP.out _ hk3
        gi_wp2
        exact ⟨hk3, ⟨by rw [← List.append_assoc]; exact hJ3, q1, q2⟩, q3⟩
      · obtain ⟨q1, q2, q3⟩ := HKEEP.out _ hk3
        gi_wp2
        exact ⟨hk3, rfl, ⟨_, hx3⟩, q2⟩
    case done =>
      rintro D ps Y hD rfl ⟨⟨hjy, hAY, hMY⟩, hzY⟩ hK
      have hDY := (Array.getElem?_eq_some_iff.1 hK).1
      have hMC := hMY.cons (C' := Y.heap.size) (by omega) (by omega) hDY hK
      have hwj : IntKind.i64.wrap ((j : Int) + 1) = ((j + 1 : Nat) : Int) := by rw [IntWalk.i64_in _ ⟨by omega, by omega⟩]; omega
      have hnext : partsTo n m j = partsTo n m (j - 1) ++ partsK j n m := by
        obtain ⟨i, rfl⟩ : ∃ i, j = i + 1 := ⟨j - 1, by omega⟩
        rfl
      gi_wp2
      exact ⟨⟨j + 1, D :: Ds, _, _, _, _, _, _, _, _, by omega, by omega, rfl, by rw [Nat.add_sub_cancel, hnext]; exact hjy, hAY, hMC, by omega⟩, by simp [intOf]; omega⟩
    case stop =>
      rintro D c ps Y hD _ ⟨rfl, ⟨q, hq⟩, hMY⟩ hK
      have hDY := (Array.getElem?_eq_some_iff.1 hK).1
      have hMC := hMY.cons (C' := Y.heap.size) (by omega) (by omega) hDY hK
      gi_wp2
      refine leaves_marks (B := W.heap.size) (fun Z => Jx q Z) (fun Z E h hE => hJx.put _ h hE) (fun Z h => ?_) (D :: Ds) Y hMC hq
      refine ⟨.tuple #[], ?_, ⟨_, rfl⟩, .inr ⟨q, trivial, h⟩⟩
      simp [results, Try.f84, go_sem]
  · have hin : inB (j : Int) 0 (min n m : Nat) = false := by simp [inB]; omega
    rw [hin] at EKj
    obtain rfl : j = min n m + 1 := by omega
    gi_wp2_with (refine ⟨trivial, fun _ => by omega, ?_⟩; gi_at_call 85; refine (callsIn_wide.2 EKj.out).mono ?_; rintro e w' ⟨rfl, rfl⟩)
    refine leaves_marks (B := W.heap.size) (fun Z => J (partsA n m) Z) (fun Z E h hE => hJ.put _ h hE) (fun Z h => ?_) Ds _ hMK hjx
    refine ⟨.tuple #[], ?_, ⟨_, rfl⟩, .inl ⟨_, rfl, h⟩⟩
    simp [results, Try.f84, go_sem]

end Go.Proofs.Ytlgjplhffpmfpaa
end

section
namespace Go.Proofs.Ytlgjplhffpmfpaa
open Go.RowKit Go.Deep Go.Shelf

attribute [local go_sem] Oper.semAt_some

def hasR (l : List (List Int)) (k M2 : Nat) (r : Nat) : Bool := (setsTo k M2).any fun c => decide (dt k (at2 (partL l r c)) ≠ 0)
def hasB (l : List (List Int)) (k M1 M2 : Nat) : Bool := (setsTo k M1).any (hasR l k M2)
theorem hasB_yes {l : List (List Int)} {k n m : Nat} {x : Nat × Nat} (hx : x ∈ partsK k n m) (h : mnP l x ≠ 0) : hasB l k (2 ^ n) (2 ^ m) = true := by
  obtain ⟨⟨g1, g2⟩, g3⟩ := partsK_mem.1 hx
  refine List.any_eq_true.2 ⟨x.1, (setsTo_mem k).2 ⟨g1, g2⟩, List.any_eq_true.2 ⟨x.2, (setsTo_mem k).2 g3, ?_⟩⟩
  unfold mnP at h
  rw [g2] at h
  simpa using h
theorem hasB_no {l : List (List Int)} {k n m : Nat} (h : ∀ x ∈ partsK k n m, mnP l x = 0) : hasB l k (2 ^ n) (2 ^ m) = false := by
  cases e : hasB l k (2 ^ n) (2 ^ m) with
  | false => rfl
  | true =>
    obtain ⟨r, hr, e2⟩ := List.any_eq_true.1 e
    obtain ⟨c, hc, e3⟩ := List.any_eq_true.1 e2
    have g1 := (setsTo_mem k).1 hr
    have g2 := (setsTo_mem k).1 hc
    have := h (r, c) (partsK_mem.2 ⟨g1, g2⟩)
    unfold mnP at this
    rw [show popcS (r, c).1 = k from g1.2] at this
    exact absurd this (of_decide_eq_true e3)

theorem oldT_since {w W : World} (h : w.Since w.heap.size W) : OldT w.heap.size w W := fun k hk => h.block k hk
theorem grownSH {w w' : World} (h : w.Since w.heap.size w') : w.grownBy w' none := ⟨h.os, h.tape, h.output, h.size, fun k hk _ => h.block k hk⟩
structure HS (w : World) (tv : Value) (W : World) : Prop where
  bt : Boxed W w.heap.size 42 tv
  br : Boxed W (w.heap.size + 1) 4 (.bool false)
  sn : w.Since w.heap.size W
theorem since_row {lo : Nat} {w W W' : World} {row : Option Nat} (h : w.Since lo W) (hlo : lo ≤ w.heap.size) (hg : W.grownBy W' row) (hr : ∀ r, row = some r → lo ≤ r) : w.Since lo W' :=
  ⟨hg.os.trans h.os, hg.tape.trans h.tape, hg.output.trans h.output, Nat.le_trans h.size hg.size, fun k hk => (hg.block k (by have := h.size; omega) (fun e => by have := hr k e.symm; omega)).trans (h.block k hk)⟩
theorem HS.kept {w W W' : World} {tv : Value} {row : Option Nat} (h : HS w tv W) (hg : W.grownBy W' row) (hr : ∀ r, row = some r → w.heap.size + 2 ≤ r) : HS w tv W' :=
  ⟨h.bt.kept hg (fun e => by have := hr _ e.symm; omega), h.br.kept hg (fun e => by have := hr _ e.symm; omega), since_row h.sn (Nat.le_refl _) hg (fun r e => by have := hr r e; omega)⟩

end Go.Proofs.Ytlgjplhffpmfpaa
end

section
namespace Go.Proofs.Ytlgjplhffpmfpaa
open Go.RowKit Go.Deep Go.Shelf
attribute [local go_sem] Oper.semAt_some

def posV (a : Option Addr) (n cap g : Nat) (lb : Array Value) : Value := .agg #[.slice a n cap, .func (.func g) #[] lb]
structure QS (w : World) (tv gv qv : Value) (b : Bool) (W : World) : Prop where
  b0 : W.heap[w.heap.size]? = some (.cells #[tv, gv] 46)
  bq : Boxed W (w.heap.size + 1) 3 qv
  br : Boxed W (w.heap.size + 2) 4 (.bool b)
  sn : w.Since w.heap.size W
theorem QS.kept {w W W' : World} {tv gv qv : Value} {b : Bool} {row : Option Nat} (h : QS w tv gv qv b W) (hg : W.grownBy W' row) (hr : ∀ r, row = some r → w.heap.size + 3 ≤ r) : QS w tv gv qv b W' :=
  ⟨(hg.block _ (Array.getElem?_eq_some_iff.1 h.b0).1 (fun e => by have := hr _ e.symm; omega)).trans h.b0, h.bq.kept hg (fun e => by have := hr _ e.symm; omega), h.br.kept hg (fun e => by have := hr _ e.symm; omega), since_row h.sn (Nat.le_refl _) hg (fun r e => by have := hr r e; omega)⟩
theorem cells2 {W : World} {b : Nat} {s g : Value} {t : TypeId} (h : W.heap[b]? = some (.cells #[s, g] t)) : W.cell? ⟨b, 0, none⟩ = some s ∧ W.cell? ⟨b, 1, none⟩ = some g := by
  simp [World.cell?, h]

theorem round_region_heldP {lp n id : Nat} {P : Program} {ops : Array Oper} {Q : Exit → Act → World → Prop} {a : Act} {w : World} {S : World → Prop} (hm : P.follows .mixedOrders = true) (hd : noDefer ops = true) (hno : ¬ LetsOut Q) (hS : S w.drew)
    (h : S w.drew → wpAnyH P .any ops Q S ops.size (Array.replicate ops.size false) a w.drew) : (Code.region id ops true).wpIn (Fence.wide.inRound lp) n P Q a w :=
  wpIn_region_any hm (wpAnyIn_of_wpAny hno (noDefer_of hd) _ _ _ _ (wpAny_of_held _ _ _ _ (h hS)))

set_option maxRecDepth 100000 in
set_option maxHeartbeats 2000000 in
theorem minorsFrom_any (a : Option Addr) (cap n m : Nat) (q : Int) (g : Nat) (lb : Array Value) (ps : List (Nat × Nat)) (N : Nat) (need : Nat → Prop) (l : List (List Int)) (w : World) (hn : l.length = n) (hmm : (l.getD 0 []).length = m) (hT : TabIn l) (hm : MatR w a l)
    (hps : ∀ x ∈ ps, popcS x.1 = popcS x.2 ∧ x.1 < 2 ^ n ∧ x.2 < 2 ^ m) (hneed : ∀ k, need k → k < w.heap.size)
    (hseq : ∀ V : World, OldT w.heap.size w V → w.heap.size ≤ V.heap.size → SeqE Fence.wide 29 Try.prog g lb encP (fun x _ => x ∈ ps) need (fun ys => ys = ps) (fun _ => True) N V)
    (eg : ∀ args w, (callFunc g args).run Try.prog w = .ok (.enter g args) w) :
    Calls Try.prog 29 #[posV a n cap g lb, .int .i64 q] w fun e w' => e = .returned (.bool (leastB l q ps)) ∧ w.Since w.heap.size w' := by
  have EM := Lib.hid (fun (x : Nat × Nat) (hx : x ∈ ps) (V : World) (h : w.Since w.heap.size V) => minor_any a cap n m x.1 x.2 l V hn hmm hT (hps x hx).2.1 (hps x hx).2.2 (hps x hx).1 (hm.since h))
  have HSEQ := Lib.hid hseq
  have EG := Lib.hid eg
  clear hn hmm hT hm hps hseq eg
  unfold posV
  refine (callsIn_wide (n := 30)).1 ?_
  refine callsIn_of_wp_marks Try.func29 rfl trivial ?_ rfl
  simp only [Try.ntmps29, List.size_toArray, List.length_cons, List.length_nil, Nat.reduceAdd, Nat.reduceSub, Array.replicate_succ, Array.replicate_zero, List.push_toArray, List.append_toArray, List.nil_append, List.cons_append]
  have hS0 : QS w (.slice a n cap) (.func (.func g) #[] lb) (.int .i64 q) false (((w.alloc (.cells #[.slice a n cap, .func (.func g) #[] lb] 46)).alloc (.cells #[.int .i64 q] 3)).alloc (.cells #[.bool false] 4)) := by
    have b1 := Boxed.new (w.alloc (.cells #[.slice a n cap, .func (.func g) #[] lb] 46)) 3 (.int .i64 q)
    have b2 := Boxed.new ((w.alloc (.cells #[.slice a n cap, .func (.func g) #[] lb] 46)).alloc (.cells #[.int .i64 q] 3)) 4 (.bool false)
    simp only [World.size_alloc] at b1 b2
    exact ⟨(Below.heap_alloc _ _ _ (by simp; omega)).trans ((Below.heap_alloc _ _ _ (by simp)).trans (World.alloc_heap_new w _)), b1.alloc _, b2, (((World.Since.refl _ w).alloc (Nat.le_refl _) _).alloc (by simp) _).alloc (by simp; omega) _⟩
  gi_wp2
  obtain ⟨V, hV⟩ : ∃ V, (((w.alloc (.cells #[.slice a n cap, .func (.func g) #[] lb] 46)).alloc (.cells #[.int .i64 q] 3)).alloc (.cells #[.bool false] 4)) = V := ⟨_, rfl⟩
  have zV : V.heap.size = w.heap.size + 3 := by rw [← hV]; simp
  rw [hV] at hS0 ⊢
  clear hV
  refine rangeF (F := Fence.wide) (n := 30) rfl (by omega) (gf := g) (lb := lb) rfl trivial EG.out
    (HSEQ.out V (oldT_since hS0.sn) (by omega)) (fun _ => rfl) (fun k => k = w.heap.size + 2) (fun k hk => ⟨by omega, fun h => by have := hneed _ h; omega⟩) (fun k hk => by have := hneed _ hk; omega)
    (fun (qs : List (Nat × Nat)) X => (QS w (.slice a n cap) (.func (.func g) #[] lb) (.int .i64 q) false X ∧ V.heap.size ≤ X.heap.size) ∧ leastB l q qs = true)
    (fun c _ X => c = .ret ∧ (Boxed X (w.heap.size + 2) 4 (.bool false) ∧ w.Since w.heap.size X) ∧ leastB l q ps = false)
    (fun qs X Y row hs hg hr => ⟨⟨hs.1.1.kept hg (fun r e => by have := hr r e; omega), Nat.le_trans hs.1.2 hg.size⟩, hs.2⟩)
    (fun c qs X Y row hs hg hr => ⟨hs.1, ⟨hs.2.1.1.kept hg (fun e => by have := hr _ e.symm; omega), since_row hs.2.1.2 (Nat.le_refl _) hg (fun r e => by have := hr r e; omega)⟩, hs.2.2⟩)
    ⟨⟨hS0, Nat.le_refl _⟩, rfl⟩
    (fun x a'' _ => a'' = { tmps := #[.agg #[.slice a n cap, .func (.func g) #[] lb], .int .i64 q, .pointer (some ⟨w.heap.size, 0, none⟩), .pointer (some ⟨w.heap.size + 1, 0, none⟩), .pointer (some ⟨w.heap.size + 1 + 1, 0, none⟩), .int .i64 (x.1 : Int), .int .i64 (x.2 : Int), .pointer (some ⟨w.heap.size, 1, none⟩), .func (.func g) #[] lb, .int .i64 (x.1 : Int), .int .i64 (x.2 : Int), undef, undef, undef, undef, undef, undef, undef], defers := [] })
    (fun _ _ _ _ _ _ hA _ _ => hA)
    ?assign ?body ?done ?stop
  case assign =>
    rintro lq qs x Y K _ hi _ hK
    simp only [encP]
    gi_wp2
    exact hK _ _ (Keeps.refl _ _) hi rfl
  case body =>
    rintro lq qs x a'' Y hlq hzY _ ⟨⟨hS, hz⟩, hp⟩ hpx rfl hlen
    have hmix : Try.prog.follows .mixedOrders = true := by kernel_rfl
    have cT : Y.drew.cell? ⟨w.heap.size, 0, none⟩ = _ := (cells2 hS.b0).1
    have cQ : Y.drew.cell? ⟨w.heap.size + 1, 0, none⟩ = _ := hS.bq.cell
    have E := Lib.hid (EM.out x hpx Y.drew (show w.Since w.heap.size Y.drew from hS.sn.drew))
    have HSS := Lib.hid hS
    have HY := Lib.hid (show mnP l x < q → leastB l q ps = false from fun h => leastB_no hpx h)
    have HP := Lib.hid (leastB_snoc l q qs x)
    have HPP := Lib.hid hp
    clear hS hp hpx
    obtain ⟨x1, x2⟩ := x
    simp only at E HY HP ⊢
    obtain ⟨v, hv⟩ : ∃ v, mnP l (x1, x2) = v := ⟨_, rfl⟩
    rw [hv] at E HY HP
    clear hv
    have HK2 := Lib.hid (show ∀ Z, Y.drew.Since Y.drew.heap.size Z → Y.grownBy Z none from fun Z h => (grown_drewP (World.grownBy.refl Y none)).trans (grownSH h))
    gi_wp2
    refine round_region_heldP (S := fun W' : World => W'.cell? ⟨w.heap.size, 0, none⟩ = some (.slice a n cap) ∧ W'.cell? ⟨w.heap.size + 1, 0, none⟩ = some (.int .i64 q)) hmix (by kernel_rfl) (by rintro ⟨a, w, h⟩; exact h) ⟨cT, cQ⟩ (fun hS => ?_)
    refine wpAnyH_take (i := 0) (v := .pointer (some ⟨w.heap.size, 0, none⟩)) rfl (by kernel_rfl) (by kernel_rfl) (by kernel_rfl) (fun _ _ _ h => h) (Or.inl ⟨by rfl, fun W' h => by go_simp⟩) hS ?_
    simp only [Act.put, List.setIfInBounds_toArray]
    refine wpAnyH_take (i := 1) (v := .slice a n cap) rfl (by kernel_rfl) (by kernel_rfl) (by kernel_rfl) (fun _ _ _ h => h) (Or.inl ⟨by rfl, fun W' h => by have hc := h.1; go_simp⟩) hS ?_
    simp only [Act.put]
    refine wpAnyH_take (i := 2) (v := .int .i64 x1) rfl (by kernel_rfl) (by kernel_rfl) (by kernel_rfl) (fun _ _ _ h => h) (Or.inl ⟨by rfl, fun W' h => by go_simp⟩) hS ?_
    simp only [Act.put]
    refine wpAnyH_take (i := 3) (v := .int .i64 x2) rfl (by kernel_rfl) (by kernel_rfl) (by kernel_rfl) (fun _ _ _ h => h) (Or.inl ⟨by rfl, fun W' h => by go_simp⟩) hS ?_
    simp only [Act.put]
    refine wpAnyH_take (i := 5) (v := .int .i64 q) rfl (by kernel_rfl) (by kernel_rfl) (by kernel_rfl) (fun _ _ _ h => h) (Or.inl ⟨by rfl, fun W' h => by have hc := h.2; go_simp⟩) hS ?_
    simp only [Act.put]
    refine wpAnyH_ready (rs := [4]) (by kernel_rfl) (by simp) (AllReadyH.cons rfl (fun K hK => ?_) AllReadyH.nil)
    go_simp
    refine E.out.mono ?_
    rintro e Z ⟨rfl, hs2⟩
    have HG := Lib.hid (HK2.out Z hs2)
    have hQZ := HSS.out.kept HG.out (fun r e => by cases e)
    refine hK.out _ _ ⟨(cells2 hQZ.b0).1, hQZ.bq.cell⟩ (fun hS1 => ?_)
    clear hK K hs2
    refine wpAnyH_take (i := 6) (v := .bool (decide (v < q))) rfl (by kernel_rfl) (by kernel_rfl) (by kernel_rfl) (fun _ _ _ h => h) (Or.inl ⟨by rfl, fun W' h => by go_simp⟩) hS1 ?_
    simp only [Act.put]
    refine wpAnyH_done (by kernel_rfl) ?_ _
    by_cases hv0 : v < q
    · have hvb : decide (v < q) = true := by simpa using hv0
      have cR := hQZ.br.cell
      have fR := hQZ.br.frozen
      gi_wp2
      exact ⟨(Keeps.grown HG.out (fun r e => by cases e)).trans (Keeps.grown (grownBy_setCell' Z (w.heap.size + 2) _) (fun r e => by cases e; rfl)), rfl, ⟨hQZ.br.set _, hQZ.sn.setCell (by simp; omega) _⟩, HY.out hv0⟩
    · have hvb : decide (v < q) = false := by simpa using hv0
      gi_wp2
      exact ⟨Keeps.grown HG.out (fun r e => by cases e), ⟨hQZ, by have := HG.out.size; omega⟩, by rw [HP.out, HPP.out]; simp; omega⟩
  case done =>
    rintro D qs X hD rfl ⟨⟨hS, hz⟩, hp⟩ hK
    have cS := hS.br.cell
    have fS := hS.br.frozen
    have hlt := (Array.getElem?_eq_some_iff.1 hK).1
    have hK2 : (X.setCell ⟨w.heap.size + 2, 0, none⟩ (.bool true)).heap[D]? = some (.deferred (some [])) := ((grownBy_setCell' X (w.heap.size + 2) (.bool true)).block D hlt (fun e => by injection e; omega)).trans hK
    have hB3 := (hS.br.set (.bool true)).kept (grownBy_putObj' (X.setCell ⟨w.heap.size + 2, 0, none⟩ (.bool true)) D (.deferred none)) (fun e => by injection e; omega)
    have cB := hB3.cell
    have hsn := since_row (hS.sn.setCell (a := ⟨w.heap.size + 2, 0, none⟩) (by simp) (.bool true)) (Nat.le_refl _) (grownBy_putObj' (X.setCell ⟨w.heap.size + 2, 0, none⟩ (.bool true)) D (.deferred none)) (fun r e => by cases e; omega)
    gi_wp2
    refine ⟨by simp, .inl ⟨_, _, rfl, run_takeDeferred hK2, ?_⟩⟩
    refine ⟨.bool true, ?_, by rw [hp], hsn⟩
    have cB' := cB
    simp [results, Try.f29, go_sem, cB']
  case stop =>
    rintro D c qs X hD _ ⟨rfl, ⟨bR, hs⟩, hb⟩ hK
    have hB3 := bR.kept (grownBy_putObj' X D (.deferred none)) (fun e => by injection e; omega)
    have cB := hB3.cell
    have hsn := since_row hs (Nat.le_refl _) (grownBy_putObj' X D (.deferred none)) (fun r e => by cases e; omega)
    gi_wp2
    refine ⟨by simp, .inl ⟨_, _, rfl, run_takeDeferred hK, ?_⟩⟩
    refine ⟨.bool false, ?_, by rw [hb], hsn⟩
    have cB' := cB
    simp [results, Try.f29, go_sem, cB']

structure QC (w : World) (tv gv : Value) (c : Int) (W : World) : Prop where
  b0 : W.heap[w.heap.size]? = some (.cells #[tv, gv] 46)
  bn : Boxed W (w.heap.size + 1) 3 (.int .i64 c)
  sn : w.Since w.heap.size W
theorem QC.kept {w W W' : World} {tv gv : Value} {c : Int} {row : Option Nat} (h : QC w tv gv c W) (hg : W.grownBy W' row) (hr : ∀ r, row = some r → w.heap.size + 2 ≤ r) : QC w tv gv c W' :=
  ⟨(hg.block _ (Array.getElem?_eq_some_iff.1 h.b0).1 (fun e => by have := hr _ e.symm; omega)).trans h.b0, h.bn.kept hg (fun e => by have := hr _ e.symm; omega), since_row h.sn (Nat.le_refl _) hg (fun r e => by have := hr r e; omega)⟩

end Go.Proofs.Ytlgjplhffpmfpaa
end

section
namespace Go.Proofs.Ytlgjplhffpmfpaa
open Go.RowKit Go.Deep Go.Shelf
attribute [local go_sem] Oper.semAt_some

def wstep (l : List (List Int)) (s : Int × Nat × Nat) (x : Nat × Nat) : Int × Nat × Nat := if s.2.1 = 0 ∨ mnP l x < s.1 then (mnP l x, x.1, x.2) else s
def worstS (l : List (List Int)) (qs : List (Nat × Nat)) : Int × Nat × Nat := qs.foldl (wstep l) (0, 0, 0)
theorem worstS_snoc (l : List (List Int)) (qs : List (Nat × Nat)) (x : Nat × Nat) : worstS l (qs ++ [x]) = wstep l (worstS l qs) x := by
  unfold worstS; rw [List.foldl_append]; rfl
structure QW (w : World) (tv gv : Value) (s : Int × Nat × Nat) (W : World) : Prop where
  b0 : W.heap[w.heap.size]? = some (.cells #[tv, gv] 46)
  b1 : Boxed W (w.heap.size + 1) 3 (.int .i64 s.1)
  b2 : Boxed W (w.heap.size + 2) 3 (.int .i64 (s.2.1 : Int))
  b3 : Boxed W (w.heap.size + 3) 3 (.int .i64 (s.2.2 : Int))
  sn : w.Since w.heap.size W
theorem QW.kept {w W W' : World} {tv gv : Value} {s : Int × Nat × Nat} {row : Option Nat} (h : QW w tv gv s W) (hg : W.grownBy W' row) (hr : ∀ r, row = some r → w.heap.size + 4 ≤ r) : QW w tv gv s W' :=
  ⟨(hg.block _ (Array.getElem?_eq_some_iff.1 h.b0).1 (fun e => by have := hr _ e.symm; omega)).trans h.b0, h.b1.kept hg (fun e => by have := hr _ e.symm; omega), h.b2.kept hg (fun e => by have := hr _ e.symm; omega), h.b3.kept hg (fun e => by have := hr _ e.symm; omega), since_row h.sn (Nat.le_refl _) hg (fun r e => by have := hr r e; omega)⟩
theorem QW.set {w W : World} {tv gv : Value} {s : Int × Nat × Nat} (h : QW w tv gv s W) (x : Int) (r c : Nat) :
    QW w tv gv (x, r, c) (((W.setCell ⟨w.heap.size + 1, 0, none⟩ (.int .i64 x)).setCell ⟨w.heap.size + 2, 0, none⟩ (.int .i64 (r : Int))).setCell ⟨w.heap.size + 3, 0, none⟩ (.int .i64 (c : Int))) :=
  ⟨(Below.heap_setCell _ _ _ _ (by show w.heap.size ≠ w.heap.size + 3; omega)).trans ((Below.heap_setCell _ _ _ _ (by show w.heap.size ≠ w.heap.size + 2; omega)).trans ((Below.heap_setCell _ _ _ _ (by show w.heap.size ≠ w.heap.size + 1; omega)).trans h.b0)),
    ((h.b1.set _).other (by omega) _).other (by omega) _, ((h.b2.other (by omega) _).set _).other (by omega) _, ((h.b3.other (by omega) _).other (by omega) _).set _,
    ((h.sn.setCell (by simp) _).setCell (by simp) _).setCell (by simp) _⟩
theorem keeps_set3 {own : Nat → Prop} (W : World) {b1 b2 b3 : Nat} (x y z : Value) (h1 : own b1) (h2 : own b2) (h3 : own b3) : Keeps own W (((W.setCell ⟨b1, 0, none⟩ x).setCell ⟨b2, 0, none⟩ y).setCell ⟨b3, 0, none⟩ z) :=
  ((Keeps.grown (grownBy_setCell' W b1 _) (fun r e => by cases e; exact h1)).trans (Keeps.grown (grownBy_setCell' _ b2 _) (fun r e => by cases e; exact h2))).trans (Keeps.grown (grownBy_setCell' _ b3 _) (fun r e => by cases e; exact h3))

end Go.Proofs.Ytlgjplhffpmfpaa
end

section
namespace Go.Proofs.Ytlgjplhffpmfpaa
open Go.RowKit Go.Deep Go.Shelf
attribute [local go_sem] Oper.semAt_some

theorem rows_seqE (f : Nat) (hf : 2 ≤ f) (Bt Bs b o m cap s : Nat) (hm : m ≤ 7) (hs : s ≤ 63) (A : Nat → Option Addr) (L C : Nat → Nat) (w : World) (h1 : Bt < w.heap.size) (h2 : Bs < w.heap.size) (h3 : b < w.heap.size)
    (hBt : w.cell? ⟨Bt, 0, none⟩ = some (.slice (some ⟨b, o, none⟩) m cap)) (hBs : w.cell? ⟨Bs, 0, none⟩ = some (.int .i64 s))
    (hc : ∀ k, k < m → w.cell? ⟨b, o + k, none⟩ = some (.slice (A k) (L k) (C k))) :
    SeqE Fence.wide f Try.prog 88 #[.pointer (some ⟨Bt, 0, none⟩), .pointer (some ⟨Bs, 0, none⟩)] (fun x : {i : Nat // i < m} => #[.int .i64 (x.1 : Int), .slice (A x.1) (L x.1) (C x.1)]) (fun _ _ => True) (fun q => q = Bt ∨ q = Bs ∨ q = b) (fun ys => ys = sel s m m) (fun _ => True) m w := by
  intro l J Jx own W hW hown hJ hJx hY hj
  have cs := (hW.cell (p := ⟨Bs, 0, none⟩) h2).trans hBs
  have cr := fun k (hk : k < m) => (hW.cell (p := ⟨b, o + k, none⟩) h3).trans (hc k hk)
  refine CallsIn.mono (rows1_in f hf l Bt Bs b o m cap s hm hs A L C (fun X Y => Y.cell? ⟨Bs, 0, none⟩ = X.cell? ⟨Bs, 0, none⟩ ∧ ∀ k, k < m → Y.cell? ⟨b, o + k, none⟩ = X.cell? ⟨b, o + k, none⟩) (fun _ _ h => h)
    (fun pre W => J pre W ∧ W.cell? ⟨Bs, 0, none⟩ = some (.int .i64 s) ∧ ∀ k, k < m → W.cell? ⟨b, o + k, none⟩ = some (.slice (A k) (L k) (C k))) (fun pre W => Jx pre W) (fun pre x V hV hl => ?_) W
    ((hW.cell (p := ⟨Bt, 0, none⟩) h1).trans hBt) cs cr ⟨hj, cs, cr⟩) ?_
  · obtain ⟨hjv, c1, c2⟩ := hV
    obtain ⟨fn, tmps, assign, body, hy, hR⟩ := hY pre x V hjv trivial hl
    refine ⟨fn, tmps, assign, body, hy, hR.mono ?_⟩
    rintro e W' (⟨r1, r2, r3⟩ | ⟨r1, r2, _⟩)
    · have d1 := r3.cell (a := ⟨Bs, 0, none⟩) (fun h => (hown _ h).2 (.inr (.inl rfl))) c1
      have d2 := fun k (hk : k < m) => r3.cell (a := ⟨b, o + k, none⟩) (fun h => (hown _ h).2 (.inr (.inr rfl))) (c2 k hk)
      exact .inl ⟨r1, ⟨r2, d1, d2⟩, d1.trans c1.symm, fun k hk => (d2 k hk).trans (c2 k hk).symm⟩
    · exact .inr ⟨r1, r2⟩
  · rintro e W' ⟨r1, (⟨zs, rfl, hj2⟩ | ⟨pre, _, hj2⟩)⟩
    · exact ⟨r1, .inl ⟨_, rfl, hj2.1⟩⟩
    · exact ⟨r1, .inr ⟨_, trivial, hj2⟩⟩
theorem opIn_round {lp n : Nat} {P : Program} {Q : Exit → Act → World → Prop} {o : Oper} {a : Act} {w : World} {K : Act → World → Prop} (hd : ∀ c, o.op ≠ .defer c) (h : o.wpIn Fence.wide n P a w K Q) : o.wpIn (Fence.wide.inRound lp) n P a w K Q :=
  ⟨h.1, by
    have h2 := h.2
    rw [Oper.semAt_eq _ _ _ hd] at h2 ⊢
    exact h2⟩
theorem wpAnyIn_round {lp n : Nat} {P : Program} {md : Region.Mode} {ops : Array Oper} {Q : Exit → Act → World → Prop} (hd : ∀ (i : Nat) (o : Oper), ops[i]? = some o → ∀ c, o.op ≠ .defer c) :
    ∀ (fuel : Nat) (listed : Array Bool) (a : Act) (w : World), wpAnyIn Fence.wide n P md ops Q fuel listed a w → wpAnyIn (Fence.wide.inRound lp) n P md ops Q fuel listed a w
  | 0, _, _, _, h => h
  | fuel + 1, listed, a, w, h => ⟨h.1, fun i hi => by
      have h2 := h.2 i hi
      unfold wpOpIn at h2 ⊢
      split
      · rename_i e
        simp only [e] at h2
        exact wpAnyIn_round hd fuel _ _ _ h2
      · rename_i o e
        simp only [e] at h2
        split
        · rename_i hw
          simp only [hw, if_true] at h2
          exact Oper.wpIn_mono (fun a w h => wpAnyIn_round hd fuel _ a w h) (opIn_round (hd i o e) h2)
        · rename_i hw
          simp only [hw] at h2
          exact ⟨h2.1, wpAnyIn_round hd fuel _ _ _ h2.2⟩⟩
theorem sel_fullF (n : Nat) : ∀ k, k ≤ n → (sel (2 ^ n - 1) n k).map (·.1) = List.range k
  | 0, _ => rfl
  | k + 1, h => by
    rw [sel_yes _ n k (by omega) (by rw [Nat.testBit_two_pow_sub_one]; simp; omega), List.map_append, sel_fullF n k (by omega), List.range_succ]
    rfl

theorem runS_shl : ∀ k f : Fin 7, k.val + f.val ≤ 6 → wrap64 (((2 ^ k.val - 1 : Nat) : Int) * 2 ^ f.val) = ((runS f.val k.val : Nat) : Int) := by decide +kernel
theorem setBack_any (last n : Nat) (h1 : 1 ≤ n) (h2 : n ≤ last + 1) (h3 : last ≤ 5) (w : World) :
    Calls Try.prog 80 #[.int .i64 last, .int .i64 n] w fun e w' => e = .returned (.int .i64 (runS (last + 1 - n) n : Nat)) ∧ w = w' := by
  have E := Lib.hid (fullSet_any n (by omega) w)
  have hw1 : IntKind.i64.wrap ((last : Int) + 1) = (last : Int) + 1 := IntWalk.i64_in _ ⟨by omega, by omega⟩
  have hw2 : IntKind.i64.wrap ((last : Int) + 1 - (n : Int)) = ((last + 1 - n : Nat) : Int) := by rw [IntWalk.i64_in _ ⟨by omega, by omega⟩]; omega
  go_enter Try.func80, Try.ntmps80
  go_wp2_with fail
  refine (E.out).mono ?_
  rintro e w2 ⟨rfl, rfl⟩
  go_wp2_with fail
  go_ret
  have e := runS_shl ⟨n, by omega⟩ ⟨last + 1 - n, by omega⟩ (by simp only; omega)
  simp only at e
  exact ⟨by rw [← e]; rfl, rfl⟩

theorem first_len (m : Nat) : ∀ k, ((List.range k).flatMap (firstRow m)).length = k * m
  | 0 => by simp
  | k + 1 => by
    rw [List.range_succ, List.flatMap_append, List.length_append, first_len m k, Nat.succ_mul]
    simp [firstRow]
theorem first_len' (is : List Nat) (m : Nat) : (is.flatMap (firstRow m)).length = is.length * m := by
  induction is with
  | nil => simp
  | cons i is ih => rw [List.flatMap_cons, List.length_append, ih, List.length_cons, Nat.succ_mul]; simp [firstRow]; omega
theorem firstRow_snoc (m i k : Nat) (h : k < m) : (firstRow m i).take (k + 1) = (firstRow m i).take k ++ [(runS (i + 1 - (min i k + 1)) (min i k + 1), runS (k + 1 - (min i k + 1)) (min i k + 1))] := by
  unfold firstRow
  rw [List.take_add_one, List.getElem?_map, List.getElem?_range h]
  rfl

set_option maxRecDepth 100000 in
set_option maxHeartbeats 2000000 in
theorem first_seqE (f : Nat) (hf : 12 ≤ f) (Bt n m cap : Nat) (a : Option Addr) (l : List (List Int)) (w0 w : World) (hn : l.length = n) (hT : TabIn l) (hmm : (l.getD 0 []).length = m) (hm : MatR w0 a l) (hold : OldT w0.heap.size w0 w) (_hz0 : w0.heap.size ≤ w.heap.size) (hBt : w0.heap.size ≤ Bt) (ct : w.cell? ⟨Bt, 0, none⟩ = some (.slice a n cap)) :
    SeqE Fence.wide f Try.prog 79 #[.pointer (some ⟨Bt, 0, none⟩)] encP (fun x _ => x ∈ partsF n m) (fun q => q < w0.heap.size ∨ q = Bt) (fun ys => ys = partsF n m) (fun _ => True) 64 w := by
  intro lp J Jx own W hW hown hJ hJx hY hj
  have h6 := hT.2.1
  have h1 := hT.1
  have hw := hT.width
  rw [hn] at h6 h1
  rw [hmm] at hw
  have lt := World.block_lt_of_cell? _ _ ct
  simp only at lt
  have c1 := (hW.cell (p := ⟨Bt, 0, none⟩) lt).trans ct
  have hWz := hW.size
  have hOW : OldT w0.heap.size w0 W := fun q hq => (hW.block q (by omega)).trans (hold q hq)
  have hso : ∀ q, own q → w0.heap.size ≤ q ∧ q ≠ Bt ∧ q < W.heap.size := fun q hq => by
    obtain ⟨g1, g2⟩ := hown q hq
    exact ⟨by
      by_cases e : q < w0.heap.size
      · exact absurd (.inl e) g2
      · omega, fun e => g2 (.inr e), g1⟩
  obtain ⟨b, o, A, C, rfl, hc0⟩ := hm (by omega)
  have hc : ∀ k, k < n → w0.cell? ⟨b, o + k, none⟩ = some (.slice (A k) m (C k)) := fun k hk => by
    have := (hc0 k (by omega)).1
    rw [hT.row (by omega), hmm] at this
    exact this
  have hbl := World.block_lt_of_cell? _ _ (hc 0 (by omega))
  simp only at hbl
  have p63 : 2 ^ n ≤ 2 ^ 6 := Nat.pow_le_pow_right (by omega) h6
  have EA := Lib.hid (fun (V : World) => allRows_any (some ⟨b, o, none⟩) cap n V h6)
  have EB := Lib.hid (fun (x y : Nat) (h1 : 1 ≤ y) (h2 : y ≤ x + 1) (h3 : x ≤ 5) (V : World) => setBack_any x y h1 h2 h3 V)
  clear hold ct hm hmm hT hn hc0
  refine callsIn_of_wp_marks Try.func79 rfl trivial ?_ rfl
  simp only [Try.ntmps79, List.size_toArray, List.length_cons, List.length_nil, Nat.reduceAdd, Nat.reduceSub, Array.replicate_succ, Array.replicate_zero, List.push_toArray, List.append_toArray, List.nil_append, List.cons_append]
  have c2 : (W.alloc (.cells #[.func (.yield lp) #[] #[]] 89)).cell? ⟨Bt, 0, none⟩ = _ := cell_alloc_l _ c1
  have y0 : (W.alloc (.cells #[.func (.yield lp) #[] #[]] 89)).cell? ⟨W.heap.size, 0, none⟩ = _ := (cell_new_l W _ _).1
  have hso3 : ∀ q, own q → w0.heap.size ≤ q ∧ q ≠ Bt ∧ q ≠ W.heap.size := fun q hq => by have := hso q hq; omega
  have c2d : (W.alloc (.cells #[.func (.yield lp) #[] #[]] 89)).drew.cell? ⟨Bt, 0, none⟩ = _ := c2
  gi_wp2
  refine wpIn_wide.2 ?_
  go_region_held3 (fun W' : World => W'.cell? ⟨Bt, 0, none⟩ = some (.slice (some ⟨b, o, none⟩) n cap)) (first | exact c2d | exact cell_alloc_l _ (cell_alloc_l _ c2d))
    (first
      | (go_at_call 78; refine (EA.out _).mono ?_; rintro e w' ⟨rfl, rfl⟩)
      | (go_at_call 77; refine (rows_any _ _ _ _ _).mono ?_; rintro e w' ⟨rfl, rfl⟩))
  gi_wp2
  have c3 := cell_alloc_l (.cells #[.int .i64 ((2 ^ n - 1 : Nat) : Int)] 3) (cell_alloc_l (.cells #[.slice (some ⟨b, o, none⟩) n cap] 42) c2)
  have y3 := cell_alloc_l (.cells #[.int .i64 ((2 ^ n - 1 : Nat) : Int)] 3) (cell_alloc_l (.cells #[.slice (some ⟨b, o, none⟩) n cap] 42) y0)
  have hbt := cell_alloc_l (.cells #[.int .i64 ((2 ^ n - 1 : Nat) : Int)] 3) (cell_new_l (W.alloc (.cells #[.func (.yield lp) #[] #[]] 89)) (.slice (some ⟨b, o, none⟩) n cap) 42).1
  have hbs := (cell_new_l ((W.alloc (.cells #[.func (.yield lp) #[] #[]] 89)).alloc (.cells #[.slice (some ⟨b, o, none⟩) n cap] 42)) (.int .i64 ((2 ^ n - 1 : Nat) : Int)) 3).1
  have hg2 := ((World.grownBy_alloc W (.cells #[.func (.yield lp) #[] #[]] 89) none).trans (World.grownBy_alloc _ (.cells #[.slice (some ⟨b, o, none⟩) n cap] 42) none)).trans (World.grownBy_alloc _ (.cells #[.int .i64 ((2 ^ n - 1 : Nat) : Int)] 3) none)
  have hjV := hJ.alloc (.cells #[.int .i64 ((2 ^ n - 1 : Nat) : Int)] 3) (hJ.alloc (.cells #[.slice (some ⟨b, o, none⟩) n cap] 42) (hJ.alloc (.cells #[.func (.yield lp) #[] #[]] 89) hj))
  have zV : (((W.alloc (.cells #[.func (.yield lp) #[] #[]] 89)).alloc (.cells #[.slice (some ⟨b, o, none⟩) n cap] 42)).alloc (.cells #[.int .i64 ((2 ^ n - 1 : Nat) : Int)] 3)).heap.size = W.heap.size + 3 := by simp
  simp only [World.size_alloc] at hbt hbs
  obtain ⟨V0, hV0⟩ : ∃ V, ((W.alloc (.cells #[.func (.yield lp) #[] #[]] 89)).alloc (.cells #[.slice (some ⟨b, o, none⟩) n cap] 42)).alloc (.cells #[.int .i64 ((2 ^ n - 1 : Nat) : Int)] 3) = V := ⟨_, rfl⟩
  rw [hV0] at hbt hbs c3 y3 hg2 hjV zV ⊢
  clear hV0 c1 c2 c2d y0
  have hbt : V0.drew.cell? _ = _ := hbt
  have hbs : V0.drew.cell? _ = _ := hbs
  have c3 : V0.drew.cell? _ = _ := c3
  have y3 : V0.drew.cell? _ = _ := y3
  have hjV := hJ _ V0 V0.drew none hjV (grown_drewP (World.grownBy.refl _ none)) (fun r e => by cases e)
  have hg2 := grown_drewP hg2
  have zV : V0.drew.heap.size = _ := zV
  obtain ⟨V, hV⟩ : ∃ V, V0.drew = V := ⟨_, rfl⟩
  rw [hV] at hbt hbs c3 y3 hg2 hjV zV ⊢
  clear hV
  have hAV : AB w0.heap.size w0 Bt W.heap.size lp (some ⟨b, o, none⟩) n cap V := ⟨c3, y3, hOW.grown (by omega) hg2 (fun r e => by cases e)⟩
  have hBX : w0.heap.size ≤ V.heap.size ∧ Bt < V.heap.size ∧ W.heap.size < V.heap.size := by omega
  have hcV : ∀ k, k < n → V.cell? ⟨b, o + k, none⟩ = some (.slice (A k) m (C k)) := fun k hk => (hAV.old.cell (by exact hbl)).trans (hc k hk)
  refine rangeF (F := Fence.wide) (n := f) rfl (by omega) (gf := 88) (lb := #[.pointer (some ⟨W.heap.size + 1, 0, none⟩), .pointer (some ⟨W.heap.size + 1 + 1, 0, none⟩)]) rfl trivial (enters_of Try.func88 (by kernel_rfl) rfl)
    (rows_seqE (f - 1) (by omega) (W.heap.size + 1) (W.heap.size + 1 + 1) b o n cap (2 ^ n - 1) (by omega) (by omega) A (fun _ => m) C V (by omega) (by omega) (by omega) hbt hbs hcV) (fun _ => rfl) own (fun q hq => ⟨by have := hso q hq; omega, by have := hso q hq; omega⟩) (fun q hq => by omega)
    (fun (rs : List {i : Nat // i < n}) X => J ((rs.map (fun x : {i : Nat // i < n} => x.1)).flatMap (firstRow m)) X ∧ AB w0.heap.size w0 Bt W.heap.size lp (some ⟨b, o, none⟩) n cap X ∧ V.heap.size ≤ X.heap.size)
    (fun c _ X => c = .ret ∧ ∃ q, Jx q X)
    (fun rs X Y row hs hg hr => ⟨hJ _ X Y row hs.1 hg (fun r e => by have := hr r e; omega), hs.2.1.grown (by have := hs.2.2; omega) hBX hg hr, Nat.le_trans hs.2.2 hg.size⟩)
    (fun c rs X Y row hs hg hr => ⟨hs.1, by
      obtain ⟨q, hq⟩ := hs.2
      exact ⟨q, hJx _ X Y row hq hg (fun r e => by have := hr r e; omega)⟩⟩)
    ⟨hjV, hAV, Nat.le_refl _⟩
    (fun x a' _ => a' = { tmps := #[.func (.yield lp) #[] #[], .pointer (some ⟨Bt, 0, none⟩), .pointer (some ⟨W.heap.size, 0, none⟩), .int .i64 (x.1 : Int), .slice (A x.1) m (C x.1), undef, undef, .slice (some ⟨b, o, none⟩) n cap, .slice (some ⟨b, o, none⟩) n cap, .int .i64 ((2 ^ n - 1 : Nat) : Int), .func (.func 88) #[] #[.pointer (some ⟨W.heap.size + 1, 0, none⟩), .pointer (some ⟨W.heap.size + 1 + 1, 0, none⟩)], .int .i64 (x.1 : Int), .slice (A x.1) m (C x.1), undef, undef, undef, undef, undef, undef, undef, undef, undef, undef, undef, undef, undef, undef, undef, undef, undef, undef, undef], defers := [] })
    (fun _ _ _ _ _ _ hA _ _ => hA)
    ?assign ?body ?done ?stop
  case assign =>
    rintro lq rs x X K hzX hi _ hK
    gi_wp2
    exact hK _ _ (Keeps.refl _ _) hi rfl
  case body =>
    rintro lq rs x a' X hlq hzX _ ⟨hjx, hAX, _⟩ _ rfl hlen
    obtain ⟨i, hi⟩ := x
    have hmix : Try.prog.follows .mixedOrders = true := by kernel_rfl
    have HJX := Lib.hid hjx
    have HAX := Lib.hid hAX
    have hrl := first_len' (rs.map (fun x : {i : Nat // i < n} => x.1)) m
    rw [List.length_map] at hrl
    have hrl2 : rs.length * m ≤ 5 * 6 := Nat.mul_le_mul (by omega) hw.2
    simp only
    clear hjx hAX
    gi_wp2
    gi_loopw [15] (fun kv wr => ∃ k : Nat, k ≤ m ∧ kv = .int .i64 k ∧ J ((rs.map (fun x : {i : Nat // i < n} => x.1)).flatMap (firstRow m) ++ (firstRow m i).take k) wr ∧ AB w0.heap.size w0 Bt W.heap.size lp (some ⟨b, o, none⟩) n cap wr ∧ Keeps own X wr ∧ V.heap.size ≤ wr.heap.size) (fun kv _ => m - (intOf kv).toNat)
    case atStart => exact ⟨0, Nat.zero_le _, rfl, by rw [List.take_zero, List.append_nil]; exact HJX.out, HAX.out, Keeps.refl _ _, hzX⟩
    case round =>
      obtain ⟨k, hk, rfl, hjr, hAr, hkr, hzr⟩ := hrel
      by_cases hlt : k < m
      · obtain ⟨e, he⟩ : ∃ e, min i k + 1 = e := ⟨_, rfl⟩
        have hfs := firstRow_snoc m i k hlt
        have hmem : (runS (i + 1 - (min i k + 1)) (min i k + 1), runS (k + 1 - (min i k + 1)) (min i k + 1)) ∈ partsF n m := partsF_mem.2 ⟨i, k, hi, hlt, rfl⟩
        simp only [he] at hfs hmem
        have ES1 := EB.out i e (by omega) (by omega) (by omega)
        have ES2 := EB.out k e (by omega) (by omega) (by omega)
        obtain ⟨s1, hs1⟩ : ∃ s, runS (i + 1 - e) e = s := ⟨_, rfl⟩
        obtain ⟨s2, hs2⟩ : ∃ s, runS (k + 1 - e) e = s := ⟨_, rfl⟩
        simp only [hs1, hs2] at hfs hmem ES1 ES2
        have hl4 : ((rs.map (fun x : {i : Nat // i < n} => x.1)).flatMap (firstRow m) ++ (firstRow m i).take k).length < 64 := by
          rw [List.length_append, List.length_take]; omega
        obtain ⟨fn, tmps, assign, body, hy, hR⟩ := yieldAt_any (m' := f - 1 - 1 - 1) (hY _ (s1, s2) wr.drew (hJ _ wr wr.drew none hjr (grown_drewP (World.grownBy.refl _ none)) (fun r e => by cases e)) hmem hl4)
        dsimp only [encP] at hy
        have cY : wr.drew.cell? ⟨W.heap.size, 0, none⟩ = _ := hAr.yb
        have HKEEP := Lib.hid (show ∀ Z, Keeps own wr.drew Z → AB w0.heap.size w0 Bt W.heap.size lp (some ⟨b, o, none⟩) n cap Z ∧ Keeps own X Z ∧ V.heap.size ≤ Z.heap.size from fun Z hk => by
          have hk2 : Keeps own wr Z := (Keeps.grown (grown_drewP (World.grownBy.refl _ none)) (fun r e => by cases e)).trans hk
          exact ⟨hAr.keeps (by omega) hk2 hso3, hkr.trans hk2, by have := hk2.size; omega⟩)
        replace ES1 := Lib.hid (fun (V : World) => ES1 V)
        replace ES2 := Lib.hid (fun (V : World) => ES2 V)
        have HFS := Lib.hid hfs
        have hwe : IntKind.i64.wrap (((min i k : Nat) : Int) + 1) = (e : Int) := by rw [IntWalk.i64_in _ ⟨by omega, by omega⟩]; omega
        have hwk : IntKind.i64.wrap ((k : Int) + 1) = ((k + 1 : Nat) : Int) := by rw [IntWalk.i64_in _ ⟨by omega, by omega⟩]; omega
        clear hjr hAr hkr hfs hmem hs1 hs2 hl4 hc hcV hAV hbt hbs c3 y3 hg2 hjV
        have hii : (0:Int) ≤ (i:Int) := by omega
        by_cases hik : k < i
        · rw [show ((min i k : Nat) : Int) = (k : Int) by omega] at hwe
          gi_wp2
          refine wpIn_region_any hmix (wpAnyIn_round (noDefer_of (by kernel_rfl)) _ _ _ _ ?_)
          change wpAnyIn _ _ _ _ _ _ _ _ _ (World.drew _)
          refine wpAnyIn_take (i := 1) (v := .int .i64 i) rfl rfl (by kernel_rfl) (by kernel_rfl) (by kernel_rfl) (fun _ _ _ h => h) ⟨Or.inl ⟨by rfl, fun w => by go_simp⟩, fun _ => rfl⟩ ?_
          simp only [Act.put]
          refine wpAnyIn_take (i := 2) (v := .int .i64 e) rfl rfl (by kernel_rfl) (by kernel_rfl) (by kernel_rfl) (fun _ _ _ h => h) ⟨Or.inl ⟨by rfl, fun w => by go_simp⟩, fun _ => rfl⟩ ?_
          simp only [Act.put]
          refine wpAnyIn_take (i := 4) (v := .int .i64 k) rfl rfl (by kernel_rfl) (by kernel_rfl) (by kernel_rfl) (fun _ _ _ h => h) ⟨Or.inl ⟨by rfl, fun w => by go_simp⟩, fun _ => rfl⟩ ?_
          simp only [Act.put]
          refine wpAnyIn_take (i := 5) (v := .int .i64 e) rfl rfl (by kernel_rfl) (by kernel_rfl) (by kernel_rfl) (fun _ _ _ h => h) ⟨Or.inl ⟨by rfl, fun w => by go_simp⟩, fun _ => rfl⟩ ?_
          simp only [Act.put]
          refine wpAnyIn_ready (rs := [0, 3]) (by kernel_rfl) (by simp) (AllReadyIn.cons rfl (fun K hK => ?pA) (AllReadyIn.cons rfl (fun K hK => ?pB) AllReadyIn.nil))
          case pA =>
            go_simp
            refine hK _ _ ?_
            clear hK K
            refine wpAnyIn_ready (rs := [3]) (by kernel_rfl) (by simp) (AllReadyIn.cons rfl (fun K hK => ?_) AllReadyIn.nil)
            go_simp
            refine ⟨trivial, fun _ => by omega, ?_⟩
            gi_at_call 80
            refine (callsIn_wide.2 (ES1.out _)).mono ?_
            rintro e w' ⟨rfl, rfl⟩
            refine hK _ _ ?_
            clear hK K
            refine wpAnyIn_ready (rs := [6]) (by kernel_rfl) (by simp) (AllReadyIn.cons rfl (fun K hK => ?_) AllReadyIn.nil)
            go_simp
            refine ⟨trivial, fun _ => by omega, ?_⟩
            gi_at_call 80
            refine (callsIn_wide.2 (ES2.out _)).mono ?_
            rintro e w' ⟨rfl, rfl⟩
            refine hK _ _ ?_
            clear hK K
            refine wpAnyIn_ready (rs := [7]) (by kernel_rfl) (by simp) (AllReadyIn.cons rfl (fun K hK => ?_) AllReadyIn.nil)
            go_simp
            refine ⟨fun _ => by omega, hR.mono ?_⟩
            rintro e W3 (⟨rfl, hJ3, hk3⟩ | ⟨rfl, hx3, hk3⟩)
            · obtain ⟨q1, q2, q3⟩ := HKEEP.out _ hk3
              refine hK _ _ ?_
              clear hK K
              refine wpAnyIn_ready (rs := [8]) (by kernel_rfl) (by simp) (AllReadyIn.cons rfl (fun K hK => ?_) AllReadyIn.nil)
              go_simp
              refine hK _ _ ?_
              clear hK K
              refine wpAnyIn_done (by kernel_rfl) ?_ _
              gi_wp2
              go_roundw
              case rel => exact ⟨k + 1, by omega, by (first | rfl | (simp only [Value.int.injEq, true_and]; omega)), by rw [HFS.out, ← List.append_assoc]; exact hJ3, q1, q2, q3⟩
              case measure => simp [intOf]; omega
            · obtain ⟨q1, q2, q3⟩ := HKEEP.out _ hk3
              refine hK _ _ ?_
              clear hK K
              refine wpAnyIn_ready (rs := [8]) (by kernel_rfl) (by simp) (AllReadyIn.cons rfl (fun K hK => ?_) AllReadyIn.nil)
              go_simp
              refine hK _ _ ?_
              clear hK K
              refine wpAnyIn_done (by kernel_rfl) ?_ _
              gi_wp2
              exact ⟨q2, rfl, _, hx3⟩
          case pB =>
            go_simp
            refine ⟨trivial, fun _ => by omega, ?_⟩
            gi_at_call 80
            refine (callsIn_wide.2 (ES1.out _)).mono ?_
            rintro e w' ⟨rfl, rfl⟩
            refine hK _ _ ?_
            clear hK K
            refine wpAnyIn_ready (rs := [0, 6]) (by kernel_rfl) (by simp) (AllReadyIn.cons rfl (fun K hK => ?pC) (AllReadyIn.cons rfl (fun K hK => ?pD) AllReadyIn.nil))
            case pC =>
              go_simp
              refine hK _ _ ?_
              clear hK K
              refine wpAnyIn_ready (rs := [6]) (by kernel_rfl) (by simp) (AllReadyIn.cons rfl (fun K hK => ?_) AllReadyIn.nil)
              go_simp
              refine ⟨trivial, fun _ => by omega, ?_⟩
              gi_at_call 80
              refine (callsIn_wide.2 (ES2.out _)).mono ?_
              rintro e w' ⟨rfl, rfl⟩
              refine hK _ _ ?_
              clear hK K
              refine wpAnyIn_ready (rs := [7]) (by kernel_rfl) (by simp) (AllReadyIn.cons rfl (fun K hK => ?_) AllReadyIn.nil)
              go_simp
              refine ⟨fun _ => by omega, hR.mono ?_⟩
              rintro e W3 (⟨rfl, hJ3, hk3⟩ | ⟨rfl, hx3, hk3⟩)
              · obtain ⟨q1, q2, q3⟩ := HKEEP.out _ hk3
                refine hK _ _ ?_
                clear hK K
                refine wpAnyIn_ready (rs := [8]) (by kernel_rfl) (by simp) (AllReadyIn.cons rfl (fun K hK => ?_) AllReadyIn.nil)
                go_simp
                refine hK _ _ ?_
                clear hK K
                refine wpAnyIn_done (by kernel_rfl) ?_ _
                gi_wp2
                go_roundw
                case rel => exact ⟨k + 1, by omega, by (first | rfl | (simp only [Value.int.injEq, true_and]; omega)), by rw [HFS.out, ← List.append_assoc]; exact hJ3, q1, q2, q3⟩
                case measure => simp [intOf]; omega
              · obtain ⟨q1, q2, q3⟩ := HKEEP.out _ hk3
                refine hK _ _ ?_
                clear hK K
                refine wpAnyIn_ready (rs := [8]) (by kernel_rfl) (by simp) (AllReadyIn.cons rfl (fun K hK => ?_) AllReadyIn.nil)
                go_simp
                refine hK _ _ ?_
                clear hK K
                refine wpAnyIn_done (by kernel_rfl) ?_ _
                gi_wp2
                exact ⟨q2, rfl, _, hx3⟩
            case pD =>
              go_simp
              refine ⟨trivial, fun _ => by omega, ?_⟩
              gi_at_call 80
              refine (callsIn_wide.2 (ES2.out _)).mono ?_
              rintro e w' ⟨rfl, rfl⟩
              refine hK _ _ ?_
              clear hK K
              refine wpAnyIn_ready (rs := [0]) (by kernel_rfl) (by simp) (AllReadyIn.cons rfl (fun K hK => ?_) AllReadyIn.nil)
              go_simp
              refine hK _ _ ?_
              clear hK K
              refine wpAnyIn_ready (rs := [7]) (by kernel_rfl) (by simp) (AllReadyIn.cons rfl (fun K hK => ?_) AllReadyIn.nil)
              go_simp
              refine ⟨fun _ => by omega, hR.mono ?_⟩
              rintro e W3 (⟨rfl, hJ3, hk3⟩ | ⟨rfl, hx3, hk3⟩)
              · obtain ⟨q1, q2, q3⟩ := HKEEP.out _ hk3
                refine hK _ _ ?_
                clear hK K
                refine wpAnyIn_ready (rs := [8]) (by kernel_rfl) (by simp) (AllReadyIn.cons rfl (fun K hK => ?_) AllReadyIn.nil)
                go_simp
                refine hK _ _ ?_
                clear hK K
                refine wpAnyIn_done (by kernel_rfl) ?_ _
                gi_wp2
                go_roundw
                case rel => exact ⟨k + 1, by omega, by (first | rfl | (simp only [Value.int.injEq, true_and]; omega)), by rw [HFS.out, ← List.append_assoc]; exact hJ3, q1, q2, q3⟩
                case measure => simp [intOf]; omega
              · obtain ⟨q1, q2, q3⟩ := HKEEP.out _ hk3
                refine hK _ _ ?_
                clear hK K
                refine wpAnyIn_ready (rs := [8]) (by kernel_rfl) (by simp) (AllReadyIn.cons rfl (fun K hK => ?_) AllReadyIn.nil)
                go_simp
                refine hK _ _ ?_
                clear hK K
                refine wpAnyIn_done (by kernel_rfl) ?_ _
                gi_wp2
                exact ⟨q2, rfl, _, hx3⟩
        · rw [show ((min i k : Nat) : Int) = (i : Int) by omega] at hwe
          gi_wp2
          refine wpIn_region_any hmix (wpAnyIn_round (noDefer_of (by kernel_rfl)) _ _ _ _ ?_)
          change wpAnyIn _ _ _ _ _ _ _ _ _ (World.drew _)
          refine wpAnyIn_take (i := 1) (v := .int .i64 i) rfl rfl (by kernel_rfl) (by kernel_rfl) (by kernel_rfl) (fun _ _ _ h => h) ⟨Or.inl ⟨by rfl, fun w => by go_simp⟩, fun _ => rfl⟩ ?_
          simp only [Act.put]
          refine wpAnyIn_take (i := 2) (v := .int .i64 e) rfl rfl (by kernel_rfl) (by kernel_rfl) (by kernel_rfl) (fun _ _ _ h => h) ⟨Or.inl ⟨by rfl, fun w => by go_simp⟩, fun _ => rfl⟩ ?_
          simp only [Act.put]
          refine wpAnyIn_take (i := 4) (v := .int .i64 k) rfl rfl (by kernel_rfl) (by kernel_rfl) (by kernel_rfl) (fun _ _ _ h => h) ⟨Or.inl ⟨by rfl, fun w => by go_simp⟩, fun _ => rfl⟩ ?_
          simp only [Act.put]
          refine wpAnyIn_take (i := 5) (v := .int .i64 e) rfl rfl (by kernel_rfl) (by kernel_rfl) (by kernel_rfl) (fun _ _ _ h => h) ⟨Or.inl ⟨by rfl, fun w => by go_simp⟩, fun _ => rfl⟩ ?_
          simp only [Act.put]
          refine wpAnyIn_ready (rs := [0, 3]) (by kernel_rfl) (by simp) (AllReadyIn.cons rfl (fun K hK => ?pA) (AllReadyIn.cons rfl (fun K hK => ?pB) AllReadyIn.nil))
          case pA =>
            go_simp
            refine hK _ _ ?_
            clear hK K
            refine wpAnyIn_ready (rs := [3]) (by kernel_rfl) (by simp) (AllReadyIn.cons rfl (fun K hK => ?_) AllReadyIn.nil)
            go_simp
            refine ⟨trivial, fun _ => by omega, ?_⟩
            gi_at_call 80
            refine (callsIn_wide.2 (ES1.out _)).mono ?_
            rintro e w' ⟨rfl, rfl⟩
            refine hK _ _ ?_
            clear hK K
            refine wpAnyIn_ready (rs := [6]) (by kernel_rfl) (by simp) (AllReadyIn.cons rfl (fun K hK => ?_) AllReadyIn.nil)
            go_simp
            refine ⟨trivial, fun _ => by omega, ?_⟩
            gi_at_call 80
            refine (callsIn_wide.2 (ES2.out _)).mono ?_
            rintro e w' ⟨rfl, rfl⟩
            refine hK _ _ ?_
            clear hK K
            refine wpAnyIn_ready (rs := [7]) (by kernel_rfl) (by simp) (AllReadyIn.cons rfl (fun K hK => ?_) AllReadyIn.nil)
            go_simp
            refine ⟨fun _ => by omega, hR.mono ?_⟩
            rintro e W3 (⟨rfl, hJ3, hk3⟩ | ⟨rfl, hx3, hk3⟩)
            · obtain ⟨q1, q2, q3⟩ := HKEEP.out _ hk3
              refine hK _ _ ?_
              clear hK K
              refine wpAnyIn_ready (rs := [8]) (by kernel_rfl) (by simp) (AllReadyIn.cons rfl (fun K hK => ?_) AllReadyIn.nil)
              go_simp
              refine hK _ _ ?_
              clear hK K
              refine wpAnyIn_done (by kernel_rfl) ?_ _
              gi_wp2
              go_roundw
              case rel => exact ⟨k + 1, by omega, by (first | rfl | (simp only [Value.int.injEq, true_and]; omega)), by rw [HFS.out, ← List.append_assoc]; exact hJ3, q1, q2, q3⟩
              case measure => simp [intOf]; omega
            · obtain ⟨q1, q2, q3⟩ := HKEEP.out _ hk3
              refine hK _ _ ?_
              clear hK K
              refine wpAnyIn_ready (rs := [8]) (by kernel_rfl) (by simp) (AllReadyIn.cons rfl (fun K hK => ?_) AllReadyIn.nil)
              go_simp
              refine hK _ _ ?_
              clear hK K
              refine wpAnyIn_done (by kernel_rfl) ?_ _
              gi_wp2
              exact ⟨q2, rfl, _, hx3⟩
          case pB =>
            go_simp
            refine ⟨trivial, fun _ => by omega, ?_⟩
            gi_at_call 80
            refine (callsIn_wide.2 (ES1.out _)).mono ?_
            rintro e w' ⟨rfl, rfl⟩
            refine hK _ _ ?_
            clear hK K
            refine wpAnyIn_ready (rs := [0, 6]) (by kernel_rfl) (by simp) (AllReadyIn.cons rfl (fun K hK => ?pC) (AllReadyIn.cons rfl (fun K hK => ?pD) AllReadyIn.nil))
            case pC =>
              go_simp
              refine hK _ _ ?_
              clear hK K
              refine wpAnyIn_ready (rs := [6]) (by kernel_rfl) (by simp) (AllReadyIn.cons rfl (fun K hK => ?_) AllReadyIn.nil)
              go_simp
              refine ⟨trivial, fun _ => by omega, ?_⟩
              gi_at_call 80
              refine (callsIn_wide.2 (ES2.out _)).mono ?_
              rintro e w' ⟨rfl, rfl⟩
              refine hK _ _ ?_
              clear hK K
              refine wpAnyIn_ready (rs := [7]) (by kernel_rfl) (by simp) (AllReadyIn.cons rfl (fun K hK => ?_) AllReadyIn.nil)
              go_simp
              refine ⟨fun _ => by omega, hR.mono ?_⟩
              rintro e W3 (⟨rfl, hJ3, hk3⟩ | ⟨rfl, hx3, hk3⟩)
              · obtain ⟨q1, q2, q3⟩ := HKEEP.out _ hk3
                refine hK _ _ ?_
                clear hK K
                refine wpAnyIn_ready (rs := [8]) (by kernel_rfl) (by simp) (AllReadyIn.cons rfl (fun K hK => ?_) AllReadyIn.nil)
                go_simp
                refine hK _ _ ?_
                clear hK K
                refine wpAnyIn_done (by kernel_rfl) ?_ _
                gi_wp2
                go_roundw
                case rel => exact ⟨k + 1, by omega, by (first | rfl | (simp only [Value.int.injEq, true_and]; omega)), by rw [HFS.out, ← List.append_assoc]; exact hJ3, q1, q2, q3⟩
                case measure => simp [intOf]; omega
              · obtain ⟨q1, q2, q3⟩ := HKEEP.out _ hk3
                refine hK _ _ ?_
                clear hK K
                refine wpAnyIn_ready (rs := [8]) (by kernel_rfl) (by simp) (AllReadyIn.cons rfl (fun K hK => ?_) AllReadyIn.nil)
                go_simp
                refine hK _ _ ?_
                clear hK K
                refine wpAnyIn_done (by kernel_rfl) ?_ _
                gi_wp2
                exact ⟨q2, rfl, _, hx3⟩
            case pD =>
              go_simp
              refine ⟨trivial, fun _ => by omega, ?_⟩
              gi_at_call 80
              refine (callsIn_wide.2 (ES2.out _)).mono ?_
              rintro e w' ⟨rfl, rfl⟩
              refine hK _ _ ?_
              clear hK K
              refine wpAnyIn_ready (rs := [0]) (by kernel_rfl) (by simp) (AllReadyIn.cons rfl (fun K hK => ?_) AllReadyIn.nil)
              go_simp
              refine hK _ _ ?_
              clear hK K
              refine wpAnyIn_ready (rs := [7]) (by kernel_rfl) (by simp) (AllReadyIn.cons rfl (fun K hK => ?_) AllReadyIn.nil)
              go_simp
              refine ⟨fun _ => by omega, hR.mono ?_⟩
              rintro e W3 (⟨rfl, hJ3, hk3⟩ | ⟨rfl, hx3, hk3⟩)
              · obtain ⟨q1, q2, q3⟩ := HKEEP.out _ hk3
                refine hK _ _ ?_
                clear hK K
                refine wpAnyIn_ready (rs := [8]) (by kernel_rfl) (by simp) (AllReadyIn.cons rfl (fun K hK => ?_) AllReadyIn.nil)
                go_simp
                refine hK _ _ ?_
                clear hK K
                refine wpAnyIn_done (by kernel_rfl) ?_ _
                gi_wp2
                go_roundw
                case rel => exact ⟨k + 1, by omega, by (first | rfl | (simp only [Value.int.injEq, true_and]; omega)), by rw [HFS.out, ← List.append_assoc]; exact hJ3, q1, q2, q3⟩
                case measure => simp [intOf]; omega
              · obtain ⟨q1, q2, q3⟩ := HKEEP.out _ hk3
                refine hK _ _ ?_
                clear hK K
                refine wpAnyIn_ready (rs := [8]) (by kernel_rfl) (by simp) (AllReadyIn.cons rfl (fun K hK => ?_) AllReadyIn.nil)
                go_simp
                refine hK _ _ ?_
                clear hK K
                refine wpAnyIn_done (by kernel_rfl) ?_ _
                gi_wp2
                exact ⟨q2, rfl, _, hx3⟩
      · obtain rfl : k = m := by omega
        gi_wp2
        refine ⟨hkr, ?_, hAr, hzr⟩
        rw [List.map_append, List.flatMap_append]
        have e : (firstRow k i).take k = firstRow k i := List.take_of_length_le (by simp [firstRow])
        rw [e] at hjr
        simpa using hjr
  case done =>
    rintro D rs X hD rfl ⟨hjx, _, _⟩ hK
    have hjz := hJ.put (.deferred none) hjx (show W.heap.size ≤ D by omega)
    gi_wp2
    show LeavesInM _ _ _ _ _ _ _ _ _
    refine ⟨by simp, .inl ⟨_, _, rfl, run_takeDeferred hK, ?_⟩⟩
    refine ⟨.tuple #[], ?_, ⟨_, rfl⟩, .inl ⟨_, rfl, by rw [sel_fullF n n (Nat.le_refl n)] at hjz; exact hjz⟩⟩
    simp [results, Try.f79, go_sem]
  case stop =>
    rintro D c rs X hD _ ⟨rfl, q, hq⟩ hK
    have hjz := hJx.put (.deferred none) hq (show W.heap.size ≤ D by omega)
    gi_wp2
    show LeavesInM _ _ _ _ _ _ _ _ _
    refine ⟨by simp, .inl ⟨_, _, rfl, run_takeDeferred hK, ?_⟩⟩
    refine ⟨.tuple #[], ?_, ⟨_, rfl⟩, .inr ⟨q, trivial, hjz⟩⟩
    simp [results, Try.f79, go_sem]

end Go.Proofs.Ytlgjplhffpmfpaa
end

section
namespace Go.Proofs.Ytlgjplhffpmfpaa
open Go.RowKit Go.Deep Go.Shelf
attribute [local go_sem] Oper.semAt_some

theorem allParts_any (a : Option Addr) (n cap : Nat) (w : World) :
    Calls Try.prog 64 #[.slice a n cap] w fun e w' => e = .returned (.func (.func 84) #[] #[.pointer (some ⟨w.heap.size, 0, none⟩)]) ∧ w' = w.alloc (.cells #[.slice a n cap] 42) := by
  go_enter Try.func64, Try.ntmps64
  go_wp2
  go_ret
  exact ⟨rfl, rfl⟩

theorem withAll_any (a : Option Addr) (n cap : Nat) (w : World) :
    Calls Try.prog 34 #[.slice a n cap] w fun e w' => e = .returned (posV a n cap 84 #[.pointer (some ⟨w.heap.size + 1, 0, none⟩)]) ∧ w.Since w.heap.size w' ∧ w'.cell? ⟨w.heap.size + 1, 0, none⟩ = some (.slice a n cap) := by
  have EA := Lib.hid (fun (W : World) => allParts_any a n cap W)
  go_enter Try.func34, Try.ntmps34
  go_wp2_with fail
  refine (EA.out _).mono ?_
  rintro e w2 ⟨rfl, rfl⟩
  have hB : ((w.alloc (.cells #[.slice none 0 0, Value.nilFunc] 46)).alloc (.cells #[.slice a n cap] 42)).heap[w.heap.size]? = some (.cells #[.slice none 0 0, Value.nilFunc] 46) := (Below.heap_alloc _ _ _ (by simp)).trans (World.alloc_heap_new w _)
  have hc := (cells2 hB)
  obtain ⟨hc0, hc1⟩ := hc
  go_wp2_with fail
  refine bodyPost_ret (v := posV a n cap 84 #[.pointer (some ⟨w.heap.size + 1, 0, none⟩)]) ?_ rfl ?_
  · have hB2 : ((w.alloc (.cells #[.slice a n cap, .func (.func 84) #[] #[.pointer (some ⟨w.heap.size + 1, 0, none⟩)]] 46)).alloc (.cells #[.slice a n cap] 42)).heap[w.heap.size]? = some (.cells #[.slice a n cap, .func (.func 84) #[] #[.pointer (some ⟨w.heap.size + 1, 0, none⟩)]] 46) := (Below.heap_alloc _ _ _ (by simp)).trans (World.alloc_heap_new w _)
    obtain ⟨d0, d1⟩ := cells2 hB2
    simp [results, Try.f34, go_sem, d0, d1, posV]
  · have h := (cell_new_l (w.alloc (.cells #[.slice a n cap, .func (.func 84) #[] #[.pointer (some ⟨w.heap.size + 1, 0, none⟩)]] 46)) (.slice a n cap) 42).1
    rw [World.size_alloc] at h
    exact ⟨rfl, ((World.Since.refl _ w).alloc (Nat.le_refl _) _).alloc (by simp) _, h⟩

theorem firstParts_any (a : Option Addr) (n cap : Nat) (w : World) :
    Calls Try.prog 61 #[.slice a n cap] w fun e w' => e = .returned (.func (.func 79) #[] #[.pointer (some ⟨w.heap.size, 0, none⟩)]) ∧ w' = w.alloc (.cells #[.slice a n cap] 42) := by
  go_enter Try.func61, Try.ntmps61
  go_wp2
  go_ret
  exact ⟨rfl, rfl⟩

theorem withFirst_any (a : Option Addr) (n cap : Nat) (w : World) :
    Calls Try.prog 28 #[.slice a n cap] w fun e w' => e = .returned (posV a n cap 79 #[.pointer (some ⟨w.heap.size + 1, 0, none⟩)]) ∧ w.Since w.heap.size w' ∧ w'.cell? ⟨w.heap.size + 1, 0, none⟩ = some (.slice a n cap) := by
  have EA := Lib.hid (fun (W : World) => firstParts_any a n cap W)
  go_enter Try.func28, Try.ntmps28
  go_wp2_with fail
  refine (EA.out _).mono ?_
  rintro e w2 ⟨rfl, rfl⟩
  have hB : ((w.alloc (.cells #[.slice none 0 0, Value.nilFunc] 46)).alloc (.cells #[.slice a n cap] 42)).heap[w.heap.size]? = some (.cells #[.slice none 0 0, Value.nilFunc] 46) := (Below.heap_alloc _ _ _ (by simp)).trans (World.alloc_heap_new w _)
  have hc := (cells2 hB)
  obtain ⟨hc0, hc1⟩ := hc
  go_wp2_with fail
  refine bodyPost_ret (v := posV a n cap 79 #[.pointer (some ⟨w.heap.size + 1, 0, none⟩)]) ?_ rfl ?_
  · have hB2 : ((w.alloc (.cells #[.slice a n cap, .func (.func 79) #[] #[.pointer (some ⟨w.heap.size + 1, 0, none⟩)]] 46)).alloc (.cells #[.slice a n cap] 42)).heap[w.heap.size]? = some (.cells #[.slice a n cap, .func (.func 79) #[] #[.pointer (some ⟨w.heap.size + 1, 0, none⟩)]] 46) := (Below.heap_alloc _ _ _ (by simp)).trans (World.alloc_heap_new w _)
    obtain ⟨d0, d1⟩ := cells2 hB2
    simp [results, Try.f28, go_sem, d0, d1, posV]
  · have h := (cell_new_l (w.alloc (.cells #[.slice a n cap, .func (.func 79) #[] #[.pointer (some ⟨w.heap.size + 1, 0, none⟩)]] 46)) (.slice a n cap) 42).1
    rw [World.size_alloc] at h
    exact ⟨rfl, ((World.Since.refl _ w).alloc (Nat.le_refl _) _).alloc (by simp) _, h⟩

theorem oldT_two {w w3 V : World} (hs : w.Since w.heap.size w3) (ho : OldT w3.heap.size w3 V) : OldT w.heap.size w V := fun k hk => (ho k (by have := hs.size; omega)).trans (hs.block k hk)
theorem partsA_ok {n m : Nat} (hn : n ≤ 6) (hm : m ≤ 6) {x : Nat × Nat} (hx : x ∈ partsA n m) : popcS x.1 = popcS x.2 ∧ x.1 < 2 ^ n ∧ x.2 < 2 ^ m := ((partsA_mem hn hm).1 hx).2

theorem allMinors_any (a : Option Addr) (cap n m : Nat) (q : Int) (l : List (List Int)) (w w3 : World) (hn : l.length = n) (hmm : (l.getD 0 []).length = m) (hT : TabIn l) (hm : MatR w a l) (hs : w.Since w.heap.size w3) (hc : w3.cell? ⟨w.heap.size + 1, 0, none⟩ = some (.slice a n cap)) :
    Calls Try.prog 29 #[posV a n cap 84 #[.pointer (some ⟨w.heap.size + 1, 0, none⟩)], .int .i64 q] w3 fun e w' => e = .returned (.bool (leastB l q (partsA n m))) ∧ w3.Since w3.heap.size w' := by
  have h6 := hT.2.1
  have hw := hT.width
  rw [hn] at h6
  rw [hmm] at hw
  have hlt := World.block_lt_of_cell? _ _ hc
  simp only at hlt
  have hz := hs.size
  exact minorsFrom_any a cap n m q _ _ (partsA n m) 32768 (fun k => k < w.heap.size ∨ k = w.heap.size + 1) l w3 hn hmm hT (hm.since hs) (fun x hx => partsA_ok h6 hw.2 hx) (fun k hk => by omega)
    (fun V ho hzV => all_seqE 29 (by omega) (w.heap.size + 1) n m cap a l w V hn hT hmm hm (oldT_two hs ho) (by omega) (by omega) ((ho.cell (by exact hlt)).trans hc)) (enters_of Try.func84 (by kernel_rfl) rfl)

theorem firstMinors_any (a : Option Addr) (cap n m : Nat) (q : Int) (l : List (List Int)) (w w3 : World) (hn : l.length = n) (hmm : (l.getD 0 []).length = m) (hT : TabIn l) (hm : MatR w a l) (hs : w.Since w.heap.size w3) (hc : w3.cell? ⟨w.heap.size + 1, 0, none⟩ = some (.slice a n cap)) :
    Calls Try.prog 29 #[posV a n cap 79 #[.pointer (some ⟨w.heap.size + 1, 0, none⟩)], .int .i64 q] w3 fun e w' => e = .returned (.bool (leastB l q (partsF n m))) ∧ w3.Since w3.heap.size w' := by
  have h6 := hT.2.1
  have hw := hT.width
  rw [hn] at h6
  rw [hmm] at hw
  have hlt := World.block_lt_of_cell? _ _ hc
  simp only at hlt
  have hz := hs.size
  exact minorsFrom_any a cap n m q _ _ (partsF n m) 64 (fun k => k < w.heap.size ∨ k = w.heap.size + 1) l w3 hn hmm hT (hm.since hs) (fun x hx => ⟨(partsF_ok h6 hw.2 hx).1, (partsF_ok h6 hw.2 hx).2.1, (partsF_ok h6 hw.2 hx).2.2.1⟩) (fun k hk => by omega)
    (fun V ho hzV => first_seqE 29 (by omega) (w.heap.size + 1) n m cap a l w V hn hT hmm hm (oldT_two hs ho) (by omega) (by omega) ((ho.cell (by exact hlt)).trans hc)) (enters_of Try.func79 (by kernel_rfl) rfl)

set_option maxHeartbeats 1000000 in
theorem implPosLasting_any (a : Option Addr) (cap n : Nat) (l : List (List Int)) (w : World) (hn : l.length = n) (hsz : szL l ≤ 1048576) (hm : MatR w a l) :
    Calls Try.prog 16 #[.slice a n cap] w fun e w' => e = .returned (.bool (tabIn l && leastB l 0 (partsA n (l.getD 0 []).length))) ∧ w.Since w.heap.size w' := by
  have E := Lib.hid (implTableIn_any a cap n l w hn hsz hm)
  cases hT : tabIn l with
  | false =>
    rw [hT] at E
    clear hT hsz hm hn
    go_enter Try.func16, Try.ntmps16
    go_wp2_with fail
    refine (E.out).mono ?_
    rintro e w1 ⟨rfl, hd⟩
    have HS := Lib.hid hd
    clear hd
    go_wp2
    go_ret
    exact ⟨rfl, HS.out⟩
  | true =>
    rw [hT] at E
    have EC := Lib.hid (fun (W w3 : World) (h : w.Since w.heap.size W) (hs : W.Since W.heap.size w3) (hc : w3.cell? ⟨W.heap.size + 1, 0, none⟩ = some (.slice a n cap)) => allMinors_any a cap n (l.getD 0 []).length 0 l W w3 hn rfl (tabIn_of hT) (hm.since h) hs hc)
    have EW := Lib.hid (fun (W : World) => withAll_any a n cap W)
    obtain ⟨B, hB⟩ : ∃ B, leastB l 0 (partsA n (l.getD 0 []).length) = B := ⟨_, rfl⟩
    rw [hB] at EC ⊢
    clear hT hsz hm hn hB
    go_enter Try.func16, Try.ntmps16
    go_wp2_with fail
    refine (E.out).mono ?_
    rintro e w1 ⟨rfl, hd⟩
    have HS := Lib.hid hd
    clear hd
    go_wp2_with fail
    refine (EW.out w1).mono ?_
    rintro e w2 ⟨rfl, hs2, hc2⟩
    have HS2 := Lib.hid (HS.out.trans (since_mono hs2 HS.out.size))
    have EC2 := Lib.hid (EC.out w1 w2 HS.out hs2 hc2)
    clear hs2 hc2
    go_wp2_with fail
    refine (EC2.out).mono ?_
    rintro e w3 ⟨rfl, hs3⟩
    have HS3 := Lib.hid (HS2.out.trans (since_mono hs3 HS2.out.size))
    clear hs3
    cases B
    · go_wp2
      go_ret
      exact ⟨rfl, HS3.out⟩
    · go_wp2
      go_ret
      exact ⟨rfl, HS3.out⟩

set_option maxHeartbeats 1000000 in
theorem implPosStrict_any (a : Option Addr) (cap n : Nat) (l : List (List Int)) (w : World) (hn : l.length = n) (hsz : szL l ≤ 1048576) (hm : MatR w a l) :
    Calls Try.prog 10 #[.slice a n cap] w fun e w' => e = .returned (.bool (tabIn l && leastB l 1 (partsA n (l.getD 0 []).length))) ∧ w.Since w.heap.size w' := by
  have E := Lib.hid (implTableIn_any a cap n l w hn hsz hm)
  cases hT : tabIn l with
  | false =>
    rw [hT] at E
    clear hT hsz hm hn
    go_enter Try.func10, Try.ntmps10
    go_wp2_with fail
    refine (E.out).mono ?_
    rintro e w1 ⟨rfl, hd⟩
    have HS := Lib.hid hd
    clear hd
    go_wp2
    go_ret
    exact ⟨rfl, HS.out⟩
  | true =>
    rw [hT] at E
    have EC := Lib.hid (fun (W w3 : World) (h : w.Since w.heap.size W) (hs : W.Since W.heap.size w3) (hc : w3.cell? ⟨W.heap.size + 1, 0, none⟩ = some (.slice a n cap)) => allMinors_any a cap n (l.getD 0 []).length 1 l W w3 hn rfl (tabIn_of hT) (hm.since h) hs hc)
    have EW := Lib.hid (fun (W : World) => withAll_any a n cap W)
    obtain ⟨B, hB⟩ : ∃ B, leastB l 1 (partsA n (l.getD 0 []).length) = B := ⟨_, rfl⟩
    rw [hB] at EC ⊢
    clear hT hsz hm hn hB
    go_enter Try.func10, Try.ntmps10
    go_wp2_with fail
    refine (E.out).mono ?_
    rintro e w1 ⟨rfl, hd⟩
    have HS := Lib.hid hd
    clear hd
    go_wp2_with fail
    refine (EW.out w1).mono ?_
    rintro e w2 ⟨rfl, hs2, hc2⟩
    have HS2 := Lib.hid (HS.out.trans (since_mono hs2 HS.out.size))
    have EC2 := Lib.hid (EC.out w1 w2 HS.out hs2 hc2)
    clear hs2 hc2
    go_wp2_with fail
    refine (EC2.out).mono ?_
    rintro e w3 ⟨rfl, hs3⟩
    have HS3 := Lib.hid (HS2.out.trans (since_mono hs3 HS2.out.size))
    clear hs3
    cases B
    · go_wp2
      go_ret
      exact ⟨rfl, HS3.out⟩
    · go_wp2
      go_ret
      exact ⟨rfl, HS3.out⟩

set_option maxHeartbeats 1000000 in
theorem implPosFirst_any (a : Option Addr) (cap n : Nat) (l : List (List Int)) (w : World) (hn : l.length = n) (hsz : szL l ≤ 1048576) (hm : MatR w a l) :
    Calls Try.prog 8 #[.slice a n cap] w fun e w' => e = .returned (.bool (tabIn l && leastB l 1 (partsF n (l.getD 0 []).length))) ∧ w.Since w.heap.size w' := by
  have E := Lib.hid (implTableIn_any a cap n l w hn hsz hm)
  cases hT : tabIn l with
  | false =>
    rw [hT] at E
    clear hT hsz hm hn
    go_enter Try.func8, Try.ntmps8
    go_wp2_with fail
    refine (E.out).mono ?_
    rintro e w1 ⟨rfl, hd⟩
    have HS := Lib.hid hd
    clear hd
    go_wp2
    go_ret
    exact ⟨rfl, HS.out⟩
  | true =>
    rw [hT] at E
    have EC := Lib.hid (fun (W w3 : World) (h : w.Since w.heap.size W) (hs : W.Since W.heap.size w3) (hc : w3.cell? ⟨W.heap.size + 1, 0, none⟩ = some (.slice a n cap)) => firstMinors_any a cap n (l.getD 0 []).length 1 l W w3 hn rfl (tabIn_of hT) (hm.since h) hs hc)
    have EW := Lib.hid (fun (W : World) => withFirst_any a n cap W)
    obtain ⟨B, hB⟩ : ∃ B, leastB l 1 (partsF n (l.getD 0 []).length) = B := ⟨_, rfl⟩
    rw [hB] at EC ⊢
    clear hT hsz hm hn hB
    go_enter Try.func8, Try.ntmps8
    go_wp2_with fail
    refine (E.out).mono ?_
    rintro e w1 ⟨rfl, hd⟩
    have HS := Lib.hid hd
    clear hd
    go_wp2_with fail
    refine (EW.out w1).mono ?_
    rintro e w2 ⟨rfl, hs2, hc2⟩
    have HS2 := Lib.hid (HS.out.trans (since_mono hs2 HS.out.size))
    have EC2 := Lib.hid (EC.out w1 w2 HS.out hs2 hc2)
    clear hs2 hc2
    go_wp2_with fail
    refine (EC2.out).mono ?_
    rintro e w3 ⟨rfl, hs3⟩
    have HS3 := Lib.hid (HS2.out.trans (since_mono hs3 HS2.out.size))
    clear hs3
    cases B
    · go_wp2
      go_ret
      exact ⟨rfl, HS3.out⟩
    · go_wp2
      go_ret
      exact ⟨rfl, HS3.out⟩

end Go.Proofs.Ytlgjplhffpmfpaa
end

section
namespace Go.Proofs.Ytlgjplhffpmfpaa

def IncT (k n : Nat) (ρ : Nat → Nat) : Prop := (∀ i, i + 1 < k → ρ i < ρ (i + 1)) ∧ ∀ i, i < k → ρ i < n
def Tnn (f : Nat → Nat → Int) (n m : Nat) : Prop := ∀ k ρ γ, IncT k n ρ → IncT k m γ → 0 ≤ dt k (fun i j => f (ρ i) (γ j))
def Alt (y : Nat → Int) (n k : Nat) : Prop := ∃ ι : Nat → Nat, IncT (k + 1) n ι ∧ ∀ r, r < k → y (ι r) * y (ι (r + 1)) < 0

theorem IncT.lt {k n : Nat} {ρ : Nat → Nat} (h : IncT k n ρ) : ∀ {i j : Nat}, i < j → j < k → ρ i < ρ j := by
  intro i j hij hj
  obtain ⟨d, rfl⟩ : ∃ d, j = i + 1 + d := ⟨j - (i + 1), by omega⟩
  induction d with
  | zero => exact h.1 i (by omega)
  | succ d ih => exact Nat.lt_trans (ih (by omega) (by omega)) (h.1 (i + 1 + d) (by omega))
theorem IncT.comp {k n m : Nat} {ρ σ : Nat → Nat} (h : IncT k n ρ) (hs : ∀ i, i + 1 < n → σ i < σ (i + 1)) (hb : ∀ i, i < n → σ i < m) : IncT k m (fun i => σ (ρ i)) := by
  have mono : ∀ d i, i + d + 1 < n → σ i < σ (i + d + 1) := by
    intro d
    induction d with
    | zero => intro i hi; exact hs i (by omega)
    | succ d ih => intro i hi; exact Nat.lt_trans (ih i (by omega)) (hs (i + d + 1) (by omega))
  refine ⟨fun i hi => ?_, fun i hi => hb _ (h.2 i hi)⟩
  have h1 := h.1 i hi
  have h2 := h.2 (i + 1) hi
  have := mono (ρ (i + 1) - ρ i - 1) (ρ i) (by omega)
  rwa [show ρ i + (ρ (i + 1) - ρ i - 1) + 1 = ρ (i + 1) by omega] at this
theorem skip_inc (j m : Nat) : (∀ i, i + 1 < m → skip j i < skip j (i + 1)) ∧ ∀ i, i < m → skip j i < m + 1 := by
  refine ⟨fun i _ => ?_, fun i hi => ?_⟩
  · unfold skip; split <;> split <;> omega
  · exact skip_bd hi

theorem sumN_pos_zero {f : Nat → Int} : ∀ n, (∀ i, i < n → 0 ≤ f i) → sumN f n = 0 → ∀ i, i < n → f i = 0
  | 0, _, _, i, hi => absurd hi (Nat.not_lt_zero _)
  | n + 1, h, hs, i, hi => by
    have h0 : ∀ n, (∀ i, i < n → 0 ≤ f i) → 0 ≤ sumN f n := by
      intro n
      induction n with
      | zero => intro _; simp [sumN]
      | succ n ih => intro h; have := ih (fun i hi => h i (by omega)); have := h n (by omega); simp only [sumN]; omega
    have h1 := h0 n (fun i hi => h i (by omega))
    have h2 := h n (by omega)
    simp only [sumN] at hs
    rcases Nat.lt_succ_iff_lt_or_eq.1 hi with h3 | h3
    · exact sumN_pos_zero n (fun i hi => h i (by omega)) (by omega) i h3
    · subst h3; omega

theorem dt_dep {m : Nat} (g : Nat → Nat → Int) (x : Nat → Int) : ∀ k, k ≤ m → dt (m + 1) (fun i j => if j = 0 then sumN (fun j => g i j * x j) k else g i (j - 1)) = 0 := by
  intro k hk
  rw [← dt_turn]
  have e : dt (m + 1) (fun i j => if i = 0 then sumN (fun i => g j i * x i) k else g j (i - 1)) = dt (m + 1) (setR (fun i j => if i = 0 then 0 else g j (i - 1)) 0 (fun j => (fun i j => if i = 0 then (0 : Int) else g j (i - 1)) 0 j + sumN (fun t => x t * (fun i j => if i = 0 then (0 : Int) else g j (i - 1)) (t + 1) j) k)) := by
    refine dt_congr _ fun i j _ _ => ?_
    unfold setR
    by_cases h : i = 0
    · rw [if_pos h, if_pos h]
      dsimp only
      rw [if_pos rfl, Int.zero_add]
      refine sumN_congr k fun t _ => ?_
      rw [if_neg (by omega), Nat.add_sub_cancel, Int.mul_comm]
    · rw [if_neg h, if_neg h]
      dsimp only
      rw [if_neg h]
  rw [e, dt_addS (fun i j => if i = 0 then (0 : Int) else g j (i - 1)) x (fun t => t + 1) (by omega) k (fun t ht => ⟨by omega, by omega⟩)]
  rw [dt_succ]
  refine sumN_none _ fun j _ => ?_
  rw [if_pos rfl]
  simp

def ins (p i : Nat) (ρ : Nat → Nat) (r : Nat) : Nat := if r < p then ρ r else if r = p then i else ρ (r - 1)
theorem ins_ex (p i : Nat) (ρ : Nat → Nat) (r : Nat) : ins (p + 1) i ρ r = ins p i ρ (ex1 p r) := by
  unfold ins ex1
  by_cases h1 : r = p
  · subst h1; simp; intro h; omega
  · by_cases h2 : r = p + 1
    · subst h2; simp
    · simp only [if_neg h1, if_neg h2]
      by_cases h3 : r < p
      · rw [if_pos (by omega), if_pos h3]
      · rw [if_neg (by omega), if_neg h3]
theorem dt_ins (f : Nat → Nat → Int) (i : Nat) (ρ : Nat → Nat) (m : Nat) : ∀ p, p ≤ m → dt (m + 1) (fun r j => f (ins p i ρ r) j) = sn p * dt (m + 1) (fun r j => f (ins 0 i ρ r) j)
  | 0, _ => by rw [sn_zero, Int.one_mul]
  | p + 1, hp => by
    have h := dt_ex1 p (m + 1) (fun j r => f (ins p i ρ r) j) (by omega)
    rw [dt_turn (m + 1) (fun r j => f (ins p i ρ r) j)] at h
    rw [dt_congr (m + 1) (g := fun r j => f (ins p i ρ (ex1 p r)) j) (fun r j _ _ => by rw [ins_ex]), ← dt_turn (m + 1) (fun r j => f (ins p i ρ (ex1 p r)) j), h, dt_ins f i ρ m p (by omega), sn_succ, Int.neg_mul]
theorem ins_place {k n : Nat} {ρ : Nat → Nat} (h : IncT k n ρ) (i : Nat) (hne : ∀ r, r < k → ρ r ≠ i) : ∃ p, p ≤ k ∧ (∀ r, r < p → ρ r < i) ∧ ∀ r, p ≤ r → r < k → i < ρ r := by
  induction k with
  | zero => exact ⟨0, Nat.le_refl _, fun r hr => absurd hr (Nat.not_lt_zero _), fun r _ hr => absurd hr (Nat.not_lt_zero _)⟩
  | succ k ih =>
    obtain ⟨p, hp, h1, h2⟩ := ih ⟨fun r hr => h.1 r (by omega), fun r hr => h.2 r (by omega)⟩ (fun r hr => hne r (by omega))
    by_cases hlt : ρ k < i
    · refine ⟨k + 1, Nat.le_refl _, fun r hr => ?_, fun r h3 h4 => absurd h4 (by omega)⟩
      rcases Nat.lt_succ_iff_lt_or_eq.1 hr with h5 | h5
      · exact Nat.lt_trans (h.lt h5 (by omega)) hlt
      · subst h5; exact hlt
    · refine ⟨p, by omega, h1, fun r h3 h4 => ?_⟩
      rcases Nat.lt_succ_iff_lt_or_eq.1 h4 with h5 | h5
      · exact h2 r h3 h5
      · subst h5; have := hne r (by omega); omega
theorem ins_inc {k n p i : Nat} {ρ : Nat → Nat} (h : IncT k n ρ) (hi : i < n) (hp : p ≤ k) (h1 : ∀ r, r < p → ρ r < i) (h2 : ∀ r, p ≤ r → r < k → i < ρ r) : IncT (k + 1) n (ins p i ρ) := by
  refine ⟨fun r hr => ?_, fun r hr => ?_⟩
  · unfold ins
    by_cases c1 : r + 1 < p
    · rw [if_pos (by omega), if_pos c1]; exact h.1 r (by omega)
    · by_cases c2 : r + 1 = p
      · rw [if_pos (by omega), if_neg (by omega), if_pos c2]; exact h1 r (by omega)
      · by_cases c3 : r = p
        · rw [if_neg (by omega), if_pos c3, if_neg (by omega), if_neg (by omega), Nat.add_sub_cancel]; exact h2 r (by omega) (by omega)
        · rw [if_neg (by omega), if_neg c3, if_neg (by omega), if_neg c2, Nat.add_sub_cancel]
          have := h.1 (r - 1) (by omega)
          rwa [show r - 1 + 1 = r by omega] at this
  · unfold ins
    split
    · exact h.2 r (by omega)
    · split
      · exact hi
      · exact h.2 (r - 1) (by omega)

theorem ker_or (f : Nat → Nat → Int) (n : Nat) : ∀ m, (∃ c : Nat → Int, (∃ j, j < m ∧ c j ≠ 0) ∧ ∀ i, i < n → sumN (fun j => f i j * c j) m = 0) ∨ ∃ ρ : Nat → Nat, IncT m n ρ ∧ dt m (fun i j => f (ρ i) j) ≠ 0
  | 0 => .inr ⟨fun _ => 0, ⟨fun k hk => absurd hk (Nat.not_lt_zero _), fun k hk => absurd hk (Nat.not_lt_zero _)⟩, by simp [dt]⟩
  | m + 1 => by
    rcases ker_or f n m with ⟨c, ⟨j, hj, hc⟩, hs⟩ | ⟨ρ, hρ, hd⟩
    · refine .inl ⟨fun t => if t = m then 0 else c t, ⟨j, by omega, by dsimp only; rw [if_neg (by omega)]; exact hc⟩, fun i hi => ?_⟩
      show sumN (fun t => f i t * if t = m then 0 else c t) m + f i m * (if m = m then 0 else c m) = 0
      rw [if_pos rfl, sumN_congr m (g := fun t => f i t * c t) (fun t ht => by rw [if_neg (by omega)]), hs i hi]
      simp
    · -- the row i put first
      have hi0 : ∀ i r, ins 0 i ρ r = if r = 0 then i else ρ (r - 1) := fun i r => by unfold ins; rw [if_neg (Nat.not_lt_zero _)]
      have hex : ∀ i, dt (m + 1) (fun r j => f (if r = 0 then i else ρ (r - 1)) j) = sumN (fun k => f i k * (sn k * dt m (fun r j => f (ρ r) (skip k j)))) (m + 1) := fun i => by
        rw [dt_succ]
        refine sumN_congr _ fun k _ => ?_
        rw [if_pos rfl, show dr k (fun r j => f (if r = 0 then i else ρ (r - 1)) j) = fun r j => f (ρ r) (skip k j) from by
          funext r j
          unfold dr
          dsimp only
          rw [if_neg (by omega), Nat.add_sub_cancel]]
        grind
      by_cases hall : ∀ i, i < n → dt (m + 1) (fun r j => f (if r = 0 then i else ρ (r - 1)) j) = 0
      · refine .inl ⟨fun k => sn k * dt m (fun r j => f (ρ r) (skip k j)), ⟨m, by omega, ?_⟩, fun i hi => ?_⟩
        · refine Int.mul_ne_zero (sn_ne m) ?_
          rw [dt_congr m (g := fun i j => f (ρ i) j) (fun i j _ hj => by rw [skip_lt hj])]
          exact hd
        · rw [← hex i]; exact hall i hi
      · obtain ⟨i, hi, hne⟩ : ∃ i, i < n ∧ dt (m + 1) (fun r j => f (if r = 0 then i else ρ (r - 1)) j) ≠ 0 := by
          apply Classical.byContradiction
          intro h
          exact hall fun i hi => Classical.byContradiction fun h2 => h ⟨i, hi, h2⟩
        have hdis : ∀ r, r < m → ρ r ≠ i := fun r hr he => hne (by
          refine dt_sameR (p := 0) (q := r + 1) _ (by omega) (by omega) (by omega) fun j _ => ?_
          rw [if_pos rfl, if_neg (by omega), Nat.add_sub_cancel, he])
        obtain ⟨p, hp, h1, h2⟩ := ins_place hρ i hdis
        refine .inr ⟨ins p i ρ, ins_inc hρ hi hp h1 h2, ?_⟩
        rw [dt_ins f i ρ m p hp]
        refine Int.mul_ne_zero (sn_ne p) ?_
        rw [dt_congr (m + 1) (g := fun r j => f (if r = 0 then i else ρ (r - 1)) j) (fun r j _ _ => by rw [hi0])]
        exact hne

theorem inc_ge {k n : Nat} {ρ : Nat → Nat} (h : IncT k n ρ) : ∀ r, r < k → r ≤ ρ r
  | 0, _ => Nat.zero_le _
  | r + 1, hr => by have := inc_ge h r (by omega); have := h.1 r hr; omega
theorem inc_le {k n : Nat} {ρ : Nat → Nat} (h : IncT k n ρ) : ∀ d r, r + d + 1 = k → ρ r + d < n
  | 0, r, hr => h.2 r (by omega)
  | d + 1, r, hr => by have := inc_le h d (r + 1) (by omega); have := h.1 r (by omega); omega
theorem inc_skip {m : Nat} {ρ : Nat → Nat} (h : IncT (m + 1) (m + 2) ρ) : ∃ i, i < m + 2 ∧ ∀ r, r < m + 1 → ρ r = skip i r := by
  have key : ∀ q, q ≤ m + 1 → (∃ i, i < m + 2 ∧ ∀ r, r < q → ρ r = skip i r) := by
    intro q
    induction q with
    | zero => intro _; exact ⟨0, by omega, fun r hr => absurd hr (Nat.not_lt_zero _)⟩
    | succ q ih =>
      intro hq
      obtain ⟨i, hi, hr⟩ := ih (by omega)
      have g1 := inc_ge h q (by omega)
      have g2 := inc_le h (m - q) q (by omega)
      by_cases e : ρ q = q
      · refine ⟨m + 1, by omega, fun r hrq => ?_⟩
        have h1 := inc_ge h r (by omega)
        rw [skip_lt (by omega)]
        rcases Nat.lt_succ_iff_lt_or_eq.1 hrq with h2 | h2
        · have h3 := h.lt h2 (by omega : q < m + 1)
          have h4 : ∀ d, r + d = q → ρ r ≤ r := by
            intro d
            intro hd
            have := inc_le (k := q + 1) (n := q + 1) (ρ := ρ) ⟨fun t ht => h.1 t (by omega), fun t ht => by
              rcases Nat.lt_succ_iff_lt_or_eq.1 ht with h5 | h5
              · have := h.lt h5 (by omega : q < m + 1); omega
              · subst h5; omega⟩ d r (by omega)
            omega
          have := h4 (q - r) (by omega)
          omega
        · subst h2; exact e
      · have e2 : ρ q = q + 1 := by omega
        by_cases hiq : i ≤ q
        · refine ⟨i, hi, fun r hrq => ?_⟩
          rcases Nat.lt_succ_iff_lt_or_eq.1 hrq with h2 | h2
          · exact hr r h2
          · subst h2; rw [skip_ge hiq]; exact e2
        · refine ⟨q, by omega, fun r hrq => ?_⟩
          rcases Nat.lt_succ_iff_lt_or_eq.1 hrq with h2 | h2
          · rw [hr r h2, skip_lt (by omega), skip_lt h2]
          · subst h2; rw [skip_ge (Nat.le_refl _)]; exact e2
  exact key (m + 1) (Nat.le_refl _)

theorem sumN_skip (g : Nat → Int) (j : Nat) : ∀ m, j < m + 1 → sumN g (m + 1) = g j + sumN (fun t => g (skip j t)) m
  | 0, h => by
    have : j = 0 := by omega
    subst this; simp [sumN]
  | m + 1, h => by
    by_cases e : j = m + 1
    · subst e
      rw [show sumN g (m + 1 + 1) = sumN g (m + 1) + g (m + 1) from rfl, sumN_congr (m + 1) (f := fun t => g (skip (m + 1) t)) (g := g) (fun t ht => by rw [skip_lt ht])]
      omega
    · rw [show sumN g (m + 1 + 1) = sumN g (m + 1) + g (m + 1) from rfl, sumN_skip g j m (by omega), show sumN (fun t => g (skip j t)) (m + 1) = sumN (fun t => g (skip j t)) m + g (skip j m) from rfl, skip_ge (show j ≤ m by omega)]
      omega
theorem Alt.skip {x : Nat → Int} {m k : Nat} (j : Nat) (h : Alt (fun t => x (skip j t)) m k) : Alt x (m + 1) k := by
  obtain ⟨ι, hι, ha⟩ := h
  obtain ⟨s1, s2⟩ := skip_inc j m
  exact ⟨fun r => Go.Proofs.Ytlgjplhffpmfpaa.skip j (ι r), hι.comp s1 s2, ha⟩
theorem Tnn.skip {f : Nat → Nat → Int} {n m : Nat} (h : Tnn f n (m + 1)) (j : Nat) : Tnn (fun i t => f i (Go.Proofs.Ytlgjplhffpmfpaa.skip j t)) n m := fun k ρ γ hρ hγ => by
  obtain ⟨s1, s2⟩ := skip_inc j m
  exact h k ρ (fun r => Go.Proofs.Ytlgjplhffpmfpaa.skip j (γ r)) hρ (hγ.comp s1 s2)

def mrg (f : Nat → Nat → Int) (j : Nat) (A B : Int) (i t : Nat) : Int := if t < j then f i t else if t = j then A * f i j + B * f i (j + 1) else f i (t + 1)
theorem mrg_at {f : Nat → Nat → Int} {j : Nat} {A B : Int} (i t : Nat) (h : t ≠ j) : mrg f j A B i t = f i (skip j t) ∧ mrg f j A B i t = f i (skip (j + 1) t) := by
  unfold mrg skip
  by_cases h1 : t < j
  · rw [if_pos h1, if_pos h1, if_pos (by omega)]; exact ⟨rfl, rfl⟩
  · rw [if_neg h1, if_neg h, if_neg h1, if_neg (by omega)]; exact ⟨rfl, rfl⟩
theorem Tnn.mrg {f : Nat → Nat → Int} {n m j : Nat} {A B : Int} (h : Tnn f n (m + 1)) (hA : 0 ≤ A) (hB : 0 ≤ B) : Tnn (mrg f j A B) n m := fun k ρ γ hρ hγ => by
  obtain ⟨s1, s2⟩ := skip_inc j m
  obtain ⟨u1, u2⟩ := skip_inc (j + 1) m
  have h1 := h k ρ (fun r => Go.Proofs.Ytlgjplhffpmfpaa.skip (j + 1) (γ r)) hρ (hγ.comp u1 u2)
  have h2 := h k ρ (fun r => Go.Proofs.Ytlgjplhffpmfpaa.skip j (γ r)) hρ (hγ.comp s1 s2)
  by_cases hin : ∃ t, t < k ∧ γ t = j
  · obtain ⟨t, ht, he⟩ := hin
    have hne : ∀ r, r < k → r ≠ t → γ r ≠ j := fun r hr hrt e => by
      rcases Nat.lt_or_gt_of_ne hrt with h3 | h3
      · have := hγ.lt h3 ht; omega
      · have := hγ.lt h3 hr; omega
    have e : dt k (fun i r => Go.Proofs.Ytlgjplhffpmfpaa.mrg f j A B (ρ i) (γ r)) = dt k (setR (fun r i => f (ρ i) (Go.Proofs.Ytlgjplhffpmfpaa.skip (j + 1) (γ r))) t (fun i => A * f (ρ i) j + B * f (ρ i) (j + 1))) := by
      rw [← dt_turn]
      refine dt_congr k fun r i hr _ => ?_
      unfold setR
      by_cases hrt : r = t
      · rw [if_pos hrt, hrt, he]
        unfold Go.Proofs.Ytlgjplhffpmfpaa.mrg
        rw [if_neg (Nat.lt_irrefl _), if_pos rfl]
      · rw [if_neg hrt, (mrg_at (ρ i) (γ r) (hne r hr hrt)).2]
    rw [e, dt_lin k t _ A B (fun i => f (ρ i) j) (fun i => f (ρ i) (j + 1)) ht]
    have e1 : dt k (setR (fun r i => f (ρ i) (Go.Proofs.Ytlgjplhffpmfpaa.skip (j + 1) (γ r))) t (fun i => f (ρ i) j)) = dt k (fun i r => f (ρ i) (Go.Proofs.Ytlgjplhffpmfpaa.skip (j + 1) (γ r))) := by
      rw [← dt_turn k (fun i r => f (ρ i) (Go.Proofs.Ytlgjplhffpmfpaa.skip (j + 1) (γ r)))]
      refine dt_congr k fun r i _ _ => ?_
      unfold setR
      by_cases hrt : r = t
      · rw [if_pos hrt, hrt, he, skip_lt (by omega)]
      · rw [if_neg hrt]
    have e2 : dt k (setR (fun r i => f (ρ i) (Go.Proofs.Ytlgjplhffpmfpaa.skip (j + 1) (γ r))) t (fun i => f (ρ i) (j + 1))) = dt k (fun i r => f (ρ i) (Go.Proofs.Ytlgjplhffpmfpaa.skip j (γ r))) := by
      rw [← dt_turn k (fun i r => f (ρ i) (Go.Proofs.Ytlgjplhffpmfpaa.skip j (γ r)))]
      refine dt_congr k fun r i hr _ => ?_
      unfold setR
      by_cases hrt : r = t
      · rw [if_pos hrt, hrt, he, skip_ge (Nat.le_refl _)]
      · rw [if_neg hrt]
        have := mrg_at (f := f) (A := A) (B := B) (ρ i) (γ r) (hne r hr hrt)
        exact this.2.symm.trans this.1
    rw [e1, e2]
    have g1 := Int.mul_nonneg hA h1
    have g2 := Int.mul_nonneg hB h2
    omega
  · rw [dt_congr k (g := fun i r => f (ρ i) (Go.Proofs.Ytlgjplhffpmfpaa.skip j (γ r))) (fun i r _ hr => (mrg_at (ρ i) (γ r) (fun e => hin ⟨r, hr, e⟩)).1)]
    exact h2
theorem sumN_mrg (g : Nat → Int) (j : Nat) : ∀ m, j < m → sumN (fun t => if t < j then g t else if t = j then g j + g (j + 1) else g (t + 1)) m = sumN g (m + 1)
  | 0, h => absurd h (Nat.not_lt_zero _)
  | m + 1, h => by
    rw [show sumN (fun t => if t < j then g t else if t = j then g j + g (j + 1) else g (t + 1)) (m + 1) = sumN (fun t => if t < j then g t else if t = j then g j + g (j + 1) else g (t + 1)) m + (if m < j then g m else if m = j then g j + g (j + 1) else g (m + 1)) from rfl]
    by_cases e : m = j
    · rw [if_neg (by omega), if_pos e]
      subst e
      rw [sumN_congr m (g := g) (fun t ht => by rw [if_pos ht])]
      show sumN g m + (g m + g (m + 1)) = sumN g m + g m + g (m + 1)
      omega
    · rw [sumN_mrg g j m (by omega), if_neg (by omega), if_neg e]
      rfl

theorem neg_iff {a b : Int} : a * b < 0 ↔ (a < 0 ∧ 0 < b) ∨ (0 < a ∧ b < 0) := by
  constructor
  · intro h
    rcases Int.lt_trichotomy a 0 with ha | ha | ha
    · rcases Int.lt_trichotomy b 0 with hb | hb | hb
      · have := Int.mul_pos_of_neg_of_neg ha hb; omega
      · rw [hb] at h; simp at h
      · exact .inl ⟨ha, hb⟩
    · rw [ha] at h; simp at h
    · rcases Int.lt_trichotomy b 0 with hb | hb | hb
      · exact .inr ⟨ha, hb⟩
      · rw [hb] at h; simp at h
      · have := Int.mul_pos ha hb; omega
  · rintro (⟨h1, h2⟩ | ⟨h1, h2⟩)
    · exact Int.mul_neg_of_neg_of_pos h1 h2
    · exact Int.mul_neg_of_pos_of_neg h1 h2
theorem pos_iff {a b : Int} : 0 < a * b ↔ (a < 0 ∧ b < 0) ∨ (0 < a ∧ 0 < b) := by
  have h := neg_iff (a := -a) (b := b)
  rw [Int.neg_mul] at h
  constructor
  · intro hp
    rcases h.1 (by omega) with ⟨h1, h2⟩ | ⟨h1, h2⟩
    · exact .inr ⟨by omega, h2⟩
    · exact .inl ⟨by omega, h2⟩
  · intro hp
    have := h.2 (by rcases hp with ⟨h1, h2⟩ | ⟨h1, h2⟩ <;> omega)
    omega
def Sg (a b : Int) : Prop := (0 < a ↔ 0 < b) ∧ (a < 0 ↔ b < 0)
theorem Sg.neg {a b a' b' : Int} (h : Sg a a') (h2 : Sg b b') (hn : a' * b' < 0) : a * b < 0 := by
  rw [neg_iff] at hn ⊢
  rcases hn with ⟨h3, h4⟩ | ⟨h3, h4⟩
  · exact .inl ⟨h.2.2 h3, h2.1.2 h4⟩
  · exact .inr ⟨h.1.2 h3, h2.2.2 h4⟩
theorem neg_chain {y : Nat → Int} {k : Nat} (h : ∀ r, r < k → y r * y (r + 1) < 0) (h0 : y 0 ≠ 0) : ∀ r, r ≤ k → 0 < sn r * y r * y 0
  | 0, _ => by
    rw [sn_zero, Int.one_mul]
    rcases Int.lt_or_gt_of_ne h0 with h1 | h1
    · exact Int.mul_pos_of_neg_of_neg h1 h1
    · exact Int.mul_pos h1 h1
  | r + 1, hr => by
    have i := neg_chain h h0 r (by omega)
    have n := h r (by omega)
    rw [sn_succ]
    have e : sn r * y r * y 0 * (y r * y (r + 1)) = (y r * y r) * (sn r * y (r + 1) * y 0) := by grind
    have hyr : y r ≠ 0 := fun e0 => by rw [e0] at n; simp at n
    have hsq : 0 < y r * y r := by
      rcases Int.lt_or_gt_of_ne hyr with h1 | h1
      · exact Int.mul_pos_of_neg_of_neg h1 h1
      · exact Int.mul_pos h1 h1
    have hlt : sn r * y r * y 0 * (y r * y (r + 1)) < 0 := Int.mul_neg_of_pos_of_neg i n
    rw [e] at hlt
    have h3 : sn r * y (r + 1) * y 0 < 0 := by
      rcases Int.lt_trichotomy (sn r * y (r + 1) * y 0) 0 with h4 | h4 | h4
      · exact h4
      · rw [h4] at hlt; simp at hlt
      · have := Int.mul_pos hsq h4; omega
    rw [Int.neg_mul, Int.neg_mul]
    omega

theorem vd : ∀ (m : Nat) (f : Nat → Nat → Int) (n : Nat) (x : Nat → Int), Tnn f n m → ∀ k, 1 ≤ k → Alt (fun i => sumN (fun j => f i j * x j) m) n k → Alt x m k
  | 0, f, n, x, _, k, hk, ⟨ι, _, ha⟩ => by
    have := ha 0 (by omega)
    simp [sumN] at this
  | m + 1, f, n, x, hT, k, hk, hA => by
    by_cases hz : ∃ j, j < m + 1 ∧ x j = 0
    · obtain ⟨j, hj, hx0⟩ := hz
      refine (vd m (fun i t => f i (skip j t)) n (fun t => x (skip j t)) (hT.skip j) k hk ?_).skip j
      obtain ⟨ι, hι, ha⟩ := hA
      refine ⟨ι, hι, fun r hr => ?_⟩
      have h := ha r hr
      simp only at h ⊢
      rw [sumN_skip (fun t => f (ι r) t * x t) j m hj, sumN_skip (fun t => f (ι (r + 1)) t * x t) j m hj, hx0] at h
      simpa using h
    by_cases hp : ∃ j, j + 1 < m + 1 ∧ 0 < x j * x (j + 1)
    · obtain ⟨j, hj, hpos⟩ := hp
      have hne0 : x j ≠ 0 := fun e => hz ⟨j, by omega, e⟩
      obtain ⟨s, hs, hs1, hs2⟩ : ∃ s : Int, Sg (x j) s ∧ x j = ((x j).natAbs : Int) * s ∧ x (j + 1) = ((x (j + 1)).natAbs : Int) * s := by
        rcases pos_iff.1 hpos with ⟨h1, h2⟩ | ⟨h1, h2⟩
        · exact ⟨-1, ⟨by omega, by omega⟩, by omega, by omega⟩
        · exact ⟨1, ⟨by omega, by omega⟩, by omega, by omega⟩
      have ih := vd m (mrg f j ((x j).natAbs : Int) ((x (j + 1)).natAbs : Int)) n (fun t => if t < j then x t else if t = j then s else x (t + 1)) (hT.mrg (Int.natCast_nonneg _) (Int.natCast_nonneg _)) k hk (by
        obtain ⟨ι, hι, ha⟩ := hA
        refine ⟨ι, hι, fun r hr => ?_⟩
        have e : ∀ i, sumN (fun t => mrg f j ((x j).natAbs : Int) ((x (j + 1)).natAbs : Int) i t * (if t < j then x t else if t = j then s else x (t + 1))) m = sumN (fun t => f i t * x t) (m + 1) := fun i => by
          rw [← sumN_mrg (fun t => f i t * x t) j m (by omega)]
          refine sumN_congr m fun t _ => ?_
          unfold mrg
          by_cases h1 : t < j
          · simp only [if_pos h1]
          · by_cases h2 : t = j
            · simp only [if_neg h1, if_pos h2]
              rw [Int.add_mul]
              have e1 : f i j * x j = f i j * (((x j).natAbs : Int) * s) := by rw [← hs1]
              have e2 : f i (j + 1) * x (j + 1) = f i (j + 1) * (((x (j + 1)).natAbs : Int) * s) := by rw [← hs2]
              rw [e1, e2]
              grind
            · simp only [if_neg h1, if_neg h2]
        have h := ha r hr
        simp only at h ⊢
        rw [e, e]
        exact h)
      obtain ⟨ι, hι, ha⟩ := ih
      obtain ⟨u1, u2⟩ := skip_inc (j + 1) m
      refine ⟨fun r => skip (j + 1) (ι r), hι.comp u1 u2, fun r hr => ?_⟩
      have h := ha r hr
      have sgn : ∀ t, Sg (x (skip (j + 1) t)) ((fun t => if t < j then x t else if t = j then s else x (t + 1)) t) := fun t => by
        by_cases h1 : t < j
        · rw [skip_lt (by omega)]
          simp only [if_pos h1]
          exact ⟨Iff.rfl, Iff.rfl⟩
        · by_cases h2 : t = j
          · rw [skip_lt (by omega)]
            simp only [if_neg h1, if_pos h2]
            rw [h2]; exact hs
          · rw [skip_ge (by omega)]
            simp only [if_neg h1, if_neg h2]
            exact ⟨Iff.rfl, Iff.rfl⟩
      exact (sgn _).neg (sgn _) h
    have hneg : ∀ j, j + 1 < m + 1 → x j * x (j + 1) < 0 := fun j hj => by
      have h1 : x j ≠ 0 := fun e => hz ⟨j, by omega, e⟩
      have h2 : x (j + 1) ≠ 0 := fun e => hz ⟨j + 1, hj, e⟩
      have h3 := Int.mul_ne_zero h1 h2
      have h4 : ¬ 0 < x j * x (j + 1) := fun h => hp ⟨j, hj, h⟩
      omega
    by_cases hkm : k ≤ m
    · exact ⟨fun r => r, ⟨fun i _ => Nat.lt_succ_self i, fun i hi => by show i < m + 1; omega⟩, fun r hr => hneg r (by omega)⟩
    · exfalso
      obtain ⟨ι, hι, ha⟩ := hA
      have hιm : IncT (m + 2) n ι := ⟨fun i hi => hι.1 i (by omega), fun i hi => hι.2 i (by omega)⟩
      obtain ⟨g, hg⟩ : ∃ g : Nat → Nat → Int, g = fun r j => f (ι r) j := ⟨_, rfl⟩
      obtain ⟨Y, hY⟩ : ∃ Y : Nat → Int, Y = fun r => sumN (fun j => g r j * x j) (m + 1) := ⟨_, rfl⟩
      have hYn : ∀ r, r < m + 1 → Y r * Y (r + 1) < 0 := fun r hr => by
        have := ha r (by omega)
        rw [hY, hg]
        exact this
      have hY0 : Y 0 ≠ 0 := fun e => by have := hYn 0 (by omega); rw [e] at this; simp at this
      have hch := neg_chain (y := Y) (k := m + 1) hYn hY0
      have hTg : Tnn g (m + 2) (m + 1) := fun q ρ γ hρ hγ => by
        rw [hg]
        exact hT q (fun r => ι (ρ r)) γ (hρ.comp hιm.1 hιm.2) hγ
      have hM : ∀ i, i < m + 2 → dt (m + 1) (fun r j => g (skip i r) j) = 0 := by
        have hd := dt_dep (m := m + 1) g x (m + 1) (Nat.le_refl _)
        rw [dt_col] at hd
        have hnn : ∀ i, 0 ≤ dt (m + 1) (fun r j => g (skip i r) j) := fun i => by
          obtain ⟨u1, u2⟩ := skip_inc i (m + 1)
          exact hTg (m + 1) (skip i) (fun j => j) ⟨u1, u2⟩ ⟨fun j _ => Nat.lt_succ_self j, fun j hj => hj⟩
        have hsum : sumN (fun i => sn i * Y i * Y 0 * dt (m + 1) (fun r j => g (skip i r) j)) (m + 2) = 0 := by
          have e : sumN (fun i => sn i * Y i * Y 0 * dt (m + 1) (fun r j => g (skip i r) j)) (m + 2) = Y 0 * sumN (fun i => sn i * ((if (0 : Nat) = 0 then sumN (fun j => g i j * x j) (m + 1) else g i (0 - 1)) * dt (m + 1) (fun r j => if j + 1 = 0 then sumN (fun j => g (skip i r) j * x j) (m + 1) else g (skip i r) (j + 1 - 1)))) (m + 2) := by
            rw [← sumN_mul]
            refine sumN_congr _ fun i _ => ?_
            rw [if_pos rfl, dt_congr (m + 1) (f := fun r j => if j + 1 = 0 then sumN (fun j => g (skip i r) j * x j) (m + 1) else g (skip i r) (j + 1 - 1)) (g := fun r j => g (skip i r) j) (fun r j _ _ => by rw [if_neg (by omega), Nat.add_sub_cancel])]
            have e2 : sumN (fun j => g i j * x j) (m + 1) = Y i := by rw [hY]
            rw [e2]
            grind
          rw [e]
          have := hd
          rw [show (m + 1 + 1) = m + 2 from rfl] at this
          rw [this]; simp
        intro i hi
        have h0 := sumN_pos_zero (m + 2) (fun i hi => Int.mul_nonneg (Int.le_of_lt (hch i (by omega))) (hnn i)) hsum i hi
        rcases Int.mul_eq_zero.1 h0 with h1 | h1
        · have := hch i (by omega); omega
        · exact h1
      rcases ker_or g (m + 2) (m + 1) with ⟨c, ⟨j, hj, hcj⟩, hc⟩ | ⟨ρ, hρ, hd⟩
      · have hz0 : c j * x j - x j * c j = 0 := by grind
        have ih := vd m (fun r t => g r (skip j t)) (m + 2) (fun t => c j * x (skip j t) - x j * c (skip j t)) (hTg.skip j) (m + 1) (by omega) (by
          refine ⟨fun r => r, ⟨fun i _ => Nat.lt_succ_self i, fun i hi => by show i < m + 2; omega⟩, fun r hr => ?_⟩
          have e : ∀ i, i < m + 2 → sumN (fun t => g i (skip j t) * (c j * x (skip j t) - x j * c (skip j t))) m = c j * Y i := fun i hi => by
            have h1 := sumN_skip (fun t => g i t * (c j * x t - x j * c t)) j m hj
            have h2 : sumN (fun t => g i t * (c j * x t - x j * c t)) (m + 1) = c j * Y i := by
              rw [sumN_congr (m + 1) (g := fun t => c j * (g i t * x t) + (-(x j)) * (g i t * c t)) (fun t _ => by grind), sumN_add, sumN_mul, sumN_mul, hc i hi, hY]
              simp
            rw [h2] at h1
            rw [h1]
            rw [hz0]
            simp
          simp only
          rw [e r (by omega), e (r + 1) (by omega)]
          have h3 := hYn r hr
          have h4 : c j * Y r * (c j * Y (r + 1)) = (c j * c j) * (Y r * Y (r + 1)) := by grind
          rw [h4]
          refine Int.mul_neg_of_pos_of_neg ?_ h3
          rcases Int.lt_or_gt_of_ne hcj with h5 | h5
          · exact Int.mul_pos_of_neg_of_neg h5 h5
          · exact Int.mul_pos h5 h5)
        obtain ⟨κ, hκ, _⟩ := ih
        have h1 := inc_ge hκ (m + 1) (by omega)
        have h2 := hκ.2 (m + 1) (by omega)
        omega
      · obtain ⟨i, hi, he⟩ := inc_skip hρ
        refine hd ?_
        rw [dt_congr (m + 1) (g := fun r j => g (skip i r) j) (fun r j hr _ => by rw [he r hr])]
        exact hM i hi

end Go.Proofs.Ytlgjplhffpmfpaa
end

section
namespace Go.Proofs.Ytlgjplhffpmfpaa
open Go.RowKit Go.Deep

theorem popcS_but : ∀ n : Fin 7, ∀ k : Fin 6, k.val < n.val → popcS (2 ^ n.val - 1 - 2 ^ k.val) = n.val - 1 := by decide +kernel
theorem but_lt : ∀ n : Fin 7, ∀ k : Fin 6, k.val < n.val → 2 ^ n.val - 1 - 2 ^ k.val < 2 ^ n.val ∧ 2 ^ n.val - 1 - 2 ^ k.val ≤ 63 := by decide +kernel

def othF (l : List (List Int)) (n i k : Nat) : Int := sg (i + k) (ordF (partL l (2 ^ n - 1 - 2 ^ k) (2 ^ n - 1 - 2 ^ i)) (n - 1) (n - 1) 0)
def otherR (l : List (List Int)) (n i j : Nat) : List Int := (List.range j).map fun k => othF l n i k
theorem otherR_succ (l : List (List Int)) (n i j : Nat) : otherR l n i (j + 1) = otherR l n i j ++ [othF l n i j] := by simp [otherR, List.range_succ]
theorem otherR_length (l : List (List Int)) (n i j : Nat) : (otherR l n i j).length = j := by simp [otherR]
def otherTo (l : List (List Int)) (n r : Nat) : List (List Int) := (List.range r).map fun i => otherR l n i n
theorem otherTo_succ (l : List (List Int)) (n r : Nat) : otherTo l n (r + 1) = otherTo l n r ++ [otherR l n r n] := by simp [otherTo, List.range_succ]
theorem otherTo_length (l : List (List Int)) (n r : Nat) : (otherTo l n r).length = r := by simp [otherTo]
theorem otherTo_all (l : List (List Int)) (n : Nat) : otherTo l n n = tabF n n (othF l n) := rfl
theorem RB.later {wo wr w1 : World} {v : Value} {x : List Int} (h : RB wo wr v x) (hs : wr.Since wr.heap.size w1) : RB wo w1 v x :=
  ⟨h.since.trans (since_mono hs h.since.size), World.ownsRow.kept h.own (row := none) ⟨hs.os, hs.tape, hs.output, hs.size, fun k hk _ => hs.block k hk⟩ (by cases hv : v.ownBlock <;> simp)⟩

end Go.Proofs.Ytlgjplhffpmfpaa
end

section
namespace Go.Proofs.Ytlgjplhffpmfpaa
open Go.RowKit Go.Deep

def mv (r i : Nat) : Nat := if i = 0 then r else if i ≤ r then i - 1 else i
theorem mv_zero (i : Nat) : mv 0 i = i := by unfold mv; repeat (first | split | omega)
theorem mv_succ (r i : Nat) : ex r (r + 1) (mv r i) = mv (r + 1) i := by unfold mv ex; repeat (first | split | omega)
theorem mv_skip (r i : Nat) : mv r (i + 1) = skip r i := by unfold mv skip; repeat (first | split | omega)
theorem dt_mv {n : Nat} : ∀ (r : Nat) (f : Nat → Nat → Int), r < n → dt n (fun i j => f (mv r i) j) = sn r * dt n f
  | 0, f, _ => by
    rw [sn_zero, Int.one_mul]
    exact dt_congr n fun i j _ _ => by rw [mv_zero]
  | r + 1, f, h => by
    have e : (fun i j => f (mv (r + 1) i) j) = fun i j => (fun i j => f (ex r (r + 1) i) j) (mv r i) j := by
      funext i j
      show _ = f (ex r (r + 1) (mv r i)) j
      rw [mv_succ]
    rw [e, dt_mv r (fun i j => f (ex r (r + 1) i) j) (by omega), dt_exR f (by omega) (by omega) h, sn_succ]
    rw [Int.mul_neg, Int.neg_mul]
theorem dt_row {n r : Nat} (f : Nat → Nat → Int) (h : r < n + 1) : dt (n + 1) f = sumN (fun k => f r k * (sn (r + k) * dt n (fun i j => f (skip r i) (skip k j)))) (n + 1) := by
  have e := dt_mv r f h
  have e2 : sn r * (sn r * dt (n + 1) f) = dt (n + 1) f := by rw [← Int.mul_assoc, sn_sq, Int.one_mul]
  rw [← e2, ← e, dt_succ, ← sumN_mul]
  refine sumN_congr _ fun k _ => ?_
  have e3 : dr k (fun i j => f (mv r i) j) = fun i j => f (skip r i) (skip k j) := by
    funext i j
    show f (mv r (i + 1)) (skip k j) = _
    rw [mv_skip]
  rw [e3, sn_add]
  show sn r * (sn k * (f (mv r 0) k * _)) = _
  have e4 : mv r 0 = r := rfl
  rw [e4]
  grind
theorem dt_alien {n r s : Nat} (f : Nat → Nat → Int) (hr : r < n + 1) (hs : s < n + 1) : sumN (fun k => f s k * (sn (r + k) * dt n (fun i j => f (skip r i) (skip k j)))) (n + 1) = if s = r then dt (n + 1) f else 0 := by
  by_cases e : s = r
  · subst e
    rw [if_pos rfl, ← dt_row f hs]
  · rw [if_neg e, ← dt_sameR (n := n + 1) (setR f r (f s)) (p := s) (q := r) e hs hr (fun j _ => by unfold setR; rw [if_neg e, if_pos rfl]), dt_row _ hr]
    refine sumN_congr _ fun k _ => ?_
    have e3 : (fun i j => setR f r (f s) (skip r i) (skip k j)) = fun i j => f (skip r i) (skip k j) := by
      funext i j
      unfold setR
      rw [if_neg (by unfold skip; split <;> omega)]
    rw [e3]
    unfold setR
    rw [if_pos rfl]
theorem othF_dt {l : List (List Int)} {n i k : Nat} (hT : TabIn l) (hn : l.length = n) (hw : (l.getD 0 []).length = n) (hi : i < n) (hk : k < n) : othF l n i k = sn (k + i) * dt (n - 1) (fun a b => at2 l (skip k a) (skip i b)) := by
  have h6 := hT.2.1
  unfold othF
  rw [sg_sn, ordF_all _ (by omega), Nat.add_comm i k]
  congr 1
  exact dt_congr _ fun a b ha hb => partL_but hn hw (by omega) hk hi (by omega) (by omega)
theorem other_left {l : List (List Int)} {n i k : Nat} (hT : TabIn l) (hn : l.length = n) (hw : (l.getD 0 []).length = n) (hi : i < n) (hk : k < n) :
    sumN (fun j => at2 l i j * othF l n j k) n = if i = k then dt n (at2 l) else 0 := by
  obtain ⟨m, rfl⟩ : ∃ m, n = m + 1 := ⟨n - 1, by omega⟩
  rw [← dt_alien (at2 l) hk hi]
  exact sumN_congr _ fun j hj => by rw [othF_dt hT hn hw hj hk]; rfl
theorem other_right {l : List (List Int)} {n i k : Nat} (hT : TabIn l) (hn : l.length = n) (hw : (l.getD 0 []).length = n) (hi : i < n) (hk : k < n) :
    sumN (fun j => othF l n i j * at2 l j k) n = if i = k then dt n (at2 l) else 0 := by
  obtain ⟨m, rfl⟩ : ∃ m, n = m + 1 := ⟨n - 1, by omega⟩
  have h := dt_alien (fun a b => at2 l b a) (r := i) (s := k) hi hk
  rw [dt_turn] at h
  have e : (if i = k then dt (m + 1) (at2 l) else 0) = if k = i then dt (m + 1) (at2 l) else 0 := by
    by_cases e : i = k
    · rw [if_pos e, if_pos e.symm]
    · rw [if_neg e, if_neg (fun h => e h.symm)]
  rw [e, ← h]
  refine sumN_congr _ fun j hj => ?_
  rw [othF_dt hT hn hw hi hj, Nat.add_comm j i, Int.mul_comm]
  show at2 l j k * _ = at2 l j k * (sn (i + j) * dt m (fun a b => at2 l (skip j b) (skip i a)))
  rw [← dt_turn m (fun a b => at2 l (skip j b) (skip i a))]
  rfl
theorem othF_bd {l : List (List Int)} {n i k : Nat} (hT : TabIn l) (hn : l.length = n) (hw : (l.getD 0 []).length = n) (hi : i < n) (hk : k < n) : -10000000000 ≤ othF l n i k ∧ othF l n i k ≤ 10000000000 := by
  have h6 := hT.2.1
  rw [othF_dt hT hn hw hi hk, ← sg_sn]
  refine sg_bd ?_
  have hb := dt_bd (n - 1) (fun a b => at2 l (skip k a) (skip i b)) (by omega) (fun a b ha hb => hT.at (by have := skip_bd (k := k) ha; omega) (by have := skip_bd (k := i) hb; omega))
  have hB : bdN (n - 1) ≤ 10000000000 := by
    have : n - 1 ≤ 5 := by omega
    match n - 1, this with
    | 0, _ => decide
    | 1, _ => decide
    | 2, _ => decide
    | 3, _ => decide
    | 4, _ => decide
    | 5, _ => decide
  omega
theorem rec_tabF {n m : Nat} (f : Nat → Nat → Int) (hn : 1 ≤ n ∧ n ≤ 6) (hm : 1 ≤ m ∧ m ≤ 6) : Rec (tabF n m f) := by
  have h0 : ((tabF n m f).getD 0 []).length = m := tabF_len _ _ _ _ (by omega)
  exact ⟨by rw [tabF_length]; omega, by rw [tabF_length]; omega, by rw [h0]; exact hm, fun hr => by rw [h0]; rw [tabF_length] at hr; exact tabF_len _ _ _ _ hr⟩
structure OtherM (l M : List (List Int)) (n : Nat) (v : Int) : Prop where
  len : M.length = n
  wid : (M.getD 0 []).length = n
  rec1 : Rec M
  b1 : ∀ i j k, i < n → j < n → k < (M.getD 0 []).length → -1000000000000 ≤ at2 l i j * at2 M j k ∧ at2 l i j * at2 M j k ≤ 1000000000000
  b2 : ∀ i j k, i < n → j < n → k < (l.getD 0 []).length → -1000000000000 ≤ at2 M i j * at2 l j k ∧ at2 M i j * at2 l j k ≤ 1000000000000
  l1 : (makeL l M).length = n
  l2 : (makeL M l).length = n
  w1 : ((makeL l M).getD 0 []).length = n
  w2 : ((makeL M l).getD 0 []).length = n
  r1 : Rec (makeL l M)
  r2 : Rec (makeL M l)
  e1 : ∀ i k, i < n → k < n → at2 (makeL l M) i k = if i = k then v else 0
  e2 : ∀ i k, i < n → k < n → at2 (makeL M l) i k = if i = k then v else 0
theorem otherM_of {l : List (List Int)} {n : Nat} (h : sqB l = true) (hn : l.length = n) : OtherM l (tabF n n (othF l n)) n (ordF l n n 0) := by
  obtain ⟨hT, hw⟩ := sqB_of h
  have h1 := hT.1
  have h6 := hT.2.1
  have hwn : (l.getD 0 []).length = n := by omega
  have hl : (tabF n n (othF l n)).length = n := tabF_length _ _ _
  have hmw : ((tabF n n (othF l n)).getD 0 []).length = n := tabF_len _ _ _ _ (by omega)
  have hat : ∀ i j, i < n → j < n → at2 (tabF n n (othF l n)) i j = othF l n i j := fun i j hi hj => tabF_at _ _ _ i j hi hj
  have hp : ∀ i j k, i < n → j < n → k < n → -1000000000000 ≤ at2 l i j * othF l n j k ∧ at2 l i j * othF l n j k ≤ 1000000000000 := fun i j k hi hj hk => by
    have b := hT.at (i := i) (k := j) (by omega) (by omega)
    have c := othF_bd hT hn hwn hj hk
    have := mul_bdB b.1 b.2 c.1 c.2
    omega
  have hp2 : ∀ i j k, i < n → j < n → k < n → -1000000000000 ≤ othF l n i j * at2 l j k ∧ othF l n i j * at2 l j k ≤ 1000000000000 := fun i j k hi hj hk => by
    have b := hT.at (i := j) (k := k) (by omega) (by omega)
    have c := othF_bd hT hn hwn hi hj
    have := mul_bdB b.1 b.2 c.1 c.2
    rw [Int.mul_comm]
    omega
  have g1 : 1 ≤ n ∧ n ≤ 6 := by omega
  have q1 : makeL l (tabF n n (othF l n)) = tabF n n fun i k => sumN (dotF l (tabF n n (othF l n)) i k) n := by unfold makeL; rw [hn, hl, hmw]
  have q2 : makeL (tabF n n (othF l n)) l = tabF n n fun i k => sumN (dotF (tabF n n (othF l n)) l i k) n := by unfold makeL; rw [hn, hl, hwn]
  refine ⟨hl, hmw, rec_tabF _ g1 g1, fun i j k hi hj hk => ?_, fun i j k hi hj hk => ?_, by rw [q1, tabF_length], by rw [q2, tabF_length], by rw [q1]; exact tabF_len _ _ _ _ (by omega), by rw [q2]; exact tabF_len _ _ _ _ (by omega), by rw [q1]; exact rec_tabF _ g1 g1, by rw [q2]; exact rec_tabF _ g1 g1, fun i k hi hk => ?_, fun i k hi hk => ?_⟩
  · rw [hmw] at hk
    rw [hat j k hj hk]
    exact hp i j k hi hj hk
  · rw [hwn] at hk
    rw [hat i j hi hj]
    exact hp2 i j k hi hj hk
  · rw [q1, show at2 (tabF n n fun i k => sumN (dotF l (tabF n n (othF l n)) i k) n) i k = sumN (dotF l (tabF n n (othF l n)) i k) n from tabF_at _ _ _ i k hi hk, ordF_all _ (by omega), ← other_left hT hn hwn hi hk]
    exact sumN_congr _ fun j hj => by show at2 l i j * at2 _ j k = _; rw [hat j k hj hk]
  · rw [q2, show at2 (tabF n n fun i k => sumN (dotF (tabF n n (othF l n)) l i k) n) i k = sumN (dotF (tabF n n (othF l n)) l i k) n from tabF_at _ _ _ i k hi hk, ordF_all _ (by omega), ← other_right hT hn hwn hi hk]
    exact sumN_congr _ fun j hj => by show at2 _ i j * at2 l j k = _; rw [hat i j hi hj]

end Go.Proofs.Ytlgjplhffpmfpaa
end

section
namespace Go.Proofs.Ytlgjplhffpmfpaa
open Go.RowKit Go.Deep

def setC (f : Nat → Nat → Int) (k : Nat) (b : Nat → Int) (i j : Nat) : Int := if j = k then b i else f i j
theorem dt_setC {n k : Nat} (f : Nat → Nat → Int) (b : Nat → Int) (hk : k < n + 1) : dt (n + 1) (setC f k b) = sumN (fun j => b j * (sn (j + k) * dt n (fun a c => f (skip j a) (skip k c)))) (n + 1) := by
  rw [← dt_turn, dt_row _ hk]
  refine sumN_congr _ fun j _ => ?_
  have e1 : setC f k b j k = b j := if_pos rfl
  have e2 : (fun a c => setC f k b (skip j c) (skip k a)) = fun a c => f (skip j c) (skip k a) := by
    funext a c
    unfold setC
    rw [if_neg (by unfold skip; split <;> omega)]
  show setC f k b j k * (sn (k + j) * dt n (fun a c => setC f k b (skip j c) (skip k a))) = _
  rw [e1, e2, Nat.add_comm k j, ← dt_turn n (fun a c => f (skip j a) (skip k c))]
theorem dt_solve {n i : Nat} (f : Nat → Nat → Int) (b : Nat → Int) (hi : i < n) : sumN (fun k => f i k * dt n (setC f k b)) n = dt n f * b i := by
  obtain ⟨m, rfl⟩ : ∃ m, n = m + 1 := ⟨n - 1, by omega⟩
  have e1 : sumN (fun k => f i k * dt (m + 1) (setC f k b)) (m + 1) = sumN (fun k => sumN (fun j => b j * (f i k * (sn (j + k) * dt m (fun a c => f (skip j a) (skip k c))))) (m + 1)) (m + 1) :=
    sumN_congr _ fun k hk => by
      rw [dt_setC f b hk, ← sumN_mul]
      exact sumN_congr _ fun j _ => by grind
  rw [e1, sumN_comm]
  have e2 : sumN (fun j => sumN (fun k => b j * (f i k * (sn (j + k) * dt m (fun a c => f (skip j a) (skip k c))))) (m + 1)) (m + 1) = sumN (fun j => b j * (if i = j then dt (m + 1) f else 0)) (m + 1) :=
    sumN_congr _ fun j hj => by rw [sumN_mul, dt_alien f hj hi]
  rw [e2, sumN_one _ i (m + 1) hi (fun j _ hji => by rw [if_neg (fun h => hji h.symm), Int.mul_zero]), if_pos rfl, Int.mul_comm]

end Go.Proofs.Ytlgjplhffpmfpaa
end

section
namespace Go.Proofs.Ytlgjplhffpmfpaa
open Go.RowKit Go.Deep

theorem dt_scal (a : Int) : ∀ p, dt p (fun i j => if i = j then a else 0) = pw a p
  | 0 => rfl
  | p + 1 => by
    rw [dt_corner _ (fun i _ => by rw [if_neg (by omega)]), if_pos rfl]
    show a * _ = a * pw a p
    rw [← dt_scal a p]
    congr 1
    exact dt_congr p fun i j _ _ => by
      by_cases e : i = j
      · rw [if_pos e, if_pos (by omega)]
      · rw [if_neg e, if_neg (by omega)]

def bord (n : Nat) (M : Nat → Nat → Int) (r s : Nat) : Int := M (n + r) (n + s) * dt n M - sumN (fun k => M (n + r) k * dt n (setC M k (fun i => M i (n + s)))) n
def sylN (n : Nat) (M : Nat → Nat → Int) (i j : Nat) : Int := if j < n then (if i = j then 1 else 0) else if i < n then -(dt n (setC M i (fun q => M q j))) else if i = j then dt n M else 0

theorem sumN_split (f : Nat → Int) (n : Nat) : ∀ m, sumN f (n + m) = sumN f n + sumN (fun j => f (n + j)) m
  | 0 => by simp [sumN]
  | m + 1 => by
    show sumN f (n + m) + f (n + m) = sumN f n + (sumN (fun j => f (n + j)) m + f (n + m))
    rw [sumN_split f n m]; omega

theorem mul_sylN {n p : Nat} (M : Nat → Nat → Int) {i j : Nat} (hj : j < n + p) : mulF (n + p) M (sylN n M) i j = if j < n then M i j else (M i j * dt n M - sumN (fun k => M i k * dt n (setC M k (fun q => M q j))) n) := by
  unfold mulF
  by_cases hn : j < n
  · rw [if_pos hn, sumN_one _ j (n + p) hj (fun k _ hk => by unfold sylN; rw [if_pos hn, if_neg hk, Int.mul_zero])]
    unfold sylN; rw [if_pos hn, if_pos rfl, Int.mul_one]
  · rw [if_neg hn, sumN_split, sumN_one (fun q => M i (n + q) * sylN n M (n + q) j) (j - n) p (by omega) (fun k _ hk => by unfold sylN; rw [if_neg hn, if_neg (by omega), if_neg (by omega), Int.mul_zero])]
    rw [sumN_congr n (g := fun k => -(M i k * dt n (setC M k (fun q => M q j)))) (fun k hk => by unfold sylN; rw [if_neg hn, if_pos hk, Int.mul_neg]), sumN_neg]
    rw [show n + (j - n) = j by omega]
    unfold sylN
    rw [if_neg hn, if_neg hn, if_pos rfl]
    omega

theorem dt_sylN (n p : Nat) (M : Nat → Nat → Int) : dt (n + p) (sylN n M) = pw (dt n M) p := by
  rw [← dt_turn, dt_block p n _ (fun i j hi hj _ => by unfold sylN; rw [if_pos hi, if_neg (by omega)])]
  rw [dt_congr n (g := oneF) (fun i j hi hj => by
    unfold sylN oneF
    rw [if_pos hi]
    by_cases e : i = j
    · rw [if_pos e, if_pos e.symm]
    · rw [if_neg e, if_neg (fun h => e h.symm)]), dt_oneF, Int.one_mul, ← dt_scal]
  exact dt_congr p fun i j _ _ => by
    unfold sylN
    rw [if_neg (by omega), if_neg (by omega)]
    by_cases e : i = j
    · rw [if_pos e, if_pos (by omega)]
    · rw [if_neg e, if_neg (by omega)]

theorem dt_sylv (n p : Nat) (M : Nat → Nat → Int) : dt (n + p) M * pw (dt n M) p = dt n M * dt p (bord n M) := by
  rw [← dt_sylN n p M, ← dt_mul, dt_block p n _ (fun i j hi hj hp => by
    rw [mul_sylN M hp, if_neg (by omega), dt_solve M (fun q => M q j) hi, Int.mul_comm]; omega)]
  congr 1
  · exact dt_congr n fun i j _ hj => by rw [mul_sylN M (by omega), if_pos hj]
  · exact dt_congr p fun i j _ hj => by rw [mul_sylN M (by omega), if_neg (by omega)]; rfl

theorem dt_bord {n : Nat} (M : Nat → Nat → Int) (r s : Nat) (h : dt n M ≠ 0) : bord n M r s = dt (n + 1) (fun i j => M (if i < n then i else n + r) (if j < n then j else n + s)) := by
  obtain ⟨F, hF⟩ : ∃ F : Nat → Nat → Int, F = fun i j => M (if i < n then i else n + r) (if j < n then j else n + s) := ⟨_, rfl⟩
  have e := dt_sylv n 1 F
  have e0 : dt n F = dt n M := dt_congr n fun i j hi hj => by rw [hF]; show M _ _ = _; rw [if_pos hi, if_pos hj]
  have e1 : dt 1 (bord n F) = bord n M r s := by
    rw [dt_one]
    unfold bord
    rw [e0]
    have a1 : F (n + 0) (n + 0) = M (n + r) (n + s) := by rw [hF]; show M _ _ = _; rw [if_neg (by omega), if_neg (by omega)]
    rw [a1]
    congr 1
    refine sumN_congr n fun k hk => ?_
    have a2 : F (n + 0) k = M (n + r) k := by rw [hF]; show M _ _ = _; rw [if_neg (by omega), if_pos hk]
    rw [a2]
    congr 1
    refine dt_congr n fun i j hi hj => ?_
    unfold setC
    have a3 : F i (n + 0) = M i (n + s) := by rw [hF]; show M _ _ = _; rw [if_pos hi, if_neg (by omega)]
    have a4 : F i j = M i j := by rw [hF]; show M _ _ = _; rw [if_pos hi, if_pos hj]
    rw [a4]
    by_cases e : j = k
    · rw [if_pos e, if_pos e]; exact a3
    · rw [if_neg e, if_neg e]
  rw [e0, e1] at e
  rw [← hF]
  have e2 : pw (dt n M) 1 = dt n M := by simp [pw]
  rw [e2, Int.mul_comm] at e
  exact (Int.eq_of_mul_eq_mul_left h e).symm

def cyc (n i : Nat) : Nat := if i < n then i + 1 else if i = n then 0 else i
theorem cyc_succ (n i : Nat) : cyc (n + 1) i = cyc n (ex1 n i) := by unfold cyc ex1; repeat (first | split | omega)
theorem dt_cycC (N : Nat) : ∀ (n : Nat) (f : Nat → Nat → Int), n < N → dt N (fun i j => f i (cyc n j)) = sn n * dt N f
  | 0, f, _ => by
    rw [dt_congr N (g := f) (fun i j _ _ => by congr 1; unfold cyc; repeat (first | split | omega)), sn_zero, Int.one_mul]
  | n + 1, f, h => by
    have e := dt_ex1 n N (fun i j => f i (cyc n j)) h
    rw [dt_cycC N n f (by omega)] at e
    rw [dt_congr N (g := fun i j => f i (cyc n (ex1 n j))) (fun i j _ _ => by rw [cyc_succ]), e, sn_succ, Int.neg_mul]
theorem dt_cycR (N n : Nat) (f : Nat → Nat → Int) (h : n < N) : dt N (fun i j => f (cyc n i) j) = sn n * dt N f := by
  rw [← dt_turn, dt_cycC N n (fun i j => f j i) h, dt_turn]

theorem dt_dj (n : Nat) (f : Nat → Nat → Int) (h : dt n (fun i j => f (i + 1) (j + 1)) ≠ 0) :
    dt (n + 1) f * dt (n + 1) (fun i j => f (i + 1) (j + 1)) - dt (n + 1) (fun i j => f i (j + 1)) * dt (n + 1) (fun i j => f (i + 1) j) = dt n (fun i j => f (i + 1) (j + 1)) * dt (n + 2) f := by
  obtain ⟨M, hM⟩ : ∃ M : Nat → Nat → Int, M = fun i j => f (cyc n i) (cyc n j) := ⟨_, rfl⟩
  have e0 : dt n M = dt n (fun i j => f (i + 1) (j + 1)) := dt_congr n fun i j hi hj => by rw [hM]; show f _ _ = _; unfold cyc; rw [if_pos hi, if_pos hj]
  have e1 : dt (n + 2) M = dt (n + 2) f := by
    rw [hM, dt_cycR (n + 2) n (fun i j => f i (cyc n j)) (by omega), dt_cycC (n + 2) n f (by omega), ← Int.mul_assoc, sn_sq, Int.one_mul]
  have hne : dt n M ≠ 0 := by rw [e0]; exact h
  have ca : ∀ i, i < n + 1 → cyc n (if i < n then i else n + 0) = cyc n i := fun i hi => by
    split
    · rfl
    · congr 1; omega
  have cb : ∀ i, i < n + 1 → cyc n (if i < n then i else n + 1) = i + 1 := fun i hi => by unfold cyc; repeat (first | split | omega)
  have b00 : bord n M 0 0 = dt (n + 1) f := by
    rw [dt_bord M 0 0 hne, dt_congr (n + 1) (g := fun i j => f (cyc n i) (cyc n j)) (fun i j hi hj => by rw [hM]; show f _ _ = _; rw [ca i hi, ca j hj]), dt_cycR (n + 1) n (fun i j => f i (cyc n j)) (by omega), dt_cycC (n + 1) n f (by omega), ← Int.mul_assoc, sn_sq, Int.one_mul]
  have b11 : bord n M 1 1 = dt (n + 1) (fun i j => f (i + 1) (j + 1)) := by
    rw [dt_bord M 1 1 hne]
    exact dt_congr (n + 1) fun i j hi hj => by rw [hM]; show f _ _ = _; rw [cb i hi, cb j hj]
  have b01 : bord n M 0 1 = sn n * dt (n + 1) (fun i j => f i (j + 1)) := by
    rw [dt_bord M 0 1 hne, ← dt_cycR (n + 1) n (fun i j => f i (j + 1)) (by omega)]
    exact dt_congr (n + 1) fun i j hi hj => by rw [hM]; show f _ _ = _; rw [ca i hi, cb j hj]
  have b10 : bord n M 1 0 = sn n * dt (n + 1) (fun i j => f (i + 1) j) := by
    rw [dt_bord M 1 0 hne, ← dt_cycC (n + 1) n (fun i j => f (i + 1) j) (by omega)]
    exact dt_congr (n + 1) fun i j hi hj => by rw [hM]; show f _ _ = _; rw [cb i hi, ca j hj]
  have e := dt_sylv n 2 M
  rw [dt_two, b00, b11, b01, b10, e1, e0] at e
  have e2 : pw (dt n (fun i j => f (i + 1) (j + 1))) 2 = dt n (fun i j => f (i + 1) (j + 1)) * dt n (fun i j => f (i + 1) (j + 1)) := by simp [pw]
  have e3 : sn n * dt (n + 1) (fun i j => f i (j + 1)) * (sn n * dt (n + 1) (fun i j => f (i + 1) j)) = dt (n + 1) (fun i j => f i (j + 1)) * dt (n + 1) (fun i j => f (i + 1) j) := by
    have := sn_sq n
    grind
  rw [e2, e3] at e
  have e4 : dt n (fun i j => f (i + 1) (j + 1)) * (dt n (fun i j => f (i + 1) (j + 1)) * dt (n + 2) f) = dt n (fun i j => f (i + 1) (j + 1)) * (dt (n + 1) f * dt (n + 1) (fun i j => f (i + 1) (j + 1)) - dt (n + 1) (fun i j => f i (j + 1)) * dt (n + 1) (fun i j => f (i + 1) j)) := by
    rw [← e]; grind
  exact (Int.eq_of_mul_eq_mul_left h e4).symm

end Go.Proofs.Ytlgjplhffpmfpaa
end

section
namespace Go.Proofs.Ytlgjplhffpmfpaa

theorem dt_unit (n q : Nat) (g : Nat → Nat → Int) (hq : q < n + 1) : dt (n + 1) (fun i j => if j = 0 then (if i = q then 1 else 0) else g i (j - 1)) = sn q * dt n (fun i j => g (skip q i) j) := by
  rw [dt_col, sumN_one _ q _ hq (fun i _ hne => by
    rw [if_pos rfl, if_neg hne]
    simp)]
  rw [if_pos rfl, if_pos rfl, Int.one_mul]
  rfl

theorem kar (n : Nat) (g : Nat → Nat → Int) (q : Nat) (hq : 1 ≤ q ∧ q ≤ n) (hB : dt n (fun i t => g (i + 1) t) ≠ 0) :
    dt (n + 1) (fun i t => g (skip q i) t) * dt n (fun i t => g (i + 1) t) = dt (n + 1) (fun i t => g i t) * dt n (fun i t => g (skip q (i + 1)) t) + dt (n + 1) (fun i t => g (i + 1) t) * dt n (fun i t => g (skip q i) t) := by
  obtain ⟨f, hf⟩ : ∃ f : Nat → Nat → Int, f = fun i j => if j = 0 then (if i = q then 1 else 0) else g i (j - 1) := ⟨_, rfl⟩
  have hin : dt n (fun i j => f (i + 1) (j + 1)) = dt n (fun i t => g (i + 1) t) := dt_congr n fun i j _ _ => by rw [hf]; dsimp only; rw [if_neg (by omega), Nat.add_sub_cancel]
  have h := dt_dj n f (by rw [hin]; exact hB)
  have e1 : dt (n + 1) f = sn q * dt n (fun i j => g (skip q i) j) := by rw [hf]; exact dt_unit n q g (by omega)
  have e2 : dt (n + 1) (fun i j => f (i + 1) (j + 1)) = dt (n + 1) (fun i t => g (i + 1) t) := dt_congr _ fun i j _ _ => by rw [hf]; dsimp only; rw [if_neg (by omega), Nat.add_sub_cancel]
  have e3 : dt (n + 1) (fun i j => f i (j + 1)) = dt (n + 1) (fun i t => g i t) := dt_congr _ fun i j _ _ => by rw [hf]; dsimp only; rw [if_neg (by omega), Nat.add_sub_cancel]
  have e4 : dt (n + 1) (fun i j => f (i + 1) j) = sn (q - 1) * dt n (fun i t => g (skip q (i + 1)) t) := by
    rw [dt_congr (n + 1) (g := fun i j => if j = 0 then (if i = q - 1 then 1 else 0) else (fun i j => g (i + 1) j) i (j - 1)) (fun i j _ _ => by
      rw [hf]
      dsimp only
      by_cases hj : j = 0
      · rw [if_pos hj, if_pos hj]
        by_cases hi : i + 1 = q
        · rw [if_pos hi, if_pos (by omega)]
        · rw [if_neg hi, if_neg (by omega)]
      · rw [if_neg hj, if_neg hj]), dt_unit n (q - 1) _ (by omega)]
    congr 1
    refine dt_congr n fun i j _ _ => ?_
    obtain ⟨p, rfl⟩ : ∃ p, q = p + 1 := ⟨q - 1, by omega⟩
    rw [Nat.add_sub_cancel, skip_succ]
  have e5 : dt (n + 2) f = sn q * dt (n + 1) (fun i j => g (skip q i) j) := by rw [hf]; exact dt_unit (n + 1) q g (by omega)
  rw [hin, e1, e2, e3, e4, e5] at h
  have hs : sn q = -sn (q - 1) := by
    obtain ⟨p, rfl⟩ : ∃ p, q = p + 1 := ⟨q - 1, by omega⟩
    rw [sn_succ, Nat.add_sub_cancel]
  have hsq := sn_sq q
  have hs2 : sn (q - 1) = -sn q := by omega
  rw [hs2] at h
  generalize dt n (fun i t => g (i + 1) t) = B at *
  generalize dt n (fun i j => g (skip q i) j) = F at *
  generalize dt (n + 1) (fun i t => g (i + 1) t) = E at *
  generalize dt (n + 1) (fun i t => g i t) = C at *
  generalize dt n (fun i t => g (skip q (i + 1)) t) = D at *
  generalize dt (n + 1) (fun i j => g (skip q i) j) = A at *
  generalize sn q = s at *
  have h2 : s * (s * F * E - C * (-s * D)) = s * (B * (s * A)) := by rw [h]
  have h3 : s * (s * F * E - C * (-s * D)) = (s * s) * (E * F + C * D) := by grind
  have h4 : s * (B * (s * A)) = (s * s) * (A * B) := by grind
  rw [h3, h4, hsq] at h2
  omega

theorem ins_skip {p i : Nat} {ρ : Nat → Nat} (r : Nat) : ins p i ρ (skip p r) = ρ r := by
  unfold ins skip
  by_cases h : r < p
  · rw [if_pos h, if_pos h]
  · rw [if_neg h, if_neg (by omega), if_neg (by omega), Nat.add_sub_cancel]

theorem fek {h : Nat → Nat → Int} {n N : Nat} (h1 : ∀ ρ, IncT n N ρ → 0 < dt n (fun i t => h (ρ i) t)) (h2 : ∀ s, s + (n + 1) ≤ N → 0 < dt (n + 1) (fun i t => h (s + i) t)) :
    ∀ (d : Nat) (ρ : Nat → Nat), IncT (n + 1) N ρ → ρ n ≤ ρ 0 + d → 0 < dt (n + 1) (fun i t => h (ρ i) t)
  | 0, ρ, hρ, hd => by
    have hn : n = 0 := by
      rcases Nat.eq_zero_or_pos n with h3 | h3
      · exact h3
      · have := hρ.lt h3 (by omega : n < n + 1); omega
    subst hn
    have h4 := h2 (ρ 0) (by have := hρ.2 0 (by omega); omega)
    rw [dt_congr (0 + 1) (g := fun i t => h (ρ 0 + i) t) (fun i t hi _ => by
      have : i = 0 := by omega
      subst this; rfl)]
    exact h4
  | d + 1, ρ, hρ, hd => by
    by_cases hc : ∀ i, i < n → ρ (i + 1) = ρ i + 1
    · have hall : ∀ i, i ≤ n → ρ i = ρ 0 + i := by
        intro i
        induction i with
        | zero => intro _; rfl
        | succ i ih => intro hi; rw [hc i (by omega), ih (by omega)]; omega
      rw [dt_congr (n + 1) (g := fun i t => h (ρ 0 + i) t) (fun i t hi _ => by rw [hall i (by omega)])]
      exact h2 (ρ 0) (by have := hρ.2 n (by omega); have := hall n (Nat.le_refl _); omega)
    · obtain ⟨p, hp, hgap⟩ : ∃ p, p < n ∧ ρ (p + 1) ≠ ρ p + 1 := by
        apply Classical.byContradiction
        intro h3
        exact hc fun i hi => Classical.byContradiction fun h4 => h3 ⟨i, hi, h4⟩
      have hlt := hρ.1 p (by omega)
      have hσ : IncT (n + 1 + 1) N (ins (p + 1) (ρ p + 1) ρ) := ins_inc hρ (by have := hρ.2 (p + 1) (by omega); omega) (by omega) (fun r hr => by
        rcases Nat.lt_succ_iff_lt_or_eq.1 hr with h3 | h3
        · have := hρ.lt h3 (by omega : p < n + 1); omega
        · subst h3; omega) (fun r h3 h4 => by
        rcases Nat.eq_or_lt_of_le h3 with h5 | h5
        · rw [← h5]; omega
        · have := hρ.lt h5 h4; omega)
      obtain ⟨σ, hs⟩ : ∃ σ, ins (p + 1) (ρ p + 1) ρ = σ := ⟨_, rfl⟩
      have hsk : ∀ r, σ (skip (p + 1) r) = ρ r := fun r => by rw [← hs]; exact ins_skip r
      rw [hs] at hσ
      have hσ0 : σ 0 = ρ 0 := by have := hsk 0; rwa [skip_lt (by omega)] at this
      have hσn : σ (n + 1) = ρ n := by have := hsk n; rwa [skip_ge (by omega)] at this
      have hB : 0 < dt n (fun i t => h (σ (i + 1)) t) := h1 (fun i => σ (i + 1)) ⟨fun i hi => hσ.1 (i + 1) (by omega), fun i hi => hσ.2 (i + 1) (by omega)⟩
      have hD : 0 < dt n (fun i t => h (σ (skip (p + 1) (i + 1))) t) := by
        rw [dt_congr n (g := fun i t => h (ρ (i + 1)) t) (fun i t _ _ => by rw [hsk])]
        exact h1 (fun i => ρ (i + 1)) ⟨fun i hi => hρ.1 (i + 1) (by omega), fun i hi => hρ.2 (i + 1) (by omega)⟩
      have hF : 0 < dt n (fun i t => h (σ (skip (p + 1) i)) t) := by
        rw [dt_congr n (g := fun i t => h (ρ i) t) (fun i t _ _ => by rw [hsk])]
        exact h1 ρ ⟨fun i hi => hρ.1 i (by omega), fun i hi => hρ.2 i (by omega)⟩
      have hC : 0 < dt (n + 1) (fun i t => h (σ i) t) := fek h1 h2 d σ ⟨fun i hi => hσ.1 i (by omega), fun i hi => hσ.2 i (by omega)⟩ (by have := hσ.1 n (by omega); omega)
      have hE : 0 < dt (n + 1) (fun i t => h (σ (i + 1)) t) := fek h1 h2 d (fun i => σ (i + 1)) ⟨fun i hi => hσ.1 (i + 1) (by omega), fun i hi => hσ.2 (i + 1) (by omega)⟩ (by
        have := hσ.1 0 (by omega)
        show σ (n + 1) ≤ σ (0 + 1) + d
        rw [hσn]
        rw [hσ0] at this
        omega)
      have hk := kar n (fun i t => h (σ i) t) (p + 1) ⟨by omega, by omega⟩ (by omega)
      rw [dt_congr (n + 1) (f := fun i t => h (σ (skip (p + 1) i)) t) (g := fun i t => h (ρ i) t) (fun i t _ _ => by rw [hsk])] at hk
      have g1 := Int.mul_pos hC hD
      have g2 := Int.mul_pos hE hF
      have g3 : 0 < dt (n + 1) (fun i t => h (ρ i) t) * dt n (fun i t => h (σ (i + 1)) t) := by omega
      exact Int.pos_of_mul_pos_left g3 hB

def Sol (f : Nat → Nat → Int) (n m : Nat) : Prop := ∀ k i j, i + k ≤ n → j + k ≤ m → 0 < dt k (fun a b => f (i + a) (j + b))
theorem sol_rows {f : Nat → Nat → Int} {n m : Nat} (h : Sol f n m) : ∀ k j, j + k ≤ m → ∀ ρ, IncT k n ρ → 0 < dt k (fun a b => f (ρ a) (j + b))
  | 0, _, _, _, _ => by simp [dt]
  | k + 1, j, hj, ρ, hρ => fek (h := fun r t => f r (j + t)) (N := n) (fun σ hσ => sol_rows h k j (by omega) σ hσ) (fun s hs => h (k + 1) s j hs hj) n ρ hρ (by have := hρ.2 k (by omega); omega)
theorem sol_all {f : Nat → Nat → Int} {n m : Nat} (h : Sol f n m) : ∀ k ρ γ, IncT k n ρ → IncT k m γ → 0 < dt k (fun a b => f (ρ a) (γ b))
  | 0, _, _, _, _ => by simp [dt]
  | k + 1, ρ, γ, hρ, hγ => by
    rw [← dt_turn]
    refine fek (h := fun c t => f (ρ t) c) (N := m) (fun σ hσ => ?_) (fun s hs => ?_) m γ hγ (by have := hγ.2 k (by omega); omega)
    · rw [← dt_turn]
      exact sol_all h k ρ σ ⟨fun i hi => hρ.1 i (by omega), fun i hi => hρ.2 i (by omega)⟩ hσ
    · rw [← dt_turn]
      exact sol_rows h (k + 1) s hs ρ hρ

theorem sol_first {f : Nat → Nat → Int} {n m : Nat} (h : ∀ k i j, i = 0 ∨ j = 0 → i + k ≤ n → j + k ≤ m → 0 < dt k (fun a b => f (i + a) (j + b))) : Sol f n m := by
  have key : ∀ d k i j, i + j ≤ d → i + k ≤ n → j + k ≤ m → 0 < dt k (fun a b => f (i + a) (j + b)) := by
    intro d
    induction d with
    | zero => intro k i j hd hi hj; exact h k i j (by omega) hi hj
    | succ d ih =>
      intro k
      induction k with
      | zero => intro i j _ _ _; simp [dt]
      | succ k ihk =>
        intro i j hd hi hj
        by_cases h0 : i = 0 ∨ j = 0
        · exact h (k + 1) i j h0 hi hj
        · obtain ⟨i, rfl⟩ : ∃ p, i = p + 1 := ⟨i - 1, by omega⟩
          obtain ⟨j, rfl⟩ : ∃ p, j = p + 1 := ⟨j - 1, by omega⟩
          have hin : 0 < dt k (fun a b => f (i + (a + 1)) (j + (b + 1))) := by
            have := ihk (i + 1) (j + 1) hd (by omega) (by omega)
            rwa [dt_congr k (g := fun a b => f (i + (a + 1)) (j + (b + 1))) (fun a b _ _ => by congr 1 <;> omega)] at this
          have hdj := dt_dj k (fun a b => f (i + a) (j + b)) (by omega)
          have hP := ih (k + 1) i j (by omega) (by omega) (by omega)
          have hQ := ih (k + 2) i j (by omega) (by omega) (by omega)
          have hX : 0 < dt (k + 1) (fun a b => f (i + a) (j + (b + 1))) := by
            have := ih (k + 1) i (j + 1) (by omega) (by omega) (by omega)
            rwa [dt_congr (k + 1) (g := fun a b => f (i + a) (j + (b + 1))) (fun a b _ _ => by congr 1; omega)] at this
          have hY : 0 < dt (k + 1) (fun a b => f (i + (a + 1)) (j + b)) := by
            have := ih (k + 1) (i + 1) j (by omega) (by omega) (by omega)
            rwa [dt_congr (k + 1) (g := fun a b => f (i + (a + 1)) (j + b)) (fun a b _ _ => by congr 1; omega)] at this
          rw [dt_congr (k + 1) (g := fun a b => f (i + (a + 1)) (j + (b + 1))) (fun a b _ _ => by congr 1 <;> omega)]
          have g1 := Int.mul_pos hX hY
          have g2 := Int.mul_pos hin hQ
          have g3 : 0 < dt (k + 1) (fun a b => f (i + (a + 1)) (j + (b + 1))) * dt (k + 1) (fun a b => f (i + a) (j + b)) := by
            rw [Int.mul_comm]
            omega
          exact Int.pos_of_mul_pos_left g3 hP
  exact fun k i j hi hj => key (i + j) k i j (Nat.le_refl _) hi hj

end Go.Proofs.Ytlgjplhffpmfpaa
end

section
namespace Go.Proofs.Ytlgjplhffpmfpaa
open Go.RowKit Go.Deep

noncomputable def partOk (l : List (List Int)) (s c : Int) : Bool := tabIn l && (inB s 1 (2 ^ l.length - 1 : Nat) && inB c 1 (2 ^ (l.getD 0 []).length - 1 : Nat))
theorem partOk_tab {l : List (List Int)} {s c : Int} (h : partOk l s c = true) : TabIn (partL l s.toNat c.toNat) := by
  unfold partOk at h
  rw [Bool.and_eq_true, Bool.and_eq_true] at h
  have h2 := of_decide_eq_true h.2.1
  have h3 := of_decide_eq_true h.2.2
  have p1 := Nat.one_le_two_pow (n := l.length)
  have p2 := Nat.one_le_two_pow (n := (l.getD 0 []).length)
  exact partL_tab (tabIn_of h.1) (by omega) (by omega) (by omega) (by omega)

end Go.Proofs.Ytlgjplhffpmfpaa
end

section
namespace Go.Proofs.Ytlgjplhffpmfpaa
open Go.RowKit Go.Deep

noncomputable def swapOk (l : List (List Int)) (i k : Int) : Bool := tabIn l && (rowB i l.length && rowB k l.length)
theorem swapOk_tab {l : List (List Int)} {i k : Int} (h : swapOk l i k = true) : TabIn (swapL l i.toNat k.toNat) := by
  unfold swapOk at h
  rw [Bool.and_eq_true, Bool.and_eq_true] at h
  obtain ⟨i, rfl, hi⟩ := rowB_of h.2.1
  obtain ⟨k, rfl, hk⟩ := rowB_of h.2.2
  exact swapL_tab (tabIn_of h.1) hi hk
theorem szL_swapOk (l : List (List Int)) (i k : Int) (h : swapOk l i k = true) : szL (swapL l i.toNat k.toNat) ≤ 1048576 := szL_tab (swapOk_tab h)

end Go.Proofs.Ytlgjplhffpmfpaa
end

section
namespace Go.Proofs.Ytlgjplhffpmfpaa
open Go.RowKit Go.Deep

structure SW (w1 w' : World) (b n m : Nat) (A : Nat → Option Addr) (G C : Nat → Nat) (Z : Nat → Nat → Int) (hi : Nat) : Prop where
  since : w1.Since w1.heap.size w'
  size : hi ≤ w'.heap.size
  own : OwnD w1.heap.size hi w' b A G C n (fun _ => m) Z
  free : ∀ r, r < n → w'.frozen? ⟨b, r, none⟩ = false
  inb : w1.heap.size ≤ b ∧ b < hi

theorem SW.later {w1 w' w2 : World} {b n m : Nat} {A : Nat → Option Addr} {G C : Nat → Nat} {Z : Nat → Nat → Int} {hi : Nat} (h : SW w1 w' b n m A G C Z hi) (hs : w'.Since w'.heap.size w2) : SW w1 w2 b n m A G C Z hi :=
  ⟨h.since.trans (since_mono hs h.since.size), Nat.le_trans h.size hs.size, h.own.later hs, fun r hr => by rw [hs.frozen (a := ⟨b, r, none⟩) (World.block_lt_of_cell? _ _ (h.own.top r hr))]; exact h.free r hr, h.inb⟩

theorem SW.put {w1 w2 w3 : World} {b n m : Nat} {A : Nat → Option Addr} {G C : Nat → Nat} {Z : Nat → Nat → Int} {hi : Nat} (h : SW w1 w2 b n m A G C Z hi) (hs : w2.Since w2.heap.size w3) {g cp : Nat} {x : List Int} (hg : w2.heap.size ≤ g) (hx : RowB w3 g x) (hxl : x.length = m)
    (hm : 0 < m) {i : Nat} (hi' : i < n) : SW w1 (w3.setCell ⟨b, i, none⟩ (.slice (some ⟨g, 0, none⟩) m cp)) b n m (fun r => if r = i then some ⟨g, 0, none⟩ else A r) (fun r => if r = i then g else G r) (fun r => if r = i then cp else C r) (fun r c => if r = i then x.getD c 0 else Z r c) w3.heap.size := by
  have h3 := h.later hs
  have hgl := hx.lt
  have hsz := h.size
  have hb := h.inb
  have hss := h.since.size
  have hsz3 := hs.size
  have hgb : g ≠ b := by omega
  refine ⟨h3.since.setCell hb.1 _, by simp, ⟨fun r hr => ?_, fun r hr h0 => ?_, fun r hr h0 => ?_, fun r hr c hc => ?_, fun r hr c hc => ?_, fun r r' hr hr' h0 h0' e => ?_⟩, fun r hr => by rw [World.frozen?_setCell]; exact h3.free r hr, hb.1, by omega⟩
  · by_cases e : r = i
    · subst e
      rw [if_pos rfl, if_pos rfl]
      exact World.cell?_setCell_same' _ _ _ (by rw [h3.own.top r hr]; rfl)
    · rw [if_neg e, if_neg e, World.cell?_setCell_other _ _ _ _ (fun e' => e (by injection e' with _ e'; exact e'.symm))]
      exact h3.own.top r hr
  · by_cases e : r = i
    · rw [if_pos e, if_pos e]
    · rw [if_neg e, if_neg e]; exact h3.own.addr r hr h0
  · by_cases e : r = i
    · rw [if_pos e]; exact ⟨by omega, hgl, hgb⟩
    · rw [if_neg e]; have := h3.own.inside r hr h0; exact ⟨this.1, by omega, this.2.2⟩
  · by_cases e : r = i
    · rw [if_pos e, if_pos e, World.cell?_setCell_other _ _ _ _ (fun e' => hgb (by injection e' with e'; exact e'.symm))]
      exact hx.cell (by rw [hxl]; exact hc)
    · rw [if_neg e, if_neg e, World.cell?_setCell_other _ _ _ _ (fun e' => (h3.own.inside r hr (by omega)).2.2 (by injection e' with e'; exact e'.symm))]
      exact h3.own.cell r hr c hc
  · rw [World.frozen?_setCell]
    by_cases e : r = i
    · rw [if_pos e]; exact hx.frozen c
    · rw [if_neg e]; exact h3.own.free r hr c hc
  · by_cases e1 : r = i <;> by_cases e2 : r' = i
    · omega
    · rw [if_pos e1, if_neg e2] at e
      have := (h.own.inside r' hr' h0').2.1
      omega
    · rw [if_neg e1, if_pos e2] at e
      have := (h.own.inside r hr h0).2.1
      omega
    · rw [if_neg e1, if_neg e2] at e
      exact h3.own.apart r r' hr hr' h0 h0' e

theorem OwnT.sw {w w1 : World} {a : Option Addr} {l : List (List Int)} {n m : Nat} (h : OwnT w.heap.size w1.heap.size w1 a l) (hn : l.length = n) (h1 : 0 < n) (hm : ∀ r, r < n → (l.getD r []).length = m) (hs : w.Since w.heap.size w1) (hf : FreeTop w1 a n) :
    ∃ b A G C, a = some ⟨b, 0, none⟩ ∧ SW w w1 b n m A G C (fun r c => at2 l r c) w1.heap.size := by
  obtain ⟨b, A, G, C, e, hb, hW⟩ := h.wr hn h1 hm hs (fun _ _ => 0)
  exact ⟨b, A, G, C, e, hs, Nat.le_refl _, hW.own.congr fun r _ c _ => by unfold updF; rw [if_neg (by omega)], fun r hr => hf b r e hr, hb⟩

theorem SW.ownT {w1 w' : World} {b n m : Nat} {A : Nat → Option Addr} {G C : Nat → Nat} {Z : Nat → Nat → Int} {hi : Nat} {l : List (List Int)} (h : SW w1 w' b n m A G C Z hi) (hn : l.length = n) (hm : ∀ r, r < n → (l.getD r []).length = m) (hZ : ∀ r c, r < n → c < m → at2 l r c = Z r c) : OwnT w1.heap.size w'.heap.size w' (some ⟨b, 0, none⟩) l :=
  (h.own.ownT h.inb hn hm fun r hr c hc => hZ r c hr hc).mono (Nat.le_refl _) h.size

theorem own_row (W : World) : (W.alloc (.cells #[] 3)).ownsRow W.heap.size 3 1 (.slice (some ⟨W.heap.size, 0, none⟩) 0 0) 0 [] := World.ownsRow_made W #[] 0 (Nat.le_refl _) (Nat.zero_le _) rfl
theorem row_cells {w W : World} {b' o' m : Nat} {x : List Int} (hx : x.length = m) (hs : w.Since w.heap.size W) (hce : ∀ j, j < m → w.cell? ⟨b', o' + j, none⟩ = some (.int .i64 (x.getD j 0))) (o : Obj) : ∀ (j : Nat) (u : Value), (x.map (Value.int .i64))[j]? = some u → (W.alloc o).cell? ((⟨b', o', none⟩ : Addr).add j) = some u := fun j u hj => by
  rw [Go.WideShapes.add_plain]
  obtain ⟨hjl, he⟩ := List.getElem?_eq_some_iff.1 hj
  have hjx : j < m := by rw [← hx]; simpa using hjl
  have h2 := hce j hjx
  refine cell_alloc_l _ ?_
  rw [hs.cell (a := ⟨b', o' + j, none⟩) (World.block_lt_of_cell? _ _ h2), h2, ← he]
  simp [List.getD, show j < x.length by omega]

end Go.Proofs.Ytlgjplhffpmfpaa
end

section
namespace Go.Proofs.Ytlgjplhffpmfpaa
open Go.RowKit Go.Deep

theorem swap_back {l : List (List Int)} {i k : Int} (h : swapOk l i k = true) : swapOk (swapL l i.toNat k.toNat) i k = true ∧ swapL (swapL l i.toNat k.toNat) i.toNat k.toNat = l := by
  have hT := swapOk_tab h
  unfold swapOk at h ⊢
  rw [Bool.and_eq_true, Bool.and_eq_true] at h
  refine ⟨by rw [tabIn_true hT, swapL_length, h.2.1, h.2.2]; rfl, ?_⟩
  obtain ⟨i, rfl, hi⟩ := rowB_of h.2.1
  obtain ⟨k, rfl, hk⟩ := rowB_of h.2.2
  rw [Int.toNat_natCast, Int.toNat_natCast]
  have e : swapL (swapL l i k) i k = (List.range l.length).map fun r => l.getD r [] := by
    show (List.range (swapL l i k).length).map (fun r => (swapL l i k).getD (sw i k r) []) = _
    rw [swapL_length]
    refine List.map_congr_left fun r hr => ?_
    rw [swapL_get l i k (sw_lt hi hk (List.mem_range.1 hr)), sw_sw]
  rw [e, range_getD]

theorem tabF_congr {n m : Nat} {f g : Nat → Nat → Int} (h : ∀ i k, i < n → k < m → f i k = g i k) : tabF n m f = tabF n m g := by
  unfold tabF
  exact List.map_congr_left fun r hr => List.map_congr_left fun k hk => h r k (List.mem_range.1 hr) (List.mem_range.1 hk)

theorem add_back {l : List (List Int)} {fr tq f : Int} (h : addOk l fr tq f = true) : addOk (addL l fr.toNat tq.toNat f) fr tq (-f) = true ∧ addL (addL l fr.toNat tq.toNat f) fr.toNat tq.toNat (-f) = l := by
  unfold addOk at h ⊢
  simp only [Bool.and_eq_true, Bool.not_eq_true'] at h
  obtain ⟨h1, h2, h3, h4, h5, h6⟩ := h
  have hT := tabIn_of h1
  obtain ⟨fr, rfl, hfr⟩ := rowB_of h2
  obtain ⟨tq, rfl, hto⟩ := rowB_of h3
  rw [Int.toNat_natCast, Int.toNat_natCast] at *
  have hne : fr ≠ tq := by rintro rfl; simp at h4
  have hw := hT.width
  have h0 := hT.1
  have e0 : ((addL l fr tq f).getD 0 []).length = (l.getD 0 []).length := tabF_len _ _ _ _ (by omega)
  have e : addL (addL l fr tq f) fr tq (-f) = l := by
    show tabF (addL l fr tq f).length ((addL l fr tq f).getD 0 []).length (addF (addL l fr tq f) fr tq (-f)) = l
    rw [addL_length, e0]
    refine Eq.trans (tabF_congr fun i k hi hk => ?_) (tab_self rfl (fun r hr => hT.row hr))
    have a1 : at2 (addL l fr tq f) i k = addF l fr tq f i k := tabF_at _ _ _ _ _ hi hk
    have a2 : at2 (addL l fr tq f) fr k = addF l fr tq f fr k := tabF_at _ _ _ _ _ hfr hk
    show (if i = tq then at2 (addL l fr tq f) i k + (-f) * at2 (addL l fr tq f) fr k else at2 (addL l fr tq f) i k) = at2 l i k
    rw [a1, a2]
    unfold addF
    by_cases hi : i = tq
    · rw [if_pos hi, if_pos hi, if_neg hne, Int.neg_mul]; omega
    · rw [if_neg hi, if_neg hi]
  refine ⟨?_, e⟩
  have h5' := of_decide_eq_true h5
  rw [h6, addL_length, h2, h3, h4, e, h1]
  have : inB (-f) (-30) 30 = true := by unfold inB at *; simp at *; omega
  rw [this]; rfl
theorem addOk_num {l : List (List Int)} {fr tq f : Int} (h : addOk l fr tq f = true) : -30 ≤ f ∧ f ≤ 30 := by
  unfold addOk at h
  simp only [Bool.and_eq_true] at h
  exact of_decide_eq_true h.2.2.2.2.1

end Go.Proofs.Ytlgjplhffpmfpaa
end

section
namespace Go.Proofs.Ytlgjplhffpmfpaa
open Go.RowKit Go.Deep

theorem tabF_tab {n m : Nat} {f : Nat → Nat → Int} (hn : 1 ≤ n ∧ n ≤ 6) (hm : 1 ≤ m ∧ m ≤ 6) (h : ∀ i k, i < n → k < m → -30 ≤ f i k ∧ f i k ≤ 30) : TabIn (tabF n m f) := by
  refine ⟨by rw [tabF_length]; exact hn.1, by rw [tabF_length]; exact hn.2, fun r hr => ?_⟩
  rw [tabF_length] at hr
  refine ⟨by rw [tabF_len _ _ _ _ hr, tabF_len _ _ _ _ (by omega)], by rw [tabF_len _ _ _ _ hr]; exact hm.1, by rw [tabF_len _ _ _ _ hr]; exact hm.2, fun k hk => ?_⟩
  rw [tabF_len _ _ _ _ hr] at hk
  rw [tabF_at _ _ _ _ _ hr hk]
  exact h r k hr hk
theorem tab_bd {n m : Nat} {f : Nat → Nat → Int} (hn : 1 ≤ n) (h : TabIn (tabF n m f)) : ∀ i k, i < n → k < m → -30 ≤ f i k ∧ f i k ≤ 30 := by
  intro i k hi hk
  have h1 := h.at (i := i) (k := k) (by rw [tabF_length]; exact hi) (by rw [tabF_len _ _ _ _ (by omega)]; exact hk)
  have h2 : at2 (tabF n m f) i k = f i k := tabF_at _ _ _ _ _ hi hk
  rw [h2] at h1
  exact h1
theorem TabIn.sides {l : List (List Int)} (h : TabIn l) : (1 ≤ l.length ∧ l.length ≤ 6) ∧ (1 ≤ (l.getD 0 []).length ∧ (l.getD 0 []).length ≤ 6) := ⟨⟨h.1, h.2.1⟩, h.width⟩
theorem timesL_at {l : List (List Int)} {z : Int} {i k : Nat} (hi : i < l.length) (hk : k < (l.getD 0 []).length) : at2 (timesL l z) i k = at2 l i k * z := tabF_at _ _ _ _ _ hi hk
theorem timesL_width {l : List (List Int)} (z : Int) (h : 1 ≤ l.length) : ((timesL l z).getD 0 []).length = (l.getD 0 []).length := tabF_len _ _ _ _ (by omega)

theorem less_bd {x z : Int} (hz : 1 ≤ z) (h1 : -30 ≤ x * z) (h2 : x * z ≤ 30) : -30 ≤ x * (z - 1) ∧ x * (z - 1) ≤ 30 := by
  rw [Int.mul_sub, Int.mul_one]
  by_cases hx : 0 ≤ x
  · have := Int.mul_le_mul_of_nonneg_left hz hx
    rw [Int.mul_one] at this
    omega
  · have := Int.mul_le_mul_of_nonneg_left hz (show 0 ≤ -x by omega)
    rw [Int.mul_one, Int.neg_mul] at this
    omega

theorem timesOk_of {l : List (List Int)} {z : Int} (h : timesOk l z = true) : TabIn l ∧ (-30 ≤ z ∧ z ≤ 30) ∧ TabIn (timesL l z) := by
  unfold timesOk at h
  simp only [Bool.and_eq_true] at h
  exact ⟨tabIn_of h.1, of_decide_eq_true h.2.1, tabIn_of h.2.2⟩

theorem times_less {l : List (List Int)} {z : Int} (h : timesOk l z = true) (hz : 1 ≤ z) : timesOk l (z - 1) = true ∧ sumOk (timesL l (z - 1)) l = true ∧ sumL (timesL l (z - 1)) l = timesL l z := by
  obtain ⟨hT, hzb, hM⟩ := timesOk_of h
  have hs := hT.sides
  have hb := tab_bd hs.1.1 hM
  have hL : TabIn (timesL l (z - 1)) := tabF_tab hs.1 hs.2 fun i k hi hk => less_bd hz (hb i k hi hk).1 (hb i k hi hk).2
  have hin : inB (z - 1) (-30) 30 = true := by unfold inB; simp; omega
  have e : sumL (timesL l (z - 1)) l = timesL l z := by
    show tabF (timesL l (z - 1)).length ((timesL l (z - 1)).getD 0 []).length (fun i k => at2 (timesL l (z - 1)) i k + at2 l i k) = tabF l.length (l.getD 0 []).length fun i k => at2 l i k * z
    rw [timesL_length, timesL_width _ hs.1.1]
    refine tabF_congr fun i k hi hk => ?_
    rw [timesL_at hi hk, Int.mul_sub, Int.mul_one]
    omega
  refine ⟨?_, ?_, e⟩
  · unfold timesOk
    rw [tabIn_true hT, hin, tabIn_true hL]; rfl
  · unfold sumOk alikeB
    rw [e, tabIn_true hT, tabIn_true hL, tabIn_true hM, timesL_length, timesL_width _ hs.1.1]
    simp

end Go.Proofs.Ytlgjplhffpmfpaa
end

section
namespace Go.Proofs.Ytlgjplhffpmfpaa
open Go.RowKit Go.Deep

theorem turnL_at {l : List (List Int)} {i k : Nat} (hi : i < l.length) (hk : k < (l.getD 0 []).length) : at2 (turnL l) k i = at2 l i k := tabF_at _ _ _ _ _ hk hi
theorem turnL_width {l : List (List Int)} (h : TabIn l) : ((turnL l).getD 0 []).length = l.length := tabF_len _ _ _ _ (by have := h.width; omega)
theorem turnL_tab {l : List (List Int)} (h : TabIn l) : TabIn (turnL l) := tabIn_of (tabIn_turn h)

theorem sumOk_of {l u : List (List Int)} (h : sumOk l u = true) : TabIn l ∧ TabIn u ∧ l.length = u.length ∧ (l.getD 0 []).length = (u.getD 0 []).length ∧ TabIn (sumL l u) := by
  unfold sumOk alikeB at h
  simp only [Bool.and_eq_true, beq_iff_eq] at h
  exact ⟨tabIn_of h.1, tabIn_of h.2.1, h.2.2.1.1, h.2.2.1.2, tabIn_of h.2.2.2⟩
theorem sumOk_mk {l u : List (List Int)} (h1 : TabIn l) (h2 : TabIn u) (h3 : l.length = u.length) (h4 : (l.getD 0 []).length = (u.getD 0 []).length) (h5 : TabIn (sumL l u)) : sumOk l u = true := by
  unfold sumOk alikeB
  rw [tabIn_true h1, tabIn_true h2, tabIn_true h5, h3, h4]
  simp

theorem sum_comm {l u : List (List Int)} (h : sumOk l u = true) : sumOk u l = true ∧ sumL u l = sumL l u := by
  obtain ⟨h1, h2, h3, h4, h5⟩ := sumOk_of h
  have e : sumL u l = sumL l u := by
    unfold sumL
    rw [← h3, ← h4]
    exact tabF_congr fun i k _ _ => Int.add_comm _ _
  exact ⟨sumOk_mk h2 h1 h3.symm h4.symm (by rw [e]; exact h5), e⟩

theorem sumL_at {l u : List (List Int)} {i k : Nat} (hi : i < l.length) (hk : k < (l.getD 0 []).length) : at2 (sumL l u) i k = at2 l i k + at2 u i k := tabF_at _ _ _ _ _ hi hk
theorem sumL_width {l : List (List Int)} (u : List (List Int)) (h : 1 ≤ l.length) : ((sumL l u).getD 0 []).length = (l.getD 0 []).length := tabF_len _ _ _ _ (by omega)

theorem sum_turn {l u : List (List Int)} (h : sumOk l u = true) : sumOk (turnL l) (turnL u) = true ∧ sumL (turnL l) (turnL u) = turnL (sumL l u) := by
  obtain ⟨h1, h2, h3, h4, h5⟩ := sumOk_of h
  have e : sumL (turnL l) (turnL u) = turnL (sumL l u) := by
    show tabF (turnL l).length ((turnL l).getD 0 []).length (fun i k => at2 (turnL l) i k + at2 (turnL u) i k) = tabF ((sumL l u).getD 0 []).length (sumL l u).length fun k i => at2 (sumL l u) i k
    rw [turnL_length, turnL_width h1, sumL_width u h1.1, sumL_length]
    refine tabF_congr fun k i hk hi => ?_
    rw [turnL_at hi hk, turnL_at (l := u) (by omega) (by omega), sumL_at hi hk]
  exact ⟨sumOk_mk (turnL_tab h1) (turnL_tab h2) (by rw [turnL_length, turnL_length, h4]) (by rw [turnL_width h1, turnL_width h2, h3]) (by rw [e]; exact turnL_tab h5), e⟩

end Go.Proofs.Ytlgjplhffpmfpaa
end

section
namespace Go.Proofs.Ytlgjplhffpmfpaa
open Go.RowKit Go.Deep

def popc (s : Nat) : Nat := (sel s 6 6).length
theorem popc_step : ∀ s : Fin 64, popc s.val = s.val % 2 + popc (s.val / 2) := by decide +kernel
theorem popc_sel : ∀ n : Fin 7, ∀ s : Fin 64, s.val < 2 ^ n.val → (sel s.val n.val n.val).length = popc s.val := by decide +kernel
theorem and1_fin : ∀ s : Fin 64, bits BinOp.and IntKind.i64 (s.val : Int) 1 = ((s.val % 2 : Nat) : Int) := by decide +kernel

end Go.Proofs.Ytlgjplhffpmfpaa
end

section
namespace Go.Proofs.Ytlgjplhffpmfpaa
open Go.RowKit Go.Deep

theorem map_getD {α β : Type} (l : List α) (d : α) (f : α → β) : l.map f = (List.range l.length).map fun i => f (l.getD i d) := by
  refine List.ext_getElem (by simp) fun i h1 h2 => ?_
  rw [List.length_map] at h1
  simp [List.getD, h1]
def sels (s n : Nat) : List Nat := (sel s n n).map (·.1)
theorem sels_length (s n : Nat) : (sels s n).length = (sel s n n).length := by simp [sels]
theorem sels_lt (s n : Nat) {i : Nat} (h : i < (sels s n).length) : (sels s n).getD i 0 < n := by
  have h1 : i < (sel s n n).length := by rw [← sels_length]; exact h
  have : (sels s n).getD i 0 = ((sel s n n)[i]).1 := by simp [sels, List.getD, h1]
  rw [this]
  exact ((sel s n n)[i]).2
theorem partL_tabF (l : List (List Int)) (s c : Nat) : partL l s c = tabF (sels s l.length).length (sels c (l.getD 0 []).length).length fun i k => at2 l ((sels s l.length).getD i 0) ((sels c (l.getD 0 []).length).getD k 0) := by
  have e1 : partL l s c = (sels s l.length).map fun r => (sels c (l.getD 0 []).length).map fun k => (l.getD r []).getD k 0 := by
    unfold partL partRows sels pickTo
    rw [List.map_map]
    refine List.map_congr_left fun r _ => ?_
    simp only [Function.comp_apply, List.map_map]
    rfl
  rw [e1, map_getD _ 0]
  unfold tabF
  refine List.map_congr_left fun i _ => ?_
  rw [map_getD _ 0]
  rfl

theorem partOk_of {l : List (List Int)} {x y : Int} (h : partOk l x y = true) : TabIn l ∧ (1 ≤ x ∧ x ≤ (2 ^ l.length - 1 : Nat)) ∧ (1 ≤ y ∧ y ≤ (2 ^ (l.getD 0 []).length - 1 : Nat)) := by
  unfold partOk at h
  simp only [Bool.and_eq_true] at h
  exact ⟨tabIn_of h.1, of_decide_eq_true h.2.1, of_decide_eq_true h.2.2⟩

theorem part_turn {l : List (List Int)} {x y : Int} (h : partOk l x y = true) : partOk (turnL l) y x = true ∧ partL (turnL l) y.toNat x.toNat = turnL (partL l x.toNat y.toNat) := by
  obtain ⟨hT, hx, hy⟩ := partOk_of h
  have hM := partOk_tab h
  constructor
  · unfold partOk
    rw [tabIn_true (turnL_tab hT), turnL_length, turnL_width hT]
    have e1 : inB y 1 (2 ^ (l.getD 0 []).length - 1 : Nat) = true := decide_eq_true hy
    have e2 : inB x 1 (2 ^ l.length - 1 : Nat) = true := decide_eq_true hx
    rw [e1, e2]; rfl
  · have h1 := hM.1
    have hw : ((partL l x.toNat y.toNat).getD 0 []).length = (sels y.toNat (l.getD 0 []).length).length := by
      rw [partL_tabF] at h1 ⊢
      rw [tabF_length] at h1
      exact tabF_len _ _ _ _ (by omega)
    have hl : (partL l x.toNat y.toNat).length = (sels x.toNat l.length).length := by rw [partL_tabF, tabF_length]
    rw [partL_tabF (turnL l), turnL_length, turnL_width hT]
    show _ = tabF ((partL l x.toNat y.toNat).getD 0 []).length (partL l x.toNat y.toNat).length fun k i => at2 (partL l x.toNat y.toNat) i k
    rw [hw, hl]
    refine tabF_congr fun k i hk hi => ?_
    have e : at2 (partL l x.toNat y.toNat) i k = at2 l ((sels x.toNat l.length).getD i 0) ((sels y.toNat (l.getD 0 []).length).getD k 0) := by
      rw [partL_tabF]
      exact tabF_at _ _ _ _ _ hi hk
    rw [e]
    exact turnL_at (sels_lt _ _ hi) (sels_lt _ _ hk)

theorem part_sizes {l : List (List Int)} {x y : Int} (h : partOk l x y = true) : (partL l x.toNat y.toNat).length = popc x.toNat ∧ ((partL l x.toNat y.toNat).getD 0 []).length = popc y.toNat := by
  obtain ⟨hT, hx, hy⟩ := partOk_of h
  have hM := partOk_tab h
  have hs := hT.sides
  have p1 : 2 ^ l.length ≤ 2 ^ 6 := Nat.pow_le_pow_right (by omega) hs.1.2
  have p2 : 2 ^ (l.getD 0 []).length ≤ 2 ^ 6 := Nat.pow_le_pow_right (by omega) hs.2.2
  have h1 := hM.1
  have hl : (partL l x.toNat y.toNat).length = (sels x.toNat l.length).length := by rw [partL_tabF, tabF_length]
  have hw : ((partL l x.toNat y.toNat).getD 0 []).length = (sels y.toNat (l.getD 0 []).length).length := by
    rw [hl] at h1
    rw [partL_tabF]
    exact tabF_len _ _ _ _ (by omega)
  rw [hl, hw, sels_length, sels_length]
  exact ⟨popc_sel ⟨l.length, by omega⟩ ⟨x.toNat, by omega⟩ (by show x.toNat < 2 ^ l.length; omega), popc_sel ⟨(l.getD 0 []).length, by omega⟩ ⟨y.toNat, by omega⟩ (by show y.toNat < 2 ^ (l.getD 0 []).length; omega)⟩

end Go.Proofs.Ytlgjplhffpmfpaa
end

section
namespace Go.Proofs.Ytlgjplhffpmfpaa

theorem inc_filter : ∀ (n k : Nat) (ρ : Nat → Nat) (p : Nat → Bool), IncT k n ρ → (∀ j, j < n → (p j = true ↔ ∃ i, i < k ∧ ρ i = j)) → (List.range n).filter p = (List.range k).map ρ
  | 0, k, ρ, p, h, _ => by
    have : k = 0 := by
      rcases Nat.eq_zero_or_pos k with h1 | h1
      · exact h1
      · exact absurd (h.2 0 h1) (Nat.not_lt_zero _)
    subst this; rfl
  | n + 1, k, ρ, p, h, hp => by
    rw [List.range_succ, List.filter_append]
    by_cases hk : ∃ i, i < k ∧ ρ i = n
    · obtain ⟨i, hi, e⟩ := hk
      have hik : i + 1 = k := by
        rcases Nat.lt_or_ge (i + 1) k with h1 | h1
        · have := h.1 i h1
          have := h.2 (i + 1) h1
          omega
        · omega
      subst hik
      have hpn : p n = true := (hp n (by omega)).2 ⟨i, hi, e⟩
      rw [inc_filter n i ρ p ⟨fun r hr => h.1 r (by omega), fun r hr => by have := h.lt hr hi; omega⟩ (fun j hj => by
        rw [hp j (by omega)]
        constructor
        · rintro ⟨r, hr, hrj⟩
          rcases Nat.lt_succ_iff_lt_or_eq.1 hr with h1 | h1
          · exact ⟨r, h1, hrj⟩
          · subst h1; omega
        · rintro ⟨r, hr, hrj⟩
          exact ⟨r, by omega, hrj⟩), List.range_succ, List.map_append]
      simp [hpn, e]
    · have hpn : p n = false := by
        cases h1 : p n with
        | false => rfl
        | true => exact absurd ((hp n (by omega)).1 h1) hk
      rw [inc_filter n k ρ p ⟨h.1, fun r hr => by
        have h1 := h.2 r hr
        have h2 : ρ r ≠ n := fun e => hk ⟨r, hr, e⟩
        omega⟩ (fun j hj => hp j (by omega))]
      simp [hpn]

def bset (b0 b1 b2 b3 b4 b5 : Bool) : Nat := b0.toNat + 2 * b1.toNat + 4 * b2.toNat + 8 * b3.toNat + 16 * b4.toNat + 32 * b5.toNat
theorem bset_bit : ∀ b0 b1 b2 b3 b4 b5 : Bool, (bset b0 b1 b2 b3 b4 b5).testBit 0 = b0 ∧ (bset b0 b1 b2 b3 b4 b5).testBit 1 = b1 ∧ (bset b0 b1 b2 b3 b4 b5).testBit 2 = b2 ∧ (bset b0 b1 b2 b3 b4 b5).testBit 3 = b3 ∧ (bset b0 b1 b2 b3 b4 b5).testBit 4 = b4 ∧ (bset b0 b1 b2 b3 b4 b5).testBit 5 = b5 := by decide +kernel
theorem bset_lt : ∀ n : Fin 7, ∀ b0 b1 b2 b3 b4 b5 : Bool, (n.val ≤ 0 → b0 = false) → (n.val ≤ 1 → b1 = false) → (n.val ≤ 2 → b2 = false) → (n.val ≤ 3 → b3 = false) → (n.val ≤ 4 → b4 = false) → (n.val ≤ 5 → b5 = false) → bset b0 b1 b2 b3 b4 b5 < 2 ^ n.val := by decide +kernel
theorem sels_filter : ∀ n : Fin 7, ∀ s : Fin 64, sels s.val n.val = (List.range n.val).filter fun j => s.val.testBit j := by decide +kernel

theorem inc_set {k n : Nat} {ρ : Nat → Nat} (hn : n ≤ 6) (h : IncT k n ρ) : ∃ s, s < 2 ^ n ∧ popcS s = k ∧ sels s n = (List.range k).map ρ := by
  have hd : ∀ j, ∃ b : Bool, b = true ↔ ∃ i, i < k ∧ ρ i = j := fun j => by
    by_cases hj : ∃ i, i < k ∧ ρ i = j
    · exact ⟨true, by simp [hj]⟩
    · exact ⟨false, by simp [hj]⟩
  have hno : ∀ j b, n ≤ j → (b = true ↔ ∃ i, i < k ∧ ρ i = j) → b = false := fun j b hj hb => by
    cases b with
    | false => rfl
    | true =>
      obtain ⟨i, hi, e⟩ := hb.1 rfl
      have := h.2 i hi
      omega
  obtain ⟨b0, e0⟩ := hd 0
  obtain ⟨b1, e1⟩ := hd 1
  obtain ⟨b2, e2⟩ := hd 2
  obtain ⟨b3, e3⟩ := hd 3
  obtain ⟨b4, e4⟩ := hd 4
  obtain ⟨b5, e5⟩ := hd 5
  have hlt := bset_lt ⟨n, by omega⟩ b0 b1 b2 b3 b4 b5 (hno 0 b0 · e0) (hno 1 b1 · e1) (hno 2 b2 · e2) (hno 3 b3 · e3) (hno 4 b4 · e4) (hno 5 b5 · e5)
  have hbit := bset_bit b0 b1 b2 b3 b4 b5
  obtain ⟨s, hs⟩ : ∃ s, bset b0 b1 b2 b3 b4 b5 = s := ⟨_, rfl⟩
  rw [hs] at hlt hbit
  have h64 : s < 64 := by
    have : 2 ^ n ≤ 2 ^ 6 := Nat.pow_le_pow_right (by omega) hn
    simp only at hlt
    omega
  have hp : ∀ j, j < 6 → (s.testBit j = true ↔ ∃ i, i < k ∧ ρ i = j) := fun j hj => by
    have hj6 : j = 0 ∨ j = 1 ∨ j = 2 ∨ j = 3 ∨ j = 4 ∨ j = 5 := by omega
    rcases hj6 with rfl | rfl | rfl | rfl | rfl | rfl
    · rw [hbit.1]; exact e0
    · rw [hbit.2.1]; exact e1
    · rw [hbit.2.2.1]; exact e2
    · rw [hbit.2.2.2.1]; exact e3
    · rw [hbit.2.2.2.2.1]; exact e4
    · rw [hbit.2.2.2.2.2]; exact e5
  have f1 := sels_filter ⟨n, by omega⟩ ⟨s, h64⟩
  have f6 := sels_filter ⟨6, by omega⟩ ⟨s, h64⟩
  simp only at f1 f6
  refine ⟨s, hlt, ?_, ?_⟩
  · have e : sels s 6 = (List.range k).map ρ := by
      rw [f6]
      exact inc_filter 6 k ρ _ ⟨h.1, fun i hi => by have := h.2 i hi; omega⟩ hp
    have : popcS s = (sels s 6).length := by unfold popcS; rw [sels_length]
    rw [this, e]; simp
  · rw [f1]
    exact inc_filter n k ρ _ h (fun j hj => hp j (by omega))

theorem tnn_of {l : List (List Int)} {n m : Nat} (hl : l.length = n) (hm : (l.getD 0 []).length = m) (hn : n ≤ 6) (hm6 : m ≤ 6) (h : leastB l 0 (partsA n m) = true) : Tnn (at2 l) n m := fun k ρ γ hρ hγ => by
  rcases Nat.eq_zero_or_pos k with h0 | h0
  · subst h0; simp [dt]
  · obtain ⟨s, s1, s2, s3⟩ := inc_set hn hρ
    obtain ⟨c, c1, c2, c3⟩ := inc_set hm6 hγ
    have hs1 : 1 ≤ s := by
      rcases Nat.eq_zero_or_pos s with h1 | h1
      · subst h1
        have : popcS 0 = 0 := by decide
        omega
      · exact h1
    have hmem := leastB_iff.1 h (s, c) ((partsA_mem hn hm6).2 ⟨by simp only; omega, by simp only; omega, s1, c1⟩)
    have e : mnP l (s, c) = dt k (fun i j => at2 l (ρ i) (γ j)) := by
      unfold mnP
      simp only
      rw [s2]
      refine dt_congr k fun i j hi hj => ?_
      have l1 : (sel s n n).length = k := by rw [← sels_length, s3]; simp
      have l2 : (sel c m m).length = k := by rw [← sels_length, c3]; simp
      rw [partL_at l s c (by rw [hl, l1]; exact hi) (by rw [hm, l2]; exact hj), hl, hm]
      have g1 : selN s n i = ρ i := by
        show (sels s n).getD i 0 = ρ i
        rw [s3]; simp [List.getD, hi]
      have g2 : selN c m j = γ j := by
        show (sels c m).getD j 0 = γ j
        rw [c3]; simp [List.getD, hj]
      rw [g1, g2]
    rw [← e]; exact hmem

end Go.Proofs.Ytlgjplhffpmfpaa
end

section
namespace Go.Proofs.Ytlgjplhffpmfpaa

theorem runS_sels : ∀ f k n : Fin 7, f.val + k.val ≤ n.val → sels (runS f.val k.val) n.val = (List.range k.val).map (f.val + ·) := by decide +kernel
theorem sels_inc : ∀ n : Fin 7, ∀ s : Fin 64, s.val < 2 ^ n.val → ∀ i : Fin 6, (i.val + 1 < popcS s.val → selN s.val n.val i.val < selN s.val n.val (i.val + 1)) ∧ (i.val < popcS s.val → selN s.val n.val i.val < n.val) := by decide +kernel
theorem sels_popc : ∀ n : Fin 7, ∀ s : Fin 64, s.val < 2 ^ n.val → (sel s.val n.val n.val).length = popcS s.val := by decide +kernel

theorem mn_at {l : List (List Int)} {n m s c k : Nat} {ρ γ : Nat → Nat} (hl : l.length = n) (hm : (l.getD 0 []).length = m) (hp : popcS s = k) (h1 : sels s n = (List.range k).map ρ) (h2 : sels c m = (List.range k).map γ) : mnP l (s, c) = dt k (fun i j => at2 l (ρ i) (γ j)) := by
  unfold mnP
  simp only
  rw [hp]
  refine dt_congr k fun i j hi hj => ?_
  have l1 : (sel s n n).length = k := by rw [← sels_length, h1]; simp
  have l2 : (sel c m m).length = k := by rw [← sels_length, h2]; simp
  rw [partL_at l s c (by rw [hl, l1]; exact hi) (by rw [hm, l2]; exact hj), hl, hm]
  have g1 : selN s n i = ρ i := by
    show (sels s n).getD i 0 = ρ i
    rw [h1]; simp [List.getD, hi]
  have g2 : selN c m j = γ j := by
    show (sels c m).getD j 0 = γ j
    rw [h2]; simp [List.getD, hj]
  rw [g1, g2]

theorem first_all {l : List (List Int)} {n m : Nat} (hl : l.length = n) (hm : (l.getD 0 []).length = m) (hn : n ≤ 6) (hm6 : m ≤ 6) (h : leastB l 1 (partsF n m) = true) : leastB l 1 (partsA n m) = true := by
  have hsol : Sol (at2 l) n m := sol_first fun k i j h0 hi hj => by
    rcases Nat.eq_zero_or_pos k with hk | hk
    · subst hk; simp [dt]
    · have hmem : (runS i k, runS j k) ∈ partsF n m := by
        refine partsF_mem.2 ⟨i + k - 1, j + k - 1, by omega, by omega, ?_⟩
        have e : min (i + k - 1) (j + k - 1) + 1 = k := by omega
        rw [e, show i + k - 1 + 1 - k = i by omega, show j + k - 1 + 1 - k = j by omega]
      have h1 := leastB_iff.1 h _ hmem
      have r1 := runS_sels ⟨i, by omega⟩ ⟨k, by omega⟩ ⟨n, by omega⟩ (by simp only; omega)
      have r2 := runS_sels ⟨j, by omega⟩ ⟨k, by omega⟩ ⟨m, by omega⟩ (by simp only; omega)
      have r3 := (runS_fin ⟨k, by omega⟩ ⟨i, by omega⟩ (by simp only; omega)).1
      simp only at r1 r2 r3
      rw [mn_at hl hm r3 r1 r2] at h1
      omega
  refine leastB_iff.2 fun x hx => ?_
  obtain ⟨h1, h2, h3, h4⟩ := (partsA_mem hn hm6).1 hx
  obtain ⟨s, c⟩ := x
  simp only at h1 h2 h3 h4
  have s64 : s < 64 := by
    have : 2 ^ n ≤ 2 ^ 6 := Nat.pow_le_pow_right (by omega) hn
    omega
  have c64 : c < 64 := by
    have : 2 ^ m ≤ 2 ^ 6 := Nat.pow_le_pow_right (by omega) hm6
    omega
  have hpl := sels_popc ⟨n, by omega⟩ ⟨s, s64⟩ h3
  have hpc := sels_popc ⟨m, by omega⟩ ⟨c, c64⟩ h4
  simp only at hpl hpc
  have hk6 : popcS s ≤ 6 := popcS_le _
  have hinc : ∀ (n s : Nat) (hn : n ≤ 6) (hs : s < 64) (hlt : s < 2 ^ n), IncT (popcS s) n (selN s n) := fun n s hn hs hlt => by
    have hk : popcS s ≤ 6 := popcS_le _
    exact ⟨fun i hi => ((sels_inc ⟨n, by omega⟩ ⟨s, hs⟩ hlt) ⟨i, by omega⟩).1 hi, fun i hi => ((sels_inc ⟨n, by omega⟩ ⟨s, hs⟩ hlt) ⟨i, by omega⟩).2 hi⟩
  have hlist : ∀ (n s : Nat), (sel s n n).length = popcS s → sels s n = (List.range (popcS s)).map (selN s n) := fun n s hls => by
    refine List.ext_getElem (by rw [sels_length, hls]; simp) fun i h1 h2 => ?_
    simp only [List.getElem_map, List.getElem_range]
    show _ = (sels s n).getD i 0
    simp [List.getD, h1]
  have hpos := sol_all hsol (popcS s) (selN s n) (selN c m) (hinc n s hn s64 h3) (by rw [h2]; exact hinc m c hm6 c64 h4)
  rw [mn_at hl hm rfl (hlist n s hpl) (by rw [h2]; exact hlist m c hpc)]
  omega

end Go.Proofs.Ytlgjplhffpmfpaa
end

section
namespace Go.Proofs.Ytlgjplhffpmfpaa
open Go.RowKit Go.Deep

set_option maxHeartbeats 1000000 in
theorem drawPosFirst_any (a : Option Addr) (nb cb : Nat) (w : World) (hc : nb ≤ cb) (h63 : cb ≤ 9223372036854775807) (hb : BytR w a nb) :
    Calls Try.prog 7 #[.slice a nb cb] w (PvE w) := by
  have E := Lib.hid (l92Positive_any a nb cb w hc h63 hb)
  clear hb
  go_enter Try.func7, Try.ntmps7
  go_wp2_with fail
  refine (E.out).mono ?_
  rintro e w1 ⟨a', cap', l, rfl, h⟩
  have HH := Lib.hid h
  clear h
  go_wp2
  go_ret
  exact ⟨a', cap', l, rfl, HH.out⟩

set_option maxRecDepth 100000 in
set_option maxHeartbeats 2000000 in
theorem fnFirst (a : Option Addr) (cap n : Nat) (w : World) (hc : n ≤ cap) (h63 : cap ≤ 9223372036854775807) (hb : BytR w a n) :
    Calls Try.prog 3 #[.slice a n cap] w fun e w' => e = .returned (.bool true) ∧ w.Since w.heap.size w' := by
  by_cases hlen : 1048576 < n
  · have hl' : decide ((1048576 : Int) < (n : Int)) = true := by simp; omega
    clear hb
    go_enter Try.func3, Try.ntmps3
    go_wp2
    go_ret
    exact ⟨rfl, World.Since.refl _ _⟩
  · have hl' : decide ((1048576 : Int) < (n : Int)) = false := by simp; omega
    have ED := Lib.hid (drawPosFirst_any a n cap w hc h63 hb)
    clear hb
    go_enter Try.func3, Try.ntmps3
    go_wp2_with fail
    refine (ED.out).mono ?_
    rintro e w1 ⟨a1, c1, l, rfl, hs1, hsz, hmat⟩
    obtain ⟨nn, hn⟩ : ∃ nn, l.length = nn := ⟨_, rfl⟩
    rw [hn]
    have HS1 := Lib.hid hs1
    have E1 := implPosFirst_any a1 c1 nn l w1 hn hsz hmat
    have E2 := fun (W : World) (h : w1.Since w1.heap.size W) => specPosFirst_any a1 c1 nn l W hn hsz (hmat.since h)
    have E3 := fun (W : World) (h : w1.Since w1.heap.size W) => implPosStrict_any a1 c1 nn l W hn hsz (hmat.since h)
    obtain ⟨st, hst⟩ : ∃ st, (tabIn l && leastB l 1 (partsF nn (l.getD 0 []).length)) = st := ⟨_, rfl⟩
    rw [hst] at E1
    simp only [hst] at E2
    replace E1 := Lib.hid E1
    replace E2 := Lib.hid E2
    cases st with
    | false =>
      clear hn hsz hmat hs1 hst E3
      go_wp2_with fail
      refine (E1.out).mono ?_
      rintro e w2 ⟨rfl, hs2⟩
      have HS2 := Lib.hid hs2
      clear hs2
      go_wp2_with fail
      refine (E2.out w2 HS2.out).mono ?_
      rintro e w3 ⟨rfl, hs3⟩
      have HS3 := Lib.hid (HS2.out.trans (since_mono hs3 HS2.out.size))
      clear hs3
      go_wp2
      go_ret
      exact ⟨rfl, HS1.out.trans (since_mono HS3.out HS1.out.size)⟩
    | true =>
      rw [Bool.and_eq_true] at hst
      obtain ⟨hok, hlb⟩ := hst
      have hT := tabIn_of hok
      have h6 := hT.2.1
      rw [hn] at h6
      have hall := first_all hn rfl h6 hT.width.2 hlb
      simp only [hok, hall, Bool.and_self] at E3
      replace E3 := Lib.hid E3
      clear hn hsz hmat hs1 hok hlb hT h6 hall
      go_wp2_with fail
      refine (E1.out).mono ?_
      rintro e w2 ⟨rfl, hs2⟩
      have HS2 := Lib.hid hs2
      clear hs2
      go_wp2_with fail
      refine (E2.out w2 HS2.out).mono ?_
      rintro e w3 ⟨rfl, hs3⟩
      have HS3 := Lib.hid (HS2.out.trans (since_mono hs3 HS2.out.size))
      clear hs3
      go_wp2_with fail
      refine (E3.out w3 HS3.out).mono ?_
      rintro e w4 ⟨rfl, hs4⟩
      have HS4 := Lib.hid (HS3.out.trans (since_mono hs4 HS3.out.size))
      clear hs4
      go_wp2
      go_ret
      exact ⟨rfl, HS1.out.trans (since_mono HS4.out HS1.out.size)⟩

end Go.Proofs.Ytlgjplhffpmfpaa
end

section
namespace Go.Proofs.Ytlgjplhffpmfpaa
open Go.ChangeShapes Go.WideShapes Go.ChangeAt Go.RowKit Go.Deep

theorem below_since' {B : Nat} {w w' : World} (h : Below B w w') : w.Since B w' := ⟨h.os, h.tape, h.output, h.size, h.block⟩
theorem since_below' {B : Nat} {w w' : World} (h : w.Since B w') : Below B w w' := ⟨h.os, h.tape, h.output, h.size, h.block⟩

section
variable {H : Type} {enc : TypeId × Value → H} {P : Program}
theorem post_of_below {f : Func} {s : ChangeSpec} {apart fresh handsOn again : Bool} {W W' : World} {args : Array Value} {v : Value} {ds gs : List (DataW H)} {before pa pv : List MemPlace}
    (hW : DataW.Whole enc P f.params.toList s.vars apart W args.toList ds gs before)
    (hres : ∀ (b : Nat) (sp : Nat → Bool) (hd : Bool), DataW.TrodAll enc P W' b sp hd f.resultTypes.toList (v.resultList f.resultTypes.size) (s.fn H (ds ++ gs)).results [])
    (hargs : ∀ sp : Nat → Bool, (∀ p ∈ before, sp p.block = true) → DataW.TrodAll enc P W' 0 sp true f.params.toList args.toList (s.fn H (ds ++ gs)).args pa)
    (hvars : ∀ sp : Nat → Bool, (∀ p ∈ before, sp p.block = true) → DataW.TrodVars enc P W' sp s.vars (s.fn H (ds ++ gs)).vars pv)
    (hps : before = pa ++ pv) (hb : Below W.heap.size W W') (hag : again = false) :
    s.post enc P f apart fresh handsOn again W args v W' := by
  have hlt : ∀ p ∈ before, p.block < W.heap.size := fun p hp => hW.lt p hp
  have hold : ∀ p ∈ before, (fun b => decide (b < W.heap.size)) p.block = true := fun p hp => by simpa using hlt p hp
  refine ⟨ds, gs, before, [], pa, pv, hW, hres _ _ _, hargs _ hold, hvars _ hold, World.keptBut_mono (fun p hp => ⟨hp, ?_⟩) (hb.frame (· ∈ before)), fun h => ?_⟩
  · rw [hps, List.mem_append] at hp
    exact Or.inr hp
  · rw [hag] at h; cases h

theorem open_mat {W : World} {t e q : TypeId} {a : Option Addr} {n cap : Nat} {d : DataW H} {p : List MemPlace} (ht : P.underlying t = some (.slice e)) (he : P.underlying e = some (.slice q)) (hq : P.underlying q = some (.int .i64))
    (ce : P.cellsOf e = 1) (cq : P.cellsOf q = 1) (h : DataW.Trod enc P W 0 (fun _ => true) true t (.slice a n cap) d p) :
    ∃ l : List (List Int), l.length = n ∧ MatR W a l ∧ n ≤ 9223372036854775807 ∧ ∀ r, r < l.length → (l.getD r []).length ≤ 9223372036854775807 := by
  obtain ⟨fuel, hf⟩ := h
  rcases open_int_rows ht he hq ce cq hf with ⟨hcs, _⟩ | ⟨a', len', cap', A, L, C, Z, hcs, _, hl, hm, _, hrows⟩
  · simp [Value.cells] at hcs
    obtain ⟨rfl, rfl, rfl⟩ := hcs
    exact ⟨[], rfl, (fun h => by simp at h), by omega, fun r hr => by simp at hr⟩
  · simp [Value.cells] at hcs
    obtain ⟨rfl, rfl, rfl⟩ := hcs
    have hmx : maxLen = 9223372036854775807 := rfl
    have hlen : ∀ r, r < n → ((Z r).take (L r)).length = L r := fun r hr => by
      obtain ⟨_, h1, _, h2, _⟩ := hrows r (by omega)
      rw [List.length_take]; omega
    have hget : ∀ r, r < n → ((List.range n).map fun r => (Z r).take (L r)).getD r [] = (Z r).take (L r) := fun r hr => by simp [List.getD, hr]
    refine ⟨(List.range n).map fun r => (Z r).take (L r), by simp, fun h => ?_, by omega, fun r hr => ?_⟩
    · obtain ⟨b, o, spot⟩ := a'
      simp at h
      have hspot : spot = none := by simpa [Addr.add] using World.cell?_spot (hrows 0 (by omega)).1
      subst hspot
      refine ⟨b, o, A, C, rfl, fun r hr => ?_⟩
      simp at hr
      rw [hget r hr, hlen r hr]
      obtain ⟨g1, g2, g3, g4, g5, g6, g7⟩ := hrows r (by omega)
      refine ⟨by rw [← add_plain]; exact g1, fun h0 => ?_⟩
      rw [hlen r hr] at h0
      cases hA : A r with
      | none => have := g6 hA; omega
      | some a'' =>
        obtain ⟨_, hcell⟩ := g7 a'' hA
        obtain ⟨b', o', sp⟩ := a''
        have hs : sp = none := by simpa [Addr.add] using World.cell?_spot (hcell 0 (by omega))
        subst hs
        refine ⟨b', o', rfl, fun i hi => ?_⟩
        rw [hlen r hr] at hi
        rw [← add_plain, hcell i (by omega)]
        congr 2
        simp [List.getD, hi]
    · simp at hr
      rw [hget r hr, hlen r hr]
      obtain ⟨_, h1, h2, _⟩ := hrows r (by omega)
      omega
end

theorem Try.own : ownKnob Try.prog.godebug = none := by kernel_rfl
theorem Try.laidOut : laidOutB Try.prog = true := by kernel_rfl
theorem Try.cellsR : Try.prog.cellsOf 27 = 1 := by kernel_rfl
theorem Try.cellsI : Try.prog.cellsOf 3 = 1 := by kernel_rfl

end Go.Proofs.Ytlgjplhffpmfpaa
end

section
namespace Go.Proofs.Ytlgjplhffpmfpaa
open Go.ChangeShapes Go.WideShapes Go.ChangeAt Go.RowKit Go.Deep

theorem wf_u8_of {n : Int} (h : (Lit.int .u8 n).wf = true) : 0 ≤ n ∧ n ≤ 255 := by
  have h2 : (0 : Int) ≤ n ∧ n ≤ 255 := by simpa [Lit.wf, IntKind.min, IntKind.max, IntKind.signed, IntKind.bits] using h
  exact h2

theorem open_bytes {H : Type} {enc : TypeId × Value → H} {P : Program} {W : World} {t e : TypeId} {a : Option Addr} {n cap : Nat} {d : DataW H} {p : List MemPlace} (ht : P.underlying t = some (.slice e)) (he : P.underlying e = some (.int .u8)) (ce : P.cellsOf e = 1)
    (h : DataW.Trod enc P W 0 (fun _ => true) true t (.slice a n cap) d p) : BytR W a n ∧ n ≤ cap ∧ cap ≤ 9223372036854775807 := by
  obtain ⟨fuel, hf⟩ := h
  rcases open_ints ht he ce hf with ⟨hcs, _⟩ | ⟨a', len, cap', zs, hcs, _, hl, hm, hlen, _, hcell, hwf⟩
  · simp [Value.cells] at hcs
    obtain ⟨rfl, rfl, rfl⟩ := hcs
    exact ⟨fun h => absurd h (by omega), by omega, by omega⟩
  · simp [Value.cells] at hcs
    obtain ⟨rfl, rfl, rfl⟩ := hcs
    have hmx : maxLen = 9223372036854775807 := rfl
    have hzl : zs.length = cap := by simpa using hlen
    refine ⟨fun h0 => ?_, by omega, by omega⟩
    obtain ⟨b, o, spot⟩ := a'
    have hspot : spot = none := by simpa [Addr.add] using World.cell?_spot (hcell 0 (by omega))
    subst hspot
    refine ⟨b, o, rfl, fun i hi => ?_⟩
    have hi' : i < zs.length := by omega
    have hw := wf_u8_of (hwf (zs.getD i 0) (by simp [List.getD, hi']))
    obtain ⟨z, hz⟩ := Int.eq_ofNat_of_zero_le hw.1
    refine ⟨z, by omega, ?_⟩
    rw [← add_plain, hcell i hi', hz]

theorem Try.cellsB : Try.prog.cellsOf 5 = 1 := by kernel_rfl

end Go.Proofs.Ytlgjplhffpmfpaa
end

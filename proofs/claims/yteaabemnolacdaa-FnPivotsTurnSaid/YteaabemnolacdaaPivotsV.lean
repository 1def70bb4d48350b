/- The contracts of spec.l2Pivots and spec.ValuePivots. -/
import Derived.Test.YteaabemnolacdaaPivotsW
import Derived.Test.YteaabemnolacdaaOrdDet
import Derived.Test.YteaabemnolacdaaRowsV
import Derived.StillTailTactics
namespace Go.Proofs.Yteaabemnolacdaa
open Go.RowKit Go.Deep

set_option maxRecDepth 100000 in
set_option maxHeartbeats 8000000 in
theorem l2Pivots_any (a : Option Addr) (cap n : Nat) (l : List (List Int)) (w : World) (hn : l.length = n) (hT : TabIn l) (hw : (l.getD 0 []).length = n) (hm : MatR w a l) :
    Calls Try.prog 82 #[.slice a n cap] w fun e w' => e = .returned (.int .i64 (dt n (at2 l))) ∧ w.Since w.heap.size w' := by
  have h6 := hT.2.1
  have h1 := hT.1
  rw [hn] at h6 h1
  have hA : ∀ i j, i < n → j < n → -30 ≤ at2 l i j ∧ at2 l i j ≤ 30 := fun i j hi hj => hT.at (by omega) (by omega)
  have hrow : ∀ r, r < n → (l.getD r []).length = n := fun r hr => by rw [hT.row (by omega), hw]
  have E1 := Lib.hid (l1Copy_top a cap n l w hn hT hm)
  have hst : Bar n (at2 l) 0 (fun i j => at2 l (0 + i) (0 + j)) 1 1 (at2 l) := Bar.start fun i j _ _ => by rw [Nat.zero_add, Nat.zero_add]
  obtain ⟨A, hAA⟩ : ∃ A, A = at2 l := ⟨_, rfl⟩
  rw [← hAA] at hA hst ⊢
  have HPS := fun (w1 : World) (a' : Option Addr) (ho : OwnT w.heap.size w1.heap.size w1 a' l) (hf : FreeTop w1 a' n) (hs : w.Since w.heap.size w1) => PR.start ho hf hs hn h1 hrow
  rw [← hAA] at HPS
  replace HPS := Lib.hid HPS
  have HST := Lib.hid hst
  have HA := Lib.hid hA
  clear hst hA hrow hm hT hw hn hAA
  go_enter Try.func82, Try.ntmps82
  go_wp2_with fail
  refine (E1.out).mono ?_
  rintro e w1 ⟨a1, cap1, rfl, hs1, ho1, hf1⟩
  obtain ⟨b, G0, C0, rfl, hP0⟩ := HPS.out w1 a1 ho1 hf1 hs1
  have HP0 := Lib.hid hP0
  clear hP0 ho1 hf1 hs1
  go_wp2
  go_loopg [4, 5, 6, 7, 8, 9, 10, 11, 12] n (fun g q s i _ _ _ _ _ _ wr => ∃ (k : Nat) (G C : Nat → Nat) (T F : Nat → Nat → Int) (u v : Int), k ≤ n ∧ g = n - k ∧ i = .int .i64 k ∧ s = .int .i64 u ∧ q = .int .i64 v ∧ PR w wr b n k G C T ∧ Bar n A k (fun i j => T (k + i) (k + j)) v u F)
  case atStart => exact ⟨0, G0, C0, A, A, 1, 1, Nat.zero_le _, rfl, rfl, rfl, rfl, HP0.out, HST.out⟩
  case round =>
    obtain ⟨k, G, C, T, F, u, v, hk, rfl, rfl, rfl, rfl, hP, hB⟩ := hrel
    clear HP0 HST
    by_cases hlt : k < n
    · have HP := Lib.hid hP
      have HB := Lib.hid hB
      have hu := hB.sgn
      clear hP hB
      go_wp2
      go_loopg [7, 8] (n - k) (fun g at' i wi => ∃ (c : Nat) (p : Int), c ≤ n - k ∧ g = n - k - c ∧ i = .int .i64 ((n : Int) - 1 - c) ∧ at' = .int .i64 p ∧ wr = wi ∧ ((p = -1 ∧ ∀ r, n - c ≤ r → r < n → T r k = 0) ∨ (∃ m : Nat, p = m ∧ n - c ≤ m ∧ m < n ∧ T m k ≠ 0)))
      case atStart => exact ⟨0, -1, Nat.zero_le _, rfl, by go_num, rfl, rfl, Or.inl ⟨rfl, fun r h1 h2 => by omega⟩⟩
      case round =>
        obtain ⟨c, p, hc, rfl, rfl, rfl, rfl, hp1⟩ := hrel
        by_cases hck : c < n - k
        · obtain ⟨m, hm⟩ : ∃ m : Nat, (n : Int) - 1 - c = m := ⟨n - 1 - c, by omega⟩
          have hmn : m < n := by omega
          have hmk : (m : Int) ≥ (k : Int) := by omega
          have c1 := (HP.out.top m hmn).1
          have c2 := HP.out.rows m k (by omega) hmn (Nat.le_refl _) hlt
          have HM := Lib.hid hm
          have HP1 := Lib.hid hp1
          obtain ⟨y, hy⟩ : ∃ y, T m k = y := ⟨_, rfl⟩
          rw [hy] at c2
          have HY := Lib.hid hy
          have HI : IntKind.i64.wrap ((m : Int) - 1) = (m : Int) - 1 := IntWalk.i64_in _ ⟨by omega, by omega⟩
          rw [hm]
          clear hm hp1 hy
          by_cases hy0 : y = 0
          · have hyb : (y != 0) = false := by simp [hy0]
            go_wp2
            go_roundg (n - k - (c + 1))
            case measure => omega
            case rel =>
              have e : (n : Int) - 1 - ((c + 1 : Nat) : Int) = (m : Int) - 1 := by have := HM.out; omega
              refine ⟨c + 1, p, by omega, rfl, by rw [e], rfl, rfl, ?_⟩
              rcases HP1.out with ⟨h1, h2⟩ | ⟨m2, h1, h2, h3, h4⟩
              · refine .inl ⟨h1, fun r h3 h4 => ?_⟩
                by_cases e : r = m
                · rw [e, HY.out, hy0]
                · have := HM.out; exact h2 r (by omega) h4
              · exact .inr ⟨m2, h1, by omega, h3, h4⟩
          · have hyb : (y != 0) = true := by simp [hy0]
            go_wp2
            go_roundg (n - k - (c + 1))
            case measure => omega
            case rel =>
              have e : (n : Int) - 1 - ((c + 1 : Nat) : Int) = (m : Int) - 1 := by have := HM.out; omega
              exact ⟨c + 1, (m : Int), by omega, rfl, by rw [e], rfl, rfl, .inr ⟨m, rfl, by have := HM.out; omega, hmn, by rw [HY.out]; exact hy0⟩⟩
        · have hcn : c = n - k := by omega
          have hge : ¬ ((n : Int) - 1 - c ≥ (k : Int)) := by omega
          rcases hp1 with ⟨rfl, h0⟩ | ⟨m, rfl, h3, h4, h5⟩
          · have hz := HB.out.zero hlt (fun i hi => by show T (k + i) (k + 0) = 0; exact h0 (k + i) (by omega) (by omega))
            have HZ := Lib.hid hz
            have HS := Lib.hid HP.out.since
            clear hz h0
            go_wp2
            go_ret
            exact ⟨by rw [HZ.out]; rfl, HS.out⟩
          · obtain ⟨X, F2, hX, hb, hB2⟩ := HB.out.go h6 HA.out (p := m) (by omega) h4 h5
            by_cases hmk : m = k
            · subst hmk
              have hT2 : T m m ≠ 0 := h5
              obtain ⟨T2, hTT⟩ : ∃ T2, T2 = T := ⟨_, rfl⟩
              have hP2 : PR w wr b n m G C T2 := by rw [hTT]; exact HP.out
              have hX2 : ∀ i j, m + 1 ≤ i → i < n → m + 1 ≤ j → j < n → T2 i j * T2 m m - T2 m j * T2 i m = v * X i j ∧ -4611686018427387904 ≤ X i j ∧ X i j ≤ 4611686018427387904 := fun i j h1 h2 h3 h4 => by
                have := hX i j h1 h2 h3 h4
                rw [ex_self] at this
                rw [hTT]; exact this
              have hb2 : m + 2 ≤ n → ∀ i j, m ≤ i → i < n → m ≤ j → j < n → -1944000000 ≤ T2 i j ∧ T2 i j ≤ 1944000000 := by rw [hTT]; exact hb
              rw [if_pos rfl, ← hTT] at hB2
              clear hX hb hTT hT2 h5 h3
              go_wp2
              have hb6 : ∀ i j, m + 1 ≤ i → i < n → m + 1 ≤ j → j < n → IntKind.i64.wrap (T2 i j * T2 m m) = T2 i j * T2 m m ∧ IntKind.i64.wrap (T2 m j * T2 i m) = T2 m j * T2 i m ∧ IntKind.i64.wrap (T2 i j * T2 m m - T2 m j * T2 i m) = v * X i j ∧ IntKind.i64.wrap (X i j) = X i j := fun i j h1 h2 h3 h4 => by
                have x1 := hb2 (by omega) i j (by omega) h2 (by omega) h4
                have x2 := hb2 (by omega) m m (by omega) (by omega) (by omega) (by omega)
                have x3 := hb2 (by omega) m j (by omega) (by omega) (by omega) h4
                have x4 := hb2 (by omega) i m (by omega) h2 (by omega) (by omega)
                have m1 := mul_bdQ x1 x2
                have m2 := mul_bdQ x3 x4
                obtain ⟨y1, y2, y3⟩ := hX2 i j h1 h2 h3 h4
                exact ⟨IntWalk.i64_in _ ⟨by omega, by omega⟩, IntWalk.i64_in _ ⟨by omega, by omega⟩, (IntWalk.i64_in _ ⟨by omega, by omega⟩).trans y1, IntWalk.i64_in _ ⟨by omega, by omega⟩⟩
              have HWR := Lib.hid hb6
              have HPS2 := Lib.hid (PRI.start X hP2 hlt)
              have HB3 := Lib.hid hB2
              have hv0 : v ≠ 0 := HB.out.ne
              have hvb : (v == 0) = false := by simpa using hv0
              have hmix : Try.prog.follows .mixedOrders = true := by kernel_rfl
              clear hb6 hX2 hb2 hP2 hB2
              go_loopg [10, 11, 12] (n - (m + 1)) (fun g i _ _ wi => ∃ (r : Nat) (G3 C3 : Nat → Nat), m + 1 ≤ r ∧ r ≤ n ∧ g = n - r ∧ i = .int .i64 r ∧ PRI w wi b n m r G3 C3 T2 X)
              case atStart => exact ⟨m + 1, _, _, Nat.le_refl _, by omega, rfl, by go_num, HPS2.out⟩
              case round =>
                obtain ⟨r, G3, C3, hkr, hr, rfl, rfl, hI⟩ := hrel
                clear HPS2
                by_cases hrn : r < n
                · have hmk := run_make_row' (P := Try.prog) 36 3 (.int .i64 0) 8 Try.underlying36 Try.info3 rfl .i64 .i64 n (by omega) (by omega)
                  have HJ0 := Lib.hid (JR.start wr n m (X r))
                  have HI := Lib.hid hI
                  clear hI
                  obtain ⟨wo, hwo⟩ : ∃ wo : World, wo = wr := ⟨_, rfl⟩
                  go_wp2
                  subst hwo
                  clear hmk
                  go_loopg [12] (n - (m + 1)) (fun g j wj => ∃ c : Nat, m + 1 ≤ c ∧ c ≤ n ∧ g = n - c ∧ j = .int .i64 c ∧ JR wo wj n m c (X r))
                  case atStart => exact ⟨m + 1, Nat.le_refl _, by omega, rfl, by go_num, HJ0.out⟩
                  case round =>
                    obtain ⟨c, hkc, hc, rfl, rfl, hJ⟩ := hrel
                    clear HJ0
                    by_cases hcn : c < n
                    · have hcell : ∀ (g x : Nat) (u : Value), wo.cell? ⟨g, x, none⟩ = some u → wr.cell? ⟨g, x, none⟩ = some u := fun g x u hu => (hJ.since.cell (a := ⟨g, x, none⟩) (World.block_lt_of_cell? _ _ hu)).trans hu
                      have t1 := hcell _ _ _ (HI.out.top r hrn).1
                      have t2 := hcell _ _ _ (HI.out.top m hlt).1
                      have x1 := hcell _ _ _ (HI.out.old r c (Nat.le_refl _) hrn (by omega) hcn)
                      have x2 := hcell _ _ _ (HI.out.piv m (Nat.le_refl _) hlt)
                      have x3 := hcell _ _ _ (HI.out.piv c (by omega) hcn)
                      have x4 := hcell _ _ _ (HI.out.old r m (Nat.le_refl _) hrn (Nat.le_refl _) hlt)
                      have x5 := hJ.row.cell (i := c) hcn
                      rw [if_neg (by omega)] at x5
                      have x6 := hJ.row.frozen c
                      obtain ⟨w1', w2', w3', w4'⟩ := HWR.out r c (by omega) hrn (by omega) hcn
                      have HN := hJ.step (by omega)
                      obtain ⟨y1, h1'⟩ : ∃ y, T2 r c = y := ⟨_, rfl⟩
                      obtain ⟨y2, h2'⟩ : ∃ y, T2 m m = y := ⟨_, rfl⟩
                      obtain ⟨y3, h3'⟩ : ∃ y, T2 m c = y := ⟨_, rfl⟩
                      obtain ⟨y4, h4'⟩ : ∃ y, T2 r m = y := ⟨_, rfl⟩
                      obtain ⟨z, hz'⟩ : ∃ z, X r c = z := ⟨_, rfl⟩
                      rw [h1', h2'] at w1'
                      rw [h3', h4'] at w2'
                      rw [h1', h2', h3', h4', hz'] at w3'
                      rw [hz'] at w4' HN
                      rw [h1'] at x1
                      rw [h2'] at x2
                      rw [h3'] at x3
                      rw [h4'] at x4
                      have w5' : Int.tdiv (v * z) v = z := Int.mul_tdiv_cancel_left _ hv0
                      have HNN := Lib.hid HN
                      clear hcell HN hJ h1' h2' h3' h4' hz'
                      go_wp2
                      go_still_tail 36, hmix
                      go_wp2
                      go_roundg (n - (c + 1))
                      case measure => omega
                      case rel => exact ⟨c + 1, by omega, by omega, rfl, by go_num, HNN.out.drew⟩
                    · have hcc : c = n := by omega
                      subst hcc
                      have t1 := (hJ.since.cell (a := ⟨b, r, none⟩) (World.block_lt_of_cell? _ _ (HI.out.top r hrn).1)).trans (HI.out.top r hrn).1
                      have t2 := (World.frozen?_of_block (a := ⟨b, r, none⟩) (hJ.since.block b (World.block_lt_of_cell? _ _ (HI.out.top r hrn).1))).trans (HI.out.top r hrn).2
                      have HN := Lib.hid (HI.out.step hJ hrn (by omega))
                      clear hJ
                      go_wp2
                      go_roundg (c - (r + 1))
                      case measure => omega
                      case rel => exact ⟨r + 1, _, _, by omega, by omega, rfl, by go_num, HN.out⟩
                · have hrr : r = n := by omega
                  subst hrr
                  have t1 := (hI.top m hlt).1
                  have t2 := hI.piv m (Nat.le_refl _) hlt
                  have HD := Lib.hid hI.done
                  clear hI
                  go_wp2
                  go_roundg (r - (m + 1))
                  case measure => omega
                  case rel => exact ⟨m + 1, _, _, X, F2, _, _, by omega, rfl, by go_num, rfl, rfl, HD.out, HB3.out⟩
            · have hmkb : ((m : Int) != (k : Int)) = true := by simp; omega
              have c1 := (HP.out.top m h4).1
              have c2 := (HP.out.top k hlt).1
              have c3 := (HP.out.top m h4).2
              have c4 := (HP.out.top k hlt).2
              have hP2 := HP.out.swap h4 (by omega)
              obtain ⟨T2, hTT⟩ : ∃ T2 : Nat → Nat → Int, T2 = fun r j => T (ex k m r) j := ⟨_, rfl⟩
              have ek : ex k m k = m := by unfold ex; rw [if_pos rfl]
              have hkk : T2 k k = T m k := by rw [hTT]; show T (ex k m k) k = _; rw [ek]
              have hX2 : ∀ i j, k + 1 ≤ i → i < n → k + 1 ≤ j → j < n → T2 i j * T2 k k - T2 k j * T2 i k = v * X i j ∧ -4611686018427387904 ≤ X i j ∧ X i j ≤ 4611686018427387904 := fun i j h1 h2 h3 h4 => by
                have := hX i j h1 h2 h3 h4
                rw [hkk, hTT]
                show T (ex k m i) j * T m k - T (ex k m k) j * T (ex k m i) k = _ ∧ _
                rw [ek]; exact this
              have hb2 : k + 2 ≤ n → ∀ i j, k ≤ i → i < n → k ≤ j → j < n → -1944000000 ≤ T2 i j ∧ T2 i j ≤ 1944000000 := fun h0 i j h1 h2 h3 h4' => by
                rw [hTT]
                exact hb h0 _ j (by unfold ex; repeat (first | split | omega)) (ex_bd hlt h4 h2) h3 h4'
              rw [← hTT] at hP2
              rw [if_neg hmk, ← hkk] at hB2
              have hwn : IntKind.i64.wrap (0 - u) = -u := (IntWalk.i64_in _ ⟨by omega, by omega⟩).trans (by omega)
              have HPP := Lib.hid hP2
              clear hX hb hTT h5 h3 hkk ek hP2
              go_wp2
              have hP2 := HPP.out
              have hb6 : ∀ i j, k + 1 ≤ i → i < n → k + 1 ≤ j → j < n → IntKind.i64.wrap (T2 i j * T2 k k) = T2 i j * T2 k k ∧ IntKind.i64.wrap (T2 k j * T2 i k) = T2 k j * T2 i k ∧ IntKind.i64.wrap (T2 i j * T2 k k - T2 k j * T2 i k) = v * X i j ∧ IntKind.i64.wrap (X i j) = X i j := fun i j h1 h2 h3 h4 => by
                have x1 := hb2 (by omega) i j (by omega) h2 (by omega) h4
                have x2 := hb2 (by omega) k k (by omega) (by omega) (by omega) (by omega)
                have x3 := hb2 (by omega) k j (by omega) (by omega) (by omega) h4
                have x4 := hb2 (by omega) i k (by omega) h2 (by omega) (by omega)
                have m1 := mul_bdQ x1 x2
                have m2 := mul_bdQ x3 x4
                obtain ⟨y1, y2, y3⟩ := hX2 i j h1 h2 h3 h4
                exact ⟨IntWalk.i64_in _ ⟨by omega, by omega⟩, IntWalk.i64_in _ ⟨by omega, by omega⟩, (IntWalk.i64_in _ ⟨by omega, by omega⟩).trans y1, IntWalk.i64_in _ ⟨by omega, by omega⟩⟩
              have HWR := Lib.hid hb6
              have HPS2 := Lib.hid (PRI.start X hP2 hlt)
              have HB3 := Lib.hid hB2
              have hv0 : v ≠ 0 := HB.out.ne
              have hvb : (v == 0) = false := by simpa using hv0
              have hmix : Try.prog.follows .mixedOrders = true := by kernel_rfl
              clear hb6 hX2 hb2 hP2 hB2
              go_loopg [10, 11, 12] (n - (k + 1)) (fun g i _ _ wi => ∃ (r : Nat) (G3 C3 : Nat → Nat), k + 1 ≤ r ∧ r ≤ n ∧ g = n - r ∧ i = .int .i64 r ∧ PRI w wi b n k r G3 C3 T2 X)
              case atStart => exact ⟨k + 1, _, _, Nat.le_refl _, by omega, rfl, by go_num, HPS2.out⟩
              case round =>
                obtain ⟨r, G3, C3, hkr, hr, rfl, rfl, hI⟩ := hrel
                clear HPS2
                by_cases hrn : r < n
                · have hmk := run_make_row' (P := Try.prog) 36 3 (.int .i64 0) 8 Try.underlying36 Try.info3 rfl .i64 .i64 n (by omega) (by omega)
                  have HJ0 := Lib.hid (JR.start wr n k (X r))
                  have HI := Lib.hid hI
                  clear hI
                  obtain ⟨wo, hwo⟩ : ∃ wo : World, wo = wr := ⟨_, rfl⟩
                  go_wp2
                  subst hwo
                  clear hmk
                  go_loopg [12] (n - (k + 1)) (fun g j wj => ∃ c : Nat, k + 1 ≤ c ∧ c ≤ n ∧ g = n - c ∧ j = .int .i64 c ∧ JR wo wj n k c (X r))
                  case atStart => exact ⟨k + 1, Nat.le_refl _, by omega, rfl, by go_num, HJ0.out⟩
                  case round =>
                    obtain ⟨c, hkc, hc, rfl, rfl, hJ⟩ := hrel
                    clear HJ0
                    by_cases hcn : c < n
                    · have hcell : ∀ (g x : Nat) (u : Value), wo.cell? ⟨g, x, none⟩ = some u → wr.cell? ⟨g, x, none⟩ = some u := fun g x u hu => (hJ.since.cell (a := ⟨g, x, none⟩) (World.block_lt_of_cell? _ _ hu)).trans hu
                      have t1 := hcell _ _ _ (HI.out.top r hrn).1
                      have t2 := hcell _ _ _ (HI.out.top k hlt).1
                      have x1 := hcell _ _ _ (HI.out.old r c (Nat.le_refl _) hrn (by omega) hcn)
                      have x2 := hcell _ _ _ (HI.out.piv k (Nat.le_refl _) hlt)
                      have x3 := hcell _ _ _ (HI.out.piv c (by omega) hcn)
                      have x4 := hcell _ _ _ (HI.out.old r k (Nat.le_refl _) hrn (Nat.le_refl _) hlt)
                      have x5 := hJ.row.cell (i := c) hcn
                      rw [if_neg (by omega)] at x5
                      have x6 := hJ.row.frozen c
                      obtain ⟨w1', w2', w3', w4'⟩ := HWR.out r c (by omega) hrn (by omega) hcn
                      have HN := hJ.step (by omega)
                      obtain ⟨y1, h1'⟩ : ∃ y, T2 r c = y := ⟨_, rfl⟩
                      obtain ⟨y2, h2'⟩ : ∃ y, T2 k k = y := ⟨_, rfl⟩
                      obtain ⟨y3, h3'⟩ : ∃ y, T2 k c = y := ⟨_, rfl⟩
                      obtain ⟨y4, h4'⟩ : ∃ y, T2 r k = y := ⟨_, rfl⟩
                      obtain ⟨z, hz'⟩ : ∃ z, X r c = z := ⟨_, rfl⟩
                      rw [h1', h2'] at w1'
                      rw [h3', h4'] at w2'
                      rw [h1', h2', h3', h4', hz'] at w3'
                      rw [hz'] at w4' HN
                      rw [h1'] at x1
                      rw [h2'] at x2
                      rw [h3'] at x3
                      rw [h4'] at x4
                      have w5' : Int.tdiv (v * z) v = z := Int.mul_tdiv_cancel_left _ hv0
                      have HNN := Lib.hid HN
                      clear hcell HN hJ h1' h2' h3' h4' hz'
                      go_wp2
                      go_still_tail 36, hmix
                      go_wp2
                      go_roundg (n - (c + 1))
                      case measure => omega
                      case rel => exact ⟨c + 1, by omega, by omega, rfl, by go_num, HNN.out.drew⟩
                    · have hcc : c = n := by omega
                      subst hcc
                      have t1 := (hJ.since.cell (a := ⟨b, r, none⟩) (World.block_lt_of_cell? _ _ (HI.out.top r hrn).1)).trans (HI.out.top r hrn).1
                      have t2 := (World.frozen?_of_block (a := ⟨b, r, none⟩) (hJ.since.block b (World.block_lt_of_cell? _ _ (HI.out.top r hrn).1))).trans (HI.out.top r hrn).2
                      have HN := Lib.hid (HI.out.step hJ hrn (by omega))
                      clear hJ
                      go_wp2
                      go_roundg (c - (r + 1))
                      case measure => omega
                      case rel => exact ⟨r + 1, _, _, by omega, by omega, rfl, by go_num, HN.out⟩
                · have hrr : r = n := by omega
                  subst hrr
                  have t1 := (hI.top k hlt).1
                  have t2 := hI.piv k (Nat.le_refl _) hlt
                  have HD := Lib.hid hI.done
                  clear hI
                  go_wp2
                  go_roundg (r - (k + 1))
                  case measure => omega
                  case rel => exact ⟨k + 1, _, _, X, F2, _, _, by omega, rfl, by go_num, rfl, rfl, HD.out, HB3.out⟩
    · have hkn : k = n := by omega
      subst hkn
      have hd := hB.done
      have hbd := dt_bd k A h6 HA.out
      have hb6 : bdN k ≤ 349920000000 := by
        have h : k = 0 ∨ k = 1 ∨ k = 2 ∨ k = 3 ∨ k = 4 ∨ k = 5 ∨ k = 6 := by omega
        rcases h with h | h | h | h | h | h | h <;> (subst h; decide)
      rw [← hd] at hbd
      have hwv : IntKind.i64.wrap (u * v) = u * v := IntWalk.i64_in _ ⟨by omega, by omega⟩
      have HD := Lib.hid hd
      have HS := Lib.hid hP.since
      clear hB hd hbd hb6 hP
      go_wp2
      go_ret
      exact ⟨by rw [← HD.out]; rfl, HS.out⟩

set_option maxHeartbeats 1000000 in
theorem specValuePivots_any (a : Option Addr) (cap n : Nat) (l : List (List Int)) (w : World) (hn : l.length = n) (hsz : szL l ≤ 1048576) (hm : MatR w a l) :
    Calls Try.prog 31 #[.slice a n cap] w (SpecW w (sqB l) (ordF l n n 0)) := by
  have E := l2Square_any a cap n l w hn hsz hm
  cases hs : sqB l with
  | false =>
    rw [hs] at E
    replace E := Lib.hid E
    clear hs hm hn hsz
    go_enter Try.func31, Try.ntmps31
    go_wp2_with fail
    refine (E.out).mono ?_
    rintro e w1 ⟨rfl, hd⟩
    have HD := Lib.hid (hd.since w.heap.size)
    clear hd
    go_wp2
    go_ret2
    exact ⟨rfl, HD.out⟩
  | true =>
    rw [hs] at E
    replace E := Lib.hid E
    obtain ⟨hT, hw⟩ := sqB_of hs
    have h6 := hT.2.1
    rw [hn] at h6
    have E2 := Lib.hid (fun (W : World) (hd : w.Since w.heap.size W) => l2Pivots_any a cap n l W hn hT (by rw [← hw, hn]) (hm.since hd))
    rw [ordF_all l h6]
    clear hs hm hn hsz hT hw
    go_enter Try.func31, Try.ntmps31
    go_wp2_with fail
    refine (E.out).mono ?_
    rintro e w1 ⟨rfl, hd⟩
    have HD := Lib.hid (hd.since w.heap.size)
    clear hd
    go_wp2_with fail
    refine (E2.out w1 HD.out).mono ?_
    rintro e w2 ⟨rfl, hs2⟩
    have HS2 := Lib.hid (HD.out.trans (since_mono hs2 HD.out.size))
    clear hs2
    go_wp2
    go_ret2
    exact ⟨rfl, HS2.out⟩

end Go.Proofs.Yteaabemnolacdaa

/- The contracts of sumOfOrders, valueByOrders and ValueOrders. -/
import Derived.Test.YthdemjfllfhhpaaOrdersI
import Derived.Test.YthdemjfllfhhpaaSquareV
import Derived.Maps.AppendAt
namespace Go.Proofs.Ythdemjfllfhhpaa
open Go.RowKit Go.Deep

/-- The columns so far, in a row of n. -/
def ColsAt (w : World) (g n : Nat) (cs : List Nat) : Prop := w.ownsRow 0 3 1 (.slice (some ⟨g, 0, none⟩) cs.length n) cs.length ((ints cs).map (Value.int .i64))
theorem ColsAt.init {w : World} {g n : Nat} {cs : List Nat} {k : Nat} (h : ColsAt w g n (cs ++ [k])) : ColsAt w g n cs := by
  unfold ColsAt at h ⊢
  rw [show (cs ++ [k]).length = cs.length + 1 by simp] at h
  refine ⟨by simp [ints], ?_⟩
  rcases h.2 with ⟨h', _⟩ | ⟨g', cap', cur, h', hb, hg, hle, hm, hs, ht⟩
  · simp at h'
  · simp only [Value.slice.injEq, Option.some.injEq, Addr.mk.injEq, and_true, true_and] at h'
    obtain ⟨rfl, rfl⟩ := h'
    refine .inr ⟨g, n, cur, rfl, hb, hg, by omega, hm, hs, ?_⟩
    have e := congrArg (List.take cs.length) ht
    rw [List.take_take, Nat.min_eq_left (by omega)] at e
    rw [Nat.mul_one, e]
    simp [ints]
theorem ColsAt.row {w : World} {g n : Nat} {cs : List Nat} (h : ColsAt w g n cs) : RowR w (some ⟨g, 0, none⟩) (ints cs) := fun _ =>
  ⟨g, 0, rfl, fun i hi => by
    have e := World.ownsRow.cellAt h i (by rw [ints_length] at hi; omega)
    rw [Nat.zero_add, e, List.getElem?_map]
    simp [List.getD, hi]⟩
theorem ColsAt.kept {w w' : World} {g n : Nat} {cs : List Nat} (h : ColsAt w g n cs) (hs : w.Since w.heap.size w') : ColsAt w' g n cs := World.ownsRow.kept h (grown_of_since (row := none) hs) (by simp [Value.ownBlock])
theorem ints_snoc (cs : List Nat) (k : Nat) : (ints (cs ++ [k])).map (Value.int .i64) = (ints cs).map (Value.int .i64) ++ [.int .i64 (k : Int)] := by simp [ints]

set_option maxRecDepth 100000 in
set_option maxHeartbeats 4000000 in
theorem sumOfOrders_any (a : Option Addr) (cap n : Nat) (l : List (List Int)) (g : Nat) (hn : l.length = n) (hT : TabIn l) (hw : (l.getD 0 []).length = n) : ∀ (m : Nat) (cs : List Nat) (W : World), cs.length + m = n → (∀ c ∈ cs, c < n) → ColsAt W g n cs → (∀ W', W.grownBy W' (some g) → MatR W' a l) →
    Calls Try.prog 132 #[.slice a n cap, .slice (some ⟨g, 0, none⟩) cs.length n] W fun e w' => e = .returned (.int .i64 (ordS l n m cs)) ∧ W.grownBy w' (some g) ∧ ColsAt w' g n cs := by
  have h6 := hT.2.1
  rw [hn] at h6
  intro m
  induction m with
  | zero =>
    intro cs W hl hc hcols hmat
    have hx : cs.length = n := by omega
    have E := orderedProduct_any a cap n l g n cs W hn hT hw (hmat W (World.grownBy.refl _ _)) hx hc (Nat.le_refl _) (by omega) hcols.row
    rw [hx]
    replace E := Lib.hid E
    have HC := Lib.hid hcols
    clear hmat hcols hl hc hx
    go_enter Try.func132, Try.ntmps132
    go_wp2_with fail
    refine (E.out).mono ?_
    rintro e w1 ⟨rfl, hs⟩
    have HK := HC.out.kept hs
    go_wp2
    go_ret
    exact ⟨rfl, grown_of_since hs, HK⟩
  | succ m ih =>
    intro cs W hl hc hcols hmat
    obtain ⟨i3, hi3⟩ := info3_parts
    have HJ := Lib.hid hi3
    have hbd := fun q (hq : q ≤ n) => ordP_bd (l := l) (n := n) (m := m) (cs := cs) h6 (fun i j hi hj => hT.at (by omega) (by omega)) hl hc hq
    have hb6 := b6_le (m + 1) (by omega)
    have hb6' : b6 (m + 1) = 6 * b6 m := rfl
    rw [ordS_succ]
    obtain ⟨F, hF⟩ : ∃ F : Nat → Int, F = fun k => if k ∈ cs then 0 else ordS l n m (cs ++ [k]) := ⟨_, rfl⟩
    simp only [← hF] at hbd ⊢
    have hd : cs.length < n := by omega
    have hne : ((cs.length : Int) == (n : Int)) = false := by simp; omega
    have HIH := Lib.hid (fun (k : Nat) (hk : k < n) (V : World) (h1 : ColsAt V g n (cs ++ [k])) (h2 : ∀ W', V.grownBy W' (some g) → MatR W' a l) => ih (cs ++ [k]) V (by simp; omega) (fun c h => by
      rcases List.mem_append.1 h with h | h
      · exact hc c h
      · simp at h; omega) h1 h2)
    have HIN := Lib.hid (fun (k : Nat) (V : World) (h1 : ColsAt V g n cs) => contains_any (some ⟨g, 0, none⟩) n cs.length (ints cs) k V (ints_length cs) (by omega) h1.row)
    have HM := Lib.hid hmat
    have HC := Lib.hid hcols
    have HF := Lib.hid hF
    have HB := Lib.hid hbd
    have HMEM : ∀ k : Nat, ((k : Int) ∈ ints cs) ↔ k ∈ cs := fun k => by
      simp only [ints, List.mem_map]
      constructor
      · rintro ⟨c, h1, h2⟩
        have : c = k := by omega
        exact this ▸ h1
      · exact fun h => ⟨k, h, rfl⟩
    have HME := Lib.hid HMEM
    obtain ⟨d, hdd⟩ : ∃ d, d = cs.length := ⟨_, rfl⟩
    have HD := Lib.hid hdd
    rw [← hdd] at hd hne ⊢
    simp only [← hdd] at HIN
    clear ih hmat hcols hF hbd hc hi3 HMEM hdd hT hw hn
    go_enter Try.func132, Try.ntmps132
    go_wp2
    go_loopg [5, 6, 17] n (fun q s _ i wr => ∃ k : Nat, k ≤ n ∧ q = n - k ∧ i = .int .i64 k ∧ s = .int .i64 (sumN F k) ∧ W.grownBy wr (some g) ∧ ColsAt wr g n cs)
    case atStart => exact ⟨0, Nat.zero_le _, rfl, rfl, rfl, World.grownBy.refl _ _, HC.out⟩
    case round =>
      obtain ⟨k, hk, rfl, rfl, rfl, hG, hCo⟩ := hrel
      obtain ⟨s0, hs0⟩ : ∃ s, s = sumN F k := ⟨_, rfl⟩
      have e : sumN F (k + 1) = s0 + F k := by rw [hs0]; rfl
      rw [← hs0]
      by_cases hlt : k < n
      · have hsb := HB.out (k + 1) (by omega)
        rw [e] at hsb
        have E1 := HIN.out k wr hCo
        have HE := Lib.hid e
        have HG := Lib.hid hG
        have HCo := Lib.hid hCo
        clear e hs0 hG
        by_cases hmem : k ∈ cs
        · rw [decide_eq_true ((HME.out k).2 hmem)] at E1
          replace E1 := Lib.hid E1
          have hF0 : F k = 0 := by rw [HF.out]; exact if_pos hmem
          clear hCo
          go_wp2_with fail
          refine (E1.out).mono ?_
          rintro e w' ⟨rfl, rfl⟩
          go_wp2
          go_roundg (n - (k + 1))
          case measure => omega
          case rel => exact ⟨k + 1, by omega, rfl, by go_num, by rw [HE.out, hF0]; simp, HG.out, HCo.out⟩
        · rw [decide_eq_false (fun h => hmem ((HME.out k).1 h))] at E1
          replace E1 := Lib.hid E1
          obtain ⟨f2, hf2⟩ : ∃ f, f = F k := ⟨_, rfl⟩
          rw [← hf2] at hsb
          have hF0 : f2 = ordS l n m (cs ++ [k]) := by rw [hf2, HF.out]; exact if_neg hmem
          have hws : IntKind.i64.wrap (s0 + f2) = s0 + f2 := IntWalk.i64_in _ ⟨by omega, by omega⟩
          have HH := Lib.hid hf2
          have EI := fun (V : World) (h1 : ColsAt V g n (cs ++ [k])) (h2 : V.heap.size ≥ 0 ∧ W.grownBy V (some g)) => HIH.out k hlt V h1 (fun W' hW' => HM.out W' (h2.2.trans hW'))
          rw [show (cs ++ [k]).length = d + 1 by rw [HD.out]; simp, ← hF0] at EI
          replace EI := Lib.hid EI
          have hown : wr.ownsRow 0 3 1 (.slice (some ⟨g, 0, none⟩) d n) d ((ints cs).map (Value.int .i64)) := by rw [HD.out]; exact hCo
          have HOWN := Lib.hid hown
          clear hf2 hsb hF0 hCo hown
          go_wp2_with (first
            | (go_at_call 142; refine (E1.out).mono ?_; rintro e w' ⟨rfl, rfl⟩)
            | (at_builtin; (refine wpList_append_fits _ rfl _ _ 37 rfl 0 3 i3 1 Try.underlying37 HJ.out.1 HJ.out.2.2.1 g d n ((ints cs).map (Value.int .i64)) rfl (HOWN.out.alloc _) ⟨wr.heap.size, 0, none⟩ 1 1 [.int .i64 k] rfl rfl (cell_one_at _ _ _ rfl) (fun x hx => by simp at hx; subst hx; rfl) (by omega) ?_); intro w1 hown' hgrow; have hc1 : ColsAt w1 g n (cs ++ [k]) := (by unfold ColsAt; rw [ints_snoc, show (cs ++ [k]).length = d + 1 by rw [HD.out]; simp]; exact hown'); have hg1 : W.grownBy w1 (some g) := HG.out.trans ((World.grownBy_alloc wr _ _).trans hgrow); clear hown' hgrow; have HC1 := Lib.hid hc1; have HG1 := Lib.hid hg1; clear hc1 hg1)
            | (go_at_call 132; refine (EI.out w1 HC1.out ⟨Nat.zero_le _, HG1.out⟩).mono ?_; rintro e w2 ⟨rfl, hg2, hc2⟩; have HG2 := Lib.hid (HG1.out.trans hg2); have HC2 := Lib.hid hc2.init; clear hg2 hc2))
          go_roundg (n - (k + 1))
          case measure => omega
          case rel => exact ⟨k + 1, by omega, rfl, by go_num, by rw [HE.out, ← HH.out], HG2.out, HC2.out⟩
      · have hqn : n = k := by omega
        subst hqn
        go_wp2
        go_ret
        exact ⟨by rw [hs0]; rfl, hG, hCo⟩

theorem since_fresh {W w1 w2 : World} (h : W.grownBy w1 none) (h2 : w1.grownBy w2 (some W.heap.size)) : W.Since W.heap.size w2 :=
  ⟨h2.os.trans h.os, h2.tape.trans h.tape, h2.output.trans h.output, Nat.le_trans h.size h2.size, fun k hk => (h2.block k (by have := h.size; omega) (by intro e; injection e with e; omega)).trans (h.block k hk (by simp))⟩

set_option maxRecDepth 100000 in
set_option maxHeartbeats 1000000 in
theorem byOrders_any (a : Option Addr) (cap n : Nat) (l : List (List Int)) (w : World) (hn : l.length = n) (hT : TabIn l) (hw : (l.getD 0 []).length = n) (hm : MatR w a l) :
    Calls Try.prog 123 #[.slice a n cap] w fun e w' => e = .returned (.int .i64 (ordF l n n 0)) ∧ w.Since w.heap.size w' := by
  have h6 := hT.2.1
  rw [hn] at h6
  obtain ⟨i3, hi3⟩ := info3_parts
  have HJ := Lib.hid hi3
  have E := fun (V : World) (hc : ColsAt V w.heap.size n []) (hg : w.grownBy V none) => sumOfOrders_any a cap n l w.heap.size hn hT hw n [] V (by simp) (by simp) hc (fun W' hW' => hm.since (since_fresh hg hW'))
  rw [ordS_all l n h6] at E
  replace E := Lib.hid E
  clear hi3 hn hT hw hm
  go_enter Try.func123, Try.ntmps123
  go_wp2_with (first
    | (at_make; (refine wpList_make_own _ rfl _ _ 37 rfl 0 3 i3 (.int .i64 0) 1 Try.underlying37 HJ.out.1 HJ.out.2.1 HJ.out.2.2.1 .i64 .i64 n n rfl rfl rfl (by rw [HJ.out.2.2.2]; omega) (by unfold maxLen; omega) (Nat.zero_le _) ?_); intro w1 hown hgrow; have HO := Lib.hid (show ColsAt w1 w.heap.size n [] from hown); have HG := Lib.hid hgrow; clear hown hgrow)
    | (go_at_call 132; refine (E.out w1 HO.out HG.out).mono ?_; rintro e w2 ⟨rfl, hg2, hc2⟩; have HS := Lib.hid (since_fresh HG.out hg2); clear hg2 hc2))
  go_ret
  exact ⟨rfl, HS.out⟩

theorem implValueOrders_any (a : Option Addr) (cap n : Nat) (l : List (List Int)) (w : World) (hn : l.length = n) (hsz : szL l ≤ 1048576) (hm : MatR w a l) :
    Calls Try.prog 20 #[.slice a n cap] w (SpecW w (sqB l) (ordF l n n 0)) :=
  implValueOrders_of a cap n l (ordF l n n 0) w hn hsz hm fun hs W' hm' => by
    obtain ⟨hT, hw⟩ := sqB_of hs
    exact byOrders_any a cap n l W' hn hT (by rw [← hw, hn]) hm'

end Go.Proofs.Ythdemjfllfhhpaa

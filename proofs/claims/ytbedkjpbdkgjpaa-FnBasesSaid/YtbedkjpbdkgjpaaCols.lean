/- The iterator columnsIn, and the sum of places. -/
import Derived.Test.YtbedkjpbdkgjpaaTold
import Derived.Test.YtbedkjpbdkgjpaaIter
import Derived.RangeFuncBox
namespace Go.Proofs.Ytbedkjpbdkgjpaa
open Go.RowKit Go.Deep Go.Shelf
attribute [local go_sem] Oper.semAt_some

/-- What a box holds stays. -/
def Kp1 (B : Nat) (X Y : World) : Prop := Y.cell? ⟨B, 0, none⟩ = X.cell? ⟨B, 0, none⟩
theorem Kp1.refl (B : Nat) (X : World) : Kp1 B X X := rfl
theorem Kp1.trans {B : Nat} {X Y Z : World} (h : Kp1 B X Y) (k : Kp1 B Y Z) : Kp1 B X Z := Eq.trans k h
theorem Kp1.grown {B : Nat} {X Y : World} {row : Option Nat} (h : X.grownBy Y row) (h1 : B < X.heap.size) (h3 : row ≠ some B) : Kp1 B X Y := cell_grown_ne h h1 h3
theorem kp1_b {B : Nat} {w : World} (h1 : B < w.heap.size) (W : World) (l : Nat) (o o' : Obj) (hl : w.heap.size ≤ l) (h : W.heap[l]? = some o) (_ : o.isCells = false) (_ : o.isWalk = false) : Kp1 B W (W.putObj l o') := by
  have := (Array.getElem?_eq_some_iff.1 h).1
  exact Kp1.grown (grownBy_putObj' W l o') (by omega) (fun e => by cases e; omega)

abbrev Col5 := {i : Nat // i < 5}
set_option maxRecDepth 100000 in
set_option maxHeartbeats 2000000 in
theorem cols1_in (n : Nat) (hn : 2 ≤ n) (l Bs s : Nat) (hs : s ≤ 63) (Kp : World → World → Prop)
    (hK : ∀ X Y, Kp X Y → Y.cell? ⟨Bs, 0, none⟩ = X.cell? ⟨Bs, 0, none⟩) (J Jx : List Col5 → World → Prop)
    (hY : ∀ pre x W, J pre W → pre.length < 5 → YieldAt Fence.wide (n - 1) Try.prog l #[.int .i64 (x.1 : Int)] W fun e W' =>
      (e = .returned (.bool true) ∧ J (pre ++ [x]) W' ∧ Kp W W') ∨ (e = .returned (.bool false) ∧ Jx (pre ++ [x]) W'))
    (W : World) (hBs : W.cell? ⟨Bs, 0, none⟩ = some (.int .i64 s)) (h0 : J [] W) :
    CallsIn Fence.wide n Try.prog 95 #[.func (.yield l) #[] #[], .pointer (some ⟨Bs, 0, none⟩)] W fun e W' => (∃ v, e = .returned v) ∧
      ((∃ ys, ys = sel s 5 5 ∧ J ys W') ∨ (∃ pre, (∃ k, k ≤ 5 ∧ pre = sel s 5 k) ∧ Jx pre W')) := by
  refine callsIn_of_wp Try.func95 rfl trivial ?_ rfl
  simp only [Try.ntmps95, List.size_toArray, List.length_cons, List.length_nil, Nat.reduceAdd, Nat.reduceSub, Array.replicate_succ, Array.replicate_zero, List.push_toArray, List.append_toArray, List.nil_append, List.cons_append]
  gi_wp2
  gi_loopw [3, 4] (fun _ i wr => ∃ k : Nat, k ≤ 5 ∧ i = .int .i64 k ∧ J (sel s 5 k) wr ∧ wr.cell? ⟨Bs, 0, none⟩ = some (.int .i64 s))
    (fun _ i _ => 5 - (intOf i).toNat)
  case atStart => exact ⟨0, Nat.zero_le _, rfl, h0, hBs⟩
  case round =>
    obtain ⟨k, hk, rfl, hJs, hBs'⟩ := hrel
    by_cases hlt : k < 5
    · have E := Lib.hid (inSet_any s k hs (by omega) wr)
      clear hBs
      cases hb : s.testBit k with
      | true =>
        have hy0 := hY _ ⟨k, hlt⟩ wr hJs (by have := sel_length s 5 k; omega)
        obtain ⟨fn, tmps, assign, body, hy, hR⟩ := hy0
        dsimp only at hy
        rw [hb] at E
        have HB := Lib.hid hb
        clear hb
        gi_wp2_with (refine ⟨trivial, fun _ => by omega, ?_⟩; gi_at_call 96; refine (callsIn_wide.2 E.out).mono ?_; rintro e w' ⟨rfl, rfl⟩)
        refine ⟨fun _ => by omega, hR.mono ?_⟩
        rintro e W3 (⟨rfl, hJ3, hk3⟩ | ⟨rfl, hJx3⟩)
        · have g1 := hK _ _ hk3
          gi_wp2
          go_roundw
          case rel => exact ⟨k + 1, by omega, by simp, by rw [sel_yes s 5 k hlt HB.out]; exact hJ3, g1.trans hBs'⟩
          case measure => simp [intOf]; omega
        · gi_wp2
          refine bodyPost_ret (results_none rfl _ _ _) rfl ?_
          exact ⟨⟨_, rfl⟩, .inr ⟨_, ⟨k + 1, by omega, (sel_yes s 5 k hlt HB.out).symm⟩, hJx3⟩⟩
      | false =>
        rw [hb] at E
        have HB := Lib.hid hb
        clear hb
        gi_wp2_with (refine ⟨trivial, fun _ => by omega, ?_⟩; gi_at_call 96; refine (callsIn_wide.2 E.out).mono ?_; rintro e w' ⟨rfl, rfl⟩)
        refine ⟨fun _ h => (by cases h), ?_⟩
        gi_wp2
        go_roundw
        case rel => exact ⟨k + 1, by omega, by simp, by rw [sel_no s 5 k HB.out]; exact hJs, hBs'⟩
        case measure => simp [intOf]; omega
    · obtain rfl : k = 5 := by omega
      gi_wp2
      go_end0
      exact ⟨⟨_, rfl⟩, .inl ⟨_, rfl, hJs⟩⟩

/-- The iterator keeps its word to every loop body that leaves its box as it is. -/
theorem cols_stops (n : Nat) (hn : 2 ≤ n) (Bs s : Nat) (hs : s ≤ 63) (w : World) (h1 : Bs < w.heap.size) (hBs : w.cell? ⟨Bs, 0, none⟩ = some (.int .i64 s)) :
    SeqStopsK Fence.wide n Try.prog 95 #[.pointer (some ⟨Bs, 0, none⟩)] (fun x : Col5 => #[Value.int .i64 (x.1 : Int)]) (Kp1 Bs) (fun ys => ys = sel s 5 5) (fun pre => ∃ k, k ≤ 5 ∧ pre = sel s 5 k) 5 w := fun l J Jx W hW _ _ hY hJ =>
  cols1_in n hn l Bs s hs (Kp1 Bs) (fun _ _ h => h) J Jx hY W ((hW.cell (p := ⟨Bs, 0, none⟩) h1).trans hBs) hJ

set_option maxHeartbeats 1000000 in
theorem columnsIn_any (s : Int) (w : World) :
    Calls Try.prog 89 #[.int .i64 s] w fun e w' => e = .returned (.func (.func 95) #[] #[.pointer (some ⟨w.heap.size, 0, none⟩)]) ∧ w' = w.alloc (.cells #[.int .i64 s] 3) := by
  go_enter Try.func89, Try.ntmps89
  go_wp2
  go_ret
  exact ⟨rfl, rfl⟩

/-- A sum over numbers that have come. -/
def sumC (f : Nat → Int) : List Col5 → Int
  | [] => 0
  | x :: l => f x.1 + sumC f l
theorem sumC_snoc (f : Nat → Int) (l : List Col5) (x : Col5) : sumC f (l ++ [x]) = sumC f l + f x.1 := by
  induction l with
  | nil => simp [sumC]
  | cons y l ih => simp only [List.cons_append, sumC, ih]; omega
theorem sumC_sel (f : Nat → Int) (s : Nat) : ∀ k, k ≤ 5 → sumC f (sel s 5 k) = sumN (fun c => if s.testBit c = true then f c else 0) k
  | 0, _ => rfl
  | k + 1, h => by
    have ih := sumC_sel f s k (by omega)
    cases hb : s.testBit k with
    | true => rw [sel_yes s 5 k (by omega) hb, sumC_snoc, ih]; simp [sumN, hb]
    | false => rw [sel_no s 5 k hb, ih]; simp [sumN, hb]
theorem sumC_bd {f : Nat → Int} {B : Nat} (h : ∀ c, c < 5 → (f c).natAbs ≤ B) : ∀ l : List Col5, (sumC f l).natAbs ≤ l.length * B
  | [] => by simp [sumC]
  | x :: l => by
    have ih := sumC_bd h l
    have := h x.1 x.2
    simp only [sumC, List.length_cons, Nat.add_mul, Nat.one_mul]
    omega

/-- What is known of a sum in a box while numbers come. -/
def SI (w : World) (B : Nat) (f : Nat → Int) (pre : List Col5) (W : World) : Prop := Boxed W B 3 (.int .i64 (sumC f pre)) ∧ w.Since w.heap.size W

set_option maxRecDepth 100000 in
set_option maxHeartbeats 2000000 in
theorem placeSum_any (s : Nat) (hs : s ≤ 63) (w : World) : Calls Try.prog 75 #[.int .i64 s] w fun e w' => e = .returned (.int .i64 (sumC (fun c => (c : Int)) (sel s 5 5))) ∧ w.Since w.heap.size w' := by
  refine (callsIn_wide (n := 9)).1 ?_
  refine callsIn_of_wp_marks Try.func75 rfl trivial ?_ rfl
  simp only [Try.ntmps75, List.size_toArray, List.length_cons, List.length_nil, Nat.reduceAdd, Nat.reduceSub, Array.replicate_succ, Array.replicate_zero, List.push_toArray, List.append_toArray, List.nil_append, List.cons_append]
  gi_wp2_with (first
    | (refine ⟨trivial, ?_⟩; gi_at_call 89; refine (callsIn_wide.2 (columnsIn_any _ _)).mono ?_; rintro e w' ⟨rfl, rfl⟩))
  have hbx := (Boxed.new w 3 (.int .i64 0)).alloc (.cells #[.int .i64 s] 3)
  have hbs := (Boxed.new (w.alloc (.cells #[.int .i64 0] 3)) 3 (.int .i64 s)).cell
  rw [World.size_alloc] at hbs
  have hsn : w.Since w.heap.size ((w.alloc (.cells #[.int .i64 0] 3)).alloc (.cells #[.int .i64 s] 3)) := ((World.Since.refl _ _).alloc (Nat.le_refl _) _).alloc (by simp) _
  have hzz : ((w.alloc (.cells #[.int .i64 0] 3)).alloc (.cells #[.int .i64 s] 3)).heap.size = w.heap.size + 2 := by simp
  obtain ⟨W0, hW0⟩ : ∃ W0, (w.alloc (.cells #[.int .i64 0] 3)).alloc (.cells #[.int .i64 s] 3) = W0 := ⟨_, rfl⟩
  rw [hW0] at hbx hbs hsn hzz ⊢
  clear hW0
  have hbd := fun l => sumC_bd (f := fun c => (c : Int)) (B := 4) (fun c hc => by simp; omega) l
  refine wpIn_rangeFunc_ownF (F := Fence.wide) (n := 9) rfl (by omega) (gf := 95) (lb := #[.pointer (some ⟨w.heap.size + 1, 0, none⟩)]) rfl trivial (enters_of Try.func95 (by kernel_rfl) rfl)
    (cols_stops 8 (by omega) (w.heap.size + 1) s hs W0 (by omega) hbs)
    (fun h k => h.trans k) (kp1_b (by omega)) (Below.refl _ _) (fun _ => rfl)
    (SI w w.heap.size (fun c => (c : Int)))
    (fun _ _ _ => False)
    (by
      rintro t X Y row ⟨hv, hS⟩ hg hrow
      exact ⟨hv.kept hg (fun e => by have := (hrow _ e.symm).1; omega), sinceRow hS (Nat.le_refl _) hg (fun r e => by have := (hrow r e).1; omega)⟩)
    (fun c => fun s A B row hs hg hr => hs)
    ⟨hbx, hsn⟩
    (fun x => { tmps := #[.int .i64 s, undef, .int .i64 0, .pointer (some ⟨w.heap.size, 0, none⟩), .int .i64 (x.1 : Int), .int .i64 s, .func (.func 95) #[] #[.pointer (some ⟨w.heap.size + 1, 0, none⟩)], .int .i64 (x.1 : Int), undef, undef, undef, undef], defers := [] }) ?assign ?body ?done ?stop
  case assign =>
    intro lp x W K hK
    gi_wp2
    exact hK
  case body =>
    rintro lp pre x W ⟨hv, hS⟩ hlen
    have hcv := hv.cell
    have hfv := hv.frozen
    have hzb := hv.lt
    have hx := x.2
    have hb := hbd pre
    have hP := sumC_snoc (fun c => (c : Int)) pre x
    obtain ⟨y, hy⟩ : ∃ y, sumC (fun c => (c : Int)) pre = y := ⟨_, rfl⟩
    obtain ⟨j, hj⟩ : ∃ j, x.1 = j := ⟨_, rfl⟩
    rw [hy] at hcv hb hP
    rw [hj] at hx hP ⊢
    have HP := Lib.hid hP
    have hwr : IntKind.i64.wrap (y + (j : Int)) = y + (j : Int) := IntWalk.i64_in _ ⟨by omega, by omega⟩
    have HV := Lib.hid hv
    have HS := Lib.hid hS
    clear hv hS hP hy hj
    gi_wp2
    refine ⟨KeepsOthers.setCell _ _ _, World.cell?_setCell_other _ _ _ _ (by intro e; injection e; omega), ?_, HS.out.setCell (by simp) _⟩
    rw [HP.out]
    exact HV.out.set _
  case done =>
    rintro D ys W hD rfl ⟨hv, hS⟩ hK
    have hcv := hv.cell
    have hzb := hv.lt
    obtain ⟨y, hy⟩ : ∃ y, sumC (fun c => (c : Int)) (sel s 5 5) = y := ⟨_, rfl⟩
    rw [hy] at hcv
    have HY := Lib.hid hy
    have HS := Lib.hid (sinceRow (row := some D) hS (Nat.le_refl _) (grownBy_putObj' W D (.deferred none)) (fun r e => by cases e; omega))
    clear hv hS hy
    gi_wp2
    refine ⟨by simp, .inl ⟨_, _, rfl, run_takeDeferred hK, ?_⟩⟩
    refine ⟨.int .i64 y, ?_, by rw [HY.out], HS.out⟩
    simp [results, Try.f75, go_sem]
  case stop =>
    rintro D c pre W hD hpre hF hK
    exact hF.elim

end Go.Proofs.Ytbedkjpbdkgjpaa

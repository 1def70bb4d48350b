import Derived.Test.YtbedkjpbdkgjpaaUnitSpec
import Derived.Test.YtbedkjpbdkgjpaaOwnR
import Derived.Test.YtbedkjpbdkgjpaaArr
import Derived.Laws.StructEq
import Derived.Test.YtbedkjpbdkgjpaaPlaceBasesI
import Derived.Test.YtbedkjpbdkgjpaaPlaceE
import Derived.Test.YtbedkjpbdkgjpaaRows
import Derived.Test.YtbedkjpbdkgjpaaData
import Derived.ProofKit
import Derived.Deep.Matrix

section
/- The walk of laws.FnExactPlaceSame, over the contracts of spec.PlaceSame and impl.PlaceSame. -/
namespace Go.Proofs.Ytbedkjpbdkgjpaa
open Go.RowKit Go.Deep

set_option maxRecDepth 100000 in
set_option maxHeartbeats 1000000 in
theorem lawPlaceSame_aux (k n : Int) (a0 : Option Addr) (cap0 n0 : Nat) (l0 : List Int) (a1 : Option Addr) (cap1 n1 : Nat) (l1 : List Int) (ok : Bool) (w : World) (hn0 : l0.length = n0) (h630 : n0 ≤ 9223372036854775807) (hm0 : RowR w a0 l0) (hn1 : l1.length = n1) (h631 : n1 ≤ 9223372036854775807) (hm1 : RowR w a1 l1)
    (hspec : n0 ≤ 1048576 ∧ n1 ≤ 1048576 → ∀ (W : World) (b0 : Option Addr) (c0 : Nat) (b1 : Option Addr) (c1 : Nat), RowR W b0 l0 → RowR W b1 l1 → Calls Try.prog 25 #[.int .i64 k, .int .i64 n, .slice b0 n0 c0, .slice b1 n1 c1] W (fun e w' => e = .returned (.bool ok) ∧ W.Since W.heap.size w'))
    (himpl : n0 ≤ 1048576 ∧ n1 ≤ 1048576 → ∀ (W : World) (b0 : Option Addr) (c0 : Nat) (b1 : Option Addr) (c1 : Nat), RowR W b0 l0 → RowR W b1 l1 → Calls Try.prog 26 #[.int .i64 k, .int .i64 n, .slice b0 n0 c0, .slice b1 n1 c1] W (fun e w' => e = .returned (.bool ok) ∧ W.Since W.heap.size w')) :
    Calls Try.prog 6 #[.int .i64 k, .int .i64 n, .slice a0 n0 cap0, .slice a1 n1 cap1] w fun e w' => e = .returned (.bool true) ∧ w.Since w.heap.size w' := by
  have HN0 := Lib.hid hn0
  have HM0 := Lib.hid hm0
  have HN1 := Lib.hid hn1
  have HM1 := Lib.hid hm1
  have HSPEC := Lib.hid hspec
  have HIMPL := Lib.hid himpl
  clear hspec himpl hn0 hm0 hn1 hm1
  by_cases hbig0 : 1048576 < n0
  · have hb0 : decide ((1048576 : Int) < (n0 : Int)) = true := by simp; omega
    go_enter Try.func6, Try.ntmps6
    go_wp2
    go_ret
    exact ⟨rfl, World.Since.refl _ _⟩
  have hb0 : decide ((1048576 : Int) < (n0 : Int)) = false := by simp; omega
  have hm0 : n0 ≤ 1048576 := by omega
  by_cases hbig1 : 1048576 < n1
  · have hb1 : decide ((1048576 : Int) < (n1 : Int)) = true := by simp; omega
    go_enter Try.func6, Try.ntmps6
    go_wp2
    go_ret
    exact ⟨rfl, World.Since.refl _ _⟩
  have hb1 : decide ((1048576 : Int) < (n1 : Int)) = false := by simp; omega
  have hm1 : n1 ≤ 1048576 := by omega
  have HCP0 := Lib.hid (fun (W : World) (hs : w.Since w.heap.size W) => toIntR_any a0 cap0 n0 l0 W HN0.out hm0 (HM0.out.since hs))
  have HCP1 := Lib.hid (fun (W : World) (hs : w.Since w.heap.size W) => toIntR_any a1 cap1 n1 l1 W HN1.out hm1 (HM1.out.since hs))
  have s0 : w.Since w.heap.size w := World.Since.refl _ _
  cases ok
  all_goals
    go_enter Try.func6, Try.ntmps6
    go_wp2_with fail
    refine (HCP0.out _ s0).mono ?_
    rintro e w1 ⟨rfl, t1, o1⟩
    have s1 : w.Since w.heap.size w1 := s0.trans (since_mono t1 s0.size)
    have z1 := t1.size
    go_wp2_with fail
    refine (HCP1.out _ s1).mono ?_
    rintro e w2 ⟨rfl, t2, o2⟩
    have s2 : w.Since w.heap.size w2 := s1.trans (since_mono t2 s1.size)
    have z2 := t2.size
    replace o1 := o1.since t2
    go_wp2_with fail
    refine (HSPEC.out ⟨hm0, hm1⟩ _ _ _ _ _ o1.rowR o2.rowR).mono ?_
    rintro e w3 ⟨rfl, t3⟩
    have s3 : w.Since w.heap.size w3 := s2.trans (since_mono t3 s2.size)
    have z3 := t3.size
    replace o1 := o1.since t3
    replace o2 := o2.since t3
    clear o1
    clear o2
    go_wp2_with fail
    refine (HCP0.out _ s3).mono ?_
    rintro e w4 ⟨rfl, t4, gx0⟩
    have s4 : w.Since w.heap.size w4 := s3.trans (since_mono t4 s3.size)
    have z4 := t4.size
    go_wp2_with fail
    refine (HCP1.out _ s4).mono ?_
    rintro e w5 ⟨rfl, t5, gx1⟩
    have s5 : w.Since w.heap.size w5 := s4.trans (since_mono t5 s4.size)
    have z5 := t5.size
    replace gx0 := gx0.since t5
    go_wp2_with fail
    refine (HIMPL.out ⟨hm0, hm1⟩ _ _ _ _ _ gx0.rowR gx1.rowR).mono ?_
    rintro e w6 ⟨rfl, t6⟩
    have s6 : w.Since w.heap.size w6 := s5.trans (since_mono t6 s5.size)
    have z6 := t6.size
    replace gx0 := gx0.since t6
    replace gx1 := gx1.since t6
    go_wp2_with fail
    refine (HCP0.out _ s6).mono ?_
    rintro e w7 ⟨rfl, t7, o7⟩
    have s7 : w.Since w.heap.size w7 := s6.trans (since_mono t7 s6.size)
    have z7 := t7.size
    replace gx0 := gx0.since t7
    replace gx1 := gx1.since t7
    go_wp2_with fail
    refine (eqIntS_same _ _ _ _ _ l0 _ HN0.out h630 gx0.rowR o7.rowR).mono ?_
    rintro e w8 ⟨rfl, d8⟩
    have t8 := d8.since w7.heap.size
    clear d8
    have s8 : w.Since w.heap.size w8 := s7.trans (since_mono t8 s7.size)
    have z8 := t8.size
    replace gx0 := gx0.since t8
    replace gx1 := gx1.since t8
    replace o7 := o7.since t8
    clear o7
    go_wp2_with fail
    refine (HCP1.out _ s8).mono ?_
    rintro e w9 ⟨rfl, t9, o9⟩
    have s9 : w.Since w.heap.size w9 := s8.trans (since_mono t9 s8.size)
    have z9 := t9.size
    replace gx0 := gx0.since t9
    replace gx1 := gx1.since t9
    go_wp2_with fail
    refine (eqIntS_same _ _ _ _ _ l1 _ HN1.out h631 gx1.rowR o9.rowR).mono ?_
    rintro e w10 ⟨rfl, d10⟩
    have t10 := d10.since w9.heap.size
    clear d10
    have s10 : w.Since w.heap.size w10 := s9.trans (since_mono t10 s9.size)
    have z10 := t10.size
    replace gx0 := gx0.since t10
    replace gx1 := gx1.since t10
    replace o9 := o9.since t10
    clear o9
    go_wp2
    go_ret
    exact ⟨rfl, s10⟩

end Go.Proofs.Ytbedkjpbdkgjpaa
end

section
/- Arrays compared, and times a number. -/
namespace Go.Proofs.Ytbedkjpbdkgjpaa
open Go.RowKit Go.Deep

/-- Are two arrays the same? -/
def eqA (C D : Nat → Int) : Bool := (List.range' 0 32 1).all fun i => C i == D i
theorem eqA_iff {C D : Nat → Int} : eqA C D = true ↔ ∀ i, i < 32 → C i = D i := by
  unfold eqA
  rw [List.all_eq_true]
  simp only [List.mem_range'_1, beq_iff_eq]
  exact ⟨fun h i hi => h i ⟨by omega, by omega⟩, fun h i hi => h i (by omega)⟩

theorem run_equal_arr (d : Nat) (C D : Nat → Int) (w : World) : (Op.equalIn (d + 2) 48 (.agg (arr C)) (.agg (arr D))).run Try.prog w = .ok (eqA C D) w := by
  have hu : Try.prog.underlying 3 = some (.int .i64) := by kernel_rfl
  have hq1 : (Try.prog.info? 3).map (·.size) = some 1 := by kernel_rfl
  have hsz : (sizeOf 3).run Try.prog w = .ok 1 w := by
    cases hq : Try.prog.info? 3 with
    | none => rw [hq] at hq1; cases hq1
    | some i =>
      have hs : i.size = 1 := by simpa [hq] using hq1
      simp [sizeOf, typeInfo, hq, hs]
  rw [Op.equalIn]
  unfold eqA
  simp only [Sem.run_bind, run_underlying und48, Result.andThen_ok, hsz, Std.Legacy.Range.forIn_eq_forIn_range', Std.Legacy.Range.size, Nat.sub_zero, Nat.add_sub_cancel, Nat.div_one]
  have hl : ∀ i ∈ List.range' 0 32 1, i < 32 := fun i hi => by simpa using (List.mem_range'_1.1 hi).2
  generalize List.range' 0 32 1 = l at hl ⊢
  induction l with
  | nil => simp
  | cons i l ih =>
    have hi : i < 32 := hl i (by simp)
    have px : ∀ X : Nat → Int, (part 3 (arr X) (i * 1)).run Try.prog w = .ok (.int .i64 (X i)) w := fun X => by
      simp [part, isAgg, run_underlying hu, arr_at X hi]
    have pe : (Op.equalIn (d + 1) 3 (.int .i64 (C i)) (.int .i64 (D i))).run Try.prog w = .ok (C i == D i) w := by
      rw [run_equalIn_int w d 3 .i64 .i64 _ _ hu]
    simp only [List.forIn_cons, Sem.run_bind, px, pe, Result.andThen_ok, List.all_cons]
    cases hb : (C i == D i)
    · simp
    · simp only [Bool.not_true, Bool.false_eq_true, if_false, Sem.run_pure, Result.andThen_ok, Bool.true_and]
      exact ih fun j hj => hl j (by simp [hj])

theorem guard48 : Try.prog.eqGuardType Try.prog.depth 48 = false := by kernel_rfl
theorem wpList_eql_arr {ops : Array Oper} {rest : List Oper} {o : Oper} {a : Act} {w : World} {Q : Exit → Act → World → Prop} (hg : Region.wanted o (yielded ops a.tmps) = true) (x y : Operand) (ty : TypeId) (ho : o.op = .binOp .eql 48 x y ty)
    (C D : Nat → Int) (hx : a.eval x = .agg (arr C)) (hy : a.eval y = .agg (arr D))
    (h : wpList Try.prog ops Q rest (a.put o.dst (.bool (eqA C D))) w) : wpList Try.prog ops Q (o :: rest) a w :=
  wpList_step fun K hK => by
    rw [if_pos hg]
    unfold Oper.wp execOp
    simp only [ho, hx, hy, Sem.run_bind, run_eqGuard_agg _ _ _ _ _ _ _ guard48, run_eql_struct, run_equal_arr 9998 C D, Result.andThen_ok, Sem.run_pure]
    exact hK _ _ h
theorem wp_eql_arr {o : Oper} {a : Act} {w : World} {K : Act → World → Prop} {Q : Exit → Act → World → Prop} (x y : Operand) (ty : TypeId) (ho : o.op = .binOp .eql 48 x y ty)
    (C D : Nat → Int) (hx : a.eval x = .agg (arr C)) (hy : a.eval y = .agg (arr D)) (h : K (a.put o.dst (.bool (eqA C D))) w) : o.wp Try.prog a w K Q := by
  unfold Oper.wp execOp
  simp only [ho, hx, hy, Sem.run_bind, run_eqGuard_agg _ _ _ _ _ _ _ guard48, run_eql_struct, run_equal_arr 9998 C D, Result.andThen_ok, Sem.run_pure]
  exact h

/-- Times a number, below r. -/
def timTo (C : Nat → Int) (f : Int) (r : Nat) (s : Nat) : Int := if s < r then C s * f else C s
theorem timTo_succ (C : Nat → Int) (f : Int) (r : Nat) : timTo C f (r + 1) = fun j => if j = r then C r * f else timTo C f r j := by
  funext j
  unfold timTo
  by_cases e : j = r
  · subst e; rw [if_pos (by omega), if_pos rfl]
  · rw [if_neg e]
    by_cases h : j < r
    · rw [if_pos h, if_pos (by omega)]
    · rw [if_neg h, if_neg (by omega)]
theorem timTo_all (C : Nat → Int) (f : Int) : arr (timTo C f 32) = arr (fun s => C s * f) := arr_congr fun i hi => by unfold timTo; rw [if_pos hi]

set_option maxRecDepth 100000 in
set_option maxHeartbeats 1000000 in
theorem times_any (C : Nat → Int) (f : Int) (w : World) (hb : ∀ i, i < 32 → -9223372036854775808 ≤ C i * f ∧ C i * f ≤ 9223372036854775807) :
    Calls Try.prog 78 #[.agg (arr C), .int .i64 f] w fun e w' => e = .returned (.agg (arr fun s => C s * f)) ∧ w.Since w.heap.size w' := by
  have HB := Lib.hid hb
  clear hb
  go_enter Try.func78, Try.ntmps78
  go_wp2
  rw [zero_lit]
  have b2 : ArrAt ((w.alloc (.cells (arr C) 48)).alloc (.cells (arr fun _ => 0) 48)) w.heap.size C := (ArrAt.new _ _).alloc _
  have b4 : ArrAt ((w.alloc (.cells (arr C) 48)).alloc (.cells (arr fun _ => 0) 48)) (w.heap.size + 1) (fun _ => 0) := by
    have := ArrAt.new (w.alloc (.cells (arr C) 48)) (fun _ => 0)
    rwa [World.size_alloc] at this
  have hS : w.Since w.heap.size ((w.alloc (.cells (arr C) 48)).alloc (.cells (arr fun _ => 0) 48)) := ((World.Since.refl _ _).alloc (Nat.le_refl _) _).alloc (by simp) _
  obtain ⟨W, hW⟩ : ∃ W, (w.alloc (.cells (arr C) 48)).alloc (.cells (arr fun _ => 0) 48) = W := ⟨_, rfl⟩
  rw [hW] at b2 b4 hS ⊢
  clear hW
  go_loopg [6] 32 (fun g i wr => ∃ r : Nat, r ≤ 32 ∧ g = 32 - r ∧ i = .int .i64 r ∧ ArrAt wr w.heap.size (timTo C f r) ∧ ArrAt wr (w.heap.size + 1) (fun _ => 0) ∧ w.Since w.heap.size wr)
  case atStart => exact ⟨0, by omega, rfl, rfl, b2, b4, hS⟩
  case round =>
    obtain ⟨r, hr, rfl, rfl, h2, h4, hs⟩ := hrel
    clear b2 b4 hS
    by_cases hlt : r < 32
    · have hc := h2.cell hlt
      have hf := h2.frozen r
      have e : timTo C f r r = C r := by unfold timTo; rw [if_neg (by omega)]
      rw [e] at hc
      have hbr := HB.out r hlt
      have HT := Lib.hid (timTo_succ C f r)
      have H2 := Lib.hid h2
      have H4 := Lib.hid h4
      have HS := Lib.hid hs
      obtain ⟨y, hy⟩ : ∃ y, C r = y := ⟨_, rfl⟩
      rw [hy] at hc hbr HT
      have hwr : IntKind.i64.wrap (y * f) = y * f := IntWalk.i64_in _ hbr
      clear h2 h4 hs e hy
      go_wp2
      go_roundg (32 - (r + 1))
      case measure => omega
      case rel => exact ⟨r + 1, by omega, rfl, by go_num, by rw [HT.out]; exact H2.out.set hlt _, H4.out.setOther (by omega) _, HS.out.setCell (by simp) _⟩
    · obtain rfl : r = 32 := by omega
      have H2 := Lib.hid h2
      have H4 := Lib.hid h4
      have HS := Lib.hid hs
      clear h2 h4 hs
      go_wp2_with (first
        | (with_reducible (show wpList _ _ _ (Oper.mk _ (Op.load _ _) 48 _ _ _ :: _) _ _); refine wpList_load_arr rfl _ rfl _ rfl _ H2.out ?_)
        | (with_reducible (show wpList _ _ _ (Oper.mk _ (Op.store 48 _ _) _ _ _ _ :: _) _ _); refine wpList_store_arr rfl _ _ rfl _ rfl _ _ H4.out rfl ?_))
      rw [timTo_all]
      refine bodyPost_ret (v := .agg (arr fun s => C s * f)) (results_cell_row rfl _ _ (w.heap.size + 1) 48 _ _ _ rfl H4.out.row und48 rfl (info48c _)) rfl ⟨rfl, since_setRow HS.out _ _ (by omega)⟩

end Go.Proofs.Ytbedkjpbdkgjpaa
end

section
/- Two coordinates that are each other times a number: the pure side. -/
namespace Go.Proofs.Ytbedkjpbdkgjpaa
open Go.RowKit Go.Deep

/-- Neither is all 0, and each is the other one times a number. -/
def Prop2 (C D : Nat → Int) (N : Nat) : Prop := (∃ i, i < N ∧ C i ≠ 0) ∧ (∃ i, i < N ∧ D i ≠ 0) ∧ ∀ i j, i < N → j < N → C i * D j = D i * C j
theorem Prop2.symm {C D : Nat → Int} {N : Nat} (h : Prop2 C D N) : Prop2 D C N := ⟨h.2.1, h.1, fun i j hi hj => (h.2.2 i j hi hj).symm⟩
theorem prop_cancel {a b x y : Int} (hx : x ≠ 0) (hy : y ≠ 0) (h : a * (x * y) = b * (x * y)) : a = b := by
  exact Int.eq_of_mul_eq_mul_right (Int.mul_ne_zero hx hy) h
/-- One place at which one of them is not 0 is enough. -/
theorem prop_at {C D : Nat → Int} {N f : Nat} (hf : f < N) (h0 : C f ≠ 0) (hD : ∃ i, i < N ∧ D i ≠ 0) (h : ∀ i, i < N → C i * D f = D i * C f) : Prop2 C D N := by
  have hDf : D f ≠ 0 := fun e => by
    obtain ⟨i, hi, hn⟩ := hD
    have := h i hi
    rw [e, Int.mul_zero] at this
    rcases Int.mul_eq_zero.mp this.symm with h1 | h1
    · exact hn h1
    · exact h0 h1
  refine ⟨⟨f, hf, h0⟩, hD, fun i j hi hj => prop_cancel hDf h0 ?_⟩
  have e1 := h i hi
  have e2 := h j hj
  calc C i * D j * (D f * C f) = (C i * D f) * (D j * C f) := by grind
    _ = D i * C j * (D f * C f) := by rw [e1, ← e2]; grind

theorem lowP_spec (p : List Int) (m : Nat) : ∀ j, j ≤ m → (lowP p m j = -1 ∧ ∀ i, m - j ≤ i → i < m → p.getD i 0 = 0) ∨ (∃ a, m - j ≤ a ∧ a < m ∧ lowP p m j = (a : Int) ∧ p.getD a 0 ≠ 0 ∧ ∀ i, m - j ≤ i → i < a → p.getD i 0 = 0)
  | 0, _ => .inl ⟨rfl, fun i h1 h2 => by omega⟩
  | j + 1, h => by
    by_cases h0 : p.getD (m - (j + 1)) 0 = 0
    · rw [lowP_zero h0]
      rcases lowP_spec p m j (by omega) with ⟨h1, h2⟩ | ⟨a, h1, h2, h3, h4, h5⟩
      · refine .inl ⟨h1, fun i hi1 hi2 => ?_⟩
        by_cases e : i = m - (j + 1)
        · subst e; exact h0
        · exact h2 i (by omega) hi2
      · refine .inr ⟨a, by omega, h2, h3, h4, fun i hi1 hi2 => ?_⟩
        by_cases e : i = m - (j + 1)
        · subst e; exact h0
        · exact h5 i (by omega) hi2
    · rw [lowP_not h0]
      exact .inr ⟨m - (j + 1), Nat.le_refl _, by omega, rfl, h0, fun i h1 h2 => by omega⟩
theorem lowP_all (p : List Int) (m : Nat) : (lowP p m m = -1 ∧ ∀ i, i < m → p.getD i 0 = 0) ∨ (∃ a, a < m ∧ lowP p m m = (a : Int) ∧ p.getD a 0 ≠ 0 ∧ ∀ i, i < a → p.getD i 0 = 0) := by
  rcases lowP_spec p m m (Nat.le_refl _) with ⟨h1, h2⟩ | ⟨a, _, h2, h3, h4, h5⟩
  · exact .inl ⟨h1, fun i hi => h2 i (by omega) hi⟩
  · exact .inr ⟨a, h2, h3, h4, fun i hi => h5 i (by omega) hi⟩

theorem sameOk_iff (p q : List Int) (m : Nat) : sameOk p q m = true ↔ Prop2 (fun i => p.getD i 0) (fun i => q.getD i 0) m := by
  constructor
  · intro h
    unfold sameOk at h
    simp only [Bool.and_eq_true, decide_eq_true_eq] at h
    obtain ⟨h1, h2, h3⟩ := h
    rcases lowP_all p m with ⟨e, _⟩ | ⟨a, ha, e, hp, _⟩
    · omega
    rcases lowP_all q m with ⟨e', _⟩ | ⟨b, hb, e', hq, _⟩
    · omega
    obtain rfl : a = b := by omega
    rw [e, Int.toNat_natCast] at h3
    exact prop_at ha hp ⟨a, hb, hq⟩ h3
  · rintro ⟨⟨i, hi, hpi⟩, ⟨j, hj, hqj⟩, h⟩
    rcases lowP_all p m with ⟨_, e⟩ | ⟨a, ha, e, hp, hpa⟩
    · exact absurd (e i hi) hpi
    rcases lowP_all q m with ⟨_, e'⟩ | ⟨b, hb, e', hq, hqb⟩
    · exact absurd (e' j hj) hqj
    have hab : a = b := by
      rcases Nat.lt_trichotomy a b with hlt | rfl | hlt
      · have := h a b ha hb
        dsimp only at this
        rw [hqb a hlt, Int.zero_mul] at this
        rcases Int.mul_eq_zero.mp this with h1 | h1
        · exact absurd h1 hp
        · exact absurd h1 hq
      · rfl
      · have := h b a hb ha
        dsimp only at this
        rw [hpa b hlt, Int.zero_mul] at this
        rcases Int.mul_eq_zero.mp this.symm with h1 | h1
        · exact absurd h1 hq
        · exact absurd h1 hp
    subst hab
    exact sameOk_yes (by omega) (by omega) (by rw [e, Int.toNat_natCast]; exact fun i hi => h i a hi ha)

theorem nzTo_spec (C : Nat → Int) : ∀ r, (nzTo C r = [] ∧ ∀ i, i < r → C i = 0) ∨ (∃ f l, f < r ∧ nzTo C r = (f : Int) :: l ∧ C f ≠ 0)
  | 0 => .inl ⟨rfl, fun i h => by omega⟩
  | r + 1 => by
    by_cases h0 : C r = 0
    · rw [nzTo_no h0]
      rcases nzTo_spec C r with ⟨h1, h2⟩ | ⟨f, l, h1, h2, h3⟩
      · refine .inl ⟨h1, fun i hi => ?_⟩
        by_cases e : i = r
        · subst e; exact h0
        · exact h2 i (by omega)
      · exact .inr ⟨f, l, by omega, h2, h3⟩
    · rw [nzTo_yes h0]
      rcases nzTo_spec C r with ⟨h1, h2⟩ | ⟨f, l, h1, h2, h3⟩
      · exact .inr ⟨r, [], by omega, by rw [h1]; rfl, h0⟩
      · exact .inr ⟨f, l ++ [(r : Int)], by omega, by rw [h2]; rfl, h3⟩

/-- What proportional answers, f being the first set whose number is not 0. -/
def propF (C D : Nat → Int) (f : Nat) : Bool := eqA (fun s => C s * D f) (fun s => D s * C f)
theorem propF_iff {C D : Nat → Int} {f : Nat} (hf : f < 32) (h0 : C f ≠ 0) (hD : eqA D (fun _ => 0) = false) : propF C D f = true ↔ Prop2 C D 32 := by
  unfold propF
  rw [eqA_iff]
  constructor
  · intro h
    refine prop_at hf h0 (Classical.byContradiction fun hn => ?_) h
    have : eqA D (fun _ => 0) = true := eqA_iff.mpr fun i hi => Classical.byContradiction fun h => hn ⟨i, hi, h⟩
    rw [hD] at this
    cases this
  · rintro ⟨_, _, h⟩ i hi
    exact h i f hi hf

theorem crd_at {k n i : Nat} {p : List Int} {s : Nat} (h : (setsTo k (2 ^ n))[i]? = some s) : crd k n p s = p.getD i 0 := by
  obtain ⟨h1, h2, h3⟩ := setsTo_idx k _ h
  unfold crd
  rw [if_pos ⟨h3, h2⟩]
  unfold atP
  rw [h2, h1]
theorem crd_some {k n s : Nat} (_p : List Int) (h : s < 2 ^ n ∧ popcS s = k) : ∃ i, i < (setsTo k (2 ^ n)).length ∧ (setsTo k (2 ^ n))[i]? = some s := by
  have e := setsTo_pos k _ h.1 h.2
  exact ⟨_, (List.getElem?_eq_some_iff.mp e).1, e⟩
theorem crd_none {k n s : Nat} {p : List Int} (h : ¬ (s < 2 ^ n ∧ popcS s = k)) : crd k n p s = 0 := by unfold crd; rw [if_neg h]

theorem prop_crd {k n m : Nat} {p q : List Int} (hn : n ≤ 5) (hm : (setsTo k (2 ^ n)).length = m) : Prop2 (crd k n p) (crd k n q) 32 ↔ Prop2 (fun i => p.getD i 0) (fun i => q.getD i 0) m := by
  have hpw := pow_le5 hn
  have hget : ∀ i, i < m → ∃ s, s < 32 ∧ (setsTo k (2 ^ n))[i]? = some s := fun i hi => by
    have e : (setsTo k (2 ^ n))[i]? = some ((setsTo k (2 ^ n))[i]'(by omega)) := List.getElem?_eq_getElem _
    exact ⟨_, by have := (setsTo_idx k _ e).2.2; omega, e⟩
  constructor
  · rintro ⟨⟨i, hi, h1⟩, ⟨j, hj, h2⟩, h⟩
    refine ⟨?_, ?_, fun a b ha hb => ?_⟩
    · by_cases hc : i < 2 ^ n ∧ popcS i = k
      · obtain ⟨a, ha, e⟩ := crd_some p hc
        exact ⟨a, by omega, by rw [crd_at e] at h1; exact h1⟩
      · exact absurd (crd_none hc) h1
    · by_cases hc : j < 2 ^ n ∧ popcS j = k
      · obtain ⟨a, ha, e⟩ := crd_some q hc
        exact ⟨a, by omega, by rw [crd_at e] at h2; exact h2⟩
      · exact absurd (crd_none hc) h2
    · obtain ⟨s, hs, es⟩ := hget a ha
      obtain ⟨t, ht, et⟩ := hget b hb
      have := h s t hs ht
      rw [crd_at es, crd_at et, crd_at es, crd_at et] at this
      exact this
  · rintro ⟨⟨i, hi, h1⟩, ⟨j, hj, h2⟩, h⟩
    obtain ⟨s, hs, es⟩ := hget i hi
    obtain ⟨t, ht, et⟩ := hget j hj
    refine ⟨⟨s, hs, by rw [crd_at es]; exact h1⟩, ⟨t, ht, by rw [crd_at et]; exact h2⟩, fun a b ha hb => ?_⟩
    by_cases hc : a < 2 ^ n ∧ popcS a = k
    · by_cases hd : b < 2 ^ n ∧ popcS b = k
      · obtain ⟨x, hx, ex⟩ := crd_some p hc
        obtain ⟨y, hy, ey⟩ := crd_some p hd
        rw [crd_at ex, crd_at ey, crd_at ex, crd_at ey]
        exact h x y (by omega) (by omega)
      · rw [crd_none hd, crd_none hd, Int.mul_zero, Int.mul_zero]
    · rw [crd_none hc, crd_none hc, Int.zero_mul, Int.zero_mul]

end Go.Proofs.Ytbedkjpbdkgjpaa
end

section
/- The contract of impl.PlaceSame. -/
namespace Go.Proofs.Ytbedkjpbdkgjpaa
open Go.RowKit Go.Deep

/-- What proportional answers. -/
noncomputable def propB (C D : Nat → Int) : Bool := @decide (Prop2 C D 32) (Classical.propDecidable _)
theorem propB_yes {C D : Nat → Int} {b : Bool} (h : b = true ↔ Prop2 C D 32) : propB C D = b := by
  unfold propB
  cases b
  · exact @decide_eq_false _ (Classical.propDecidable _) (fun e => by have := h.mpr e; cases this)
  · exact @decide_eq_true _ (Classical.propDecidable _) (h.mp rfl)
theorem prop_zero {C D : Nat → Int} (h : eqA C (fun _ => 0) = true) : ¬ Prop2 C D 32 := fun ⟨⟨i, hi, hn⟩, _⟩ => hn (eqA_iff.mp h i hi)
theorem mul_bd {x y : Int} (h1 : inB x (-100000) 100000 = true) (h2 : inB y (-100000) 100000 = true) : -9223372036854775808 ≤ x * y ∧ x * y ≤ 9223372036854775807 := by
  simp [inB] at h1 h2
  have a1 : (x * y).natAbs ≤ 100000 * 100000 := by rw [Int.natAbs_mul]; exact Nat.mul_le_mul (by omega) (by omega)
  omega

set_option maxRecDepth 100000 in
set_option maxHeartbeats 4000000 in
theorem proportional_any (C D : Nat → Int) (w : World) (hC : fitB C = true) (hD : fitB D = true) :
    Calls Try.prog 53 #[.agg (arr C), .agg (arr D)] w fun e w' => e = .returned (.bool (propB C D)) ∧ w.Since w.heap.size w' := by
  have b2 : ArrAt ((w.alloc (.cells (arr C) 48)).alloc (.cells (arr D) 48)) w.heap.size C := (ArrAt.new _ _).alloc _
  have b3 : ArrAt ((w.alloc (.cells (arr C) 48)).alloc (.cells (arr D) 48)) (w.heap.size + 1) D := by
    have := ArrAt.new (w.alloc (.cells (arr C) 48)) D
    rwa [World.size_alloc] at this
  have hS : w.Since w.heap.size ((w.alloc (.cells (arr C) 48)).alloc (.cells (arr D) 48)) := ((World.Since.refl _ _).alloc (Nat.le_refl _) _).alloc (by simp) _
  have B2 := Lib.hid b2
  have B3 := Lib.hid b3
  have HS := Lib.hid hS
  clear b2 b3 hS
  cases h1 : eqA C (fun _ => 0) with
  | true =>
    have HR := Lib.hid (propB_yes (b := false) ⟨fun e => (by cases e), fun e => absurd e (prop_zero (D := D) h1)⟩)
    have H1 := Lib.hid h1
    clear h1 hC hD
    go_enter Try.func53, Try.ntmps53
    go_wp2_with (first
      | (with_reducible (show wpList _ _ _ (Oper.mk _ (Op.load _ _) 48 _ _ _ :: _) _ _); first | refine wpList_load_arrG rfl _ rfl w.heap.size rfl _ B2.out ?_ | refine wpList_load_arrG rfl _ rfl (w.heap.size + 1) rfl _ B3.out ?_)
      | (with_reducible (show wpList _ _ _ (Oper.mk _ (Op.binOp BinOp.eql 48 _ _ _) _ _ _ _ :: _) _ _); simp only [zero_lit]; refine wpList_eql_arr rfl _ _ _ rfl _ _ rfl rfl ?_; rw [H1.out]))
    go_ret
    exact ⟨by rw [HR.out] <;> rfl, HS.out⟩
  | false =>
  cases h2 : eqA D (fun _ => 0) with
  | true =>
    have HR := Lib.hid (propB_yes (b := false) ⟨fun e => (by cases e), fun e => absurd e.symm (prop_zero (D := C) h2)⟩)
    have H1 := Lib.hid h1
    have H2 := Lib.hid h2
    clear h1 h2 hC hD
    go_enter Try.func53, Try.ntmps53
    go_wp2_with (first
      | (with_reducible (show wpList _ _ _ (Oper.mk _ (Op.load _ _) 48 _ _ _ :: _) _ _); first | refine wpList_load_arrG rfl _ rfl w.heap.size rfl _ B2.out ?_ | refine wpList_load_arrG rfl _ rfl (w.heap.size + 1) rfl _ B3.out ?_)
      | (with_reducible (show wpList _ _ _ (Oper.mk _ (Op.binOp BinOp.eql 48 _ _ _) _ _ _ _ :: _) _ _); simp only [zero_lit]; refine wpList_eql_arr rfl _ _ _ rfl _ _ rfl rfl ?_; first | rw [H1.out] | rw [H2.out]))
    go_ret
    exact ⟨by rw [HR.out] <;> rfl, HS.out⟩
  | false =>
  rcases nzTo_spec C 32 with ⟨_, hz⟩ | ⟨f, l, hf, hl, h0⟩
  · have : eqA C (fun _ => 0) = true := eqA_iff.mpr hz
    rw [h1] at this
    cases this
  have HR := Lib.hid (propB_yes (propF_iff hf h0 h2))
  have EB := bases_any C
  rw [hl] at EB
  have hCf := (fitTo_iff 32).mp hC f hf
  have hDf := (fitTo_iff 32).mp hD f hf
  have ET1 := Lib.hid (fun (W : World) => times_any C (D f) W (fun i hi => mul_bd ((fitTo_iff 32).mp hC i hi) hDf))
  have ET2 := Lib.hid (fun (W : World) => times_any D (C f) W (fun i hi => mul_bd ((fitTo_iff 32).mp hD i hi) hCf))
  have H1 := Lib.hid h1
  have H2 := Lib.hid h2
  have ll : ((f : Int) :: l).length = l.length + 1 := rfl
  replace EB := Lib.hid EB
  clear h1 h2 hC hD hl h0 hCf hDf
  go_enter Try.func53, Try.ntmps53
  go_wp2_with (first
    | (with_reducible (show wpList _ _ _ (Oper.mk _ (Op.load _ _) 48 _ _ _ :: _) _ _); first | refine wpList_load_arrG rfl _ rfl w.heap.size rfl _ B2.out ?_ | refine wpList_load_arrG rfl _ rfl (w.heap.size + 1) rfl _ B3.out ?_)
    | (with_reducible (show wpList _ _ _ (Oper.mk _ (Op.binOp BinOp.eql 48 _ _ _) _ _ _ _ :: _) _ _); simp only [zero_lit]; refine wpList_eql_arr rfl _ _ _ rfl _ _ rfl rfl ?_; first | rw [H1.out] | rw [H2.out])
    | (go_at_call 54; refine (EB.out _).mono ?_; rintro e w3 ⟨v, rfl, hR⟩; have hRS := hR.since; obtain ⟨a3, c3, rfl, hG⟩ := hR.slice; obtain ⟨G, rfl, _, hG3⟩ := hG (by simp); have hcG := hG3.cell (i := 0) (by simp); simp only [List.getD_cons_zero] at hcG; have HRS := Lib.hid hRS; clear hR hRS hG hG3))
  have c2 := B2.out.since HRS.out
  have c3 := B3.out.since HRS.out
  have sn := HS.out.trans (since_mono HRS.out HS.out.size)
  clear HS B2 B3 HRS EB H1 H2 hcG
  have hf0 : (0 : Int) ≤ (f : Int) := by omega
  have hf1 : (f : Int) < 32 := by omega
  refine wp_region_held_drew (S := fun W => ArrAt W w.heap.size C ∧ ArrAt W (w.heap.size + 1) D ∧ w.Since w.heap.size W) (by kernel_rfl) ⟨c2, c3, sn.drew⟩ (fun hH => ?_)
  refine wpAnyH_take (i := 0) (v := .agg (arr C)) rfl (by kernel_rfl) (by kernel_rfl) (by kernel_rfl) (fun _ _ _ h => h) (yieldsIf_load_arr rfl _ rfl _ rfl C (fun _ h => h.1)) hH ?_
  simp only [Act.put]
  refine wpAnyH_take (i := 1) (v := .int .i64 f) rfl (by kernel_rfl) (by kernel_rfl) (by kernel_rfl) (fun _ _ _ h => h) (Or.inl ⟨by rfl, fun W' _ => by go_simp⟩) hH ?_
  simp only [Act.put]
  refine wpAnyH_take (i := 2) (v := .pointer (some ⟨w.heap.size + 1, f, none⟩)) rfl (by kernel_rfl) (by kernel_rfl) (by kernel_rfl) (fun _ _ _ h => h) (Or.inl ⟨by rfl, fun W' _ => by go_simp⟩) hH ?_
  simp only [Act.put]
  refine wpAnyH_take (i := 3) (v := .int .i64 (D f)) rfl (by kernel_rfl) (by kernel_rfl) (by kernel_rfl) (fun _ _ _ h => h) (Or.inl ⟨by rfl, fun W' h => by have hc := h.2.1.cell hf; go_simp⟩) hH ?_
  simp only [Act.put]
  refine wpAnyH_take (i := 5) (v := .agg (arr D)) rfl (by kernel_rfl) (by kernel_rfl) (by kernel_rfl) (fun _ _ _ h => h) (yieldsIf_load_arr rfl _ rfl _ rfl D (fun _ h => h.2.1)) hH ?_
  simp only [Act.put]
  refine wpAnyH_take (i := 6) (v := .int .i64 f) rfl (by kernel_rfl) (by kernel_rfl) (by kernel_rfl) (fun _ _ _ h => h) (Or.inl ⟨by rfl, fun W' _ => by go_simp⟩) hH ?_
  simp only [Act.put]
  refine wpAnyH_take (i := 7) (v := .pointer (some ⟨w.heap.size, f, none⟩)) rfl (by kernel_rfl) (by kernel_rfl) (by kernel_rfl) (fun _ _ _ h => h) (Or.inl ⟨by rfl, fun W' _ => by go_simp⟩) hH ?_
  simp only [Act.put]
  refine wpAnyH_take (i := 8) (v := .int .i64 (C f)) rfl (by kernel_rfl) (by kernel_rfl) (by kernel_rfl) (fun _ _ _ h => h) (Or.inl ⟨by rfl, fun W' h => by have hc := h.1.cell hf; go_simp⟩) hH ?_
  simp only [Act.put, List.setIfInBounds_toArray]
  refine wpAnyH_ready (rs := [4]) (by kernel_rfl) (by simp) (AllReadyH.cons rfl (fun K hK => ?_) AllReadyH.nil)
  go_simp
  go_at_call 78
  refine (ET1.out _).mono ?_
  rintro e w4 ⟨rfl, hs4⟩
  go_wp2_with fail
  have c4 := hH.1.since hs4
  have d4 := hH.2.1.since hs4
  have s4 := hH.2.2.trans (since_mono hs4 hH.2.2.size)
  refine hK.out _ _ ⟨c4, d4, s4⟩ (fun hH4 => ?_)
  clear hK K hH hs4 c2 c3 sn
  refine wpAnyH_ready (rs := [9]) (by kernel_rfl) (by simp) (AllReadyH.cons rfl (fun K hK => ?_) AllReadyH.nil)
  go_simp
  go_at_call 78
  refine (ET2.out _).mono ?_
  rintro e w5 ⟨rfl, hs5⟩
  go_wp2_with fail
  have c5 := c4.since hs5
  have d5 := d4.since hs5
  have s5 := s4.trans (since_mono hs5 s4.size)
  refine hK.out _ _ ⟨c5, d5, s5⟩ (fun _ => ?_)
  clear hK K hH4 c4 d4 s4 hs5
  refine wpAnyH_ready (rs := [10]) (by kernel_rfl) (by simp) (AllReadyH.cons rfl (fun K hK => ?_) AllReadyH.nil)
  rw [if_pos (by rfl)]
  refine wp_eql_arr _ _ _ rfl _ _ rfl rfl ?_
  refine hK.out _ _ ⟨c5, d5, s5⟩ (fun _ => ?_)
  clear hK K
  simp only [Act.put, List.setIfInBounds_toArray]
  refine wpAnyH_ready (rs := [11]) (by kernel_rfl) (by simp) (AllReadyH.cons rfl (fun K hK => ?_) AllReadyH.nil)
  go_simp
  refine hK.out _ _ ⟨c5, d5, s5⟩ (fun _ => ?_)
  clear hK K
  refine wpAnyH_done (by kernel_rfl) ?_ _
  go_wp2
  go_ret
  exact ⟨by rw [HR.out] <;> rfl, s5⟩

set_option maxRecDepth 100000 in
set_option maxHeartbeats 4000000 in
theorem implPlaceSame_any (k n : Int) (a : Option Addr) (cap m : Nat) (p : List Int) (a2 : Option Addr) (cap2 m2 : Nat) (q : List Int) (w : World) (hm : p.length = m) (_hmx : m ≤ 1048576) (hr : RowR w a p) (hm2 : q.length = m2) (_hmx2 : m2 ≤ 1048576) (hr2 : RowR w a2 q) :
    Calls Try.prog 26 #[.int .i64 k, .int .i64 n, .slice a m cap, .slice a2 m2 cap2] w fun e w' => e = .returned (.bool (sameB k n p q)) ∧ w.Since w.heap.size w' := by
  have E1 := told_any k n a cap m p w hm hr
  have E2 := fun (W : World) (hd : w.Since w.heap.size W) => told_any k n a2 cap2 m2 q W hm2 (hr2.since hd)
  unfold ToldP at E1 E2
  cases h1 : placeB k n p with
  | false =>
    have HR := Lib.hid (show sameB k n p q = false by unfold sameB; rw [h1]; rfl)
    obtain ⟨b, hb⟩ : ∃ b, placeB k n q = b := ⟨_, rfl⟩
    rw [h1] at E1
    rw [hb] at E2
    replace E1 := Lib.hid E1
    replace E2 := Lib.hid E2
    clear h1 hb hr hr2 hm hm2
    go_enter Try.func26, Try.ntmps26
    go_wp2_with (first
      | (go_at_call 46; first | (refine (E2.out _ (since_setRow (HS.out.alloc HS.out.size _) _ _ HS.out.size)).mono ?_; rintro e w3 ⟨D1, rfl, hs, -⟩; have HS3 := Lib.hid hs; clear hs) | (refine (E1.out).mono ?_; rintro e w2 ⟨C1, rfl, hs, -⟩; have HS := Lib.hid hs; clear hs))
      | (with_reducible (show wpList _ _ _ (Oper.mk _ (Op.store 48 _ _) _ _ _ _ :: _) _ _); rw [zero_lit]; refine wpList_store_arr rfl _ _ rfl _ rfl _ _ (ArrAt.new _ _) rfl ?_))
    go_ret
    have t1 := since_setRow (b := w2.heap.size) (HS.out.alloc HS.out.size (.cells (arr fun _ => 0) 48)) (cs := arr C1) HS.out.size
    have t2 := t1.trans (since_mono HS3.out t1.size)
    exact ⟨by rw [HR.out] <;> rfl, since_setRow (t2.alloc t2.size _) _ _ t2.size⟩
  | true =>
  cases h2 : placeB k n q with
  | false =>
    have HR := Lib.hid (show sameB k n p q = false by unfold sameB; rw [h2]; simp)
    rw [h1] at E1
    simp only [h2] at E2
    replace E1 := Lib.hid E1
    replace E2 := Lib.hid E2
    clear h1 h2 hr hr2 hm hm2
    go_enter Try.func26, Try.ntmps26
    go_wp2_with (first
      | (go_at_call 46; first | (refine (E2.out _ (since_setRow (HS.out.alloc HS.out.size _) _ _ HS.out.size)).mono ?_; rintro e w3 ⟨D1, rfl, hs, -⟩; have HS3 := Lib.hid hs; clear hs) | (refine (E1.out).mono ?_; rintro e w2 ⟨C1, rfl, hs, -⟩; have HS := Lib.hid hs; clear hs))
      | (with_reducible (show wpList _ _ _ (Oper.mk _ (Op.store 48 _ _) _ _ _ _ :: _) _ _); rw [zero_lit]; refine wpList_store_arr rfl _ _ rfl _ rfl _ _ (ArrAt.new _ _) rfl ?_))
    go_ret
    have t1 := since_setRow (b := w2.heap.size) (HS.out.alloc HS.out.size (.cells (arr fun _ => 0) 48)) (cs := arr C1) HS.out.size
    have t2 := t1.trans (since_mono HS3.out t1.size)
    exact ⟨by rw [HR.out] <;> rfl, since_setRow (t2.alloc t2.size _) _ _ t2.size⟩
  | true =>
    obtain ⟨k', n', rfl, rfl, _, _, h5, hlp, _⟩ := placeB_of h1
    obtain ⟨_, _, ek, en, _, _, _, hlq, _⟩ := placeB_of h2
    obtain rfl : k' = _ := by exact Int.ofNat.inj ek
    obtain rfl : n' = _ := by exact Int.ofNat.inj en
    have hf1 : fitB (crd k' n' p) = true := by rw [crd_fit h5 hlp]; exact decide_eq_true (by assumption)
    have hf2 : fitB (crd k' n' q) = true := by rw [crd_fit h5 hlq]; exact decide_eq_true (by assumption)
    have HR := Lib.hid (show sameB k' n' p q = propB (crd k' n' p) (crd k' n' q) by
      unfold sameB
      rw [h1, h2]
      exact (propB_yes (b := sameOk p q p.length) (by rw [sameOk_iff, prop_crd h5 hlp.symm])).symm)
    have EP := fun (W : World) => proportional_any _ _ W hf1 hf2
    rw [h1] at E1
    simp only [h2] at E2
    simp only [Int.toNat_natCast, forall_const] at E1 E2
    obtain ⟨C, hC⟩ : ∃ C, crd k' n' p = C := ⟨_, rfl⟩
    obtain ⟨D, hD⟩ : ∃ D, crd k' n' q = D := ⟨_, rfl⟩
    rw [hC] at E1
    simp only [hD] at E2
    rw [hC, hD] at EP HR
    replace E1 := Lib.hid E1
    replace E2 := Lib.hid E2
    replace EP := Lib.hid EP
    clear h1 h2 hr hr2 hm hm2 hC hD hf1 hf2 hlp hlq
    go_enter Try.func26, Try.ntmps26
    go_wp2_with (first
      | (go_at_call 46; first | (refine (E2.out _ (since_setRow (HS.out.alloc HS.out.size _) _ _ HS.out.size)).mono ?_; rintro e w3 ⟨D1, rfl, hs, rfl⟩; have HS3 := Lib.hid hs; clear hs) | (refine (E1.out).mono ?_; rintro e w2 ⟨C1, rfl, hs, rfl⟩; have HS := Lib.hid hs; clear hs))
      | (with_reducible (show wpList _ _ _ (Oper.mk _ (Op.store 48 _ _) _ _ _ _ :: _) _ _); rw [zero_lit]; refine wpList_store_arr rfl _ _ rfl _ rfl _ _ (ArrAt.new _ _) rfl ?_)
      | (with_reducible (show wpList _ _ _ (Oper.mk _ (Op.load _ _) 48 _ _ _ :: _) _ _); first | refine wpList_load_arrG rfl _ rfl _ rfl D1 (ArrAt.new _ _).row ?_ | refine wpList_load_arrG rfl _ rfl _ rfl C1 ((((ArrAt.new _ _).row.since HS3.out).alloc _).rowOther (Nat.ne_of_lt ((ArrAt.new _ _).row.since HS3.out).lt) _) ?_)
      | (go_at_call 53; refine (EP.out _).mono ?_; rintro e w4 ⟨rfl, hs4⟩; have HS4 := Lib.hid hs4; clear hs4))
    go_ret
    have t1 := since_setRow (b := w2.heap.size) (HS.out.alloc HS.out.size (.cells (arr fun _ => 0) 48)) (cs := arr C1) HS.out.size
    have t2 := t1.trans (since_mono HS3.out t1.size)
    have t3 := since_setRow (b := w3.heap.size) (t2.alloc t2.size (.cells (arr fun _ => 0) 48)) (cs := arr D1) t2.size
    exact ⟨by rw [HR.out] <;> rfl, t3.trans (since_mono HS4.out t3.size)⟩

end Go.Proofs.Ytbedkjpbdkgjpaa
end

section
/- The walk of laws.FnExactPlaceSame at any arguments. -/
namespace Go.Proofs.Ytbedkjpbdkgjpaa
open Go.RowKit Go.Deep

theorem lawPlaceSame (k n : Int) (a0 : Option Addr) (cap0 n0 : Nat) (l0 : List Int) (a1 : Option Addr) (cap1 n1 : Nat) (l1 : List Int) (w : World) (hn0 : l0.length = n0) (h630 : n0 ≤ 9223372036854775807) (hm0 : RowR w a0 l0) (hn1 : l1.length = n1) (h631 : n1 ≤ 9223372036854775807) (hm1 : RowR w a1 l1) :
    Calls Try.prog 6 #[.int .i64 k, .int .i64 n, .slice a0 n0 cap0, .slice a1 n1 cap1] w fun e w' => e = .returned (.bool true) ∧ w.Since w.heap.size w' :=
  lawPlaceSame_aux k n a0 cap0 n0 l0 a1 cap1 n1 l1 (sameB k n l0 l1) w hn0 h630 hm0 hn1 h631 hm1 (fun ⟨q0, q1⟩ W b0 c0 b1 c1 hb0 hb1 => specPlaceSame_any k n b0 c0 n0 l0 b1 c1 n1 l1 W hn0 q0 hb0 hn1 q1 hb1) (fun ⟨q0, q1⟩ W b0 c0 b1 c1 hb0 hb1 => implPlaceSame_any k n b0 c0 n0 l0 b1 c1 n1 l1 W hn0 q0 hb0 hn1 q1 hb1)

end Go.Proofs.Ytbedkjpbdkgjpaa
end

section
/- What an argument reads as, in the words of the walks; the last step of a row. -/
namespace Go.Proofs.Ytbedkjpbdkgjpaa
open Go.ChangeShapes Go.WideShapes Go.ChangeAt Go.RowKit Go.Deep

theorem below_since' {B : Nat} {w w' : World} (h : Below B w w') : w.Since B w' := ⟨h.os, h.tape, h.output, h.size, h.block⟩
theorem since_below' {B : Nat} {w w' : World} (h : w.Since B w') : Below B w w' := ⟨h.os, h.tape, h.output, h.size, h.block⟩

section
variable {H : Type} {enc : TypeId × Value → H} {P : Program}
theorem post_of_below {f : Func} {s : ChangeSpec} {apart fresh handsOn again : Bool} {W W' : World} {args : Array Value} {v : Value} {ds gs : List (DataW H)} {before pa pv : List MemPlace}
    (hW : DataW.Whole enc P f.params.toList s.vars apart W args.toList ds gs before)
    (hres : ∀ (b : Nat) (sp : Nat → Bool) (hd : Bool), DataW.TrodAll enc P W' b sp hd f.resultTypes.toList (v.resultList f.resultTypes.size) (s.fn H (ds ++ gs)).results [])
    (hargs : ∀ sp : Nat → Bool, (∀ p ∈ before, sp p.block = true) → DataW.TrodAll enc P W' 0 sp true f.params.toList args.toList (s.fn H (ds ++ gs)).args pa)
    (hvars : ∀ sp : Nat → Bool, (∀ p ∈ before, sp p.block = true) → DataW.TrodVars enc P W' sp s.vars (s.fn H (ds ++ gs)).vars pv)
    (hps : before = pa ++ pv) (hb : Below W.heap.size W W') (hag : again = false) :
    s.post enc P f apart fresh handsOn again W args v W' := by
  have hlt : ∀ p ∈ before, p.block < W.heap.size := fun p hp => hW.lt p hp
  have hold : ∀ p ∈ before, (fun b => decide (b < W.heap.size)) p.block = true := fun p hp => by simpa using hlt p hp
  refine ⟨ds, gs, before, [], pa, pv, hW, hres _ _ _, hargs _ hold, hvars _ hold, World.keptBut_mono (fun p hp => ⟨hp, ?_⟩) (hb.frame (· ∈ before)), fun h => ?_⟩
  · rw [hps, List.mem_append] at hp
    exact Or.inr hp
  · rw [hag] at h; cases h

/-- An argument of slices of integers reads as a list of lists. -/
theorem open_mat {W : World} {t e q : TypeId} {a : Option Addr} {n cap : Nat} {d : DataW H} {p : List MemPlace} (ht : P.underlying t = some (.slice e)) (he : P.underlying e = some (.slice q)) (hq : P.underlying q = some (.int .i64))
    (ce : P.cellsOf e = 1) (cq : P.cellsOf q = 1) (h : DataW.Trod enc P W 0 (fun _ => true) true t (.slice a n cap) d p) :
    ∃ l : List (List Int), l.length = n ∧ MatR W a l ∧ n ≤ 9223372036854775807 ∧ ∀ r, r < l.length → (l.getD r []).length ≤ 9223372036854775807 := by
  obtain ⟨fuel, hf⟩ := h
  rcases open_int_rows ht he hq ce cq hf with ⟨hcs, _⟩ | ⟨a', len', cap', A, L, C, Z, hcs, _, hl, hm, _, hrows⟩
  · simp [Value.cells] at hcs
    obtain ⟨rfl, rfl, rfl⟩ := hcs
    exact ⟨[], rfl, (fun h => by simp at h), by omega, fun r hr => by simp at hr⟩
  · simp [Value.cells] at hcs
    obtain ⟨rfl, rfl, rfl⟩ := hcs
    have hmx : maxLen = 9223372036854775807 := rfl
    have hlen : ∀ r, r < n → ((Z r).take (L r)).length = L r := fun r hr => by
      obtain ⟨_, h1, _, h2, _⟩ := hrows r (by omega)
      rw [List.length_take]; omega
    have hget : ∀ r, r < n → ((List.range n).map fun r => (Z r).take (L r)).getD r [] = (Z r).take (L r) := fun r hr => by simp [List.getD, hr]
    refine ⟨(List.range n).map fun r => (Z r).take (L r), by simp, fun h => ?_, by omega, fun r hr => ?_⟩
    · obtain ⟨b, o, spot⟩ := a'
      simp at h
      have hspot : spot = none := by simpa [Addr.add] using World.cell?_spot (hrows 0 (by omega)).1
      subst hspot
      refine ⟨b, o, A, C, rfl, fun r hr => ?_⟩
      simp at hr
      rw [hget r hr, hlen r hr]
      obtain ⟨g1, g2, g3, g4, g5, g6, g7⟩ := hrows r (by omega)
      refine ⟨by rw [← add_plain]; exact g1, fun h0 => ?_⟩
      rw [hlen r hr] at h0
      cases hA : A r with
      | none => have := g6 hA; omega
      | some a'' =>
        obtain ⟨_, hcell⟩ := g7 a'' hA
        obtain ⟨b', o', sp⟩ := a''
        have hs : sp = none := by simpa [Addr.add] using World.cell?_spot (hcell 0 (by omega))
        subst hs
        refine ⟨b', o', rfl, fun i hi => ?_⟩
        rw [hlen r hr] at hi
        rw [← add_plain, hcell i (by omega)]
        congr 2
        simp [List.getD, hi]
    · simp at hr
      rw [hget r hr, hlen r hr]
      obtain ⟨_, h1, h2, _⟩ := hrows r (by omega)
      omega
end

theorem Try.own : ownKnob Try.prog.godebug = none := by kernel_rfl
theorem Try.laidOut : laidOutB Try.prog = true := by kernel_rfl
theorem Try.cellsR : Try.prog.cellsOf 22 = 1 := by kernel_rfl
theorem Try.cellsI : Try.prog.cellsOf 3 = 1 := by kernel_rfl

end Go.Proofs.Ytbedkjpbdkgjpaa
end

section
/- An argument of integers reads as a row. -/
namespace Go.Proofs.Ytbedkjpbdkgjpaa
open Go.ChangeShapes Go.WideShapes Go.ChangeAt Go.RowKit Go.Deep

theorem open_row {H : Type} {enc : TypeId × Value → H} {P : Program} {W : World} {t e : TypeId} {a : Option Addr} {n cap : Nat} {d : DataW H} {p : List MemPlace} (ht : P.underlying t = some (.slice e)) (he : P.underlying e = some (.int .i64)) (ce : P.cellsOf e = 1)
    (h : DataW.Trod enc P W 0 (fun _ => true) true t (.slice a n cap) d p) : ∃ x : List Int, x.length = n ∧ RowR W a x ∧ n ≤ 9223372036854775807 := by
  obtain ⟨fuel, hf⟩ := h
  rcases open_ints ht he ce hf with ⟨hcs, _⟩ | ⟨a', len, cap', zs, hcs, _, hl, hm, hlen, _, hcell, _⟩
  · simp [Value.cells] at hcs
    obtain ⟨rfl, rfl, rfl⟩ := hcs
    exact ⟨[], rfl, (fun h => by simp at h), by omega⟩
  · simp [Value.cells] at hcs
    obtain ⟨rfl, rfl, rfl⟩ := hcs
    have hmx : maxLen = 9223372036854775807 := rfl
    have hzl : zs.length = cap := by simpa using hlen
    refine ⟨zs.take n, by rw [List.length_take]; omega, fun h0 => ?_, by omega⟩
    have h0' : 0 < n := by rw [List.length_take] at h0; omega
    obtain ⟨b, o, spot⟩ := a'
    have hspot : spot = none := by simpa [Addr.add] using World.cell?_spot (hcell 0 (by omega))
    subst hspot
    refine ⟨b, o, rfl, fun i hi => ?_⟩
    have hi2 : i < n := by rw [List.length_take] at hi; omega
    rw [← add_plain, hcell i (by omega)]
    congr 2
    simp [List.getD, hi2]

end Go.Proofs.Ytbedkjpbdkgjpaa
end

section
/- The statement FnExactPlaceSame, proved: for every input the law returns true and each argument reads as before. No conditions. -/
namespace Go.Proofs.Ytbedkjpbdkgjpaa
open Go.ChangeShapes Go.WideShapes Go.ChangeAt Go.RowKit Go.Deep

set_option maxRecDepth 100000 in
theorem lifted_PlaceSame (os : Os) (started : os.Started) (H : Type) (enc : TypeId × Value → H) :
    ReturnsInHanded {} Try.checked os 6 .any (Rows.fnExactPlaceSameSpec.pre6 enc Try.prog Try.f6 Rows.fnExactPlaceSameRow.domain false) (Rows.fnExactPlaceSameSpec.post enc Try.prog Try.f6 false true false false) := by
  refine returnsInHanded_of_change (C := Try.checked) Try.own started (by kernel_rfl) Try.func6
    (ChangeSpec.witness6 (enc := enc) (C := Try.checked) false ⟨#[], #[.int .i64 0, .int .i64 0, .slice none 0 0, .slice none 0 0], []⟩ 8 (by kernel_rfl) (by kernel_rfl) (by kernel_rfl) (by kernel_rfl)) ?_
  intro W base args ds gs before hval0 hW _ _
  have hval : ∀ (j : Nat) t v, Try.f6.params[j]? = some t → args[j]? = some v → Value.okWide Try.prog W .any base t v := hval0
  have hW' := hW
  obtain ⟨p, q, hA0, hV, rfl, hfz, hnd⟩ := hW
  have hA : DataW.TrodAll enc Try.prog W 0 (fun _ => true) true Try.f6.params.toList args.toList ds p := hA0
  rw [Try.params6] at hA hval
  obtain ⟨v0, v1, v2, v3, d0, d1, d2, d3, p0, p1, p2, p3, rfl, rfl, rfl, h0, h1, h2, h3⟩ := trodAll_four hA
  obtain ⟨rfl, rfl⟩ := trodVars_none hV
  obtain ⟨x0, rfl, rfl, rfl, wx0⟩ := open_int Try.underlying3 (hval 0 3 v0 rfl rfl) h0
  obtain ⟨x1, rfl, rfl, rfl, wx1⟩ := open_int Try.underlying3 (hval 1 3 v1 rfl rfl) h1
  obtain ⟨a2, n2, cap2, rfl⟩ := okWide_slice Try.underlying22 (hval 2 22 v2 rfl rfl)
  obtain ⟨l2, hl2, hm2, h632⟩ := open_row Try.underlying22 Try.underlying3 Try.cellsI h2
  obtain ⟨a3, n3, cap3, rfl⟩ := okWide_slice Try.underlying22 (hval 3 22 v3 rfl rfl)
  obtain ⟨l3, hl3, hm3, h633⟩ := open_row Try.underlying22 Try.underlying3 Try.cellsI h3
  clear hA0 hval0
  simp only [List.append_nil, List.nil_append] at hW'
  have hlt2 : ∀ x ∈ p2, x.block < W.heap.size := fun x hx => hW'.lt x (by simp [hx])
  have hlt3 : ∀ x ∈ p3, x.block < W.heap.size := fun x hx => hW'.lt x (by simp [hx])
  refine (lawPlaceSame x0 x1 a2 cap2 n2 l2 a3 cap3 n3 l3 W hl2 h632 hm2 hl3 h633 hm3).mono fun e W' ⟨he, hs⟩ => ?_
  subst he
  have hb := since_below' hs
  have ht2 : ∀ sp : Nat → Bool, (∀ x ∈ p2, sp x.block = true) → DataW.Trod enc Try.prog W' 0 sp true 22 (.slice a2 n2 cap2) d2 p2 := fun sp hsp =>
    WideElems.Trod_stays Try.laidOut (by kernel_rfl) (of_decide_eq_true (by kernel_rfl)) h2 (fun x hx => hb.same (hlt2 x hx)) hsp
  have ht3 : ∀ sp : Nat → Bool, (∀ x ∈ p3, sp x.block = true) → DataW.Trod enc Try.prog W' 0 sp true 22 (.slice a3 n3 cap3) d3 p3 := fun sp hsp =>
    WideElems.Trod_stays Try.laidOut (by kernel_rfl) (of_decide_eq_true (by kernel_rfl)) h3 (fun x hx => hb.same (hlt3 x hx)) hsp
  have hargs : ∀ sp : Nat → Bool, (∀ x ∈ (p2 ++ p3), sp x.block = true) → DataW.TrodAll enc Try.prog W' 0 sp true [3, 3, 22, 22] [.int .i64 x0, .int .i64 x1, .slice a2 n2 cap2, .slice a3 n3 cap3] [.lit (.int .i64 x0), .lit (.int .i64 x1), d2, d3] (p2 ++ p3) := fun sp hsp => by
    have := trodAll_mk4 (enc := enc) (P := Try.prog) (w := W') (base := 0) (spare := sp) (held := true) (shut_int Try.underlying3 wx0) (shut_int Try.underlying3 wx1) (ht2 sp (fun x hx => hsp x (by simp [hx]))) (ht3 sp (fun x hx => hsp x (by simp [hx])))
    simpa using this
  exact ⟨_, rfl, post_of_below (pa := p2 ++ p3) (pv := []) hW' (fun _ _ _ => trodAll_mk1 (shut_bool Try.underlying4 true)) (fun sp hsp => hargs sp (fun x hx => hsp x (by simpa using hx))) (fun _ _ => rfl) (by simp) hb rfl⟩

theorem FnExactPlaceSame_holds : Rows.FnExactPlaceSameSaid :=
  OpenClaim.holds_of_wide 6 Try.f6 rfl rfl rfl rfl rfl rfl rfl ⟨rfl, rfl, rfl, rfl, rfl⟩ rfl rfl rfl rfl rfl (by kernel_rfl) Try.func6 (by kernel_rfl)
    (of_decide_eq_true (by kernel_rfl)) (by unfold Func.isWrapper; first | (rw [if_pos (by decide +kernel)]; kernel_rfl) | (rw [if_neg (by decide +kernel)]; exact ⟨rfl, rfl⟩))
    (fun os started H enc _ => lifted_PlaceSame os started H enc)

end Go.Proofs.Ytbedkjpbdkgjpaa
end

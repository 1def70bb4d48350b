/- Arrays of 32 numbers: as values, in a block of their own. -/
import Derived.Test.YtbedkjpbdkgjpaaPlaceW
import Derived.Test.YtbedkjpbdkgjpaaSetsK
import Derived.Test.YtbedkjpbdkgjpaaMembers
import Derived.Deep.WholeRow
import Derived.Deep.RegionHeld3
import Derived.Laws.ResultCell
namespace Go.Proofs.Ytbedkjpbdkgjpaa
open Go.RowKit Go.Deep

/-- The 32 cells of an array. -/
def arr (C : Nat → Int) : Array Value := Array.ofFn (fun i : Fin 32 => Value.int .i64 (C i.val))
theorem arr_size (C : Nat → Int) : (arr C).size = 32 := by simp [arr]
theorem arr_at (C : Nat → Int) {i : Nat} (h : i < 32) : (arr C)[i]? = some (.int .i64 (C i)) := by simp [arr, h]
theorem arr_one (C : Nat → Int) : (arr C).all (·.oneCell') = true := by
  rw [Array.all_eq_true']
  intro x hx
  simp [arr] at hx
  obtain ⟨i, rfl⟩ := hx
  rfl
theorem arr_congr {C D : Nat → Int} (h : ∀ i, i < 32 → C i = D i) : arr C = arr D := by
  unfold arr
  congr 1
  funext i
  rw [h i.val i.isLt]
theorem arr_set (C : Nat → Int) {i : Nat} (_h : i < 32) (y : Int) : (arr C).setIfInBounds i (.int .i64 y) = arr (fun j => if j = i then y else C j) := by
  apply Array.ext_getElem?
  intro j
  by_cases hj : j < 32
  · rw [arr_at _ hj, Array.getElem?_setIfInBounds]
    by_cases e : i = j
    · subst e; simp [arr_size, hj]
    · rw [if_neg e, arr_at _ hj, if_neg (fun h => e h.symm)]
  · rw [Array.getElem?_eq_none (by simp [arr_size]; omega), Array.getElem?_eq_none (by simp [arr_size]; omega)]
theorem arr_inj {C D : Nat → Int} (h : arr C = arr D) {i : Nat} (hi : i < 32) : C i = D i := by
  have h1 := arr_at C hi
  rw [h, arr_at D hi] at h1
  injection h1 with h1
  injection h1 with _ h1
  exact h1.symm

theorem arr_zero : arr (fun _ => 0) = Array.replicate 32 (.int .i64 0) := by
  apply Array.ext_getElem?
  intro i
  by_cases h : i < 32
  · rw [arr_at _ h]; simp [h]
  · rw [Array.getElem?_eq_none (by simp [arr_size]; omega), Array.getElem?_eq_none (by simp; omega)]

theorem zero_lit : (#[.int .i64 0, .int .i64 0, .int .i64 0, .int .i64 0, .int .i64 0, .int .i64 0, .int .i64 0, .int .i64 0, .int .i64 0, .int .i64 0, .int .i64 0, .int .i64 0, .int .i64 0, .int .i64 0, .int .i64 0, .int .i64 0, .int .i64 0, .int .i64 0, .int .i64 0, .int .i64 0, .int .i64 0, .int .i64 0, .int .i64 0, .int .i64 0, .int .i64 0, .int .i64 0, .int .i64 0, .int .i64 0, .int .i64 0, .int .i64 0, .int .i64 0, .int .i64 0] : Array Value) = arr (fun _ => 0) := by rw [arr_zero]; rfl

attribute [irreducible] arr

/-- An array in a block of its own. -/
def ArrAt (w : World) (b : Nat) (C : Nat → Int) : Prop := w.heap[b]? = some (.cells (arr C) 48 (0, 0))
theorem ArrAt.lt {w : World} {b : Nat} {C : Nat → Int} (h : ArrAt w b C) : b < w.heap.size := (Array.getElem?_eq_some_iff.1 h).1
theorem ArrAt.cell {w : World} {b : Nat} {C : Nat → Int} (h : ArrAt w b C) {i : Nat} (hi : i < 32) : w.cell? ⟨b, i, none⟩ = some (.int .i64 (C i)) := by
  simp [World.cell?, show w.heap[b]? = _ from h, arr_at C hi]
theorem ArrAt.frozen {w : World} {b : Nat} {C : Nat → Int} (h : ArrAt w b C) (i : Nat) : w.frozen? ⟨b, i, none⟩ = false := by
  simp [World.frozen?, show w.heap[b]? = _ from h]
theorem ArrAt.new (w : World) (C : Nat → Int) : ArrAt (w.alloc (.cells (arr C) 48)) w.heap.size C := World.alloc_heap_new w _
theorem ArrAt.kept {w w' : World} {row : Option Nat} {b : Nat} {C : Nat → Int} (h : ArrAt w b C) (hg : w.grownBy w' row) (hne : some b ≠ row) : ArrAt w' b C := (hg.block b h.lt hne).trans h
theorem ArrAt.alloc {w : World} {b : Nat} {C : Nat → Int} (h : ArrAt w b C) (o : Obj) : ArrAt (w.alloc o) b C := h.kept (World.grownBy_alloc w o none) (by simp)
theorem ArrAt.since {w w' : World} {b : Nat} {C : Nat → Int} (h : ArrAt w b C) (hs : w.Since w.heap.size w') : ArrAt w' b C := (hs.block b h.lt).trans h
theorem ArrAt.drew {w : World} {b : Nat} {C : Nat → Int} (h : ArrAt w b C) : ArrAt w.drew b C := h
theorem ArrAt.set {w : World} {b : Nat} {C : Nat → Int} (h : ArrAt w b C) {i : Nat} (hi : i < 32) (y : Int) : ArrAt (w.setCell ⟨b, i, none⟩ (.int .i64 y)) b (fun j => if j = i then y else C j) := by
  obtain ⟨hlt, hk⟩ := Array.getElem?_eq_some_iff.1 h
  show (w.heap.modify b _)[b]? = _
  rw [Array.getElem?_eq_getElem (by rw [Array.size_modify]; exact hlt), Array.getElem_modify_self, hk]
  show some (Obj.cells ((arr C).setIfInBounds i _) _ _) = _
  rw [arr_set C hi y]
theorem ArrAt.setOther {w : World} {b : Nat} {C : Nat → Int} (h : ArrAt w b C) {g i : Nat} (hg : b ≠ g) (v : Value) : ArrAt (w.setCell ⟨g, i, none⟩ v) b C := (Below.heap_setCell _ _ _ _ hg).trans h
theorem ArrAt.row {w : World} {b : Nat} {C D : Nat → Int} (h : ArrAt w b C) : ArrAt (w.setRow b (arr D)) b D := setRow_heap w b _ _ _ _ h

theorem since_setRow {lo : Nat} {w W : World} (h : w.Since lo W) (b : Nat) (cs : Array Value) (hb : lo ≤ b) : w.Since lo (W.setRow b cs) :=
  ⟨h.os, h.tape, h.output, by have := h.size; simpa [World.setRow] using this, fun k hk => by
    have : (W.setRow b cs).heap[k]? = W.heap[k]? := by
      simp only [World.setRow]
      rw [Array.getElem?_modify, if_neg (by omega)]
    exact this.trans (h.block k hk)⟩
theorem ArrAt.rowOther {w : World} {b g : Nat} {C : Nat → Int} (h : ArrAt w b C) (hg : b ≠ g) (cs : Array Value) : ArrAt (w.setRow g cs) b C := by
  have : (w.setRow g cs).heap[b]? = w.heap[b]? := by
    simp only [World.setRow]
    rw [Array.getElem?_modify, if_neg (fun e => hg e.symm)]
  exact this.trans h

theorem info48 : (Try.prog.info? 48).map (·.size) = some 32 := by kernel_rfl
theorem und48 : Try.prog.underlying 48 = some (.array 32 3) := by kernel_rfl
theorem info48c (C : Nat → Int) : (Try.prog.info? 48).map (·.size) = some (arr C).size := by rw [arr_size]; exact info48

/-- The whole array is read. -/
theorem run_load_arr {w : World} {b : Nat} {C : Nat → Int} (h : ArrAt w b C) : (loadVar 48 ⟨b, 0, none⟩).run Try.prog w = .ok (.agg (arr C)) w :=
  run_loadVar_row w b _ _ _ _ _ h und48 rfl (info48c C)
theorem wpList_load_arr {ops : Array Oper} {rest : List Oper} {o : Oper} {a : Act} {w : World} {Q : Exit → Act → World → Prop} (hg : o.guard = none) (x : Operand) (ho : o.op = .load 48 x)
    (b : Nat) (hx : a.eval x = .pointer (some ⟨b, 0, none⟩)) (C : Nat → Int) (hb : ArrAt w b C)
    (h : wpList Try.prog ops Q rest (a.put o.dst (.agg (arr C))) w) : wpList Try.prog ops Q (o :: rest) a w :=
  wpList_plain hg fun K hK => by
    unfold Oper.wp execOp
    simp only [ho, hx, Instr.loadAt, Instr.sureAddr, Sem.run_bind, Sem.run_pure, Result.andThen_ok, run_load_arr hb]
    exact hK _ _ h
theorem wpList_load_arrG {ops : Array Oper} {rest : List Oper} {o : Oper} {a : Act} {w : World} {Q : Exit → Act → World → Prop} (hg : Region.wanted o (yielded ops a.tmps) = true) (x : Operand) (ho : o.op = .load 48 x)
    (b : Nat) (hx : a.eval x = .pointer (some ⟨b, 0, none⟩)) (C : Nat → Int) (hb : ArrAt w b C)
    (h : wpList Try.prog ops Q rest (a.put o.dst (.agg (arr C))) w) : wpList Try.prog ops Q (o :: rest) a w :=
  wpList_step fun K hK => by
    rw [if_pos hg]
    unfold Oper.wp execOp
    simp only [ho, hx, Instr.loadAt, Instr.sureAddr, Sem.run_bind, Sem.run_pure, Result.andThen_ok, run_load_arr hb]
    exact hK _ _ h
theorem wpListIn_load_arr {F : Fence} {n : Nat} {ops : Array Oper} {rest : List Oper} {o : Oper} {a : Act} {w : World} {Q : Exit → Act → World → Prop} (hg : o.guard = none) (x : Operand) (ho : o.op = .load 48 x)
    (b : Nat) (hx : a.eval x = .pointer (some ⟨b, 0, none⟩)) (C : Nat → Int) (hb : ArrAt w b C)
    (h : wpListIn F n Try.prog ops Q rest (a.put o.dst (.agg (arr C))) w) : wpListIn F n Try.prog ops Q (o :: rest) a w :=
  wpListIn_plain hg fun K hK => by
    unfold Oper.wpIn
    refine ⟨?_, ?_⟩
    · simp [Oper.about, ho]
    · rw [Oper.semAt_plain F _ _ (by rw [ho]; intro c hc'; cases hc')]
      unfold execOp
      simp only [ho, hx, Instr.loadAt, Instr.sureAddr, Sem.run_bind, Sem.run_pure, Result.andThen_ok, run_load_arr hb]
      exact hK _ _ h

theorem wp_load_arr {o : Oper} {a : Act} {w : World} {K : Act → World → Prop} {Q : Exit → Act → World → Prop} (x : Operand) (ho : o.op = .load 48 x)
    (b : Nat) (hx : a.eval x = .pointer (some ⟨b, 0, none⟩)) (C : Nat → Int) (hb : ArrAt w b C) (h : K (a.put o.dst (.agg (arr C))) w) : o.wp Try.prog a w K Q := by
  unfold Oper.wp execOp
  simp only [ho, hx, Instr.loadAt, Instr.sureAddr, Sem.run_bind, Sem.run_pure, Result.andThen_ok, run_load_arr hb]
  exact h
theorem yieldsIf_load_arr {ops : Array Oper} {S : World → Prop} {o : Oper} {a : Act} (hw : Region.wanted o (yielded ops a.tmps) = true) (x : Operand) (ho : o.op = .load 48 x)
    (b : Nat) (hx : a.eval x = .pointer (some ⟨b, 0, none⟩)) (C : Nat → Int) (hS : ∀ w, S w → ArrAt w b C) : YieldsIf Try.prog ops S o (.agg (arr C)) a :=
  .inl ⟨hw, fun w hw' => by
    unfold execOp
    simp only [ho, hx, Instr.loadAt, Instr.sureAddr, Sem.run_bind, Sem.run_pure, Result.andThen_ok, run_load_arr (hS w hw')]⟩

/-- The whole array is written. -/
theorem run_store_arr {w : World} {b : Nat} {C D : Nat → Int} (h : ArrAt w b C) : (storeVar 48 ⟨b, 0, none⟩ (.agg (arr D))).run Try.prog w = .ok () (w.setRow b (arr D)) :=
  run_storeVar_row w b _ _ _ _ h (info48c D) (by rw [arr_size, arr_size]) (arr_one D)
theorem wpList_store_arr {ops : Array Oper} {rest : List Oper} {o : Oper} {a : Act} {w : World} {Q : Exit → Act → World → Prop} (hg : o.guard = none) (x y : Operand) (ho : o.op = .store 48 x y)
    (b : Nat) (hx : a.eval x = .pointer (some ⟨b, 0, none⟩)) (C D : Nat → Int) (hb : ArrAt w b C) (hy : a.eval y = .agg (arr D))
    (h : wpList Try.prog ops Q rest (a.put o.dst undef) (w.setRow b (arr D))) : wpList Try.prog ops Q (o :: rest) a w :=
  wpList_plain hg fun K hK => by
    unfold Oper.wp execOp
    simp only [ho, hx, hy, Instr.storeAt, Instr.sureAddr, Sem.run_bind, Sem.run_pure, Result.andThen_ok, run_store_arr (D := D) hb]
    exact hK _ _ h
theorem wp_store_arr {o : Oper} {a : Act} {w : World} {K : Act → World → Prop} {Q : Exit → Act → World → Prop} (x y : Operand) (ho : o.op = .store 48 x y)
    (b : Nat) (hx : a.eval x = .pointer (some ⟨b, 0, none⟩)) (C D : Nat → Int) (hb : ArrAt w b C) (hy : a.eval y = .agg (arr D)) (h : K (a.put o.dst undef) (w.setRow b (arr D))) : o.wp Try.prog a w K Q := by
  unfold Oper.wp execOp
  simp only [ho, hx, hy, Instr.storeAt, Instr.sureAddr, Sem.run_bind, Sem.run_pure, Result.andThen_ok, run_store_arr (D := D) hb]
  exact h
theorem wpListIn_store_arr {F : Fence} {n : Nat} {ops : Array Oper} {rest : List Oper} {o : Oper} {a : Act} {w : World} {Q : Exit → Act → World → Prop} (hg : o.guard = none) (x y : Operand) (ho : o.op = .store 48 x y)
    (b : Nat) (hx : a.eval x = .pointer (some ⟨b, 0, none⟩)) (C D : Nat → Int) (hb : ArrAt w b C) (hy : a.eval y = .agg (arr D))
    (h : wpListIn F n Try.prog ops Q rest (a.put o.dst undef) (w.setRow b (arr D))) : wpListIn F n Try.prog ops Q (o :: rest) a w :=
  wpListIn_plain hg fun K hK => by
    unfold Oper.wpIn
    refine ⟨?_, ?_⟩
    · simp [Oper.about, ho]
    · rw [Oper.semAt_plain F _ _ (by rw [ho]; intro c hc'; cases hc')]
      unfold execOp
      simp only [ho, hx, hy, Instr.storeAt, Instr.sureAddr, Sem.run_bind, Sem.run_pure, Result.andThen_ok, run_store_arr (D := D) hb]
      exact hK _ _ h

/-- A result that is an array and a second value. -/
theorem results_arr_tmp {fn : Func} {p u : Tmp} (h : fn.results = #[.cell p 48, .tmp u]) (tmps : Array Value) (w : World) (b : Nat) (C : Nat → Int) (hp : tmps.getD p undef = .pointer (some ⟨b, 0, none⟩)) (hb : ArrAt w b C) :
    (results fn tmps).run Try.prog w = .ok (.tuple #[.agg (arr C), tmps.getD u undef]) w := by
  rw [results_cell_tmp h, hp]
  simp [asAddr, Result.andThen, run_load_arr hb]

/-- One number of an array, by value. -/
theorem run_index_arr (C : Nat → Int) {r : Nat} (h : r < 32) (w : World) : (Instr.index 48 (.agg (arr C)) (.int .i64 r)).run Try.prog w = .ok (.int .i64 (C r)) w := by
  have h1 : (0 : Int) ≤ r ∧ (r : Int) < (32 : Nat) := ⟨by omega, by omega⟩
  have hu : Try.prog.underlying 3 = some (.int .i64) := by kernel_rfl
  have hq1 : (Try.prog.info? 3).map (·.size) = some 1 := by kernel_rfl
  cases hq : Try.prog.info? 3 with
  | none => rw [hq] at hq1; cases hq1
  | some i =>
    have hs : i.size = 1 := by simpa [hq] using hq1
    simp [Instr.index, run_underlying und48, asIntOf, h1, part, arr_at C h, sizeOf, typeInfo, hq, hs]
    omega

theorem isPlace_any (k n : Int) (w : World) : Calls Try.prog 68 #[.int .i64 k, .int .i64 n] w fun e w' => e = .returned (.bool (inB n 2 5 && inB k 1 (n - 1))) ∧ w = w' := by
  have E1 := inRange_any n 2 5 w
  cases h : inB n 2 5 with
  | false =>
    rw [h] at E1
    replace E1 := Lib.hid E1
    clear h
    go_enter Try.func68, Try.ntmps68
    go_wp2_with fail
    refine (E1.out).mono ?_
    rintro e w' ⟨rfl, rfl⟩
    go_wp2
    go_ret
    exact ⟨rfl, rfl⟩
  | true =>
    have hn : 2 ≤ n ∧ n ≤ 5 := by simpa [inB] using h
    have hw1 : IntKind.i64.wrap (n - 1) = n - 1 := IntWalk.i64_in _ ⟨by omega, by omega⟩
    rw [h] at E1
    replace E1 := Lib.hid E1
    have E2 := inRange_any k 1 (n - 1) w
    obtain ⟨b, hb⟩ : ∃ b, inB k 1 (n - 1) = b := ⟨_, rfl⟩
    rw [hb] at E2 ⊢
    replace E2 := Lib.hid E2
    clear h hb
    go_enter Try.func68, Try.ntmps68
    go_wp2_with fail
    refine (E1.out).mono ?_
    rintro e w' ⟨rfl, rfl⟩
    go_wp2_with fail
    refine (E2.out).mono ?_
    rintro e w' ⟨rfl, rfl⟩
    go_wp2
    go_ret
    exact ⟨rfl, rfl⟩

/-- The numbers of an array below k lie in their range. -/
def fitTo (C : Nat → Int) : Nat → Bool
  | 0 => true
  | k + 1 => fitTo C k && inB (C k) (-100000) 100000
theorem fitTo_false {C : Nat → Int} {k : Nat} (h : inB (C k) (-100000) 100000 = false) : ∀ m, k < m → fitTo C m = false
  | 0, hm => by omega
  | m + 1, hm => by
    unfold fitTo
    by_cases e : k = m
    · subst e; rw [h]; simp
    · rw [fitTo_false h m (by omega)]; rfl
theorem fitTo_iff {C : Nat → Int} : ∀ m, fitTo C m = true ↔ ∀ i, i < m → inB (C i) (-100000) 100000 = true
  | 0 => by simp [fitTo]
  | m + 1 => by
    simp only [fitTo, Bool.and_eq_true, fitTo_iff m]
    constructor
    · rintro ⟨h1, h2⟩ i hi
      by_cases e : i = m
      · subst e; exact h2
      · exact h1 i (by omega)
    · intro h
      exact ⟨fun i hi => h i (by omega), h m (by omega)⟩
def fitB (C : Nat → Int) : Bool := fitTo C 32

set_option maxRecDepth 100000 in
set_option maxHeartbeats 1000000 in
theorem fit_any (C : Nat → Int) (w : World) : Calls Try.prog 72 #[.agg (arr C)] w fun e w' => e = .returned (.bool (fitB C)) ∧ w.Since w.heap.size w' := by
  have E := Lib.hid (fun (x : Int) (W : World) => inRange_any x (-100000) 100000 W)
  go_enter Try.func72, Try.ntmps72
  go_wp2_with (with_reducible (show wpList _ _ _ (Oper.mk _ (Op.load _ _) 48 _ _ _ :: _) _ _); refine wpList_load_arr rfl _ rfl _ rfl C (ArrAt.new _ _) ?_)
  obtain ⟨W, hW⟩ : ∃ W, w.alloc (.cells (arr C) 48) = W := ⟨_, rfl⟩
  have hS : w.Since w.heap.size W := by rw [← hW]; exact (World.Since.refl _ _).alloc (Nat.le_refl _) _
  rw [hW]
  clear hW
  go_loopg [4, 6, 8, 9, 10, 11] 32 (fun g _ i _ _ _ _ wr => ∃ r : Nat, r ≤ 32 ∧ g = 32 - r ∧ i = .int .i64 r ∧ fitTo C r = true ∧ W = wr)
  case atStart => exact ⟨0, by omega, rfl, rfl, rfl, rfl⟩
  case round =>
    obtain ⟨r, hr, rfl, rfl, hF, rfl⟩ := hrel
    by_cases hlt : r < 32
    · have hc := fun W => run_index_arr C hlt W
      obtain ⟨y, hy⟩ : ∃ y, C r = y := ⟨_, rfl⟩
      have HY := Lib.hid hy
      rw [hy] at hc
      have HF := Lib.hid hF
      have ER := E.out y W
      cases hb : inB y (-100000) 100000 with
      | true =>
        have HN := Lib.hid (show fitTo C (r + 1) = true by unfold fitTo; rw [hF, hy, hb]; rfl)
        rw [hb] at ER
        replace ER := Lib.hid ER
        clear hb hF hy
        go_wp2_with fail
        refine (ER.out).mono ?_
        rintro e w' ⟨rfl, rfl⟩
        go_wp2
        go_roundg (32 - (r + 1))
        case measure => omega
        case rel => exact ⟨r + 1, by omega, rfl, by go_num, HN.out, rfl⟩
      | false =>
        have HN := Lib.hid (show fitB C = false from fitTo_false (by rw [hy]; exact hb) 32 hlt)
        rw [hb] at ER
        replace ER := Lib.hid ER
        clear hb hF hy
        go_wp2_with fail
        refine (ER.out).mono ?_
        rintro e w' ⟨rfl, rfl⟩
        go_wp2
        go_ret
        exact ⟨by rw [HN.out] <;> rfl, hS⟩
    · obtain rfl : r = 32 := by omega
      have HN := Lib.hid (show fitB C = true from hF)
      clear hF
      go_wp2
      go_ret
      exact ⟨by rw [HN.out] <;> rfl, hS⟩

end Go.Proofs.Ytbedkjpbdkgjpaa

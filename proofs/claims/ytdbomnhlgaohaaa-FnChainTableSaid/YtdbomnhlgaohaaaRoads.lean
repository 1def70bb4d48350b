/- Roads: a map of function values, cleared and filled for each question. -/
import Derived.Maps.Own
import Derived.Maps.OwnOps
import Derived.Maps.AppendAt
import Derived.Test.YtdbomnhlgaohaaaNewTable
namespace Go.Proofs.Ytdbomnhlgaohaaa
open Go.RowKit Go.Deep Go.Maps Go.MapKept Go.ChangeMaps

/-- A function value as an element of a map: it is told by itself. -/
def fnE (v : Value) : Option (DataW Value × List MemPlace) := some (.held v, [])
theorem way_keyed : Keyed Try.prog 54 := int_keyed Try.underlying54
/-- Block b is a map of roads. -/
def RoadsAt (w : World) (b : Nat) : Prop := ∃ n D, n ≤ 6 ∧ w.ownsMap Try.prog 54 fnE b n D
theorem RoadsAt.kept {w w' : World} {b : Nat} {row : Option Nat} (h : RoadsAt w b) (hg : w.grownBy w' row) (hne : some b ≠ row) : RoadsAt w' b := by
  obtain ⟨n, D, h1, h2⟩ := h; exact ⟨n, D, h1, h2.kept hg hne⟩
theorem RoadsAt.lt {w : World} {b : Nat} (h : RoadsAt w b) : b < w.heap.size := by obtain ⟨_, _, _, h2⟩ := h; exact h2.lt
theorem roads_made (w : World) : RoadsAt (w.alloc (.map #[] 0)) w.heap.size := ⟨0, _, by omega, World.ownsMap_made _ _ _ _⟩
theorem grown_of_since {w w' : World} {row : Option Nat} (h : w.Since w.heap.size w') : w.grownBy w' row := ⟨h.os, h.tape, h.output, h.size, fun k hk _ => h.block k hk⟩

theorem ownsMap_clear {H : Type} {P : Program} {k e t : TypeId} {R : Value → Option (DataW H × List MemPlace)} {w : World} {b n : Nat} {D : DataW H} (h : w.ownsMap P k R b n D) (ht : P.underlying t = some (.map k e)) (ty : TypeId) :
    ∃ w', (Builtin.clear_ #[t] ty #[.map (some b)]).run P w = .ok (.tuple #[]) w' ∧ w'.ownsMap P k R b 0 (.map []) ∧ w.grownBy w' (some b) := by
  obtain ⟨es, clock, hb, F, _, _⟩ := h
  refine ⟨setBlock w b (.map #[] clock), ?_, ⟨#[], clock, heap_setBlock_same hb _, ⟨by simp, stamped_empty clock, by simp⟩, Nat.le_refl _, rfl⟩, ⟨rfl, rfl, rfl, by simp [setBlock], fun i _ hi => heap_setBlock_other hb _ (fun e => hi (by rw [e]))⟩⟩
  simp [Builtin.clear_, underlying, Sem.run, ht, getObj, setObj, hb, Result.andThen, setBlock]

theorem wpList_clear_own {H : Type} {P : Program} (w : World) {ops : Array Oper} {rest : List Oper} {o : Oper} {a : Act} {Q : Exit → Act → World → Prop}
    (hg : o.guard = none) (m : Operand) (t : TypeId) (hop : o.op = Op.call { callee := Callee.builtin Builtin.clear, args := #[m], argTypes := #[t] })
    (k e : TypeId) (ht : P.underlying t = some (.map k e)) (R : Value → Option (DataW H × List MemPlace)) (b n : Nat) (D : DataW H) (hm : a.eval m = .map (some b)) (hown : w.ownsMap P k R b n D)
    (hK : ∀ w', w'.ownsMap P k R b 0 (.map []) → w.grownBy w' (some b) → wpList P ops Q rest (a.put o.dst (.tuple #[])) w') :
    wpList P ops Q (o :: rest) a w := by
  refine wpList_plain hg fun K' hK' => ?_
  obtain ⟨w', hrun, r1, r2⟩ := ownsMap_clear hown ht o.type
  unfold Oper.wp
  simp [execOp, hop, resolve, invoke, builtin, hm, hrun, Result.andThen]
  exact hK' _ _ (hK w' r1 r2)

theorem wpList_lookup_fn {P : Program} (w : World) {ops : Array Oper} {rest : List Oper} {o : Oper} {a : Act} {Q : Exit → Act → World → Prop}
    (hg : o.guard = none) (m x : Operand) (t : TypeId) (hop : o.op = Op.lookup t m x false)
    (k e : TypeId) (K : Keyed P k) (ht : P.underlying t = some (.map k e)) (z : Value) (hz : (zeroValue e).run P w = .ok z w) (b n : Nat) (D : DataW Value)
    (hm : a.eval m = .map (some b)) (hown : w.ownsMap P k fnE b n D) (key : Value) (kl : Lit) (hx : a.eval x = key) (hkey : keyOf P k key = some kl) (v : Value) (hv : D.atKey kl (.held z) = .held v)
    (hK : wpList P ops Q rest (a.put o.dst v) w) :
    wpList P ops Q (o :: rest) a w := by
  refine wpList_plain hg fun K' hK' => ?_
  obtain ⟨u, ps, hrun, hu⟩ := hown.lookup K ht hz (zd := .held z) (zp := []) rfl hkey
  rw [hv] at hu
  have e : u = v := by injection hu with hu; injection hu with hu _; injection hu
  subst e
  unfold Oper.wp
  simp [execOp, hop, hm, hx, hrun, Result.andThen]
  exact hK' _ _ hK

theorem zero_road (w : World) : (zeroValue 78).run Try.prog w = .ok .nilFunc w := by kernel_rfl

set_option maxHeartbeats 400000 in
/-- A road that is sure: it calls what it holds. -/
theorem sure1_any (p K : Nat) (tv : Value) (x : Int) (w : World) (hp : w.cell? ⟨p, 0, none⟩ = some (.func (.func K) #[tv] #[])) (eg : ∀ args w, (callFunc K args).run Try.prog w = .ok (.enter K args) w)
    (hc : Calls Try.prog K #[tv] w fun e w' => e = .returned (.int .i64 x) ∧ w.Since w.heap.size w') :
    Calls Try.prog 99 #[.pointer (some ⟨p, 0, none⟩)] w fun e w' => e = .returned (.tuple #[.int .i64 x, .bool true]) ∧ w.Since w.heap.size w' := by
  have E := Lib.hid hc
  clear hc
  go_enter Try.func99, Try.ntmps99
  go_wp2_with fail
  refine (E.out).mono ?_
  rintro e w' ⟨rfl, hs⟩
  go_wp2
  go_ret2
  exact ⟨rfl, hs⟩

set_option maxHeartbeats 400000 in
theorem sure_any (K : Nat) (tv : Value) (w : World) :
    Calls Try.prog 90 #[.func (.func K) #[tv] #[]] w fun e w' => e = .returned (.func (.func 99) #[] #[.pointer (some ⟨w.heap.size, 0, none⟩)]) ∧ w' = w.alloc (.cells #[.func (.func K) #[tv] #[]] 48) := by
  go_enter Try.func90, Try.ntmps90
  go_wp2
  go_ret
  exact ⟨rfl, rfl⟩

set_option maxRecDepth 100000 in
set_option maxHeartbeats 2000000 in
theorem roads_0 (rb : Nat) (a : Option Addr) (n cap : Nat) (x : Int) (W : World) (hr : RoadsAt W rb) (ht : ∀ W', W.grownBy W' (some rb) → Calls Try.prog 91 #[.slice a n cap] W' (fun e w' => e = .returned (.int .i64 x) ∧ W'.Since W'.heap.size w')) :
    Calls Try.prog 78 #[.map (some rb), .slice a n cap, .int .i64 0] W (fun e w' => e = .returned (.tuple #[.int .i64 x, .bool true]) ∧ W.grownBy w' (some rb) ∧ RoadsAt w' rb) := by
  obtain ⟨n0, D0, _, hown⟩ := hr
  have hlt := hown.lt
  have HT := Lib.hid ht
  clear ht
  obtain ⟨w0, hrun, o0, g0⟩ := ownsMap_clear hown Try.underlying68 0
  go_enter Try.func78, Try.ntmps78
  have G0 := g0
  go_wp2_with (first
    | (at_mapUpdate; refine wpList_mapUpdate_own _ rfl _ _ _ 68 rfl 54 78 way_keyed Try.underlying68 fnE rb 0 _ rfl (o0.alloc _) (by decide) _ _ (.int .i64 0) rfl rfl (keyOf_int_mk Try.underlying54 (by decide)) _ _ rfl ?_; intro w1 o1 g1; have G1 := G0.trans ((World.grownBy_alloc w0 _ _).trans g1); have cb := (World.cell?_of_block (a := ⟨w0.heap.size, 0, none⟩) (g1.block _ (by simp) (by intro e; injection e with e; have := G0.size; simp only at e; omega))).trans (cell_new_l w0 (.func (.func 91) #[.slice a n cap] #[]) 48).1; have hpb : w0.heap.size < w1.heap.size := by (have := g1.size; simp at this; omega))
    | (at_mapUpdate; refine wpList_mapUpdate_own _ rfl _ _ _ 68 rfl 54 78 way_keyed Try.underlying68 fnE rb 1 _ rfl (o1.alloc _) (by decide) _ _ (.int .i64 1) rfl rfl (keyOf_int_mk Try.underlying54 (by decide)) _ _ rfl ?_; intro w2 o2 g2; have G2 := G1.trans ((World.grownBy_alloc w1 _ _).trans g2); have cb := (World.cell?_of_block (a := ⟨w0.heap.size, 0, none⟩) (g2.block _ (by simp; omega) (by intro e; injection e with e; have := G0.size; simp only at e; omega))).trans (cell_alloc_l _ cb); have hpb : w0.heap.size < w2.heap.size := by (have := g2.size; simp at this; omega))
    | (at_mapUpdate; refine wpList_mapUpdate_own _ rfl _ _ _ 68 rfl 54 78 way_keyed Try.underlying68 fnE rb 2 _ rfl (o2.alloc _) (by decide) _ _ (.int .i64 2) rfl rfl (keyOf_int_mk Try.underlying54 (by decide)) _ _ rfl ?_; intro w3 o3 g3; have G3 := G2.trans ((World.grownBy_alloc w2 _ _).trans g3); have cb := (World.cell?_of_block (a := ⟨w0.heap.size, 0, none⟩) (g3.block _ (by simp; omega) (by intro e; injection e with e; have := G0.size; simp only at e; omega))).trans (cell_alloc_l _ cb); have hpb : w0.heap.size < w3.heap.size := by (have := g3.size; simp at this; omega))
    | (at_mapUpdate; refine wpList_mapUpdate_own _ rfl _ _ _ 68 rfl 54 78 way_keyed Try.underlying68 fnE rb 3 _ rfl o3 (by decide) _ _ (.int .i64 3) rfl rfl (keyOf_int_mk Try.underlying54 (by decide)) _ _ rfl ?_; intro w4 o4 g4; have G4 := G3.trans g4; have cb := (World.cell?_of_block (a := ⟨w0.heap.size, 0, none⟩) (g4.block _ (by omega) (by intro e; injection e with e; have := G0.size; simp only at e; omega))).trans cb)
    | (at_lookup; refine wpList_lookup_fn _ rfl _ _ 68 rfl 54 78 way_keyed Try.underlying68 .nilFunc (zero_road _) rb 4 _ rfl o4 (.int .i64 0) _ rfl (keyOf_int_mk Try.underlying54 (by decide)) ((.func (.func 99) #[] #[.pointer (some ⟨w0.heap.size, 0, none⟩)])) rfl ?_)
    | (go_at_call 90; refine (sure_any _ _ _).mono ?_; rintro e w' ⟨rfl, rfl⟩)
    | (go_at_call 99; refine (sure1_any w0.heap.size 91 (.slice a n cap) x w4 cb (enters_of Try.func91 (by kernel_rfl) rfl) (HT.out w4 G4)).mono ?_; rintro e w5 ⟨rfl, hs5⟩))
  go_ret2
  exact ⟨rfl, G4.trans (grown_of_since hs5), ⟨4, _, by omega, o4.kept (grown_of_since (row := none) hs5) (by simp)⟩⟩

set_option maxRecDepth 100000 in
set_option maxHeartbeats 2000000 in
theorem roads_1 (rb : Nat) (a : Option Addr) (n cap : Nat) (x : Int) (W : World) (hr : RoadsAt W rb) (ht : ∀ W', W.grownBy W' (some rb) → Calls Try.prog 92 #[.slice a n cap] W' (fun e w' => e = .returned (.int .i64 x) ∧ W'.Since W'.heap.size w')) :
    Calls Try.prog 78 #[.map (some rb), .slice a n cap, .int .i64 1] W (fun e w' => e = .returned (.tuple #[.int .i64 x, .bool true]) ∧ W.grownBy w' (some rb) ∧ RoadsAt w' rb) := by
  obtain ⟨n0, D0, _, hown⟩ := hr
  have hlt := hown.lt
  have HT := Lib.hid ht
  clear ht
  obtain ⟨w0, hrun, o0, g0⟩ := ownsMap_clear hown Try.underlying68 0
  go_enter Try.func78, Try.ntmps78
  have G0 := g0
  go_wp2_with (first
    | (at_mapUpdate; refine wpList_mapUpdate_own _ rfl _ _ _ 68 rfl 54 78 way_keyed Try.underlying68 fnE rb 0 _ rfl (o0.alloc _) (by decide) _ _ (.int .i64 0) rfl rfl (keyOf_int_mk Try.underlying54 (by decide)) _ _ rfl ?_; intro w1 o1 g1; have G1 := G0.trans ((World.grownBy_alloc w0 _ _).trans g1))
    | (at_mapUpdate; refine wpList_mapUpdate_own _ rfl _ _ _ 68 rfl 54 78 way_keyed Try.underlying68 fnE rb 1 _ rfl (o1.alloc _) (by decide) _ _ (.int .i64 1) rfl rfl (keyOf_int_mk Try.underlying54 (by decide)) _ _ rfl ?_; intro w2 o2 g2; have G2 := G1.trans ((World.grownBy_alloc w1 _ _).trans g2); have cb := (World.cell?_of_block (a := ⟨w1.heap.size, 0, none⟩) (g2.block _ (by simp) (by intro e; injection e with e; have := G1.size; simp only at e; omega))).trans (cell_new_l w1 (.func (.func 92) #[.slice a n cap] #[]) 48).1; have hpb : w1.heap.size < w2.heap.size := by (have := g2.size; simp at this; omega))
    | (at_mapUpdate; refine wpList_mapUpdate_own _ rfl _ _ _ 68 rfl 54 78 way_keyed Try.underlying68 fnE rb 2 _ rfl (o2.alloc _) (by decide) _ _ (.int .i64 2) rfl rfl (keyOf_int_mk Try.underlying54 (by decide)) _ _ rfl ?_; intro w3 o3 g3; have G3 := G2.trans ((World.grownBy_alloc w2 _ _).trans g3); have cb := (World.cell?_of_block (a := ⟨w1.heap.size, 0, none⟩) (g3.block _ (by simp; omega) (by intro e; injection e with e; have := G1.size; simp only at e; omega))).trans (cell_alloc_l _ cb); have hpb : w1.heap.size < w3.heap.size := by (have := g3.size; simp at this; omega))
    | (at_mapUpdate; refine wpList_mapUpdate_own _ rfl _ _ _ 68 rfl 54 78 way_keyed Try.underlying68 fnE rb 3 _ rfl o3 (by decide) _ _ (.int .i64 3) rfl rfl (keyOf_int_mk Try.underlying54 (by decide)) _ _ rfl ?_; intro w4 o4 g4; have G4 := G3.trans g4; have cb := (World.cell?_of_block (a := ⟨w1.heap.size, 0, none⟩) (g4.block _ (by omega) (by intro e; injection e with e; have := G1.size; simp only at e; omega))).trans cb)
    | (at_lookup; refine wpList_lookup_fn _ rfl _ _ 68 rfl 54 78 way_keyed Try.underlying68 .nilFunc (zero_road _) rb 4 _ rfl o4 (.int .i64 1) _ rfl (keyOf_int_mk Try.underlying54 (by decide)) ((.func (.func 99) #[] #[.pointer (some ⟨w1.heap.size, 0, none⟩)])) rfl ?_)
    | (go_at_call 90; refine (sure_any _ _ _).mono ?_; rintro e w' ⟨rfl, rfl⟩)
    | (go_at_call 99; refine (sure1_any w1.heap.size 92 (.slice a n cap) x w4 cb (enters_of Try.func92 (by kernel_rfl) rfl) (HT.out w4 G4)).mono ?_; rintro e w5 ⟨rfl, hs5⟩))
  go_ret2
  exact ⟨rfl, G4.trans (grown_of_since hs5), ⟨4, _, by omega, o4.kept (grown_of_since (row := none) hs5) (by simp)⟩⟩

set_option maxRecDepth 100000 in
set_option maxHeartbeats 2000000 in
theorem roads_2 (rb : Nat) (a : Option Addr) (n cap : Nat) (x : Int) (W : World) (hr : RoadsAt W rb) (ht : ∀ W', W.grownBy W' (some rb) → Calls Try.prog 93 #[.slice a n cap] W' (fun e w' => e = .returned (.int .i64 x) ∧ W'.Since W'.heap.size w')) :
    Calls Try.prog 78 #[.map (some rb), .slice a n cap, .int .i64 2] W (fun e w' => e = .returned (.tuple #[.int .i64 x, .bool true]) ∧ W.grownBy w' (some rb) ∧ RoadsAt w' rb) := by
  obtain ⟨n0, D0, _, hown⟩ := hr
  have hlt := hown.lt
  have HT := Lib.hid ht
  clear ht
  obtain ⟨w0, hrun, o0, g0⟩ := ownsMap_clear hown Try.underlying68 0
  go_enter Try.func78, Try.ntmps78
  have G0 := g0
  go_wp2_with (first
    | (at_mapUpdate; refine wpList_mapUpdate_own _ rfl _ _ _ 68 rfl 54 78 way_keyed Try.underlying68 fnE rb 0 _ rfl (o0.alloc _) (by decide) _ _ (.int .i64 0) rfl rfl (keyOf_int_mk Try.underlying54 (by decide)) _ _ rfl ?_; intro w1 o1 g1; have G1 := G0.trans ((World.grownBy_alloc w0 _ _).trans g1))
    | (at_mapUpdate; refine wpList_mapUpdate_own _ rfl _ _ _ 68 rfl 54 78 way_keyed Try.underlying68 fnE rb 1 _ rfl (o1.alloc _) (by decide) _ _ (.int .i64 1) rfl rfl (keyOf_int_mk Try.underlying54 (by decide)) _ _ rfl ?_; intro w2 o2 g2; have G2 := G1.trans ((World.grownBy_alloc w1 _ _).trans g2))
    | (at_mapUpdate; refine wpList_mapUpdate_own _ rfl _ _ _ 68 rfl 54 78 way_keyed Try.underlying68 fnE rb 2 _ rfl (o2.alloc _) (by decide) _ _ (.int .i64 2) rfl rfl (keyOf_int_mk Try.underlying54 (by decide)) _ _ rfl ?_; intro w3 o3 g3; have G3 := G2.trans ((World.grownBy_alloc w2 _ _).trans g3); have cb := (World.cell?_of_block (a := ⟨w2.heap.size, 0, none⟩) (g3.block _ (by simp) (by intro e; injection e with e; have := G2.size; simp only at e; omega))).trans (cell_new_l w2 (.func (.func 93) #[.slice a n cap] #[]) 48).1; have hpb : w2.heap.size < w3.heap.size := by (have := g3.size; simp at this; omega))
    | (at_mapUpdate; refine wpList_mapUpdate_own _ rfl _ _ _ 68 rfl 54 78 way_keyed Try.underlying68 fnE rb 3 _ rfl o3 (by decide) _ _ (.int .i64 3) rfl rfl (keyOf_int_mk Try.underlying54 (by decide)) _ _ rfl ?_; intro w4 o4 g4; have G4 := G3.trans g4; have cb := (World.cell?_of_block (a := ⟨w2.heap.size, 0, none⟩) (g4.block _ (by omega) (by intro e; injection e with e; have := G2.size; simp only at e; omega))).trans cb)
    | (at_lookup; refine wpList_lookup_fn _ rfl _ _ 68 rfl 54 78 way_keyed Try.underlying68 .nilFunc (zero_road _) rb 4 _ rfl o4 (.int .i64 2) _ rfl (keyOf_int_mk Try.underlying54 (by decide)) ((.func (.func 99) #[] #[.pointer (some ⟨w2.heap.size, 0, none⟩)])) rfl ?_)
    | (go_at_call 90; refine (sure_any _ _ _).mono ?_; rintro e w' ⟨rfl, rfl⟩)
    | (go_at_call 99; refine (sure1_any w2.heap.size 93 (.slice a n cap) x w4 cb (enters_of Try.func93 (by kernel_rfl) rfl) (HT.out w4 G4)).mono ?_; rintro e w5 ⟨rfl, hs5⟩))
  go_ret2
  exact ⟨rfl, G4.trans (grown_of_since hs5), ⟨4, _, by omega, o4.kept (grown_of_since (row := none) hs5) (by simp)⟩⟩

set_option maxRecDepth 100000 in
set_option maxHeartbeats 2000000 in
theorem roads_3 (rb : Nat) (a : Option Addr) (n cap : Nat) (x : Int) (ok : Bool) (W : World) (hr : RoadsAt W rb) (ht : ∀ W', W.grownBy W' (some rb) → Calls Try.prog 94 #[.slice a n cap] W' (fun e w' => e = .returned (.tuple #[.int .i64 x, .bool ok]) ∧ W'.Since W'.heap.size w')) :
    Calls Try.prog 78 #[.map (some rb), .slice a n cap, .int .i64 3] W (fun e w' => e = .returned (.tuple #[.int .i64 x, .bool ok]) ∧ W.grownBy w' (some rb) ∧ RoadsAt w' rb) := by
  obtain ⟨n0, D0, _, hown⟩ := hr
  have hlt := hown.lt
  have HT := Lib.hid ht
  clear ht
  obtain ⟨w0, hrun, o0, g0⟩ := ownsMap_clear hown Try.underlying68 0
  go_enter Try.func78, Try.ntmps78
  have G0 := g0
  go_wp2_with (first
    | (at_mapUpdate; refine wpList_mapUpdate_own _ rfl _ _ _ 68 rfl 54 78 way_keyed Try.underlying68 fnE rb 0 _ rfl (o0.alloc _) (by decide) _ _ (.int .i64 0) rfl rfl (keyOf_int_mk Try.underlying54 (by decide)) _ _ rfl ?_; intro w1 o1 g1; have G1 := G0.trans ((World.grownBy_alloc w0 _ _).trans g1))
    | (at_mapUpdate; refine wpList_mapUpdate_own _ rfl _ _ _ 68 rfl 54 78 way_keyed Try.underlying68 fnE rb 1 _ rfl (o1.alloc _) (by decide) _ _ (.int .i64 1) rfl rfl (keyOf_int_mk Try.underlying54 (by decide)) _ _ rfl ?_; intro w2 o2 g2; have G2 := G1.trans ((World.grownBy_alloc w1 _ _).trans g2))
    | (at_mapUpdate; refine wpList_mapUpdate_own _ rfl _ _ _ 68 rfl 54 78 way_keyed Try.underlying68 fnE rb 2 _ rfl (o2.alloc _) (by decide) _ _ (.int .i64 2) rfl rfl (keyOf_int_mk Try.underlying54 (by decide)) _ _ rfl ?_; intro w3 o3 g3; have G3 := G2.trans ((World.grownBy_alloc w2 _ _).trans g3))
    | (at_mapUpdate; refine wpList_mapUpdate_own _ rfl _ _ _ 68 rfl 54 78 way_keyed Try.underlying68 fnE rb 3 _ rfl o3 (by decide) _ _ (.int .i64 3) rfl rfl (keyOf_int_mk Try.underlying54 (by decide)) _ _ rfl ?_; intro w4 o4 g4; have G4 := G3.trans g4)
    | (at_lookup; refine wpList_lookup_fn _ rfl _ _ 68 rfl 54 78 way_keyed Try.underlying68 .nilFunc (zero_road _) rb 4 _ rfl o4 (.int .i64 3) _ rfl (keyOf_int_mk Try.underlying54 (by decide)) ((.func (.func 94) #[.slice a n cap] #[])) rfl ?_)
    | (go_at_call 90; refine (sure_any _ _ _).mono ?_; rintro e w' ⟨rfl, rfl⟩)
    | (go_at_call 94; refine (HT.out w4 G4).mono ?_; rintro e w5 ⟨rfl, hs5⟩))
  go_ret2
  exact ⟨rfl, G4.trans (grown_of_since hs5), ⟨4, _, by omega, o4.kept (grown_of_since (row := none) hs5) (by simp)⟩⟩

end Go.Proofs.Ytdbomnhlgaohaaa

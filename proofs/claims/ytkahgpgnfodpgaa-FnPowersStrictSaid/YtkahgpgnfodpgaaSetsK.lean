/- The contract of impl.sets, and of the iterator that it hands back. -/
import Derived.Test.YtkahgpgnfodpgaaSets
import Derived.RangeFuncNested
import Derived.RangeFuncLeaves
import Derived.OwnWalkIn
namespace Go.Proofs.Ytkahgpgnfodpgaa
open Go.RowKit Go.Deep Go.Shelf

/-- What the two boxes of the iterator hold stays. -/
def Kp2 (Bn Bk : Nat) (X Y : World) : Prop := Y.cell? ⟨Bn, 0, none⟩ = X.cell? ⟨Bn, 0, none⟩ ∧ Y.cell? ⟨Bk, 0, none⟩ = X.cell? ⟨Bk, 0, none⟩
theorem Kp2.refl (Bn Bk : Nat) (X : World) : Kp2 Bn Bk X X := ⟨rfl, rfl⟩
theorem Kp2.trans {Bn Bk : Nat} {A B C : World} (h : Kp2 Bn Bk A B) (k : Kp2 Bn Bk B C) : Kp2 Bn Bk A C := ⟨k.1.trans h.1, k.2.trans h.2⟩
theorem cell_grown_ne {X Y : World} {row : Option Nat} (h : X.grownBy Y row) {b : Nat} (hb : b < X.heap.size) (hne : row ≠ some b) : Y.cell? ⟨b, 0, none⟩ = X.cell? ⟨b, 0, none⟩ := by
  have e : Y.heap[b]? = X.heap[b]? := h.block b hb (fun e => hne e.symm)
  simp only [World.cell?, e]
theorem Kp2.grown {Bn Bk : Nat} {X Y : World} {row : Option Nat} (h : X.grownBy Y row) (h1 : Bn < X.heap.size) (h2 : Bk < X.heap.size) (h3 : row ≠ some Bn) (h4 : row ≠ some Bk) : Kp2 Bn Bk X Y := ⟨cell_grown_ne h h1 h3, cell_grown_ne h h2 h4⟩
theorem kp2_b {Bn Bk : Nat} {w : World} (h1 : Bn < w.heap.size) (h2 : Bk < w.heap.size) (W : World) (l : Nat) (o o' : Obj) (hl : w.heap.size ≤ l) (h : W.heap[l]? = some o) (_ : o.isCells = false) (_ : o.isWalk = false) : Kp2 Bn Bk W (W.putObj l o') := by
  have := (Array.getElem?_eq_some_iff.1 h).1
  exact Kp2.grown (grownBy_putObj' W l o') (by omega) (by omega) (fun e => by cases e; omega) (fun e => by cases e; omega)

set_option maxHeartbeats 1000000 in
theorem sets_in (n : Nat) (N k : Int) (w : World) :
    CallsIn Fence.wide n Try.prog 149 #[.int .i64 N, .int .i64 k] w fun e w' => e = .returned (.func (.func 158) #[] #[.pointer (some ⟨w.heap.size, 0, none⟩), .pointer (some ⟨w.heap.size + 1, 0, none⟩)]) ∧ w' = (w.alloc (.cells #[.int .i64 N] 3)).alloc (.cells #[.int .i64 k] 3) := by
  refine callsIn_of_wp Try.func149 rfl trivial ?_ rfl
  simp only [Try.ntmps149, List.size_toArray, List.length_cons, List.length_nil, Nat.reduceAdd, Nat.reduceSub, Array.replicate_succ, Array.replicate_zero, List.push_toArray, List.append_toArray, List.nil_append, List.cons_append]
  gi_wp2
  go_ret
  exact ⟨rfl, rfl⟩

/-- The sets below M of k members. -/
abbrev SetK (k M : Nat) := { x : Nat // x < M ∧ popcS x = k }
theorem sets_stops (n : Nat) (hn : 2 ≤ n) (Bn Bk N k M : Nat) (hN : N ≤ 6) (hM : 2 ^ N = M) (w : World) (h1 : Bn < w.heap.size) (h2 : Bk < w.heap.size)
    (hBn : w.cell? ⟨Bn, 0, none⟩ = some (.int .i64 N)) (hBk : w.cell? ⟨Bk, 0, none⟩ = some (.int .i64 k)) :
    SeqStopsK Fence.wide n Try.prog 158 #[.pointer (some ⟨Bn, 0, none⟩), .pointer (some ⟨Bk, 0, none⟩)] (fun x : SetK k M => #[Value.int .i64 (x.1 : Int)]) (Kp2 Bn Bk) (fun ys => ys.map (·.1) = setsTo k M) (fun _ => True) M w := fun l J Jx W hW hJ _ hY h0 => by
  refine CallsIn.mono (sets1_in n hn l Bn Bk N k M hN hM (Kp2 Bn Bk) (fun _ _ h => h) (fun pre W => ∃ ys : List (SetK k M), ys.map (·.1) = pre ∧ J ys W) (fun _ W => ∃ ys, Jx ys W) (fun s V hV => ?_) (fun pre x V hV hp hx hk => ?_) W
    ((hW.cell (p := ⟨Bn, 0, none⟩) h1).trans hBn) ((hW.cell (p := ⟨Bk, 0, none⟩) h2).trans hBk) ⟨[], rfl, h0⟩) ?_
  · obtain ⟨ys, e, hj⟩ := hV
    exact ⟨ys, e, hJ ys V V.drew none hj ⟨rfl, rfl, rfl, Nat.le_refl _, fun _ _ _ => rfl⟩ (fun r e => by cases e)⟩
  · obtain ⟨ys, e, hj⟩ := hV
    have hl : ys.length < M := by
      have := congrArg List.length e
      rw [List.length_map, hp] at this
      have := setsTo_len k x
      omega
    obtain ⟨fn, tmps, assign, body, hy, hR⟩ := hY ys ⟨x, hx, hk⟩ V hj hl
    refine ⟨fn, tmps, assign, body, hy, hR.mono ?_⟩
    rintro e W' (⟨r1, r2, r3⟩ | ⟨r1, r2⟩)
    · exact .inl ⟨r1, ⟨ys ++ [⟨x, hx, hk⟩], by rw [List.map_append, ‹ys.map _ = pre›]; rfl, r2⟩, r3⟩
    · exact .inr ⟨r1, _, r2⟩
  · rintro e W' ⟨r1, (⟨zs, rfl, ys, e2, hj⟩ | ⟨pre, _, ys, hj⟩)⟩
    · exact ⟨r1, .inl ⟨ys, e2, hj⟩⟩
    · exact ⟨r1, .inr ⟨ys, trivial, hj⟩⟩

end Go.Proofs.Ytkahgpgnfodpgaa

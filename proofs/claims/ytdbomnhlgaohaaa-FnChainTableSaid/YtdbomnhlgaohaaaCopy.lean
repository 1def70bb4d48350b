/- The contracts of spec.l1Copy and spec.l1Done; a store into a table of one's own. -/
import Derived.Test.YtdbomnhlgaohaaaTurnSpec
import Derived.Deep.Matrix
namespace Go.Proofs.Ytdbomnhlgaohaaa
open Go.RowKit Go.Deep

theorem RB.of_append {wo w1 : World} {v : Value} {x : List Int} {n : Nat} (cs : Array Value) (hn : x.length = n) (hown : w1.ownsRow wo.heap.size 3 1 v (0 + n) ([] ++ x.map (Value.int .i64))) (hg : (wo.alloc (.cells cs 3)).grownBy w1 (some wo.heap.size)) : RB wo w1 v x := by
  refine ⟨((World.Since.refl _ _).alloc (Nat.le_refl _) _).grown hg (by simp) (fun k e => by injection e with e; omega), ?_⟩
  rw [hn]
  simpa using hown

/-- The first k rows. -/
theorem take_succ_get (l : List (List Int)) {k : Nat} (h : k < l.length) : l.take (k + 1) = l.take k ++ [l.getD k []] := by
  rw [List.take_succ_eq_append_getElem h]
  congr 2
  simp [List.getD, h]

set_option maxHeartbeats 1000000 in
theorem l1Done_any (a : Option Addr) (cap n lo hi : Nat) (l : List (List Int)) (w : World) (hn : l.length = n) (hsz : szL l ≤ 1048576) (hm : InT lo hi w a l) :
    Calls Try.prog 64 #[.slice a n cap] w fun e w' => ∃ a' cap', e = .returned (.tuple #[.slice a' (resT (tabIn l) l).length cap', .bool (tabIn l)]) ∧ w.Since w.heap.size w' ∧ InT lo hi w' a' (resT (tabIn l) l) := by
  have E := Lib.hid (specTableIn_any a cap n l w hn hsz hm.matR)
  have HN := Lib.hid hn
  have HM := Lib.hid hm
  clear hn hsz hm
  cases hT : tabIn l with
  | false =>
    rw [hT] at E
    clear hT
    go_enter Try.func64, Try.ntmps64
    go_wp2_with fail
    refine (E.out).mono ?_
    rintro e w' ⟨rfl, hd⟩
    have hs := hd.since w.heap.size
    clear hd
    go_wp2
    go_ret2
    exact ⟨_, _, rfl, hs.alloc hs.size _, InT.nil _ _ _ _⟩
  | true =>
    rw [hT] at E
    clear hT
    go_enter Try.func64, Try.ntmps64
    go_wp2_with fail
    refine (E.out).mono ?_
    rintro e w' ⟨rfl, hd⟩
    have hs := hd.since w.heap.size
    clear hd
    go_wp2
    go_ret2
    exact ⟨a, cap, by unfold resT; rw [if_pos rfl, HN.out]; rfl, hs, HM.out.since hs⟩

theorem OwnD.store {lo hi : Nat} {w : World} {b : Nat} {A : Nat → Option Addr} {G C : Nat → Nat} {n : Nat} {L : Nat → Nat} {Z : Nat → Nat → Int} (h : OwnD lo hi w b A G C n L Z) {r c : Nat} (hr : r < n) (hc : c < L r) (x : Int) :
    OwnD lo hi (w.setCell ⟨G r, c, none⟩ (.int .i64 x)) b A G C n L (fun r' i => if r' = r ∧ i = c then x else Z r' i) := by
  have hin := h.inside r hr (by omega)
  refine ⟨fun r' h1 => ?_, h.addr, h.inside, fun r' h1 i hi => ?_, fun r' h1 i hi => by rw [World.frozen?_setCell]; exact h.free r' h1 i hi, h.apart⟩
  · rw [World.cell?_setCell_other _ _ _ _ (fun e => by injection e with e1; omega)]
    exact h.top r' h1
  · by_cases e : r' = r ∧ i = c
    · obtain ⟨rfl, rfl⟩ := e
      rw [if_pos ⟨rfl, rfl⟩]
      exact World.cell?_setCell_same' _ _ _ (by rw [h.cell r' h1 i hi]; rfl)
    · rw [if_neg e, World.cell?_setCell_other _ _ _ _ (fun e' => by
        injection e' with e1 e2
        exact e ⟨(h.apart r r' hr h1 (by omega) (by omega) e1).symm, e2.symm⟩)]
      exact h.cell r' h1 i hi

theorem OwnD.later {lo hi : Nat} {w w1 : World} {b : Nat} {A : Nat → Option Addr} {G C : Nat → Nat} {n : Nat} {L : Nat → Nat} {Z : Nat → Nat → Int} (h : OwnD lo hi w b A G C n L Z) (hs : w.Since w.heap.size w1) : OwnD lo hi w1 b A G C n L Z :=
  ⟨fun r hr => by rw [hs.cell (a := ⟨b, r, none⟩) (World.block_lt_of_cell? _ _ (h.top r hr))]; exact h.top r hr, h.addr, h.inside,
    fun r hr i hi => by rw [hs.cell (a := ⟨G r, i, none⟩) (World.block_lt_of_cell? _ _ (h.cell r hr i hi))]; exact h.cell r hr i hi,
    fun r hr i hi => by rw [hs.frozen (a := ⟨G r, i, none⟩) (World.block_lt_of_cell? _ _ (h.cell r hr i hi))]; exact h.free r hr i hi, h.apart⟩

end Go.Proofs.Ytdbomnhlgaohaaa

/- Chapter 8: impl.toldByPlaces. -/
import Derived.Test.YtjlcbkbekogblaaKnownI
import Derived.Laws.EntriesVeiled
namespace Go.Proofs.Ytjlcbkbekogblaa
open Go.RowKit Go.Deep

/-- The places being written. -/
structure PL (w wr : World) (n c : Nat) : Prop where
  since : w.Since w.heap.size wr
  row : wr.rowIs (w.heap.size + 1) 3 n (fun k => if k < c then .int .i64 k else .int .i64 0)
  res : ∃ u v, wr.heap[w.heap.size]? = some (.cells #[u, v] 53)

set_option maxRecDepth 100000 in
set_option maxHeartbeats 2000000 in
theorem toldByPlaces_any (n K : Nat) (caps : Array Value) (w : World) (hn : n ≤ 1000) :
    Calls Try.prog 67 #[.int .i64 n, .func (.func K) #[] caps] w fun e w' => ∃ b, e = .returned (.agg #[.slice (some ⟨b, 0, none⟩) n n, .func (.func K) #[] caps]) ∧ w.Since w.heap.size w' ∧ ∀ i, i < n → w'.cell? ⟨b, 0 + i, none⟩ = some (.int .i64 i) := by
  have hmk := run_make_row' (P := Try.prog) 31 3 (.int .i64 0) 8 Try.underlying31 Try.info3 rfl .i64 .i64 n (by omega) (by omega)
  go_enter Try.func67, Try.ntmps67
  go_wp2
  have hst : PL w ((w.alloc (.cells #[.slice none 0 0, Value.nilFunc] 53)).alloc (.cells (madeCells #[.int .i64 0] n) 3)) n 0 := by
    have r := World.rowIs_made (w.alloc (.cells #[.slice none 0 0, Value.nilFunc] 53)) (.int .i64 0) n 3
    simp only [World.size_alloc] at r
    exact ⟨((World.Since.refl _ w).alloc (Nat.le_refl _) _).alloc (by simp) _, r.congr (fun k _ => by simp), ⟨_, _, (Below.heap_alloc _ _ _ (by simp)).trans (World.alloc_heap_new w _)⟩⟩
  have HST := Lib.hid hst
  clear hst hmk
  go_loopg [6, 11] n (fun g _ i wr => ∃ c : Nat, c ≤ n ∧ g = n - c ∧ i = .int .i64 c ∧ PL w wr n c)
  case atStart => exact ⟨0, Nat.zero_le _, rfl, rfl, HST.out⟩
  case round =>
    obtain ⟨c, hc, rfl, rfl, hR⟩ := hrel
    clear HST
    by_cases hlt : c < n
    · have hc1 := hR.row.cell (i := c) hlt
      have hf1 := hR.row.frozen c
      simp only [Nat.lt_irrefl, if_false] at hc1
      have hP : PL w (wr.setCell ⟨w.heap.size + 1, c, none⟩ (.int .i64 c)) n (c + 1) := by
        obtain ⟨u, v, hr⟩ := hR.res
        refine ⟨hR.since.setCell (by show w.heap.size ≤ w.heap.size + 1; omega) _, (hR.row.set c _).congr (fun k _ => ?_), ⟨u, v, ?_⟩⟩
        · by_cases e : k = c
          · subst e; simp
          · rw [if_neg e]
            by_cases h : k < c
            · rw [if_pos h, if_pos (by omega)]
            · rw [if_neg h, if_neg (by omega)]
        · rw [Below.heap_setCell _ _ _ _ (by show w.heap.size ≠ w.heap.size + 1; omega)]; exact hr
      have HP := Lib.hid hP
      clear hR hP
      go_wp2
      go_roundg (n - (c + 1))
      case measure => omega
      case rel => exact ⟨c + 1, by omega, rfl, by go_num, HP.out⟩
    · have hcc : c = n := by omega
      subst hcc
      obtain ⟨u, v, hr⟩ := hR.res
      obtain ⟨c0, c1⟩ := told_cells hr
      have f0 : wr.frozen? ⟨w.heap.size, 0, none⟩ = false := by simp [World.frozen?, hr]
      have f1 : wr.frozen? ⟨w.heap.size, 1, none⟩ = false := by simp [World.frozen?, hr]
      obtain ⟨S, hS⟩ : ∃ S : Value, S = .slice (some ⟨w.heap.size + 1, 0, none⟩) c c := ⟨_, rfl⟩
      obtain ⟨F, hF⟩ : ∃ F : Value, F = .func (.func K) #[] caps := ⟨_, rfl⟩
      have d0 : (wr.setCell ⟨w.heap.size, 0, none⟩ S).cell? ⟨w.heap.size, 0, none⟩ = some S := World.cell?_setCell_same' _ _ _ (by rw [c0]; rfl)
      have d1 : (wr.setCell ⟨w.heap.size, 0, none⟩ S).cell? ⟨w.heap.size, 1, none⟩ = some v := by rw [World.cell?_setCell_other _ _ _ _ (fun e => by injection e with _ e2; omega)]; exact c1
      have g1 : (wr.setCell ⟨w.heap.size, 0, none⟩ S).frozen? ⟨w.heap.size, 1, none⟩ = false := by rw [World.frozen?_setCell]; exact f1
      have e0 : ((wr.setCell ⟨w.heap.size, 0, none⟩ S).setCell ⟨w.heap.size, 1, none⟩ F).cell? ⟨w.heap.size, 0, none⟩ = some S := by rw [World.cell?_setCell_other _ _ _ _ (fun e => by injection e with _ e2; omega)]; exact d0
      have e1 : ((wr.setCell ⟨w.heap.size, 0, none⟩ S).setCell ⟨w.heap.size, 1, none⟩ F).cell? ⟨w.heap.size, 1, none⟩ = some F := World.cell?_setCell_same' _ _ _ (by rw [d1]; rfl)
      have hs2 : w.Since w.heap.size ((wr.setCell ⟨w.heap.size, 0, none⟩ S).setCell ⟨w.heap.size, 1, none⟩ F) := (hR.since.setCell (Nat.le_refl _) _).setCell (Nat.le_refl _) _
      have hrow2 : ((wr.setCell ⟨w.heap.size, 0, none⟩ S).setCell ⟨w.heap.size, 1, none⟩ F).rowIs (w.heap.size + 1) 3 c (fun k => if k < c then .int .i64 k else .int .i64 0) := (hR.row.setOther (by show w.heap.size + 1 ≠ w.heap.size; omega) _).setOther (by show w.heap.size + 1 ≠ w.heap.size; omega) _
      have HS2 := Lib.hid hs2
      have HROW := Lib.hid hrow2
      rw [hS] at d0 d1 g1 e0 e1 HS2 HROW
      rw [hF] at e0 e1 HS2 HROW
      clear hS hF hs2 hrow2 hR hr
      go_wp2
      refine bodyPost_ret (v := .agg #[.slice (some ⟨w.heap.size + 1, 0, none⟩) c c, .func (.func K) #[] caps]) ?_ rfl ⟨w.heap.size + 1, rfl, HS2.out, fun i hi => ?_⟩
      · simp [results, Try.f67, go_sem, e0, e1]
      · have := HROW.out.cell (i := i) hi
        rw [if_pos hi] at this
        rw [Nat.zero_add]
        exact this

end Go.Proofs.Ytjlcbkbekogblaa

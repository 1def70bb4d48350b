/- orders as an iterator that keeps its word; the sums and the count over it. -/
import Derived.Test.YtiabnlebonmedaaOrdersC
import Derived.Laws.EntriesVeiled
namespace Go.Proofs.Ytiabnlebonmedaa
open Go.RowKit Go.Deep Go.Shelf
attribute [local go_sem] Oper.semAt_some

theorem map_snd {α : Type} (g : Nat) (L : List α) : (([] : List (Nat × α)) ++ L.map (Prod.mk g)).map (fun x => x.2) = L := by
  rw [List.nil_append]
  induction L with
  | nil => rfl
  | cons x L ih => rw [List.map_cons, List.map_cons, ih]

theorem orders_any (n : Int) (w : World) :
    Calls Try.prog 66 #[.int .i64 n] w fun e w' => e = .returned (.func (.func 82) #[] #[.pointer (some ⟨w.heap.size, 0, none⟩)]) ∧ w' = w.alloc (.cells #[.int .i64 n] 3) := by
  go_enter Try.func66, Try.ntmps66
  go_wp2
  go_ret
  exact ⟨rfl, rfl⟩

set_option maxRecDepth 100000 in
set_option maxHeartbeats 2000000 in
theorem orders_stops (k Bn n : Nat) (h1 : 1 ≤ n) (h6 : n ≤ 6) (w : World) (hlt : Bn < w.heap.size) (hb : w.cell? ⟨Bn, 0, none⟩ = some (.int .i64 n)) :
    SeqC Fence.wide k Try.prog 82 #[.pointer (some ⟨Bn, 0, none⟩)] (olV n) (olP n) (fun b => b = Bn) (fun ys => ys.map (·.2) = ordL n n []) 46656 w := by
  intro l J own W hW hown hJ hY hj
  refine callsIn_wide.2 ?_
  obtain ⟨i3, hi3⟩ := info3_parts
  have cn := (hW.cell (p := ⟨Bn, 0, none⟩) hlt).trans hb
  have hlW := World.block_lt_of_cell? _ _ cn
  have hlen := ordL_len h6 n []
  have hpow : 6 ^ n ≤ 6 ^ 6 := Nat.pow_le_pow_right (by omega) h6
  have HG := Lib.hid (fun (V : World) (hob : OB Bn W.heap.size (W.heap.size + 1) n l V) (hc : ColsAt V (W.heap.size + 1 + 1) n []) (hjv : J [] V) =>
    goOn_any l Bn W.heap.size (W.heap.size + 1) (W.heap.size + 1 + 1) n 46656 W.heap.size own J h6 hJ (by omega) (by omega) (by omega) (by omega) (by omega) (by simp at hlW; omega) (fun k hk => hown k hk) (fun m pre x V' hp hx hl => yieldAt_any (hY pre x V' hp hx hl)) n [] [] V (by simp) (by simp) hob hc hjv (by simp; omega))
  have oy : (W.alloc (.cells #[.func (.yield l) #[] #[]] 71)).cell? ⟨W.heap.size, 0, none⟩ = _ := (cell_new_l W _ _).1
  have og := (cell_new_l (W.alloc (.cells #[.func (.yield l) #[] #[]] 71)) (.func (.func 83) #[] #[.pointer (some ⟨Bn, 0, none⟩), .pointer (some ⟨W.heap.size, 0, none⟩), .pointer (some ⟨W.heap.size + 1, 0, none⟩)]) 71).1
  obtain ⟨V, hV⟩ : ∃ V, V = (W.alloc (.cells #[.func (.yield l) #[] #[]] 71)).alloc (.cells #[.func (.func 83) #[] #[.pointer (some ⟨Bn, 0, none⟩), .pointer (some ⟨W.heap.size, 0, none⟩), .pointer (some ⟨W.heap.size + 1, 0, none⟩)]] 71) := ⟨_, rfl⟩
  have hz : V.drew.heap.size = W.heap.size + 1 + 1 := by show V.heap.size = _; rw [hV]; simp
  rw [World.size_alloc, ← hV] at og
  have hjV : J [] V.drew := by
    have h := hJ.alloc (.cells #[.func (.func 83) #[] #[.pointer (some ⟨Bn, 0, none⟩), .pointer (some ⟨W.heap.size, 0, none⟩), .pointer (some ⟨W.heap.size + 1, 0, none⟩)]] 71) (hJ.alloc (.cells #[.func (.yield l) #[] #[]] 71) hj)
    rw [← hV] at h
    exact hJ _ _ _ none h (grown_drewC V 1) (fun r e => by cases e)
  have hob : OB Bn W.heap.size (W.heap.size + 1) n l V.drew := ⟨by
      show V.cell? _ = _
      rw [hV]; exact cell_alloc_l _ (cell_alloc_l _ cn), by
      show V.cell? _ = _
      rw [hV]; exact cell_alloc_l _ oy, og⟩
  have c1 : V.drew.cell? ⟨W.heap.size + 1, 0, none⟩ = _ := hob.bg
  have c2 : V.drew.cell? ⟨Bn, 0, none⟩ = _ := hob.bn
  obtain ⟨w', hm1, hm2, hm3⟩ := run_make_own (P := Try.prog) V.drew 0 29 3 i3 (.int .i64 0) 1 Try.underlying29 hi3.1 hi3.2.1 hi3.2.2.1 .i64 .i64 n (by rw [hi3.2.2.2]; omega) (by unfold maxLen; omega) (Nat.zero_le _)
  rw [hz] at hm1 hm2
  have d1 := (hm3.cell_far ⟨W.heap.size + 1, 0, none⟩ (by rw [hz]; show W.heap.size + 1 < _; omega) (by simp)).trans c1
  have d2 := (hm3.cell_far ⟨Bn, 0, none⟩ (by rw [hz]; show Bn < _; simp at hlW; omega) (by simp)).trans c2
  have E := Lib.hid (HG.out w' (hob.keeps (own := fun _ => False) (Keeps.grown hm3 (fun r e => by cases e)) (fun h => h) (fun h => h) (fun h => h)) hm2 (hJ _ _ _ none hjV hm3 (fun r e => by cases e)))
  have HKC := Lib.hid (fun (w2 : World) (h : Keeps (fun k => own k ∨ k = W.heap.size + 1 + 1) w' w2) => And.intro (h.cell (a := ⟨W.heap.size + 1, 0, none⟩) (fun h => h.elim (fun h => absurd (hown _ h).1 (show ¬ (W.heap.size + 1 < W.heap.size) by omega)) (fun h => absurd h (show ¬ (W.heap.size + 1 = W.heap.size + 1 + 1) by omega))) d1) (h.cell (a := ⟨Bn, 0, none⟩) (fun h => h.elim (fun h => (hown _ h).2 rfl) (fun h => absurd h (show ¬ (Bn = W.heap.size + 1 + 1) by have : Bn < W.heap.size := hlW; omega))) d2))
  clear HG hob hm2 hm3 hjV hj hJ hY hown hpow hlen hi3 oy og cn hb
  have HV := Lib.hid hV
  clear hV
  go_enter Try.func82, Try.ntmps82
  go_wp2
  rw [← HV.out]
  go_region_held3 (fun w'' => w''.cell? ⟨W.heap.size + 1, 0, none⟩ = some (.func (.func 83) #[] #[.pointer (some ⟨Bn, 0, none⟩), .pointer (some ⟨W.heap.size, 0, none⟩), .pointer (some ⟨W.heap.size + 1, 0, none⟩)]) ∧ w''.cell? ⟨Bn, 0, none⟩ = some (.int .i64 n))
    (first | exact ⟨e1, e2⟩ | exact ⟨d1, d2⟩ | exact ⟨c1, c2⟩)
    (first
      | (go_at_call 83; refine (E.out).mono ?_; rintro e w2 ⟨rfl, hj2, hk2, _⟩; have HJ2 := Lib.hid hj2; obtain ⟨e1, e2⟩ := HKC.out _ hk2; clear hj2 hk2))
  go_end0
  exact ⟨⟨_, rfl⟩, _, map_snd _ _, HJ2.out⟩

end Go.Proofs.Ytiabnlebonmedaa

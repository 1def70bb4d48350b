/- pairings as an iterator that keeps its word. -/
import Derived.Test.YtpimdgijjljejaaDoorPairsC
import Derived.Test.YtpimdgijjljejaaDoorImpl1
import Derived.Laws.EntriesVeiled
namespace Go.Proofs.YtpimdgijjljejaaDoor
open Go.RowKit Go.Deep Go.Shelf
attribute [local go_sem] Oper.semAt_some

theorem pairings_any (n : Int) (w : World) :
    Calls Tryd.prog 63 #[.int .i64 n] w fun e w' => e = .returned (.func (.func 80) #[] #[.pointer (some ⟨w.heap.size, 0, none⟩)]) ∧ w' = w.alloc (.cells #[.int .i64 n] 3) := by
  go_enter Tryd.func63, Tryd.ntmps63
  go_wp2
  go_ret
  exact ⟨rfl, rfl⟩

theorem infoP0 : ((Tryd.prog.info? 72).bind (·.zero)).isSome = true := by kernel_rfl
theorem infoP_zero {i : TypeInfo} (h : Tryd.prog.info? 72 = some i) : ∃ z, i.zero = some z := by
  have h0 := infoP0
  rw [h] at h0
  exact Option.isSome_iff_exists.1 h0

theorem full_pop : ∀ n : Fin 7, 2 ^ n.val - 1 < 2 ^ n.val ∧ popcS (2 ^ n.val - 1) = n.val ∧ n.val ≤ 6 := by decide +kernel

set_option maxRecDepth 100000 in
set_option maxHeartbeats 2000000 in
theorem pairings_stops (k Bn n : Nat) (h6 : n ≤ 6) (w : World) (hlt : Bn < w.heap.size) (h1lt : 1 < w.heap.size) (hb : w.cell? ⟨Bn, 0, none⟩ = some (.int .i64 n)) (hT : TZ w) :
    SeqC Fence.wide k Tryd.prog 80 #[.pointer (some ⟨Bn, 0, none⟩)] (pxV n) (pxP n) (fun b => b = Bn ∨ b = 1) (fun ys => ys.map (fun x => x.2) = pqL n 3 (2 ^ n - 1)) 16 w := by
  intro l J own W hW hown hJ hY hj
  refine callsIn_wide.2 ?_
  obtain ⟨ip, hip⟩ := infoP_parts
  obtain ⟨zp, hzp⟩ := infoP_zero hip.1
  have cn := (hW.cell (p := ⟨Bn, 0, none⟩) hlt).trans hb
  have hlW : Bn < W.heap.size := World.block_lt_of_cell? _ _ cn
  have h1W : 1 < W.heap.size := Nat.lt_of_lt_of_le h1lt hW.size
  have hTW : TZ W := fun i hi => (hW.cell (p := ⟨1, 2 ^ i - 1, none⟩) h1lt).trans (hT i hi)
  have hlen := pqL_len ⟨n, by omega⟩
  obtain ⟨f1, f2, f3⟩ := full_pop ⟨n, by omega⟩
  simp only at hlen f1 f2 f3
  have HG := Lib.hid (fun (V : World) (hob : PB W.heap.size Bn (W.heap.size + 1) n l V) (hc : PairsAt V (W.heap.size + 1 + 1) (n / 2) []) (hjv : J [] V) =>
    goP_any l W.heap.size Bn (W.heap.size + 1) (W.heap.size + 1 + 1) n 16 W.heap.size own J h6 hJ (by omega) (by omega) (by omega) (by omega) (by omega) (by omega) h1W (fun k hk => ⟨(hown k hk).1, fun e => (hown k hk).2 (.inl e), fun e => (hown k hk).2 (.inr e)⟩) (fun m pre x V' hp hx hl => yieldAt_any (hY pre x V' hp hx hl)) 3 (2 ^ n - 1) [] [] V f1 (by omega) (by simp; exact f2) (by simp) hob hc hjv (by simp; omega))
  have oy : (W.alloc (.cells #[.func (.yield l) #[] #[]] 85)).cell? ⟨W.heap.size, 0, none⟩ = _ := (cell_new_l W _ _).1
  have og := (cell_new_l (W.alloc (.cells #[.func (.yield l) #[] #[]] 85)) (.func (.func 81) #[] #[.pointer (some ⟨W.heap.size, 0, none⟩), .pointer (some ⟨Bn, 0, none⟩), .pointer (some ⟨W.heap.size + 1, 0, none⟩)]) 86).1
  obtain ⟨V, hV⟩ : ∃ V, V = (W.alloc (.cells #[.func (.yield l) #[] #[]] 85)).alloc (.cells #[.func (.func 81) #[] #[.pointer (some ⟨W.heap.size, 0, none⟩), .pointer (some ⟨Bn, 0, none⟩), .pointer (some ⟨W.heap.size + 1, 0, none⟩)]] 86) := ⟨_, rfl⟩
  have hz : V.drew.heap.size = W.heap.size + 1 + 1 := by show V.heap.size = _; rw [hV]; simp
  rw [World.size_alloc, ← hV] at og
  have hjV : J [] V.drew := by
    have h := hJ.alloc (.cells #[.func (.func 81) #[] #[.pointer (some ⟨W.heap.size, 0, none⟩), .pointer (some ⟨Bn, 0, none⟩), .pointer (some ⟨W.heap.size + 1, 0, none⟩)]] 86) (hJ.alloc (.cells #[.func (.yield l) #[] #[]] 85) hj)
    rw [← hV] at h
    exact hJ _ _ _ none h (grown_drewC V 1) (fun r e => by cases e)
  have hob : PB W.heap.size Bn (W.heap.size + 1) n l V.drew := ⟨by
      show V.cell? _ = _
      rw [hV]; exact cell_alloc_l _ oy, by
      show V.cell? _ = _
      rw [hV]; exact cell_alloc_l _ (cell_alloc_l _ cn), og, fun i hi => by
      show V.cell? _ = _
      rw [hV]; exact cell_alloc_l _ (cell_alloc_l _ (hTW i hi))⟩
  have c1 : V.drew.cell? ⟨W.heap.size + 1, 0, none⟩ = _ := hob.bg
  have c2 : V.drew.cell? ⟨Bn, 0, none⟩ = _ := hob.bn
  obtain ⟨w', hm1, hm2, hm3⟩ := run_make_own (P := Tryd.prog) V.drew 0 69 72 ip zp 2 Tryd.underlying69 hip.1 hzp hip.2.1 .i64 .i64 (n / 2) (by rw [hip.2.2]; omega) (by unfold maxLen; omega) (Nat.zero_le _)
  rw [hz] at hm1 hm2
  have d1 := (hm3.cell_far ⟨W.heap.size + 1, 0, none⟩ (by rw [hz]; show W.heap.size + 1 < _; omega) (by simp)).trans c1
  have d2 := (hm3.cell_far ⟨Bn, 0, none⟩ (by rw [hz]; show Bn < _; omega) (by simp)).trans c2
  have E := Lib.hid (HG.out w' (hob.keeps (own := fun _ => False) (Keeps.grown hm3 (fun r e => by cases e)) (fun h => h) (fun h => h) (fun h => h) (fun h => h)) hm2 (hJ _ _ _ none hjV hm3 (fun r e => by cases e)))
  have HKC := Lib.hid (fun (w2 : World) (h : Keeps (fun k => own k ∨ k = W.heap.size + 1 + 1) w' w2) => And.intro (h.cell (a := ⟨W.heap.size + 1, 0, none⟩) (fun h => h.elim (fun h => absurd (hown _ h).1 (show ¬ (W.heap.size + 1 < W.heap.size) by omega)) (fun h => absurd h (show ¬ (W.heap.size + 1 = W.heap.size + 1 + 1) by omega))) d1) (h.cell (a := ⟨Bn, 0, none⟩) (fun h => h.elim (fun h => (hown _ h).2 (.inl rfl)) (fun h => absurd h (show ¬ (Bn = W.heap.size + 1 + 1) by omega))) d2))
  have EF := Lib.hid (fun (X : World) => fullSet_any n h6 X)
  obtain ⟨cp, hcp⟩ : ∃ c, n / 2 = c := ⟨_, rfl⟩
  have hquo : (n : Int) / 2 = (cp : Int) := by omega
  have hwc : IntKind.i64.wrap (cp : Int) = (cp : Int) := IntWalk.i64_in _ ⟨by omega, by omega⟩
  rw [hcp] at hm1
  simp only [hcp] at E
  clear HG hob hm2 hm3 hjV hj hJ hY hown hlen hip oy og cn hb hTW f1 f2 f3 hzp hcp
  have HV := Lib.hid hV
  clear hV
  go_enter Tryd.func80, Tryd.ntmps80
  go_wp2
  rw [← HV.out]
  go_region_held3 (fun w'' => w''.cell? ⟨W.heap.size + 1, 0, none⟩ = some (.func (.func 81) #[] #[.pointer (some ⟨W.heap.size, 0, none⟩), .pointer (some ⟨Bn, 0, none⟩), .pointer (some ⟨W.heap.size + 1, 0, none⟩)]) ∧ w''.cell? ⟨Bn, 0, none⟩ = some (.int .i64 n))
    (first | exact ⟨e1, e2⟩ | exact ⟨d1, d2⟩ | exact ⟨c1, c2⟩)
    (first
      | (go_at_call 78; refine (EF.out _).mono ?_; rintro e w2 ⟨rfl, rfl⟩)
      | (go_at_call 81; refine (E.out).mono ?_; rintro e w2 ⟨rfl, hj2, hk2, _⟩; have HJ2 := Lib.hid hj2; obtain ⟨e1, e2⟩ := HKC.out _ hk2; clear hj2 hk2))
  all_goals
    go_end0
    exact ⟨⟨_, rfl⟩, _, map_snd _ _, by simpa using HJ2.out⟩

end Go.Proofs.YtpimdgijjljejaaDoor

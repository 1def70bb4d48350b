/- impl.NetIn, over slices.ContainsFunc and IndexFunc. -/
import Derived.Test.YtggmiojhglkcgaaChipJ
import Derived.Test.YtggmiojhglkcgaaNetO
namespace Go.Proofs.Ytggmiojhglkcgaa
open Go.RowKit Go.Deep

set_option maxHeartbeats 400000 in
theorem netIn1_any (K : ByteArray) (L V : Int) (n Bn : Nat) (hn2 : 2 ≤ n) (hn5 : n ≤ 5) (w : World) (hb : w.cell? ⟨Bn, 0, none⟩ = some (.int .i64 n)) :
    Calls Try.prog 58 #[.agg #[.string K, .int .i64 L, .int .i64 V], .pointer (some ⟨Bn, 0, none⟩)] w fun e w' => e = .returned (.bool (!chipB n ⟨K, L, V⟩)) ∧ w.Since w.heap.size w' := by
  have E := Lib.hid (fun (W : World) => isIn_any K L V n hn2 hn5 W)
  obtain ⟨d1, d2, d3⟩ := chip_box w K L V 35
  have HS := Lib.hid ((World.Since.refl w.heap.size w).alloc (Nat.le_refl _) (.cells #[.string K, .int .i64 L, .int .i64 V] 35))
  have hb' := cell_alloc_l (.cells #[.string K, .int .i64 L, .int .i64 V] 35) hb
  clear hb
  go_enter Try.func58, Try.ntmps58
  go_wp2_with (go_at_call 59; refine (E.out _).mono ?_; rintro e w1 ⟨rfl, hs1⟩; have HS1 := Lib.hid (HS.out.trans (since_mono hs1 HS.out.size)); clear hs1)
  go_ret
  exact ⟨rfl, HS1.out⟩

theorem all_no {n : Int} {cs : List RC} {i : Nat} (hi : i < cs.length) (h : chipB n (cs.getD i rc0) = false) : cs.all (chipB n) = false := by
  cases e : cs.all (chipB n) with
  | false => rfl
  | true =>
    have h1 := List.all_eq_true.1 e (cs.getD i rc0) (by
      have : cs.getD i rc0 = cs[i] := by simp [List.getD, hi]
      rw [this]; exact List.getElem_mem _)
    rw [h] at h1; cases h1
theorem all_yes {n : Int} {cs : List RC} (h : ∀ i, i < cs.length → chipB n (cs.getD i rc0) = true) : cs.all (chipB n) = true := List.all_eq_true.2 fun c hc => by
  obtain ⟨i, hi, e⟩ := List.mem_iff_getElem.1 hc
  have := h i hi
  rw [show cs.getD i rc0 = cs[i] by simp [List.getD, hi], e] at this
  exact this

def IdxPost (b : Bool) (w : World) (e : Ending) (w' : World) : Prop := ∃ z : Int, e = .returned (.int .i64 z) ∧ decide (0 ≤ z) = !b ∧ w.Since w.heap.size w'

set_option maxRecDepth 100000 in
set_option maxHeartbeats 400000 in
theorem indexF_any (a : Option Addr) (cap N n Bn : Nat) (cs : List RC) (w : World) (hN : cs.length = N) (h10 : N ≤ 10) (hn2 : 2 ≤ n) (hn5 : n ≤ 5) (hm : ChipsR w a cs) (hb : w.cell? ⟨Bn, 0, none⟩ = some (.int .i64 n)) :
    Calls Try.prog 104 #[.slice a N cap, .func (.func 58) #[] #[.pointer (some ⟨Bn, 0, none⟩)]] w (IdxPost (cs.all (chipB n)) w) := by
  have E := Lib.hid (fun (W : World) (hs : w.Since w.heap.size W) (K : ByteArray) (L V : Int) => netIn1_any K L V n Bn hn2 hn5 W ((hs.cell (World.block_lt_of_cell? _ _ hb)).trans hb))
  have HN := Lib.hid hN
  have HM := Lib.hid hm
  have HF := Lib.hid (fun (i : Nat) (hi : i < N) h => all_no (n := n) (cs := cs) (i := i) (by omega) h)
  have HT := Lib.hid (fun h => all_yes (n := (n : Int)) (cs := cs) h)
  clear hN hm hb
  go_enter Try.func104, Try.ntmps104
  go_wp2_with fail
  go_loopg [5, 8] N (fun g _ i wr => ∃ r : Nat, r ≤ N ∧ g = N - r ∧ i = .int .i64 r ∧ w.Since w.heap.size wr ∧ ∀ j, j < r → chipB n (cs.getD j rc0) = true)
  case atStart => exact ⟨0, Nat.zero_le _, rfl, rfl, World.Since.refl _ _, fun j hj => by omega⟩
  case round =>
    obtain ⟨r, hr, rfl, rfl, hS, hall⟩ := hrel
    by_cases hlt : r < N
    · obtain ⟨b, o, rfl, k1, k2, k3⟩ := HM.out.at (show r < cs.length by rw [HN.out]; exact hlt)
      have c1 := (hS.cell (World.block_lt_of_cell? _ _ k1)).trans k1
      have c2 := (hS.cell (World.block_lt_of_cell? _ _ k2)).trans k2
      have c3 := (hS.cell (World.block_lt_of_cell? _ _ k3)).trans k3
      have hf := HF.out r hlt
      have ht := fun (h : chipB n (cs.getD r rc0) = true) => show ∀ j, j < r + 1 → chipB n (cs.getD j rc0) = true from fun j hj => by
        by_cases e : j = r
        · subst e; exact h
        · exact hall j (by omega)
      obtain ⟨c, hc⟩ : ∃ c, cs.getD r rc0 = c := ⟨_, rfl⟩
      rw [hc] at c1 c2 c3 hf ht
      obtain ⟨K, L, V⟩ := c
      simp only at c1 c2 c3
      have E1 := E.out wr hS K L V
      have HS := Lib.hid hS
      have HTT := Lib.hid ht
      cases hcb : chipB n ⟨K, L, V⟩ with
      | false =>
        have HFF := Lib.hid (hf hcb)
        rw [hcb] at E1
        replace E1 := Lib.hid E1
        clear k1 k2 k3 hc hcb hf hall hS ht
        go_wp2_with (go_at_call 58; refine (E1.out).mono ?_; rintro e w1 ⟨rfl, hs1⟩; have HS1 := Lib.hid (HS.out.trans (since_mono hs1 HS.out.size)); clear hs1)
        go_ret
        exact ⟨_, rfl, by rw [HFF.out]; simp, HS1.out⟩
      | true =>
        rw [hcb] at E1
        replace E1 := Lib.hid E1
        have HTA := Lib.hid (ht hcb)
        clear k1 k2 k3 hc hcb hf hall hS ht HTT
        go_wp2_with (go_at_call 58; refine (E1.out).mono ?_; rintro e w1 ⟨rfl, hs1⟩; have HS1 := Lib.hid (HS.out.trans (since_mono hs1 HS.out.size)); clear hs1)
        go_roundg (N - (r + 1))
        case measure => omega
        case rel => exact ⟨r + 1, by omega, rfl, by go_num, HS1.out, HTA.out⟩
    · obtain rfl : r = N := by omega
      have HTA := Lib.hid (HT.out (fun i hi => hall i (by rw [HN.out] at hi; exact hi)))
      have HS := Lib.hid hS
      clear hall hS
      go_wp2_with fail
      go_ret
      exact ⟨_, rfl, by rw [HTA.out]; rfl, HS.out⟩

set_option maxHeartbeats 400000 in
theorem containsF_any (a : Option Addr) (cap N n Bn : Nat) (cs : List RC) (w : World) (hN : cs.length = N) (h10 : N ≤ 10) (hn2 : 2 ≤ n) (hn5 : n ≤ 5) (hm : ChipsR w a cs) (hb : w.cell? ⟨Bn, 0, none⟩ = some (.int .i64 n)) :
    Calls Try.prog 57 #[.slice a N cap, .func (.func 58) #[] #[.pointer (some ⟨Bn, 0, none⟩)]] w fun e w' => e = .returned (.bool (!cs.all (chipB n))) ∧ w.Since w.heap.size w' := by
  have E := Lib.hid (indexF_any a cap N n Bn cs w hN h10 hn2 hn5 hm hb)
  obtain ⟨b, hbb⟩ : ∃ b, cs.all (chipB n) = b := ⟨_, rfl⟩
  rw [hbb] at E ⊢
  clear hbb hN hm hb
  go_enter Try.func57, Try.ntmps57
  go_wp2_with (go_at_call 104; refine (E.out).mono ?_; rintro e w1 ⟨z, rfl, hz, hs1⟩; have HZ := Lib.hid hz; have HS1 := Lib.hid hs1; clear hs1 hz)
  go_ret
  exact ⟨ret_bool HZ.out, HS1.out⟩

set_option maxHeartbeats 400000 in
theorem implNetIn_any (a : Option Addr) (cap N : Nat) (n : Int) (cs : List RC) (w : World) (hN : cs.length = N) (h63 : N ≤ 9223372036854775807) (hm : ChipsR w a cs) :
    Calls Try.prog 15 #[.int .i64 n, .slice a N cap] w fun e w' => e = .returned (.bool (netB n cs)) ∧ w.Since w.heap.size w' := by
  have hv : netB n cs = (inB n 2 5 && (decide (N ≤ 10) && cs.all (chipB n))) := by unfold netB; rw [hN]
  have HS := Lib.hid ((World.Since.refl w.heap.size w).alloc (Nat.le_refl _) (.cells #[.int .i64 n] 3))
  have hbx := (cell_new_l w (.int .i64 n) 3).1
  obtain ⟨b, hbb⟩ : ∃ b, inB n 2 5 = b := ⟨_, rfl⟩
  rw [hbb] at hv
  have E := fun (W : World) => inRange_any n 2 5 W
  simp only [hbb] at E
  replace E := Lib.hid E
  cases b with
  | false =>
    rw [hv, Bool.false_and]
    clear hv hbb hN hm
    go_enter Try.func15, Try.ntmps15
    go_wp2_with (go_at_call 56; refine (E.out _).mono ?_; rintro e w' ⟨rfl, rfl⟩)
    go_ret
    exact ⟨rfl, HS.out⟩
  | true =>
    unfold inB at hbb
    have hbb := of_decide_eq_true hbb
    obtain ⟨m, rfl⟩ : ∃ m : Nat, n = m := ⟨n.toNat, by omega⟩
    rw [Bool.true_and] at hv
    by_cases h10 : N ≤ 10
    · rw [decide_eq_true h10, Bool.true_and] at hv
      have hl' : decide ((10 : Int) < (N : Int)) = false := by simp; omega
      have E2 := Lib.hid (containsF_any a cap N m w.heap.size cs (w.alloc (.cells #[.int .i64 m] 3)) hN h10 (by omega) (by omega) (hm.since ((World.Since.refl w.heap.size w).alloc (Nat.le_refl _) _)) hbx)
      obtain ⟨q, hq⟩ : ∃ q, cs.all (chipB m) = q := ⟨_, rfl⟩
      rw [hq] at hv E2
      rw [hv]
      clear hv hbb hN hm hq
      go_enter Try.func15, Try.ntmps15
      go_wp2_with (first
        | (go_at_call 56; refine (E.out _).mono ?_; rintro e w' ⟨rfl, rfl⟩)
        | (go_at_call 57; refine (E2.out).mono ?_; rintro e w1 ⟨rfl, hs1⟩; have HS1 := Lib.hid (HS.out.trans (since_mono hs1 HS.out.size)); clear hs1))
      go_ret
      exact ⟨by simp, HS1.out⟩
    · rw [decide_eq_false h10, Bool.false_and] at hv
      have hl' : decide ((10 : Int) < (N : Int)) = true := by simp; omega
      rw [hv]
      clear hv hbb hN hm
      go_enter Try.func15, Try.ntmps15
      go_wp2_with (go_at_call 56; refine (E.out _).mono ?_; rintro e w' ⟨rfl, rfl⟩)
      go_ret
      exact ⟨rfl, HS.out⟩

end Go.Proofs.Ytggmiojhglkcgaa

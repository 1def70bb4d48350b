/- The contract of spec.l1Copy at any table of few rows. -/
import Derived.Test.YthdemjfllfhhpaaCopy
namespace Go.Proofs.Ythdemjfllfhhpaa
open Go.RowKit Go.Deep

set_option maxRecDepth 100000 in
set_option maxHeartbeats 2000000 in
theorem l1Copy_gen (a : Option Addr) (cap n : Nat) (l : List (List Int)) (w : World) (hn : l.length = n) (hn6 : 1 ≤ n ∧ n ≤ 6) (hT : ∀ r, r < n → 1 ≤ (l.getD r []).length ∧ (l.getD r []).length ≤ 6) (hm : MatR w a l) :
    Calls Try.prog 49 #[.slice a n cap] w fun e w' => ∃ a' cap', e = .returned (.slice a' n cap') ∧ w.Since w.heap.size w' ∧ OwnT w.heap.size w'.heap.size w' a' l ∧ FreeTop w' a' n := by
  obtain ⟨i42, hi42⟩ := info42_parts
  obtain ⟨i3, hi3⟩ := info3_parts
  have HI := Lib.hid hi42
  have HJ := Lib.hid hi3
  clear hi42 hi3
  have hst := bt_start w (fun _ => none) (fun _ => 0) #[] rfl
  obtain ⟨b, o, A0, C0, rfl, hc⟩ := hm (by omega)
  have HC := Lib.hid hc
  have HN := Lib.hid hn
  have HTT := Lib.hid hT
  clear hc hm hn hT
  go_enter Try.func49, Try.ntmps49
  go_wp2
  go_loopg [3, 4] n (fun g v k wr => ∃ r : Nat, ∃ A C, r ≤ n ∧ g = n - r ∧ k = .int .i64 r ∧ BT w wr v (l.take r) A C)
  case atStart => exact ⟨0, _, _, Nat.zero_le _, rfl, rfl, hst⟩
  case round =>
    obtain ⟨r, A, C, hr, rfl, rfl, hR⟩ := hrel
    clear hst
    by_cases hlt : r < n
    · obtain ⟨c1, r1⟩ := HC.out r (by rw [HN.out]; exact hlt)
      have hrl := HTT.out r hlt
      obtain ⟨b', o', hA, hce⟩ := r1 (by omega)
      rw [hA] at c1
      rw [← hR.since.cell (a := ⟨b, o + r, none⟩) (World.block_lt_of_cell? _ _ c1)] at c1
      obtain ⟨x, hx⟩ : ∃ x, x = l.getD r [] := ⟨_, rfl⟩
      rw [← hx] at c1 hce hrl
      obtain ⟨m, hmm⟩ : ∃ m, x.length = m := ⟨_, rfl⟩
      rw [hmm] at c1 hce hrl
      have hm6 : 1 ≤ m ∧ m ≤ 6 := by omega
      clear hrl
      have hcells : ∀ (j : Nat) (u : Value), (x.map (Value.int .i64))[j]? = some u → (wr.alloc (.cells #[] 3)).cell? ((⟨b', o', none⟩ : Addr).add j) = some u := fun j u hj => by
        rw [Go.WideShapes.add_plain]
        obtain ⟨hjl, he⟩ := List.getElem?_eq_some_iff.1 hj
        have hjx : j < m := by rw [← hmm]; simpa using hjl
        have h2 := hce j hjx
        refine cell_alloc_l _ ?_
        rw [hR.since.cell (a := ⟨b', o' + j, none⟩) (World.block_lt_of_cell? _ _ h2), h2, ← he]
        simp [List.getD, show j < x.length by omega]
      have HCE := Lib.hid hcells
      have c1a := fun ob => cell_alloc_l ob c1
      have HR := Lib.hid hR
      have hsz := hR.since.size
      have hlen : (l.take r).length = r := by rw [List.length_take]; have := HN.out; omega
      have HMM := Lib.hid hmm
      have HX := Lib.hid hx
      have hRB0 : (wr.alloc (.cells #[] 3)).ownsRow wr.heap.size 3 1 (.slice (some ⟨wr.heap.size, 0, none⟩) 0 0) 0 [] := World.ownsRow_made wr #[] 0 (Nat.le_refl _) (Nat.zero_le _) rfl
      have HRB := Lib.hid hRB0
      clear hR hcells hmm hx hce hA r1 hRB0
      go_wp2_with (first
        | (at_builtin; (refine wpList_append_own _ rfl (.tmp 13) (.tmp 17) 37 rfl wr.heap.size 3 i3 (.int .i64 0) 1 8 Try.underlying37 HJ.out.1 HJ.out.2.1 HJ.out.2.2.1 HJ.out.2.2.2 rfl (by decide) _ 0 [] rfl HRB.out ⟨b', o', none⟩ m _ (x.map (Value.int .i64)) rfl (by rw [List.length_map, HMM.out]; omega) HCE.out (fun u hu => by obtain ⟨z, _, rfl⟩ := List.mem_map.1 hu; rfl) (by unfold maxLen; omega) (by omega) (by simp) ?_);
            intro v1 w1 hown1 hgrow1 _; have hrb := RB.of_append #[] HMM.out hown1 hgrow1; obtain ⟨ra, rcp, hv1, hrow1⟩ := hrb.slice; rw [HMM.out] at hv1; subst hv1; have HBT := Lib.hid (HR.out.later hrb.since); have HRW := Lib.hid hrow1; have hz1 := hrb.since.size; clear hown1 hgrow1 hrb hrow1)
        | (at_builtin; (refine wpList_append_own _ rfl (.tmp 12) (.tmp 19) 23 rfl w.heap.size 37 i42 (.slice none 0 0) 1 24 Try.underlying23 HI.out.1 HI.out.2.1 HI.out.2.2.1 HI.out.2.2.2 rfl (by decide) _ _ _ rfl (HBT.out.own.alloc _) ⟨w1.heap.size, 0, none⟩ 1 1 [.slice ra m rcp] rfl rfl (cell_one_at _ _ _ rfl) (fun x hx => by simp at hx; subst hx; rfl) (by unfold maxLen; omega) (by omega) (by simp; omega) ?_); intro v' w2 hown' hgrow _))
      have hP := HBT.out.push (rv := .slice ra m rcp) (x := x) (a := ra) (cp := rcp) (by rw [HMM.out]) (fun h => by obtain ⟨G, e, h2, h3⟩ := HRW.out h; exact ⟨G, e, by omega, h3⟩) (fun h => by obtain ⟨G, e, h2, _⟩ := HRW.out h; exact HR.out.fresh e h2) hown' hgrow
      rw [HX.out, ← take_succ_get l (by rw [HN.out]; exact hlt)] at hP
      have HP := Lib.hid hP
      clear hP hown' hgrow hlen c1 c1a
      go_roundg (n - (r + 1))
      case measure => omega
      case rel => exact ⟨r + 1, _, _, by omega, rfl, by go_num, HP.out⟩
    · have : r = n := by omega
      subst this
      rw [List.take_of_length_le (by rw [HN.out]; exact Nat.le_refl _)] at hR
      obtain ⟨ra, rcp, hv, hin⟩ := hR.ownT
      rw [HN.out] at hv
      have hfree := hR.free hv
      subst hv
      have HS := Lib.hid hR.since
      clear hR
      go_wp2
      go_ret
      exact ⟨ra, rcp, rfl, HS.out, hin, hfree⟩

end Go.Proofs.Ythdemjfllfhhpaa

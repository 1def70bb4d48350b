/- The contracts of spec.l1Copy and spec.l1Done; a store into a table of one's own. -/
import Derived.Test.YthdemjfllfhhpaaTurnSpec
import Derived.Deep.Matrix
namespace Go.Proofs.Ythdemjfllfhhpaa
open Go.RowKit Go.Deep

theorem RB.of_append {wo w1 : World} {v : Value} {x : List Int} {n : Nat} (cs : Array Value) (hn : x.length = n) (hown : w1.ownsRow wo.heap.size 3 1 v (0 + n) ([] ++ x.map (Value.int .i64))) (hg : (wo.alloc (.cells cs 3)).grownBy w1 (some wo.heap.size)) : RB wo w1 v x := by
  refine ⟨((World.Since.refl _ _).alloc (Nat.le_refl _) _).grown hg (by simp) (fun k e => by injection e with e; omega), ?_⟩
  rw [hn]
  simpa using hown

/-- The first k rows. -/
theorem take_succ_get (l : List (List Int)) {k : Nat} (h : k < l.length) : l.take (k + 1) = l.take k ++ [l.getD k []] := by
  rw [List.take_succ_eq_append_getElem h]
  congr 2
  simp [List.getD, h]

set_option maxRecDepth 100000 in
set_option maxHeartbeats 2000000 in
theorem l1Copy_top (a : Option Addr) (cap n : Nat) (l : List (List Int)) (w : World) (hn : l.length = n) (hT : TabIn l) (hm : MatR w a l) :
    Calls Try.prog 49 #[.slice a n cap] w fun e w' => ∃ a' cap', e = .returned (.slice a' n cap') ∧ w.Since w.heap.size w' ∧ OwnT w.heap.size w'.heap.size w' a' l ∧ FreeTop w' a' n := by
  obtain ⟨i42, hi42⟩ := info42_parts
  obtain ⟨i3, hi3⟩ := info3_parts
  have HI := Lib.hid hi42
  have HJ := Lib.hid hi3
  clear hi42 hi3
  have hst := bt_start w (fun _ => none) (fun _ => 0) #[] rfl
  have hw := hT.width
  have h6 := hT.2.1
  have h1 := hT.1
  rw [hn] at h6 h1
  obtain ⟨b, o, A0, C0, rfl, hc⟩ := hm (by omega)
  have HC := Lib.hid hc
  have HN := Lib.hid hn
  have HTT := Lib.hid hT
  clear hc hm hn hT
  go_enter Try.func49, Try.ntmps49
  go_wp2
  go_loopg [3, 4] n (fun g v k wr => ∃ r : Nat, ∃ A C, r ≤ n ∧ g = n - r ∧ k = .int .i64 r ∧ BT w wr v (l.take r) A C)
  case atStart => exact ⟨0, _, _, Nat.zero_le _, rfl, rfl, hst⟩
  case round =>
    obtain ⟨r, A, C, hr, rfl, rfl, hR⟩ := hrel
    clear hst
    by_cases hlt : r < n
    · obtain ⟨c1, r1⟩ := HC.out r (by rw [HN.out]; exact hlt)
      have hrl := HTT.out.row (r := r) (by rw [HN.out]; exact hlt)
      obtain ⟨b', o', hA, hce⟩ := r1 (by omega)
      rw [hA] at c1
      rw [← hR.since.cell (a := ⟨b, o + r, none⟩) (World.block_lt_of_cell? _ _ c1)] at c1
      obtain ⟨x, hx⟩ : ∃ x, x = l.getD r [] := ⟨_, rfl⟩
      rw [← hx] at c1 hce hrl
      obtain ⟨m, hmm⟩ : ∃ m, x.length = m := ⟨_, rfl⟩
      rw [hmm] at c1 hce hrl
      have hm6 : 1 ≤ m ∧ m ≤ 6 := by omega
      clear hrl
      have hcells : ∀ (j : Nat) (u : Value), (x.map (Value.int .i64))[j]? = some u → (wr.alloc (.cells #[] 3)).cell? ((⟨b', o', none⟩ : Addr).add j) = some u := fun j u hj => by
        rw [Go.WideShapes.add_plain]
        obtain ⟨hjl, he⟩ := List.getElem?_eq_some_iff.1 hj
        have hjx : j < m := by rw [← hmm]; simpa using hjl
        have h2 := hce j hjx
        refine cell_alloc_l _ ?_
        rw [hR.since.cell (a := ⟨b', o' + j, none⟩) (World.block_lt_of_cell? _ _ h2), h2, ← he]
        simp [List.getD, show j < x.length by omega]
      have HCE := Lib.hid hcells
      have c1a := fun ob => cell_alloc_l ob c1
      have HR := Lib.hid hR
      have hsz := hR.since.size
      have hlen : (l.take r).length = r := by rw [List.length_take]; have := HN.out; omega
      have HMM := Lib.hid hmm
      have HX := Lib.hid hx
      have hRB0 : (wr.alloc (.cells #[] 3)).ownsRow wr.heap.size 3 1 (.slice (some ⟨wr.heap.size, 0, none⟩) 0 0) 0 [] := World.ownsRow_made wr #[] 0 (Nat.le_refl _) (Nat.zero_le _) rfl
      have HRB := Lib.hid hRB0
      clear hR hcells hmm hx hce hA r1 hRB0
      go_wp2_with (first
        | (at_builtin; (refine wpList_append_own _ rfl (.tmp 13) (.tmp 17) 37 rfl wr.heap.size 3 i3 (.int .i64 0) 1 8 Try.underlying37 HJ.out.1 HJ.out.2.1 HJ.out.2.2.1 HJ.out.2.2.2 rfl (by decide) _ 0 [] rfl HRB.out ⟨b', o', none⟩ m _ (x.map (Value.int .i64)) rfl (by rw [List.length_map, HMM.out]; omega) HCE.out (fun u hu => by obtain ⟨z, _, rfl⟩ := List.mem_map.1 hu; rfl) (by unfold maxLen; omega) (by omega) (by simp) ?_);
            intro v1 w1 hown1 hgrow1 _; have hrb := RB.of_append #[] HMM.out hown1 hgrow1; obtain ⟨ra, rcp, hv1, hrow1⟩ := hrb.slice; rw [HMM.out] at hv1; subst hv1; have HBT := Lib.hid (HR.out.later hrb.since); have HRW := Lib.hid hrow1; have hz1 := hrb.since.size; clear hown1 hgrow1 hrb hrow1)
        | (at_builtin; (refine wpList_append_own _ rfl (.tmp 12) (.tmp 19) 23 rfl w.heap.size 37 i42 (.slice none 0 0) 1 24 Try.underlying23 HI.out.1 HI.out.2.1 HI.out.2.2.1 HI.out.2.2.2 rfl (by decide) _ _ _ rfl (HBT.out.own.alloc _) ⟨w1.heap.size, 0, none⟩ 1 1 [.slice ra m rcp] rfl rfl (cell_one_at _ _ _ rfl) (fun x hx => by simp at hx; subst hx; rfl) (by unfold maxLen; omega) (by omega) (by simp; omega) ?_); intro v' w2 hown' hgrow _))
      have hP := HBT.out.push (rv := .slice ra m rcp) (x := x) (a := ra) (cp := rcp) (by rw [HMM.out]) (fun h => by obtain ⟨G, e, h2, h3⟩ := HRW.out h; exact ⟨G, e, by omega, h3⟩) (fun h => by obtain ⟨G, e, h2, _⟩ := HRW.out h; exact HR.out.fresh e h2) hown' hgrow
      rw [HX.out, ← take_succ_get l (by rw [HN.out]; exact hlt)] at hP
      have HP := Lib.hid hP
      clear hP hown' hgrow hlen c1 c1a
      go_roundg (n - (r + 1))
      case measure => omega
      case rel => exact ⟨r + 1, _, _, by omega, rfl, by go_num, HP.out⟩
    · have : r = n := by omega
      subst this
      rw [List.take_of_length_le (by rw [HN.out]; exact Nat.le_refl _)] at hR
      obtain ⟨ra, rcp, hv, hin⟩ := hR.ownT
      rw [HN.out] at hv
      have hfree := hR.free hv
      subst hv
      have HS := Lib.hid hR.since
      clear hR
      go_wp2
      go_ret
      exact ⟨ra, rcp, rfl, HS.out, hin, hfree⟩

theorem l1Copy_any (a : Option Addr) (cap n : Nat) (l : List (List Int)) (w : World) (hn : l.length = n) (hT : TabIn l) (hm : MatR w a l) :
    Calls Try.prog 49 #[.slice a n cap] w fun e w' => ∃ a' cap', e = .returned (.slice a' n cap') ∧ w.Since w.heap.size w' ∧ OwnT w.heap.size w'.heap.size w' a' l :=
  (l1Copy_top a cap n l w hn hT hm).mono fun _ _ ⟨a', c', h1, h2, h3, _⟩ => ⟨a', c', h1, h2, h3⟩

set_option maxHeartbeats 1000000 in
theorem l1Done_any (a : Option Addr) (cap n lo hi : Nat) (l : List (List Int)) (w : World) (hn : l.length = n) (hsz : szL l ≤ 1048576) (hm : InT lo hi w a l) :
    Calls Try.prog 73 #[.slice a n cap] w fun e w' => ∃ a' cap', e = .returned (.tuple #[.slice a' (resT (tabIn l) l).length cap', .bool (tabIn l)]) ∧ w.Since w.heap.size w' ∧ InT lo hi w' a' (resT (tabIn l) l) := by
  have E := Lib.hid (specTableIn_any a cap n l w hn hsz hm.matR)
  have HN := Lib.hid hn
  have HM := Lib.hid hm
  clear hn hsz hm
  cases hT : tabIn l with
  | false =>
    rw [hT] at E
    clear hT
    go_enter Try.func73, Try.ntmps73
    go_wp2_with fail
    refine (E.out).mono ?_
    rintro e w' ⟨rfl, hd⟩
    have hs := hd.since w.heap.size
    clear hd
    go_wp2
    go_ret2
    exact ⟨_, _, rfl, hs.alloc hs.size _, InT.nil _ _ _ _⟩
  | true =>
    rw [hT] at E
    clear hT
    go_enter Try.func73, Try.ntmps73
    go_wp2_with fail
    refine (E.out).mono ?_
    rintro e w' ⟨rfl, hd⟩
    have hs := hd.since w.heap.size
    clear hd
    go_wp2
    go_ret2
    exact ⟨a, cap, by unfold resT; rw [if_pos rfl, HN.out]; rfl, hs, HM.out.since hs⟩

theorem OwnD.store {lo hi : Nat} {w : World} {b : Nat} {A : Nat → Option Addr} {G C : Nat → Nat} {n : Nat} {L : Nat → Nat} {Z : Nat → Nat → Int} (h : OwnD lo hi w b A G C n L Z) {r c : Nat} (hr : r < n) (hc : c < L r) (x : Int) :
    OwnD lo hi (w.setCell ⟨G r, c, none⟩ (.int .i64 x)) b A G C n L (fun r' i => if r' = r ∧ i = c then x else Z r' i) := by
  have hin := h.inside r hr (by omega)
  refine ⟨fun r' h1 => ?_, h.addr, h.inside, fun r' h1 i hi => ?_, fun r' h1 i hi => by rw [World.frozen?_setCell]; exact h.free r' h1 i hi, h.apart⟩
  · rw [World.cell?_setCell_other _ _ _ _ (fun e => by injection e with e1; omega)]
    exact h.top r' h1
  · by_cases e : r' = r ∧ i = c
    · obtain ⟨rfl, rfl⟩ := e
      rw [if_pos ⟨rfl, rfl⟩]
      exact World.cell?_setCell_same' _ _ _ (by rw [h.cell r' h1 i hi]; rfl)
    · rw [if_neg e, World.cell?_setCell_other _ _ _ _ (fun e' => by
        injection e' with e1 e2
        exact e ⟨(h.apart r r' hr h1 (by omega) (by omega) e1).symm, e2.symm⟩)]
      exact h.cell r' h1 i hi

theorem OwnD.later {lo hi : Nat} {w w1 : World} {b : Nat} {A : Nat → Option Addr} {G C : Nat → Nat} {n : Nat} {L : Nat → Nat} {Z : Nat → Nat → Int} (h : OwnD lo hi w b A G C n L Z) (hs : w.Since w.heap.size w1) : OwnD lo hi w1 b A G C n L Z :=
  ⟨fun r hr => by rw [hs.cell (a := ⟨b, r, none⟩) (World.block_lt_of_cell? _ _ (h.top r hr))]; exact h.top r hr, h.addr, h.inside,
    fun r hr i hi => by rw [hs.cell (a := ⟨G r, i, none⟩) (World.block_lt_of_cell? _ _ (h.cell r hr i hi))]; exact h.cell r hr i hi,
    fun r hr i hi => by rw [hs.frozen (a := ⟨G r, i, none⟩) (World.block_lt_of_cell? _ _ (h.cell r hr i hi))]; exact h.free r hr i hi, h.apart⟩

end Go.Proofs.Ythdemjfllfhhpaa

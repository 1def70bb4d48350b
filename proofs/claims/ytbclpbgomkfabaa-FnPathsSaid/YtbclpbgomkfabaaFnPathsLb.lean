import Derived.Test.YtbclpbgomkfabaaFnPathsLa
import Derived.Test.YtbclpbgomkfabaaNetO
import Derived.Test.YtbclpbgomkfabaaNetU
import Derived.Test.YtbclpbgomkfabaaNetG
import Derived.RangeFuncNested
import Derived.RangeFuncBound
import Derived.RangeFuncCalls
import Derived.RangeFuncLeaves
import Derived.Shelf.Abstract
import Derived.Shelf.RegionOpen
import Derived.WalkKit
import Derived.OwnWalkIn
import Derived.TacticsInMore
import Derived.LoopNIn
import Derived.LoopIn
import Derived.Test.YtbclpbgomkfabaaImpl1
import Derived.Test.YtbclpbgomkfabaaNetS
import Derived.Laws.EntriesVeiled
import Derived.Deep.RegionHeld3
import Derived.Deep.QuietTactic
import Derived.BigQuiet
import Derived.Deep.AppendLies
import Derived.RangeFuncBox
import Derived.Test.YtbclpbgomkfabaaPartPure
import Derived.Test.YtbclpbgomkfabaaCopy
import Derived.Test.YtbclpbgomkfabaaGrid
import Derived.Test.YtbclpbgomkfabaaTabInImpl
import Derived.Test.YtbclpbgomkfabaaL2Size
import Derived.Test.YtbclpbgomkfabaaRowsF
import Derived.Test.YtbclpbgomkfabaaDet
import Derived.Test.YtbclpbgomkfabaaPartImpl
import Derived.Test.YtbclpbgomkfabaaHarn2
import Derived.Test.YtbclpbgomkfabaaNetV
import Derived.Test.YtbclpbgomkfabaaRows
import Derived.Test.YtbclpbgomkfabaaData
import Derived.ProofKit
import Derived.Deep.Matrix

section
namespace Go.Proofs.Ytbclpbgomkfabaa
open Go.RowKit Go.Deep

set_option maxHeartbeats 400000 in
theorem netIn1_any (K : ByteArray) (L V : Int) (n Bn : Nat) (hn2 : 2 ≤ n) (hn5 : n ≤ 5) (w : World) (hb : w.cell? ⟨Bn, 0, none⟩ = some (.int .i64 n)) :
    Calls Try.prog 99 #[.agg #[.string K, .int .i64 L, .int .i64 V], .pointer (some ⟨Bn, 0, none⟩)] w fun e w' => e = .returned (.bool (!chipB n ⟨K, L, V⟩)) ∧ w.Since w.heap.size w' := by
  have E := Lib.hid (fun (W : World) => isIn_any K L V n hn2 hn5 W)
  obtain ⟨d1, d2, d3⟩ := chip_box w K L V 36
  have HS := Lib.hid ((World.Since.refl w.heap.size w).alloc (Nat.le_refl _) (.cells #[.string K, .int .i64 L, .int .i64 V] 36))
  have hb' := cell_alloc_l (.cells #[.string K, .int .i64 L, .int .i64 V] 36) hb
  clear hb
  go_enter Try.func99, Try.ntmps99
  go_wp2_with (go_at_call 100; refine (E.out _).mono ?_; rintro e w1 ⟨rfl, hs1⟩; have HS1 := Lib.hid (HS.out.trans (since_mono hs1 HS.out.size)); clear hs1)
  go_ret
  exact ⟨rfl, HS1.out⟩

theorem all_no {n : Int} {cs : List RC} {i : Nat} (hi : i < cs.length) (h : chipB n (cs.getD i rc0) = false) : cs.all (chipB n) = false := by
  cases e : cs.all (chipB n) with
  | false => rfl
  | true =>
    have h1 := List.all_eq_true.1 e (cs.getD i rc0) (by
      have : cs.getD i rc0 = cs[i] := by simp [List.getD, hi]
      rw [this]; exact List.getElem_mem _)
    rw [h] at h1; cases h1
theorem all_yes {n : Int} {cs : List RC} (h : ∀ i, i < cs.length → chipB n (cs.getD i rc0) = true) : cs.all (chipB n) = true := List.all_eq_true.2 fun c hc => by
  obtain ⟨i, hi, e⟩ := List.mem_iff_getElem.1 hc
  have := h i hi
  rw [show cs.getD i rc0 = cs[i] by simp [List.getD, hi], e] at this
  exact this

def IdxPost (b : Bool) (w : World) (e : Ending) (w' : World) : Prop := ∃ z : Int, e = .returned (.int .i64 z) ∧ decide (0 ≤ z) = !b ∧ w.Since w.heap.size w'

set_option maxRecDepth 100000 in
set_option maxHeartbeats 400000 in
theorem indexF_any (a : Option Addr) (cap N n Bn : Nat) (cs : List RC) (w : World) (hN : cs.length = N) (h10 : N ≤ 10) (hn2 : 2 ≤ n) (hn5 : n ≤ 5) (hm : ChipsR w a cs) (hb : w.cell? ⟨Bn, 0, none⟩ = some (.int .i64 n)) :
    Calls Try.prog 123 #[.slice a N cap, .func (.func 99) #[] #[.pointer (some ⟨Bn, 0, none⟩)]] w (IdxPost (cs.all (chipB n)) w) := by
  have E := Lib.hid (fun (W : World) (hs : w.Since w.heap.size W) (K : ByteArray) (L V : Int) => netIn1_any K L V n Bn hn2 hn5 W ((hs.cell (World.block_lt_of_cell? _ _ hb)).trans hb))
  have HN := Lib.hid hN
  have HM := Lib.hid hm
  have HF := Lib.hid (fun (i : Nat) (hi : i < N) h => all_no (n := n) (cs := cs) (i := i) (by omega) h)
  have HT := Lib.hid (fun h => all_yes (n := (n : Int)) (cs := cs) h)
  clear hN hm hb
  go_enter Try.func123, Try.ntmps123
  go_wp2_with fail
  go_loopg [5, 8] N (fun g _ i wr => ∃ r : Nat, r ≤ N ∧ g = N - r ∧ i = .int .i64 r ∧ w.Since w.heap.size wr ∧ ∀ j, j < r → chipB n (cs.getD j rc0) = true)
  case atStart => exact ⟨0, Nat.zero_le _, rfl, rfl, World.Since.refl _ _, fun j hj => by omega⟩
  case round =>
    obtain ⟨r, hr, rfl, rfl, hS, hall⟩ := hrel
    by_cases hlt : r < N
    · obtain ⟨b, o, rfl, k1, k2, k3⟩ := HM.out.at (show r < cs.length by rw [HN.out]; exact hlt)
      have c1 := (hS.cell (World.block_lt_of_cell? _ _ k1)).trans k1
      have c2 := (hS.cell (World.block_lt_of_cell? _ _ k2)).trans k2
      have c3 := (hS.cell (World.block_lt_of_cell? _ _ k3)).trans k3
      have hf := HF.out r hlt
      have ht := fun (h : chipB n (cs.getD r rc0) = true) => show ∀ j, j < r + 1 → chipB n (cs.getD j rc0) = true from fun j hj => by
        by_cases e : j = r
        · subst e; exact h
        · exact hall j (by omega)
      obtain ⟨c, hc⟩ : ∃ c, cs.getD r rc0 = c := ⟨_, rfl⟩
      rw [hc] at c1 c2 c3 hf ht
      obtain ⟨K, L, V⟩ := c
      simp only at c1 c2 c3
      have E1 := E.out wr hS K L V
      have HS := Lib.hid hS
      have HTT := Lib.hid ht
      cases hcb : chipB n ⟨K, L, V⟩ with
      | false =>
        have HFF := Lib.hid (hf hcb)
        rw [hcb] at E1
        replace E1 := Lib.hid E1
        clear k1 k2 k3 hc hcb hf hall hS ht
        go_wp2_with (go_at_call 99; refine (E1.out).mono ?_; rintro e w1 ⟨rfl, hs1⟩; have HS1 := Lib.hid (HS.out.trans (since_mono hs1 HS.out.size)); clear hs1)
        go_ret
        exact ⟨_, rfl, by rw [HFF.out]; simp, HS1.out⟩
      | true =>
        rw [hcb] at E1
        replace E1 := Lib.hid E1
        have HTA := Lib.hid (ht hcb)
        clear k1 k2 k3 hc hcb hf hall hS ht HTT
        go_wp2_with (go_at_call 99; refine (E1.out).mono ?_; rintro e w1 ⟨rfl, hs1⟩; have HS1 := Lib.hid (HS.out.trans (since_mono hs1 HS.out.size)); clear hs1)
        go_roundg (N - (r + 1))
        case measure => omega
        case rel => exact ⟨r + 1, by omega, rfl, by go_num, HS1.out, HTA.out⟩
    · obtain rfl : r = N := by omega
      have HTA := Lib.hid (HT.out (fun i hi => hall i (by rw [HN.out] at hi; exact hi)))
      have HS := Lib.hid hS
      clear hall hS
      go_wp2_with fail
      go_ret
      exact ⟨_, rfl, by rw [HTA.out]; rfl, HS.out⟩

set_option maxHeartbeats 400000 in
theorem containsF_any (a : Option Addr) (cap N n Bn : Nat) (cs : List RC) (w : World) (hN : cs.length = N) (h10 : N ≤ 10) (hn2 : 2 ≤ n) (hn5 : n ≤ 5) (hm : ChipsR w a cs) (hb : w.cell? ⟨Bn, 0, none⟩ = some (.int .i64 n)) :
    Calls Try.prog 98 #[.slice a N cap, .func (.func 99) #[] #[.pointer (some ⟨Bn, 0, none⟩)]] w fun e w' => e = .returned (.bool (!cs.all (chipB n))) ∧ w.Since w.heap.size w' := by
  have E := Lib.hid (indexF_any a cap N n Bn cs w hN h10 hn2 hn5 hm hb)
  obtain ⟨b, hbb⟩ : ∃ b, cs.all (chipB n) = b := ⟨_, rfl⟩
  rw [hbb] at E ⊢
  clear hbb hN hm hb
  go_enter Try.func98, Try.ntmps98
  go_wp2_with (go_at_call 123; refine (E.out).mono ?_; rintro e w1 ⟨z, rfl, hz, hs1⟩; have HZ := Lib.hid hz; have HS1 := Lib.hid hs1; clear hs1 hz)
  go_ret
  exact ⟨ret_bool HZ.out, HS1.out⟩

set_option maxHeartbeats 400000 in
theorem implNetIn_any (a : Option Addr) (cap N : Nat) (n : Int) (cs : List RC) (w : World) (hN : cs.length = N) (h63 : N ≤ 9223372036854775807) (hm : ChipsR w a cs) :
    Calls Try.prog 46 #[.int .i64 n, .slice a N cap] w fun e w' => e = .returned (.bool (netB n cs)) ∧ w.Since w.heap.size w' := by
  have hv : netB n cs = (inB n 2 5 && (decide (N ≤ 10) && cs.all (chipB n))) := by unfold netB; rw [hN]
  have HS := Lib.hid ((World.Since.refl w.heap.size w).alloc (Nat.le_refl _) (.cells #[.int .i64 n] 3))
  have hbx := (cell_new_l w (.int .i64 n) 3).1
  obtain ⟨b, hbb⟩ : ∃ b, inB n 2 5 = b := ⟨_, rfl⟩
  rw [hbb] at hv
  have E := fun (W : World) => inRange_any n 2 5 W
  simp only [hbb] at E
  replace E := Lib.hid E
  cases b with
  | false =>
    rw [hv, Bool.false_and]
    clear hv hbb hN hm
    go_enter Try.func46, Try.ntmps46
    go_wp2_with (go_at_call 97; refine (E.out _).mono ?_; rintro e w' ⟨rfl, rfl⟩)
    go_ret
    exact ⟨rfl, HS.out⟩
  | true =>
    unfold inB at hbb
    have hbb := of_decide_eq_true hbb
    obtain ⟨m, rfl⟩ : ∃ m : Nat, n = m := ⟨n.toNat, by omega⟩
    rw [Bool.true_and] at hv
    by_cases h10 : N ≤ 10
    · rw [decide_eq_true h10, Bool.true_and] at hv
      have hl' : decide ((10 : Int) < (N : Int)) = false := by simp; omega
      have E2 := Lib.hid (containsF_any a cap N m w.heap.size cs (w.alloc (.cells #[.int .i64 m] 3)) hN h10 (by omega) (by omega) (hm.since ((World.Since.refl w.heap.size w).alloc (Nat.le_refl _) _)) hbx)
      obtain ⟨q, hq⟩ : ∃ q, cs.all (chipB m) = q := ⟨_, rfl⟩
      rw [hq] at hv E2
      rw [hv]
      clear hv hbb hN hm hq
      go_enter Try.func46, Try.ntmps46
      go_wp2_with (first
        | (go_at_call 97; refine (E.out _).mono ?_; rintro e w' ⟨rfl, rfl⟩)
        | (go_at_call 98; refine (E2.out).mono ?_; rintro e w1 ⟨rfl, hs1⟩; have HS1 := Lib.hid (HS.out.trans (since_mono hs1 HS.out.size)); clear hs1))
      go_ret
      exact ⟨by simp, HS1.out⟩
    · rw [decide_eq_false h10, Bool.false_and] at hv
      have hl' : decide ((10 : Int) < (N : Int)) = true := by simp; omega
      rw [hv]
      clear hv hbb hN hm
      go_enter Try.func46, Try.ntmps46
      go_wp2_with (go_at_call 97; refine (E.out _).mono ?_; rintro e w' ⟨rfl, rfl⟩)
      go_ret
      exact ⟨rfl, HS.out⟩

end Go.Proofs.Ytbclpbgomkfabaa
end

section
namespace Go.Proofs.Ytbclpbgomkfabaa
open Go.RowKit Go.Deep

noncomputable def oneL (q : Int) (cs : List RC) : List CH := (cs.map (oneC q)).map toC
theorem one_rc {q : Int} (hq : 0 ≤ q ∧ q ≤ 1) {n : Nat} {c : RC} (h : RCok c ∧ chOk n (toC c)) : RCok (oneC q c) ∧ chOk n (toC (oneC q c)) := by
  obtain ⟨⟨h1, h2, h3⟩, h4⟩ := h
  refine ⟨⟨h1, h2, ?_⟩, h4⟩
  unfold oneC
  simp only
  split <;> omega
theorem NetOk.ones {n : Nat} {cs : List RC} (h : NetOk n cs) {q : Int} (hq : 0 ≤ q ∧ q ≤ 1) : NetOk n (cs.map (oneC q)) :=
  ⟨h.lo, h.hi, by rw [List.length_map]; exact h.len, fun c hc => by
    obtain ⟨d, hd, rfl⟩ := List.mem_map.1 hc
    exact one_rc hq (h.ok d hd)⟩

noncomputable def countV (n : Int) (cs : List RC) (i k : Int) : Int := if linesB n cs i k = true then pathN (oneL 1 cs) i.toNat k.toNat else 0

def anyTo (cs : List CH) (f t : Nat) : Bool := (List.range t).any fun u => popcS f == popcS u && decide (0 < famN cs f u)
theorem anyTo_succ (cs : List CH) (f t : Nat) : anyTo cs f (t + 1) = (anyTo cs f t || (popcS f == popcS t && decide (0 < famN cs f t))) := by
  unfold anyTo
  rw [List.range_succ, List.any_append]
  simp
def mostTo (cs : List CH) (M : Nat) : Nat → Nat
  | 0 => 0
  | f + 1 => if anyTo cs f M = true then max (mostTo cs M f) (popcS f) else mostTo cs M f
theorem mostTo_le (cs : List CH) (M : Nat) : ∀ f, mostTo cs M f ≤ 6
  | 0 => by unfold mostTo; omega
  | f + 1 => by
    have h1 := mostTo_le cs M f
    have h2 : popcS f ≤ 6 := sel_length f 6 6
    unfold mostTo
    split <;> omega
def mostAt (cs : List CH) (M f t : Nat) : Nat := if anyTo cs f t = true then max (mostTo cs M f) (popcS f) else mostTo cs M f
theorem mostAt_zero (cs : List CH) (M f : Nat) : mostAt cs M f 0 = mostTo cs M f := by
  unfold mostAt anyTo
  rw [if_neg (by simp)]
theorem mostAt_all (cs : List CH) (M f : Nat) : mostAt cs M f M = mostTo cs M (f + 1) := rfl
theorem mostAt_yes {cs : List CH} {M f t : Nat} (h1 : popcS f = popcS t) (h2 : mostAt cs M f t < popcS f) (h3 : 0 < famN cs f t) : mostAt cs M f (t + 1) = popcS f := by
  have hy : anyTo cs f (t + 1) = true := by rw [anyTo_succ, decide_eq_true h3, beq_iff_eq.2 h1]; simp
  unfold mostAt at h2 ⊢
  rw [if_pos hy]
  split at h2 <;> omega
theorem mostAt_no {cs : List CH} {M f t : Nat} (h : ¬ (popcS f = popcS t ∧ mostAt cs M f t < popcS f ∧ 0 < famN cs f t)) : mostAt cs M f (t + 1) = mostAt cs M f t := by
  unfold mostAt at h ⊢
  rw [anyTo_succ]
  by_cases hy : anyTo cs f t = true
  · rw [hy, Bool.true_or]
  · rw [if_neg hy] at h ⊢
    by_cases h1 : popcS f = popcS t
    · by_cases h3 : 0 < famN cs f t
      · have h2 : ¬ mostTo cs M f < popcS f := fun h2 => h ⟨h1, h2, h3⟩
        split <;> omega
      · rw [decide_eq_false h3, Bool.and_false, Bool.or_false, if_neg hy]
    · rw [show (popcS f == popcS t) = false by simpa using h1, Bool.false_and, Bool.or_false, if_neg hy]
theorem mostAt_le (cs : List CH) (M f t : Nat) : mostAt cs M f t ≤ 6 := by
  have h1 := mostTo_le cs M f
  have h2 : popcS f ≤ 6 := sel_length f 6 6
  unfold mostAt
  split <;> omega
noncomputable def mostV (n : Int) (cs : List RC) : Int := if netB n cs = true then (mostTo (oneL 0 cs) (2 ^ n.toNat) (2 ^ n.toNat) : Nat) else 0

set_option maxRecDepth 100000 in
set_option maxHeartbeats 1000000 in
theorem specNetMost_any (a : Option Addr) (cap N : Nat) (n : Int) (cs : List RC) (w : World) (hN : cs.length = N) (h63 : N ≤ 9223372036854775807) (hm : ChipsR w a cs) :
    Calls Try.prog 24 #[.int .i64 n, .slice a N cap] w fun e w' => e = .returned (.tuple #[.int .i64 (mostV n cs), .bool (netB n cs)]) ∧ w.Since w.heap.size w' := by
  have E := specNetIn_any a cap N n cs w hN h63 hm
  unfold mostV
  cases hb : netB n cs with
  | false =>
    rw [if_neg (by simp)]
    rw [hb] at E
    replace E := Lib.hid E
    clear hb hm hN
    go_enter Try.func24, Try.ntmps24
    go_wp2_with (go_at_call 60; refine (E.out).mono ?_; rintro e w1 ⟨rfl, hs1⟩; have HS1 := Lib.hid hs1; clear hs1)
    go_ret2
    exact ⟨rfl, HS1.out⟩
  | true =>
    rw [if_pos rfl]
    obtain ⟨m, rfl, ho⟩ := netB_ok hb
    rw [hb] at E
    replace E := Lib.hid E
    have hm5 := ho.hi
    have h10 := ho.len
    rw [hN] at h10
    have ho0 := ho.ones (q := 0) (by omega)
    obtain ⟨⟨p1, p2⟩, p3, p4, p5⟩ := p5_fin ⟨m, by omega⟩
    simp only at p1 p2 p3 p4 p5
    rw [Int.toNat_natCast]
    obtain ⟨M, hM⟩ : ∃ M : Nat, 2 ^ m = M := ⟨_, rfl⟩
    rw [hM] at p1 p2 p4 p5 ⊢
    have E1 := Lib.hid (fun (W : World) (hs : w.Since w.heap.size W) => l6cOnes_any a cap N 0 cs W hN h10 (hm.since hs))
    have E2 := Lib.hid (fun (W : World) (a' : Option Addr) (cap' s t : Nat) (h1 : N ≤ cap') (h2 : cap' ≤ 9223372036854775807) (hs : s ≤ 31) (hm : ChipsR W a' (cs.map (oneC 0))) => l6cFamilies_any (cs.map (oneC 0)) a' N cap' s t W (by rw [List.length_map]; exact hN) h10 h1 h2 ho0.five hs hm)
    have hD : oneL 0 cs = (cs.map (oneC 0)).map toC := rfl
    rw [← hD] at E2
    have hfb := fun (s t : Nat) => fam_bd (oneL 0 cs) (fun d hd => by
      obtain ⟨e, he, rfl⟩ := List.mem_map.1 hd
      exact (ho0.rc e he).2.2) s t
    have hp10 : p10 (oneL 0 cs).length ≤ 10000000000 := p10_le (by unfold oneL; rw [List.length_map, List.length_map]; omega)
    obtain ⟨D, hDD⟩ : ∃ D, oneL 0 cs = D := ⟨_, rfl⟩
    rw [hDD] at E2 hfb hp10 ⊢
    have HFB := Lib.hid hfb
    have HP := Lib.hid hp10
    have HCH := Lib.hid (show ∀ (W : World) (a' : Option Addr), (∃ V : World, ChipsR V a' (cs.map (oneC 0)) ∧ V.Since V.heap.size W) → ChipsR W a' (cs.map (oneC 0)) from fun W a' ⟨V, h1, h2⟩ => h1.since h2)
    clear hb hm hN hM h10 ho0 p3 hD hDD hfb hp10 ho
    go_enter Try.func24, Try.ntmps24
    go_wp2_with (first
      | (go_at_call 60; refine (E.out).mono ?_; rintro e w1 ⟨rfl, hs1⟩; have HS1 := Lib.hid hs1; clear hs1)
      | (go_at_call 71; refine (E1.out _ HS1.out).mono ?_; rintro e w2 ⟨a2, c2, rfl, hs2, ho2, hc2, hc63⟩; have HS2 := Lib.hid (HS1.out.trans (since_mono hs2 HS1.out.size)); have HO2 := Lib.hid ho2.chips; clear hs2 ho2))
    go_loopg [6, 8, 9] M (fun g v i _ wr => ∃ f : Nat, f ≤ M ∧ g = M - f ∧ i = .int .i64 f ∧ v = .int .i64 (mostTo D M f : Nat) ∧ w.Since w.heap.size wr ∧ ChipsR wr a2 (cs.map (oneC 0)))
    case atStart => exact ⟨0, Nat.zero_le _, rfl, rfl, rfl, HS2.out, HO2.out⟩
    case round =>
      obtain ⟨f, hf, rfl, rfl, rfl, hS, hC⟩ := hrel
      by_cases hlt : f < M
      · have EP := Lib.hid (fun (W : World) => l2Size_any f (by omega) W)
        have hz := mostAt_zero D M f
        have hall := mostAt_all D M f
        have hpf : popcS f ≤ 6 := sel_length f 6 6
        have HZ := Lib.hid hz
        have HALL := Lib.hid hall
        have HS := Lib.hid hS
        have HC := Lib.hid hC
        clear hz hall hS hC
        go_wp2_with fail
        go_loopg [6, 9] M (fun g v i wi => ∃ t : Nat, t ≤ M ∧ g = M - t ∧ i = .int .i64 t ∧ v = .int .i64 (mostAt D M f t : Nat) ∧ w.Since w.heap.size wi ∧ ChipsR wi a2 (cs.map (oneC 0)))
        case atStart => exact ⟨0, Nat.zero_le _, rfl, rfl, by rw [HZ.out], HS.out, HC.out⟩
        case round =>
          obtain ⟨t, ht, rfl, rfl, rfl, hS2, hC2⟩ := hrel
          by_cases hlt2 : t < M
          · have EQ := Lib.hid (fun (W : World) => l2Size_any t (by omega) W)
            have hpt : popcS t ≤ 6 := sel_length t 6 6
            have hma := mostAt_le D M f t
            have EF := Lib.hid (E2.out wr a2 c2 f t hc2 hc63 (by omega) hC2)
            have hyes := fun h1 h2 h3 => mostAt_yes (cs := D) (M := M) (f := f) (t := t) h1 h2 h3
            have hno := fun h => mostAt_no (cs := D) (M := M) (f := f) (t := t) h
            have hfb := HFB.out f t
            obtain ⟨P, hP⟩ : ∃ P, famN D f t = P := ⟨_, rfl⟩
            obtain ⟨A, hA⟩ : ∃ A, popcS f = A := ⟨_, rfl⟩
            obtain ⟨B, hB⟩ : ∃ B, popcS t = B := ⟨_, rfl⟩
            obtain ⟨Z, hZ⟩ : ∃ Z, mostAt D M f t = Z := ⟨_, rfl⟩
            rw [hP] at EF hyes hno hfb
            rw [hA] at EP hyes hno hpf
            rw [hB] at EQ hyes hno hpt
            rw [hZ] at hyes hno hma ⊢
            have HY := Lib.hid hyes
            have HNO := Lib.hid hno
            have HS2 := Lib.hid hS2
            have HC2 := Lib.hid hC2
            clear hyes hno hP hA hB hZ hS2 hC2 hfb HFB HP
            by_cases g1 : A = B
            · subst g1
              by_cases g2 : Z < A
              · have g2' : decide ((Z : Int) < (A : Int)) = true := by simpa using g2
                by_cases g3 : 0 < P
                · have g3' : decide (0 < P) = true := by simpa using g3
                  have HR := Lib.hid (HY.out rfl g2 g3)
                  go_wp2_with (first
                    | (go_at_call 59; ((with_reducible refine (EP.out _).mono ?_); rintro e w2 ⟨rfl, rfl⟩))
                    | (go_at_call 59; ((with_reducible refine (EQ.out _).mono ?_); rintro e w2 ⟨rfl, rfl⟩))
                    | (go_at_call 62; refine (EF.out).mono ?_; rintro e w4 ⟨rfl, hs4⟩; have H4 := Lib.hid (And.intro (HS2.out.trans (since_mono hs4 HS2.out.size)) (HC2.out.since hs4)); clear hs4))
                  go_roundg (M - (t + 1))
                  case measure => omega
                  case rel => exact ⟨t + 1, by omega, rfl, by go_num, by rw [HR.out], H4.out.1, H4.out.2⟩
                · have g3' : decide (0 < P) = false := by simpa using g3
                  have HR := Lib.hid (HNO.out (fun h => g3 h.2.2))
                  go_wp2_with (first
                    | (go_at_call 59; ((with_reducible refine (EP.out _).mono ?_); rintro e w2 ⟨rfl, rfl⟩))
                    | (go_at_call 59; ((with_reducible refine (EQ.out _).mono ?_); rintro e w2 ⟨rfl, rfl⟩))
                    | (go_at_call 62; refine (EF.out).mono ?_; rintro e w4 ⟨rfl, hs4⟩; have H4 := Lib.hid (And.intro (HS2.out.trans (since_mono hs4 HS2.out.size)) (HC2.out.since hs4)); clear hs4))
                  go_roundg (M - (t + 1))
                  case measure => omega
                  case rel => exact ⟨t + 1, by omega, rfl, by go_num, by rw [HR.out], H4.out.1, H4.out.2⟩
              · have g2' : decide ((Z : Int) < (A : Int)) = false := by simpa using g2
                have HR := Lib.hid (HNO.out (fun h => g2 h.2.1))
                go_wp2_with (first
                  | (go_at_call 59; ((with_reducible refine (EP.out _).mono ?_); rintro e w2 ⟨rfl, rfl⟩))
                  | (go_at_call 59; ((with_reducible refine (EQ.out _).mono ?_); rintro e w2 ⟨rfl, rfl⟩)))
                go_roundg (M - (t + 1))
                case measure => omega
                case rel => exact ⟨t + 1, by omega, rfl, by go_num, by rw [HR.out], HS2.out, HC2.out⟩
            · have g1' : ((A : Int) == (B : Int)) = false := by simp; omega
              have g1'' : (A == B) = false := by simpa using g1
              have HR := Lib.hid (HNO.out (fun h => g1 h.1))
              go_wp2_with (first
                | (go_at_call 59; ((with_reducible refine (EP.out _).mono ?_); rintro e w2 ⟨rfl, rfl⟩))
                | (go_at_call 59; ((with_reducible refine (EQ.out _).mono ?_); rintro e w2 ⟨rfl, rfl⟩)))
              go_roundg (M - (t + 1))
              case measure => omega
              case rel => exact ⟨t + 1, by omega, rfl, by go_num, by rw [HR.out], HS2.out, HC2.out⟩
          · obtain rfl : t = M := by omega
            have HS3 := Lib.hid (And.intro hS2 hC2)
            clear hS2 hC2
            go_wp2_with fail
            go_roundg (t - (f + 1))
            case measure => omega
            case rel => exact ⟨f + 1, by omega, rfl, by go_num, by rw [← HALL.out], HS3.out.1, HS3.out.2⟩
      · obtain rfl : f = M := by omega
        have HS3 := Lib.hid hS
        clear hS hC
        go_wp2_with fail
        go_ret2
        exact ⟨rfl, HS3.out⟩

end Go.Proofs.Ytbclpbgomkfabaa
end

section
namespace Go.Proofs.Ytbclpbgomkfabaa
open Go.RowKit Go.Deep

set_option maxHeartbeats 400000 in
theorem isLine_any (i : Int) (n : Nat) (hn : 2 ≤ n ∧ n ≤ 5) (w : World) :
    Calls Try.prog 47 #[.int .i64 i, .int .i64 n] w fun e w' => e = .returned (.bool (inB i 0 ((n : Int) - 1))) ∧ w = w' := by
  have hw : IntKind.i64.wrap ((n : Int) - 1) = (n : Int) - 1 := IntWalk.i64_in _ ⟨by omega, by omega⟩
  have E := Lib.hid (inRange_any i 0 ((n : Int) - 1) w)
  go_enter Try.func47, Try.ntmps47
  go_wp2_with (go_at_call 97; refine (E.out).mono ?_; rintro e w' ⟨rfl, rfl⟩)
  go_ret
  exact ⟨rfl, rfl⟩

set_option maxHeartbeats 400000 in
theorem implNetPaths_any (a : Option Addr) (cap N : Nat) (n i k : Int) (cs : List RC) (w : World) (hN : cs.length = N) (h63 : N ≤ 9223372036854775807) (hm : ChipsR w a cs) :
    Calls Try.prog 13 #[.int .i64 n, .slice a N cap, .int .i64 i, .int .i64 k] w fun e w' => e = .returned (.tuple #[.int .i64 (pathsV n cs i k), .bool (linesB n cs i k)]) ∧ w.Since w.heap.size w' := by
  have E := implNetIn_any a cap N n cs w hN h63 hm
  cases hb : netB n cs with
  | false =>
    have hl : linesB n cs i k = false := by unfold linesB; rw [hb, Bool.false_and]
    unfold pathsV
    rw [hl, if_neg (by simp)]
    rw [hb] at E
    replace E := Lib.hid E
    clear hb hm hN hl
    go_enter Try.func13, Try.ntmps13
    go_wp2_with (go_at_call 46; refine (E.out).mono ?_; rintro e w1 ⟨rfl, hs1⟩; have HS1 := Lib.hid hs1; clear hs1)
    go_ret2
    exact ⟨rfl, HS1.out⟩
  | true =>
    obtain ⟨m, rfl, ho⟩ := netB_ok hb
    rw [hb] at E
    replace E := Lib.hid E
    have hn2 := ho.lo
    have hn5 := ho.hi
    have hlb : linesB m cs i k = (inB i 0 ((m : Int) - 1) && inB k 0 ((m : Int) - 1)) := by unfold linesB; rw [hb, Bool.true_and]
    have E1 := fun (W : World) => isLine_any i m ⟨hn2, hn5⟩ W
    have E2 := fun (W : World) => isLine_any k m ⟨hn2, hn5⟩ W
    obtain ⟨b1, hb1⟩ : ∃ b, inB i 0 ((m : Int) - 1) = b := ⟨_, rfl⟩
    obtain ⟨b2, hb2⟩ : ∃ b, inB k 0 ((m : Int) - 1) = b := ⟨_, rfl⟩
    simp only [hb1] at E1
    simp only [hb2] at E2
    rw [hb1, hb2] at hlb
    replace E1 := Lib.hid E1
    replace E2 := Lib.hid E2
    by_cases hbb : b1 = true ∧ b2 = true
    · obtain ⟨rfl, rfl⟩ := hbb
      obtain ⟨_, j, l, hq, _, ⟨rfl, hj⟩, rfl, hl⟩ := lines_ok (hlb.trans rfl)
      obtain rfl := Int.ofNat.inj hq
      have hv : pathsV m cs j l = pathN (cs.map toC) j l := by unfold pathsV; rw [hlb]; rfl
      have E3 := Lib.hid (fun (W : World) (hs : w.Since w.heap.size W) => pathSum_any a cap N m j l cs W hN ho (hm.since hs) hj hl)
      rw [hv, hlb]
      obtain ⟨P, hP⟩ : ∃ P, pathN (cs.map toC) j l = P := ⟨_, rfl⟩
      rw [hP] at E3 ⊢
      clear hb hm hN hP hlb hv ho hb1 hb2
      go_enter Try.func13, Try.ntmps13
      go_wp2_with (first
        | (go_at_call 46; refine (E.out).mono ?_; rintro e w1 ⟨rfl, hs1⟩; have HS1 := Lib.hid hs1; clear hs1)
        | (go_at_call 47; ((with_reducible refine (E1.out _).mono ?_); rintro e w2 ⟨rfl, rfl⟩))
        | (go_at_call 47; ((with_reducible refine (E2.out _).mono ?_); rintro e w2 ⟨rfl, rfl⟩))
        | (go_at_call 48; refine (E3.out _ HS1.out).mono ?_; rintro e w3 ⟨rfl, hs3⟩; have HS3 := Lib.hid (HS1.out.trans (since_mono hs3 HS1.out.size)); clear hs3))
      go_ret2
      exact ⟨rfl, HS3.out⟩
    · have hlf : linesB m cs i k = false := by rw [hlb]; cases b1 <;> cases b2 <;> simp at hbb ⊢
      unfold pathsV
      rw [hlf, if_neg (by simp)]
      clear hb hm hN hlb hlf ho hb1 hb2
      cases b1 <;> cases b2
      case true.true => exact absurd ⟨rfl, rfl⟩ hbb
      all_goals
        clear hbb
        go_enter Try.func13, Try.ntmps13
        go_wp2_with (first
          | (go_at_call 46; refine (E.out).mono ?_; rintro e w1 ⟨rfl, hs1⟩; have HS1 := Lib.hid hs1; clear hs1)
          | (go_at_call 47; ((with_reducible refine (E1.out _).mono ?_); rintro e w2 ⟨rfl, rfl⟩))
          | (go_at_call 47; ((with_reducible refine (E2.out _).mono ?_); rintro e w2 ⟨rfl, rfl⟩)))
        go_ret2
        exact ⟨rfl, HS1.out⟩

def ones1 (cs : List RC) (r : Nat) : List RC := (cs.take r).map (fun c => ⟨c.k, c.l, 1⟩) ++ cs.drop r
theorem ones1_get {cs : List RC} {r i : Nat} (hi : i < cs.length) : (ones1 cs r).getD i rc0 = if i < r then ⟨(cs.getD i rc0).k, (cs.getD i rc0).l, 1⟩ else cs.getD i rc0 := by
  unfold ones1
  by_cases h : i < r
  · rw [if_pos h]
    have : i < ((cs.take r).map (fun c => (⟨c.k, c.l, 1⟩ : RC))).length := by rw [List.length_map, List.length_take]; omega
    simp only [List.getD, List.getElem?_append_left this]
    simp [h, hi]
  · rw [if_neg h]
    have : ((cs.take r).map (fun c => (⟨c.k, c.l, 1⟩ : RC))).length = r ∨ cs.length ≤ r := by rw [List.length_map, List.length_take]; omega
    rcases this with h2 | h2
    · simp only [List.getD]
      rw [List.getElem?_append_right (by omega), h2, List.getElem?_drop, show r + (i - r) = i by omega]
    · omega
theorem ones1_zero (cs : List RC) : ones1 cs 0 = cs := by simp [ones1]
theorem ones1_len (cs : List RC) (r : Nat) : (ones1 cs r).length = cs.length := by unfold ones1; simp; omega
theorem OwnC.one {lo hi : Nat} {w : World} {a : Option Addr} {cs : List RC} {r : Nat} (h : OwnC lo hi w a (ones1 cs r)) (hr : r < cs.length) : ∃ g, a = some ⟨g, 0, none⟩ ∧ (lo ≤ g ∧ g < hi) ∧ w.cell? ⟨g, r * 3 + 2, none⟩ = some (.int .i64 (cs.getD r rc0).w) ∧ w.frozen? ⟨g, r * 3 + 2, none⟩ = false ∧
    OwnC lo hi (w.setCell ⟨g, r * 3 + 2, none⟩ (.int .i64 1)) a (ones1 cs (r + 1)) := by
  obtain ⟨g, e, hg, hc⟩ := h (by rw [ones1_len]; omega)
  rw [ones1_len] at hc
  obtain ⟨⟨c1, c2, c3⟩, f1, f2, f3⟩ := hc r hr
  rw [ones1_get hr, if_neg (by omega)] at c3
  refine ⟨g, e, hg, c3, f3, fun _ => ⟨g, e, hg, fun i hi => ?_⟩⟩
  rw [ones1_len] at hi
  obtain ⟨⟨k1, k2, k3⟩, m1, m2, m3⟩ := hc i hi
  rw [ones1_get hi] at k1 k2 k3 ⊢
  have hne : ∀ q, q ≠ r * 3 + 2 → (w.setCell ⟨g, r * 3 + 2, none⟩ (.int .i64 1)).cell? ⟨g, q, none⟩ = w.cell? ⟨g, q, none⟩ := fun q hq => World.cell?_setCell_other _ _ _ _ (fun e => hq (by injection e with _ e2; exact e2.symm))
  refine ⟨⟨?_, ?_, ?_⟩, by rw [World.frozen?_setCell]; exact m1, by rw [World.frozen?_setCell]; exact m2, by rw [World.frozen?_setCell]; exact m3⟩
  · rw [hne _ (by omega), k1]
    split <;> split <;> first | rfl | omega
  · rw [hne _ (by omega), k2]
    split <;> split <;> first | rfl | omega
  · by_cases e : i = r
    · subst e
      rw [World.cell?_setCell_same' _ _ _ (by rw [c3]; rfl), if_pos (by omega)]
    · rw [hne _ (by omega), k3]
      split <;> split <;> first | rfl | omega

end Go.Proofs.Ytbclpbgomkfabaa
end

section
namespace Go.Proofs.Ytbclpbgomkfabaa

def famL : List CH → Nat → Int → List (Nat × Int)
  | [], s, x => [(s, x)]
  | c :: cs, s, x => if c.1 = 2 then (if s.testBit c.2.1 = true then famL cs s (x * c.2.2) else famL cs s x)
    else if s.testBit (cFrom c) = true ∧ s.testBit (cTo c) = false then famL cs (s ^^^ 2 ^ cFrom c ^^^ 2 ^ cTo c) (x * c.2.2) ++ famL cs s x else famL cs s x
def twoP : Nat → Nat
  | 0 => 1
  | k + 1 => 2 * twoP k
theorem twoP_le {k : Nat} (h : k ≤ 10) : twoP k ≤ 1024 := by
  have : ∀ j : Fin 11, twoP j.val ≤ 1024 := by decide
  exact this ⟨k, by omega⟩
theorem twoP_pos : ∀ k, 1 ≤ twoP k
  | 0 => by decide
  | k + 1 => by have := twoP_pos k; show 1 ≤ 2 * twoP k; omega
theorem famL_len : ∀ (cs : List CH) (s : Nat) (x : Int), (famL cs s x).length ≤ twoP cs.length
  | [], s, x => by simp [famL, twoP]
  | c :: cs, s, x => by
    have h1 := famL_len cs s x
    have h2 := famL_len cs s (x * c.2.2)
    have h3 := famL_len cs (s ^^^ 2 ^ cFrom c ^^^ 2 ^ cTo c) (x * c.2.2)
    have e : twoP (c :: cs).length = 2 * twoP cs.length := rfl
    rw [e]
    unfold famL
    split
    · split <;> omega
    · split
      · rw [List.length_append]; omega
      · omega
def sumTo2 (t : Nat) (l : List (Nat × Int)) : Int := l.foldl (fun a y => if y.1 = t then a + y.2 else a) 0
theorem foldl_add (t : Nat) : ∀ (l : List (Nat × Int)) (a : Int), l.foldl (fun a y => if y.1 = t then a + y.2 else a) a = a + l.foldl (fun a y => if y.1 = t then a + y.2 else a) 0
  | [], a => by simp
  | y :: l, a => by
    simp only [List.foldl_cons]
    rw [foldl_add t l (if y.1 = t then a + y.2 else a), foldl_add t l (if y.1 = t then 0 + y.2 else 0)]
    split <;> omega
theorem sumTo2_app (t : Nat) (l m : List (Nat × Int)) : sumTo2 t (l ++ m) = sumTo2 t l + sumTo2 t m := by
  unfold sumTo2
  rw [List.foldl_append, foldl_add t m]
theorem famL_sum (t : Nat) : ∀ (cs : List CH) (s : Nat) (x : Int), sumTo2 t (famL cs s x) = x * famN cs s t
  | [], s, x => by
    unfold famL famN sumTo2
    by_cases e : s = t <;> simp [e]
  | c :: cs, s, x => by
    unfold famL famN
    split
    · split
      · rw [famL_sum t cs s, Int.mul_assoc]
      · exact famL_sum t cs s x
    · split
      · rw [sumTo2_app, famL_sum t cs, famL_sum t cs, Int.mul_add, Int.mul_assoc]; omega
      · rw [Int.add_zero]; exact famL_sum t cs s x
def nineP : Nat → Int
  | 0 => 1
  | k + 1 => 9 * nineP k
theorem nineP_pos : ∀ k, 1 ≤ nineP k
  | 0 => by decide
  | k + 1 => by have := nineP_pos k; show 1 ≤ 9 * nineP k; omega
theorem nineP_le {k : Nat} (h : k ≤ 10) : nineP k ≤ 10000000000 := by
  have : ∀ j : Fin 11, nineP j.val ≤ 10000000000 := by decide
  exact this ⟨k, by omega⟩
theorem famL_mem : ∀ (cs : List CH) (s : Nat) (x : Int) (y : Nat × Int), (∀ c ∈ cs, -9 ≤ c.2.2 ∧ c.2.2 ≤ 9) → y ∈ famL cs s x → ∀ B : Int, 0 ≤ B → -B ≤ x → x ≤ B → -(nineP cs.length * B) ≤ y.2 ∧ y.2 ≤ nineP cs.length * B
  | [], s, x, y, _, hy, B, h0, h1, h2 => by
    unfold famL at hy
    simp at hy
    subst hy
    simp [nineP, h1, h2]
  | c :: cs, s, x, y, hc, hy, B, h0, h1, h2 => by
    have hcc := hc c (by simp)
    have hc' : ∀ d ∈ cs, -9 ≤ d.2.2 ∧ d.2.2 ≤ 9 := fun d hd => hc d (by simp [hd])
    have hm : -(9 * B) ≤ x * c.2.2 ∧ x * c.2.2 ≤ 9 * B := by
      rw [Int.mul_comm x c.2.2]
      exact mul_bd9 hcc.1 hcc.2 h1 h2
    have e : nineP (c :: cs).length * B = nineP cs.length * (9 * B) := by
      show 9 * nineP cs.length * B = _
      rw [Int.mul_comm 9, Int.mul_assoc]
    have hp := nineP_pos cs.length
    have hq : nineP cs.length * B ≤ nineP cs.length * (9 * B) := Int.mul_le_mul_of_nonneg_left (by omega) (by omega)
    rw [e]
    have A1 := fun (h : y ∈ famL cs s (x * c.2.2)) => famL_mem cs s _ y hc' h (9 * B) (by omega) hm.1 hm.2
    have A2 := fun (h : y ∈ famL cs s x) => famL_mem cs s _ y hc' h B h0 h1 h2
    have A3 := fun (h : y ∈ famL cs (s ^^^ 2 ^ cFrom c ^^^ 2 ^ cTo c) (x * c.2.2)) => famL_mem cs _ _ y hc' h (9 * B) (by omega) hm.1 hm.2
    unfold famL at hy
    split at hy
    · split at hy
      · exact A1 hy
      · have := A2 hy; omega
    · split at hy
      · rcases List.mem_append.1 hy with hy | hy
        · exact A3 hy
        · have := A2 hy; omega
      · have := A2 hy; omega
theorem sumTo2_bd (t : Nat) {B : Int} (hB : 0 ≤ B) : ∀ (l : List (Nat × Int)), (∀ y ∈ l, -B ≤ y.2 ∧ y.2 ≤ B) → -(B * l.length) ≤ sumTo2 t l ∧ sumTo2 t l ≤ B * l.length
  | [], _ => by simp [sumTo2]
  | y :: l, h => by
    have h1 := sumTo2_bd t hB l (fun z hz => h z (by simp [hz]))
    have h2 := h y (by simp)
    have e : sumTo2 t (y :: l) = (if y.1 = t then y.2 else 0) + sumTo2 t l := by
      unfold sumTo2
      rw [List.foldl_cons, foldl_add]
      split <;> omega
    rw [e, List.length_cons]
    have e2 : B * ((l.length + 1 : Nat) : Int) = B * l.length + B := by rw [Int.natCast_add, Int.mul_add]; omega
    rw [e2]
    split <;> omega

end Go.Proofs.Ytbclpbgomkfabaa
end

section
namespace Go.Proofs.Ytbclpbgomkfabaa
open Go.RowKit Go.Deep Go.Shelf

def FromB {β : Type} (B : Nat) (J : β → World → Prop) : Prop := ∀ s W W' row, J s W → W.grownBy W' row → (∀ r, row = some r → B ≤ r) → J s W'
theorem FromB.and {β : Type} {B : Nat} {I J : β → World → Prop} (h : FromB B I) (k : FromB B J) : FromB B (fun s W => I s W ∧ J s W) := fun s W W' row hs hg hr => ⟨h s W W' row hs.1 hg hr, k s W W' row hs.2 hg hr⟩
theorem FromB.alloc {β : Type} {B : Nat} {J : β → World → Prop} (h : FromB B J) {s : β} {W : World} (o : Obj) (hs : J s W) : J s (W.alloc o) := h s W _ none hs (World.grownBy_alloc W o none) (fun r e => by cases e)
theorem FromB.put {β : Type} {B : Nat} {J : β → World → Prop} (h : FromB B J) {s : β} {W : World} {l : Nat} (o : Obj) (hs : J s W) (hl : B ≤ l) : J s (W.putObj l o) := h s W _ (some l) hs (grownBy_putObj' W l o) (fun r e => by cases e; exact hl)

structure Keeps (own : Nat → Prop) (W W' : World) : Prop where
  size : W.heap.size ≤ W'.heap.size
  same : ∀ k o, ¬ own k → W.heap[k]? = some o → W'.heap[k]? = some o
theorem Keeps.refl (own : Nat → Prop) (W : World) : Keeps own W W := ⟨Nat.le_refl _, fun _ _ _ h => h⟩
theorem Keeps.trans {own : Nat → Prop} {A B C : World} (h : Keeps own A B) (k : Keeps own B C) : Keeps own A C := ⟨Nat.le_trans h.size k.size, fun i o hi ho => k.same i o hi (h.same i o hi ho)⟩
theorem Keeps.mono {own own' : Nat → Prop} {A B : World} (h : Keeps own A B) (hw : ∀ k, own k → own' k) : Keeps own' A B := ⟨h.size, fun k o hk ho => h.same k o (fun h => hk (hw k h)) ho⟩
theorem Keeps.grown {own : Nat → Prop} {A B : World} {row : Option Nat} (h : A.grownBy B row) (hr : ∀ r, row = some r → own r) : Keeps own A B :=
  ⟨h.size, fun k _ hk ho => (h.block k (Array.getElem?_eq_some_iff.1 ho).1 (fun e => hk (hr k e.symm))).trans ho⟩
theorem Keeps.cell {own : Nat → Prop} {A B : World} (h : Keeps own A B) {a : Addr} {v : Value} (ha : ¬ own a.block) (hc : A.cell? a = some v) : B.cell? a = some v := by
  obtain ⟨o, ho, _⟩ := cells_of_cell hc
  have := h.same _ _ ha ho
  unfold World.cell? at hc ⊢
  rw [ho] at hc
  rw [this]
  exact hc

def SeqC {α : Type} (F : Fence) (n : Nat) (P : Program) (g : Nat) (lb : Array Value) (encs : α → Array Value) (Px : α → World → Prop) (need : Nat → Prop) (S : List α → Prop) (N : Nat) (w : World) : Prop :=
  ∀ (l : Nat) (J : List α → World → Prop) (own : Nat → Prop) (W : World), Below w.heap.size w W → (∀ k, own k → k < W.heap.size ∧ ¬ need k) → FromB W.heap.size J →
    (∀ pre x W1, J pre W1 → Px x W1 → pre.length < N → YieldAt F (n - 1) P l (encs x) W1 fun e W' => e = .returned (.bool true) ∧ J (pre ++ [x]) W' ∧ Keeps own W1 W') →
    J [] W →
    CallsIn F n P g (#[.func (.yield l) #[] #[]] ++ lb) W fun e W' => (∃ v, e = .returned v) ∧ ∃ xs, S xs ∧ J xs W'

def roundC {α : Type} (own : Nat → Prop) (I : List α → World → Prop) (xs : List α) (W : World) : Exit → Act → World → Prop
  | .normal, _, W' => Keeps own W W' ∧ I xs W'
  | _, _, _ => False

theorem Keeps.put (own : Nat → Prop) (W : World) {l : Nat} (o : Obj) (hl : own l) : Keeps own W (W.putObj l o) := Keeps.grown (grownBy_putObj' W l o) (fun r e => by cases e; exact hl)

set_option maxHeartbeats 1000000 in
theorem rangeC {F : Fence} {n : Nat} {P : Program} {w : World} {α : Type} {g : Operand} {ps : Array Tmp} {assign body : Code} {Q : Exit → Act → World → Prop} {a : Act}
    (hro : F.round = none) (h1 : 1 ≤ n) {gf : Nat} {lb : Array Value} (hg : a.eval g = .func (.func gf) #[] lb) (hFg : F.fn gf) (eg : ∀ args w, (callFunc gf args).run P w = .ok (.enter gf args) w)
    {encs : α → Array Value} {Px : α → World → Prop} {need : Nat → Prop} {S : List α → Prop} {N : Nat} (hseq : SeqC F (n - 1) P gf lb encs Px need S N w) (hps : ∀ x, (encs x).size = ps.size)
    (hPx : ∀ x W l o o', Px x W → W.heap[l]? = some o → o.isCells = false → Px x (W.putObj l o'))
    (own : Nat → Prop) (hown : ∀ k, own k → k < w.heap.size ∧ ¬ need k) (hneed : ∀ k, need k → k < w.heap.size)
    (I : List α → World → Prop) (hI : FromB w.heap.size I) (h0 : I [] w) (a₁ : α → Act)
    (hassign : ∀ (l : Nat) (x : α) (W : World) (K : Act → World → Prop), K (a₁ x) W →
      assign.wpIn (F.inRound l) (n - 1 - 1) P (Exit.then K (fun _ _ _ => False)) { tmps := (ps.zip (encs x)).foldl (fun t (p, v) => t.setIfInBounds p v) a.tmps, defers := [] } W)
    (hbody : ∀ (l : Nat) (pre : List α) (x : α) (W : World), w.heap.size ≤ l → I pre W → Px x W → pre.length < N → body.wpIn (F.inRound l) (n - 1 - 1) P (roundC own I (pre ++ [x]) W) (a₁ x) W)
    (hdone : ∀ (D : Nat) (xs : List α) (W : World), w.heap.size ≤ D → S xs → I xs W → W.heap[D]? = some (.deferred (some [])) → Q .normal { a with defers := { target := .collected D, args := #[] } :: a.defers } W) :
    (Code.rangeFunc g ps assign body).wpIn F n P Q a w := by
  refine wpIn_rangeFunc fun fn hfn => ?_
  rw [hro]
  -- the two blocks of the loop: w.heap.size for deferred calls, L for its record
  obtain ⟨L, hL⟩ : ∃ L, L = w.heap.size + 1 := ⟨_, rfl⟩
  let R : LoopState → Option Code → Obj := fun st pe => .loop { state := st, pending := pe, fn := fn, tmps := a.tmps, params := ps, assign := assign, body := body, defers := w.heap.size }
  obtain ⟨V, hV⟩ : ∃ V, V = (w.alloc (.deferred (some []))).alloc (R .ready none) := ⟨_, rfl⟩
  have sV : V.heap.size = L + 1 := by rw [hV, hL]; simp
  have lV : V.heap[L]? = some (R .ready none) := by
    have := World.alloc_heap_new (w.alloc (.deferred (some []))) (R .ready none)
    rw [World.size_alloc] at this
    rw [hV, hL]; exact this
  have dV : V.heap[w.heap.size]? = some (.deferred (some [])) := by
    rw [hV]; exact (Below.heap_alloc _ _ _ (by simp)).trans (World.alloc_heap_new w _)
  have bV : Below w.heap.size w V := by rw [hV]; exact ((Below.refl _ w).alloc (Nat.le_refl _) _).alloc (by simp) _
  have iV : I [] V := by rw [hV]; exact hI.alloc _ (hI.alloc _ h0)
  have hen : (Instr.enterLoop fn a.tmps ps assign body none).run P w = .ok (L, [{ target := .collected w.heap.size, args := #[] }]) V := by
    rw [hV, hL]; exact run_enterLoop_outer _ _ _ _ _
  clear hV
  have hrec : FromB V.heap.size (fun (_ : Unit) W => W.heap[L]? = some (R .ready none) ∧ W.heap[w.heap.size]? = some (.deferred (some []))) := fun _ A B row hs hgr hr =>
    ⟨(hgr.block L (Array.getElem?_eq_some_iff.1 hs.1).1 (fun e => by have := hr L e.symm; omega)).trans hs.1, (hgr.block _ (Array.getElem?_eq_some_iff.1 hs.2).1 (fun e => by have := hr _ e.symm; omega)).trans hs.2⟩
  refine ⟨L, _, V, { target := .fn (.func gf) lb, args := #[.func (.yield L) #[] #[]] }, V, gf, #[.func (.yield L) #[] #[]] ++ lb, V, hen, ?_, ?_, ?_, fun _ => h1, ?_⟩
  · simp only [resolve, hg]
    simp [go_sem]
  · intro f' hf'
    simp [Target.leads] at hf'
    subst hf'
    exact hFg
  · simp [invoke, go_sem, eg]
  refine (hseq L (fun pre W => I pre W ∧ W.heap[L]? = some (R .ready none) ∧ W.heap[w.heap.size]? = some (.deferred (some [])))
    (fun k => own k ∨ k = L) V bV ?_ ?_ ?_ ⟨iV, lV, dV⟩).mono ?_
  · rintro k (hk | rfl)
    · exact ⟨by have := (hown k hk).1; omega, (hown k hk).2⟩
    · exact ⟨by omega, fun h => by have := hneed _ h; omega⟩
  · intro s A B row hs hgr hr
    exact ⟨hI s A B row hs.1 hgr (fun r e => by have := hr r e; omega), hrec () A B row hs.2 hgr hr⟩
  · rintro pre x W ⟨hi, hl, hd⟩ hpx hlen
    have lt : L < W.heap.size := (Array.getElem?_eq_some_iff.1 hl).1
    refine ⟨fn, _, assign, body, run_yield hl (hps x), roundIn_of_wpIn hfn (hassign L x W _ ⟨_, run_beginRound hl rfl, ?_⟩)⟩
    obtain ⟨X, hX⟩ : ∃ X, X = W.putObj L (R .busy none) := ⟨_, rfl⟩
    have lX : X.heap[L]? = some (R .busy none) := by rw [hX]; exact World.putObj_heap_same lt
    have dX : X.heap[w.heap.size]? = some (.deferred (some [])) := by rw [hX]; exact (World.putObj_heap_other (by omega)).trans hd
    have iX : I pre X := by rw [hX]; exact hI.put _ hi (by omega)
    have pX : Px x X := by rw [hX]; exact hPx x W L _ _ hpx hl rfl
    have kX : Keeps (fun k => own k ∨ k = L) W X := by rw [hX]; exact Keeps.put _ W _ (.inr rfl)
    have hno : ¬ own L := fun h => by have := (hown _ h).1; omega
    have hno2 : ¬ own w.heap.size := fun h => by have := (hown _ h).1; omega
    refine wpIn_mono (by rw [← hX]; exact hbody L pre x X (by omega) iX pX hlen) ?_
    rintro e b Y hp
    cases e with
    | normal =>
      have lY := hp.1.same _ _ hno lX
      have dY := hp.1.same _ _ hno2 dX
      exact ⟨_, _, run_endRound none lY, rfl, ⟨hI.put _ hp.2 (by omega), World.putObj_heap_same (Array.getElem?_eq_some_iff.1 lY).1, (World.putObj_heap_other (by omega)).trans dY⟩, (kX.trans (hp.1.mono fun _ h => .inl h)).trans (Keeps.put _ Y _ (.inr rfl))⟩
    | ret => exact hp.elim
    | exit id => exact hp.elim
    | goto t => exact hp.elim
    | panic ch => exact hp.elim
    | outgrown => exact hp.elim
  · rintro e Y ⟨⟨v, rfl⟩, xs, hS, hi, hl, hd⟩
    exact ⟨none, _, run_endLoop hl (by simp), hdone _ xs _ (Nat.le_refl _) hS (hI.put _ hi (by omega)) ((World.putObj_heap_other (by omega)).trans hd)⟩

end Go.Proofs.Ytbclpbgomkfabaa
end

section
namespace Go.Proofs.Ytbclpbgomkfabaa
open Go.RowKit Go.Deep Go.Shelf

def SeqE {α : Type} (F : Fence) (n : Nat) (P : Program) (g : Nat) (lb : Array Value) (encs : α → Array Value) (Px : α → World → Prop) (need : Nat → Prop) (S Sp : List α → Prop) (N : Nat) (w : World) : Prop :=
  ∀ (l : Nat) (J Jx : List α → World → Prop) (own : Nat → Prop) (W : World), Below w.heap.size w W → (∀ k, own k → k < W.heap.size ∧ ¬ need k) → FromB W.heap.size J → FromB W.heap.size Jx →
    (∀ pre x W1, J pre W1 → Px x W1 → pre.length < N → YieldAt F (n - 1) P l (encs x) W1 fun e W' => (e = .returned (.bool true) ∧ J (pre ++ [x]) W' ∧ Keeps own W1 W') ∨ (e = .returned (.bool false) ∧ Jx (pre ++ [x]) W' ∧ Keeps own W1 W')) →
    J [] W →
    CallsIn F n P g (#[.func (.yield l) #[] #[]] ++ lb) W fun e W' => (∃ v, e = .returned v) ∧ ((∃ xs, S xs ∧ J xs W') ∨ (∃ pre, Sp pre ∧ Jx pre W'))

def roundE {α : Type} (own : Nat → Prop) (I : List α → World → Prop) (Ix : Code → List α → World → Prop) (xs : List α) (W : World) : Exit → Act → World → Prop
  | .normal, _, W' => Keeps own W W' ∧ I xs W'
  | .ret, _, W' => Keeps own W W' ∧ Ix .ret xs W'
  | _, _, _ => False

set_option maxHeartbeats 1000000 in
theorem rangeE {F : Fence} {n : Nat} {P : Program} {w : World} {α : Type} {g : Operand} {ps : Array Tmp} {assign body : Code} {Q : Exit → Act → World → Prop} {a : Act}
    (hro : F.round = none) (h1 : 1 ≤ n) {gf : Nat} {lb : Array Value} (hg : a.eval g = .func (.func gf) #[] lb) (hFg : F.fn gf) (eg : ∀ args w, (callFunc gf args).run P w = .ok (.enter gf args) w)
    {encs : α → Array Value} {Px : α → World → Prop} {need : Nat → Prop} {S Sp : List α → Prop} {N : Nat} (hseq : SeqE F (n - 1) P gf lb encs Px need S Sp N w) (hps : ∀ x, (encs x).size = ps.size)
    (hPx : ∀ x W l o o', Px x W → W.heap[l]? = some o → o.isCells = false → Px x (W.putObj l o'))
    (own : Nat → Prop) (hown : ∀ k, own k → k < w.heap.size ∧ ¬ need k) (hneed : ∀ k, need k → k < w.heap.size)
    (I : List α → World → Prop) (Ix : Code → List α → World → Prop) (hI : FromB w.heap.size I) (hIx : ∀ c, FromB w.heap.size (Ix c)) (h0 : I [] w) (a₁ : α → Act)
    (hassign : ∀ (l : Nat) (x : α) (W : World) (K : Act → World → Prop), K (a₁ x) W →
      assign.wpIn (F.inRound l) (n - 1 - 1) P (Exit.then K (fun _ _ _ => False)) { tmps := (ps.zip (encs x)).foldl (fun t (p, v) => t.setIfInBounds p v) a.tmps, defers := [] } W)
    (hbody : ∀ (l : Nat) (pre : List α) (x : α) (W : World), w.heap.size ≤ l → I pre W → Px x W → pre.length < N → body.wpIn (F.inRound l) (n - 1 - 1) P (roundE own I Ix (pre ++ [x]) W) (a₁ x) W)
    (hdone : ∀ (D : Nat) (xs : List α) (W : World), w.heap.size ≤ D → S xs → I xs W → W.heap[D]? = some (.deferred (some [])) → Q .normal { a with defers := { target := .collected D, args := #[] } :: a.defers } W)
    (hstop : ∀ (D : Nat) (c : Code) (pre : List α) (W : World), w.heap.size ≤ D → Sp pre → Ix c pre W → W.heap[D]? = some (.deferred (some [])) → c.wpIn F n P Q { a with defers := { target := .collected D, args := #[] } :: a.defers } W) :
    (Code.rangeFunc g ps assign body).wpIn F n P Q a w := by
  refine wpIn_rangeFunc fun fn hfn => ?_
  rw [hro]
  -- the two blocks of the loop: w.heap.size for deferred calls, L for its record
  obtain ⟨L, hL⟩ : ∃ L, L = w.heap.size + 1 := ⟨_, rfl⟩
  let R : LoopState → Option Code → Obj := fun st pe => .loop { state := st, pending := pe, fn := fn, tmps := a.tmps, params := ps, assign := assign, body := body, defers := w.heap.size }
  obtain ⟨V, hV⟩ : ∃ V, V = (w.alloc (.deferred (some []))).alloc (R .ready none) := ⟨_, rfl⟩
  have sV : V.heap.size = L + 1 := by rw [hV, hL]; simp
  have lV : V.heap[L]? = some (R .ready none) := by
    have := World.alloc_heap_new (w.alloc (.deferred (some []))) (R .ready none)
    rw [World.size_alloc] at this
    rw [hV, hL]; exact this
  have dV : V.heap[w.heap.size]? = some (.deferred (some [])) := by
    rw [hV]; exact (Below.heap_alloc _ _ _ (by simp)).trans (World.alloc_heap_new w _)
  have bV : Below w.heap.size w V := by rw [hV]; exact ((Below.refl _ w).alloc (Nat.le_refl _) _).alloc (by simp) _
  have iV : I [] V := by rw [hV]; exact hI.alloc _ (hI.alloc _ h0)
  have hen : (Instr.enterLoop fn a.tmps ps assign body none).run P w = .ok (L, [{ target := .collected w.heap.size, args := #[] }]) V := by
    rw [hV, hL]; exact run_enterLoop_outer _ _ _ _ _
  clear hV
  have hrec : FromB V.heap.size (fun (_ : Unit) W => W.heap[L]? = some (R .ready none) ∧ W.heap[w.heap.size]? = some (.deferred (some []))) := fun _ A B row hs hgr hr =>
    ⟨(hgr.block L (Array.getElem?_eq_some_iff.1 hs.1).1 (fun e => by have := hr L e.symm; omega)).trans hs.1, (hgr.block _ (Array.getElem?_eq_some_iff.1 hs.2).1 (fun e => by have := hr _ e.symm; omega)).trans hs.2⟩
  refine ⟨L, _, V, { target := .fn (.func gf) lb, args := #[.func (.yield L) #[] #[]] }, V, gf, #[.func (.yield L) #[] #[]] ++ lb, V, hen, ?_, ?_, ?_, fun _ => h1, ?_⟩
  · simp only [resolve, hg]
    simp [go_sem]
  · intro f' hf'
    simp [Target.leads] at hf'
    subst hf'
    exact hFg
  · simp [invoke, go_sem, eg]
  refine (hseq L (fun pre W => I pre W ∧ W.heap[L]? = some (R .ready none) ∧ W.heap[w.heap.size]? = some (.deferred (some [])))
    (fun pre W => Ix .ret pre W ∧ W.heap[L]? = some (R .done (some .ret)) ∧ W.heap[w.heap.size]? = some (.deferred (some [])))
    (fun k => own k ∨ k = L) V bV ?_ ?_ ?_ ?_ ⟨iV, lV, dV⟩).mono ?_
  · rintro k (hk | rfl)
    · exact ⟨by have := (hown k hk).1; omega, (hown k hk).2⟩
    · exact ⟨by omega, fun h => by have := hneed _ h; omega⟩
  · intro s A B row hs hgr hr
    exact ⟨hI s A B row hs.1 hgr (fun r e => by have := hr r e; omega), hrec () A B row hs.2 hgr hr⟩
  · intro s A B row hs hgr hr
    exact ⟨hIx _ s A B row hs.1 hgr (fun r e => by have := hr r e; omega), (hgr.block L (Array.getElem?_eq_some_iff.1 hs.2.1).1 (fun e => by have := hr L e.symm; omega)).trans hs.2.1, (hgr.block _ (Array.getElem?_eq_some_iff.1 hs.2.2).1 (fun e => by have := hr _ e.symm; omega)).trans hs.2.2⟩
  · rintro pre x W ⟨hi, hl, hd⟩ hpx hlen
    have lt : L < W.heap.size := (Array.getElem?_eq_some_iff.1 hl).1
    refine ⟨fn, _, assign, body, run_yield hl (hps x), roundIn_of_wpIn hfn (hassign L x W _ ⟨_, run_beginRound hl rfl, ?_⟩)⟩
    obtain ⟨X, hX⟩ : ∃ X, X = W.putObj L (R .busy none) := ⟨_, rfl⟩
    have lX : X.heap[L]? = some (R .busy none) := by rw [hX]; exact World.putObj_heap_same lt
    have dX : X.heap[w.heap.size]? = some (.deferred (some [])) := by rw [hX]; exact (World.putObj_heap_other (by omega)).trans hd
    have iX : I pre X := by rw [hX]; exact hI.put _ hi (by omega)
    have pX : Px x X := by rw [hX]; exact hPx x W L _ _ hpx hl rfl
    have kX : Keeps (fun k => own k ∨ k = L) W X := by rw [hX]; exact Keeps.put _ W _ (.inr rfl)
    have hno : ¬ own L := fun h => by have := (hown _ h).1; omega
    have hno2 : ¬ own w.heap.size := fun h => by have := (hown _ h).1; omega
    refine wpIn_mono (by rw [← hX]; exact hbody L pre x X (by omega) iX pX hlen) ?_
    rintro e b Y hp
    cases e with
    | normal =>
      have lY := hp.1.same _ _ hno lX
      have dY := hp.1.same _ _ hno2 dX
      exact ⟨_, _, run_endRound none lY, .inl ⟨rfl, ⟨hI.put _ hp.2 (by omega), World.putObj_heap_same (Array.getElem?_eq_some_iff.1 lY).1, (World.putObj_heap_other (by omega)).trans dY⟩, (kX.trans (hp.1.mono fun _ h => .inl h)).trans (Keeps.put _ Y _ (.inr rfl))⟩⟩
    | ret =>
      have lY := hp.1.same _ _ hno lX
      have dY := hp.1.same _ _ hno2 dX
      exact ⟨_, _, run_endRound (some .ret) lY, .inr ⟨rfl, ⟨(hIx _).put _ hp.2 (by omega), World.putObj_heap_same (Array.getElem?_eq_some_iff.1 lY).1, (World.putObj_heap_other (by omega)).trans dY⟩, (kX.trans (hp.1.mono fun _ h => .inl h)).trans (Keeps.put _ Y _ (.inr rfl))⟩⟩
    | exit id => exact hp.elim
    | goto t => exact hp.elim
    | panic ch => exact hp.elim
    | outgrown => exact hp.elim
  · rintro e Y ⟨⟨v, rfl⟩, (⟨xs, hS, hi, hl, hd⟩ | ⟨pre, hSp, hi, hl, hd⟩)⟩
    · exact ⟨none, _, run_endLoop hl (by simp), hdone _ xs _ (Nat.le_refl _) hS (hI.put _ hi (by omega)) ((World.putObj_heap_other (by omega)).trans hd)⟩
    · exact ⟨some .ret, _, run_endLoop hl (by simp), hstop _ .ret pre _ (Nat.le_refl _) hSp ((hIx _).put _ hi (by omega)) ((World.putObj_heap_other (by omega)).trans hd)⟩

theorem SeqE.toC {α : Type} {F : Fence} {n : Nat} {P : Program} {g : Nat} {lb : Array Value} {encs : α → Array Value} {Px : α → World → Prop} {need : Nat → Prop} {S Sp : List α → Prop} {N : Nat} {w : World} (h : SeqE F n P g lb encs Px need S Sp N w) :
    SeqC F n P g lb encs Px need S N w := fun l J own W hW hown hJ hY hj =>
  (h l J (fun _ _ => False) own W hW hown hJ (fun _ _ _ _ hs _ _ => hs) (fun pre x W1 h1 h2 h3 => (hY pre x W1 h1 h2 h3).mono fun _ _ hh => .inl hh) hj).mono fun _ _ hh => ⟨hh.1, by
    rcases hh.2 with hh | ⟨_, _, hh⟩
    · exact hh
    · exact hh.elim⟩

end Go.Proofs.Ytbclpbgomkfabaa
end

section
namespace Go.Proofs.Ytbclpbgomkfabaa
open Go.RowKit Go.Deep Go.Shelf
attribute [local go_sem] Oper.semAt_some

def encF (x : Nat × Int) : Array Value := #[.int .i64 (x.1 : Int), .int .i64 x.2]
structure FB (By Bg l : Nat) (W : World) : Prop where
  yb : W.cell? ⟨By, 0, none⟩ = some (.func (.yield l) #[] #[])
  bg : W.cell? ⟨Bg, 0, none⟩ = some (.func (.func 129) #[] #[.pointer (some ⟨By, 0, none⟩), .pointer (some ⟨Bg, 0, none⟩)])
theorem FB.keeps {By Bg l : Nat} {W W' : World} {own : Nat → Prop} (h : FB By Bg l W) (hk : Keeps own W W') (h1 : ¬ own By) (h2 : ¬ own Bg) : FB By Bg l W' := ⟨hk.cell (a := ⟨By, 0, none⟩) h1 h.yb, hk.cell (a := ⟨Bg, 0, none⟩) h2 h.bg⟩
def FE (own : Nat → Prop) (J Jx : List (Nat × Int) → World → Prop) (all : List (Nat × Int)) (W : World) (e : Ending) (W' : World) : Prop :=
  (e = .returned (.bool true) ∧ J all W' ∧ Keeps own W W') ∨ (e = .returned (.bool false) ∧ (∃ q, q <+: all ∧ Jx q W') ∧ Keeps own W W')

set_option maxRecDepth 100000 in
set_option maxHeartbeats 1000000 in
theorem goF_nil (l By Bg N : Nat) (own : Nat → Prop) (J Jx : List (Nat × Int) → World → Prop)
    (hY : ∀ m pre x W, J pre W → pre.length < N → YieldAt Fence.wide m Try.prog l (encF x) W fun e W' => (e = .returned (.bool true) ∧ J (pre ++ [x]) W' ∧ Keeps own W W') ∨ (e = .returned (.bool false) ∧ Jx (pre ++ [x]) W' ∧ Keeps own W W'))
    (a : Option Addr) (cap s : Nat) (x : Int) (pre : List (Nat × Int)) (W : World) (hb : FB By Bg l W) (hj : J pre W) (hN : pre.length < N) :
    Calls Try.prog 129 #[.slice a 0 cap, .int .i64 s, .int .i64 x, .pointer (some ⟨By, 0, none⟩), .pointer (some ⟨Bg, 0, none⟩)] W (FE own J Jx (pre ++ [(s, x)]) W) := by
  obtain ⟨fn, tmps, assign, body, hy, hR⟩ := hY 7 pre (s, x) W hj hN
  have hyb := hb.yb
  dsimp only [encF] at hy
  clear hb hj hN
  refine (callsIn_wide (n := 8)).1 ?_
  refine callsIn_of_wp Try.func129 rfl trivial ?_ rfl
  simp only [Try.ntmps129, List.size_toArray, List.length_cons, List.length_nil, Nat.reduceAdd, Nat.reduceSub, Array.replicate_succ, Array.replicate_zero, List.push_toArray, List.append_toArray, List.nil_append, List.cons_append]
  gi_wp2
  refine hR.mono ?_
  rintro e W3 (⟨rfl, hJ3, hk3⟩ | ⟨rfl, hx3, hk3⟩)
  · gi_wp2
    go_ret
    exact .inl ⟨rfl, hJ3, hk3⟩
  · gi_wp2
    go_ret
    exact .inr ⟨rfl, ⟨_, List.prefix_refl _, hx3⟩, hk3⟩

theorem keeps_since {own : Nat → Prop} {W V : World} (h : W.Since W.heap.size V) : Keeps own W V := Keeps.grown (row := none) ⟨h.os, h.tape, h.output, h.size, fun k hk _ => h.block k hk⟩ (fun r e => by cases e)
theorem FE.from {own : Nat → Prop} {J Jx : List (Nat × Int) → World → Prop} {all : List (Nat × Int)} {W V W' : World} {e : Ending} (h : FE own J Jx all V e W') (hk : Keeps own W V) : FE own J Jx all W e W' := by
  rcases h with ⟨he, hj, hk2⟩ | ⟨he, hj, hk2⟩
  · exact .inl ⟨he, hj, hk.trans hk2⟩
  · exact .inr ⟨he, hj, hk.trans hk2⟩

set_option maxRecDepth 100000 in
set_option maxHeartbeats 400000 in
theorem goF_g (By Bg l : Nat) (own : Nat → Prop) (J Jx : List (Nat × Int) → World → Prop) (all : List (Nat × Int)) (K : ByteArray) (V x : Int) (M cap b o s L F T : Nat) (W : World) (hF : F ≤ 4) (hs : s ≤ 31) (hsF : s.testBit F = false)
    (EF : ∀ W : World, Calls Try.prog 114 #[.agg #[.string K, .int .i64 L, .int .i64 V]] W fun e w' => e = .returned (.tuple #[.int .i64 F, .int .i64 T]) ∧ W.Since W.heap.size w')
    (hb : FB By Bg l W)
    (IHP : ∀ (X : World) (q c' : Nat), W.Since W.heap.size X → (q = o + 3 ∨ cap = 1) → M ≤ c' → c' ≤ cap → Calls Try.prog 129 #[.slice (some ⟨b, q, none⟩) M c', .int .i64 s, .int .i64 x, .pointer (some ⟨By, 0, none⟩), .pointer (some ⟨Bg, 0, none⟩)] X (FE own J Jx all X)) (hM : M + 1 ≤ 10) (hcap : M + 1 ≤ cap) (hc63 : cap ≤ 9223372036854775807)
    (k1 : W.cell? ⟨b, o, none⟩ = some (.string K)) (k2 : W.cell? ⟨b, o + 1, none⟩ = some (.int .i64 L)) (k3 : W.cell? ⟨b, o + 2, none⟩ = some (.int .i64 V)) :
    Calls Try.prog 129 #[.slice (some ⟨b, o, none⟩) (M + 1) cap, .int .i64 s, .int .i64 x, .pointer (some ⟨By, 0, none⟩), .pointer (some ⟨Bg, 0, none⟩)] W (FE own J Jx all W) := by
  obtain ⟨d1, d2, d3⟩ := chip_box W K L V 36
  have HS := Lib.hid ((World.Since.refl W.heap.size W).alloc (Nat.le_refl _) (.cells #[.string K, .int .i64 L, .int .i64 V] 36))
  have E1 := fun X => inSet_any s F (by omega) (by omega) X
  simp only [hsF] at E1
  replace E1 := Lib.hid E1
  replace EF := Lib.hid EF
  replace IHP := Lib.hid IHP
  have HB := Lib.hid hb
  clear hb hsF
  rcases Nat.lt_or_eq_of_le (show 1 ≤ cap by omega) with hc1 | rfl
  · have hb1 : (0 : Int) ≤ (M : Int) := by omega
    have hb2 : (1 : Int) ≤ (M : Int) + 1 := by omega
    have hb3 : (M : Int) + 1 ≤ (cap : Int) := by omega
    have hc2 : ¬ cap = 1 := by omega
    have hc3 : ¬ 1 = cap := by omega
    go_enter Try.func129, Try.ntmps129
    have a1 := fun ob => cell_alloc_l ob k1
    have a2 := fun ob => cell_alloc_l ob k2
    have a3 := fun ob => cell_alloc_l ob k3
    have hbg := cell_alloc_l (.cells #[.string K, .int .i64 L, .int .i64 V] 36) HB.out.bg
    have hbl := World.block_lt_of_cell? _ _ hbg
    go_wp2_with fail
    go_region
    clear a1 a2 a3
    go_wp2_with (first
      | (go_at_call 114; refine (EF.out _).mono ?_; rintro e w1 ⟨rfl, hs1⟩; replace hs1 := since_of_drew hs1; have hbg1 := (hs1.cell hbl).trans hbg; have HS1 := Lib.hid (HS.out.trans (since_mono hs1 HS.out.size)); clear hs1)
      | (go_at_call 130; refine (E1.out _).mono ?_; rintro e w2 ⟨rfl, rfl⟩))
    go_quiet ((go_at_call 130; exact Calls.quiet_of_same ((E1.out _).mono fun _ _ h => ⟨h.1, h.2.symm⟩)))
    have hs3 : W.Since W.heap.size (w1.drewN nq) := since_drewN HS1.out nq
    have hbg3 : (w1.drewN nq).cell? ⟨Bg, 0, none⟩ = _ := hbg1
    have HS3 := Lib.hid hs3
    clear hs3
    go_wp2_with fail
    refine (IHP.out _ _ _ HS3.out (by first | exact .inr trivial | exact .inr rfl | exact .inl rfl) (by omega) (by omega)).mono ?_
    rintro e w4 hE
    replace hE := hE.from (keeps_since HS3.out)
    rcases hE with ⟨rfl, hJ4, hk4⟩ | ⟨rfl, hx4, hk4⟩
    · go_wp2_with fail
      go_ret
      exact .inl ⟨rfl, hJ4, hk4⟩
    · go_wp2_with fail
      go_ret
      exact .inr ⟨rfl, hx4, hk4⟩
  · obtain rfl : M = 0 := by omega
    clear hM hcap hc63
    go_enter Try.func129, Try.ntmps129
    have a1 := fun ob => cell_alloc_l ob k1
    have a2 := fun ob => cell_alloc_l ob k2
    have a3 := fun ob => cell_alloc_l ob k3
    have hbg := cell_alloc_l (.cells #[.string K, .int .i64 L, .int .i64 V] 36) HB.out.bg
    have hbl := World.block_lt_of_cell? _ _ hbg
    go_wp2_with fail
    go_region
    clear a1 a2 a3
    go_wp2_with (first
      | (go_at_call 114; refine (EF.out _).mono ?_; rintro e w1 ⟨rfl, hs1⟩; replace hs1 := since_of_drew hs1; have hbg1 := (hs1.cell hbl).trans hbg; have HS1 := Lib.hid (HS.out.trans (since_mono hs1 HS.out.size)); clear hs1)
      | (go_at_call 130; refine (E1.out _).mono ?_; rintro e w2 ⟨rfl, rfl⟩))
    go_quiet ((go_at_call 130; exact Calls.quiet_of_same ((E1.out _).mono fun _ _ h => ⟨h.1, h.2.symm⟩)))
    have hs3 : W.Since W.heap.size (w1.drewN nq) := since_drewN HS1.out nq
    have hbg3 : (w1.drewN nq).cell? ⟨Bg, 0, none⟩ = _ := hbg1
    have HS3 := Lib.hid hs3
    clear hs3
    go_wp2_with fail
    refine (IHP.out _ _ _ HS3.out (by first | exact .inr trivial | exact .inr rfl | exact .inl rfl) (by omega) (by omega)).mono ?_
    rintro e w4 hE
    replace hE := hE.from (keeps_since HS3.out)
    rcases hE with ⟨rfl, hJ4, hk4⟩ | ⟨rfl, hx4, hk4⟩
    · go_wp2_with fail
      go_ret
      exact .inl ⟨rfl, hJ4, hk4⟩
    · go_wp2_with fail
      go_ret
      exact .inr ⟨rfl, hx4, hk4⟩

set_option maxRecDepth 100000 in
set_option maxHeartbeats 400000 in
theorem goF_h (By Bg l : Nat) (own : Nat → Prop) (J Jx : List (Nat × Int) → World → Prop) (all : List (Nat × Int)) (K : ByteArray) (V x : Int) (M cap b o s L F : Nat) (W : World) (hF : F ≤ 4) (hs : s ≤ 31) (hsF : s.testBit F = true) (hw1 : IntKind.i64.wrap (x * V) = x * V)
    (EF : ∀ W : World, Calls Try.prog 114 #[.agg #[.string K, .int .i64 L, .int .i64 V]] W fun e w' => e = .returned (.tuple #[.int .i64 F, .int .i64 F]) ∧ W.Since W.heap.size w')
    (hb : FB By Bg l W)
    (IHP : ∀ (X : World) (q c' : Nat), W.Since W.heap.size X → (q = o + 3 ∨ cap = 1) → M ≤ c' → c' ≤ cap → Calls Try.prog 129 #[.slice (some ⟨b, q, none⟩) M c', .int .i64 s, .int .i64 (x * V), .pointer (some ⟨By, 0, none⟩), .pointer (some ⟨Bg, 0, none⟩)] X (FE own J Jx all X)) (hM : M + 1 ≤ 10) (hcap : M + 1 ≤ cap) (hc63 : cap ≤ 9223372036854775807)
    (k1 : W.cell? ⟨b, o, none⟩ = some (.string K)) (k2 : W.cell? ⟨b, o + 1, none⟩ = some (.int .i64 L)) (k3 : W.cell? ⟨b, o + 2, none⟩ = some (.int .i64 V)) :
    Calls Try.prog 129 #[.slice (some ⟨b, o, none⟩) (M + 1) cap, .int .i64 s, .int .i64 x, .pointer (some ⟨By, 0, none⟩), .pointer (some ⟨Bg, 0, none⟩)] W (FE own J Jx all W) := by
  obtain ⟨d1, d2, d3⟩ := chip_box W K L V 36
  have HS := Lib.hid ((World.Since.refl W.heap.size W).alloc (Nat.le_refl _) (.cells #[.string K, .int .i64 L, .int .i64 V] 36))
  have E1 := fun X => inSet_any s F (by omega) (by omega) X
  simp only [hsF] at E1
  replace E1 := Lib.hid E1
  replace EF := Lib.hid EF
  replace IHP := Lib.hid IHP
  have HB := Lib.hid hb
  clear hb hsF
  rcases Nat.lt_or_eq_of_le (show 1 ≤ cap by omega) with hc1 | rfl
  · have hb1 : (0 : Int) ≤ (M : Int) := by omega
    have hb2 : (1 : Int) ≤ (M : Int) + 1 := by omega
    have hb3 : (M : Int) + 1 ≤ (cap : Int) := by omega
    have hc2 : ¬ cap = 1 := by omega
    have hc3 : ¬ 1 = cap := by omega
    go_enter Try.func129, Try.ntmps129
    have a1 := fun ob => cell_alloc_l ob k1
    have a2 := fun ob => cell_alloc_l ob k2
    have a3 := fun ob => cell_alloc_l ob k3
    have hbg := cell_alloc_l (.cells #[.string K, .int .i64 L, .int .i64 V] 36) HB.out.bg
    have hbl := World.block_lt_of_cell? _ _ hbg
    go_wp2_with fail
    go_region
    clear a1 a2 a3
    go_wp2_with (first
      | (go_at_call 114; refine (EF.out _).mono ?_; rintro e w1 ⟨rfl, hs1⟩; replace hs1 := since_of_drew hs1; have hbg1 := (hs1.cell hbl).trans hbg; have hw3 := (hs1.cell (World.block_lt_of_cell? _ _ d3)).trans d3; have HS1 := Lib.hid (HS.out.trans (since_mono hs1 HS.out.size)); clear hs1)
      | (go_at_call 130; refine (E1.out _).mono ?_; rintro e w2 ⟨rfl, rfl⟩))
    have HS3 := HS1
    refine (IHP.out _ _ _ HS3.out (by first | exact .inr trivial | exact .inr rfl | exact .inl rfl) (by omega) (by omega)).mono ?_
    rintro e w4 hE
    replace hE := hE.from (keeps_since HS3.out)
    rcases hE with ⟨rfl, hJ4, hk4⟩ | ⟨rfl, hx4, hk4⟩
    · go_wp2_with fail
      go_ret
      exact .inl ⟨rfl, hJ4, hk4⟩
    · go_wp2_with fail
      go_ret
      exact .inr ⟨rfl, hx4, hk4⟩
  · obtain rfl : M = 0 := by omega
    clear hM hcap hc63
    go_enter Try.func129, Try.ntmps129
    have a1 := fun ob => cell_alloc_l ob k1
    have a2 := fun ob => cell_alloc_l ob k2
    have a3 := fun ob => cell_alloc_l ob k3
    have hbg := cell_alloc_l (.cells #[.string K, .int .i64 L, .int .i64 V] 36) HB.out.bg
    have hbl := World.block_lt_of_cell? _ _ hbg
    go_wp2_with fail
    go_region
    clear a1 a2 a3
    go_wp2_with (first
      | (go_at_call 114; refine (EF.out _).mono ?_; rintro e w1 ⟨rfl, hs1⟩; replace hs1 := since_of_drew hs1; have hbg1 := (hs1.cell hbl).trans hbg; have hw3 := (hs1.cell (World.block_lt_of_cell? _ _ d3)).trans d3; have HS1 := Lib.hid (HS.out.trans (since_mono hs1 HS.out.size)); clear hs1)
      | (go_at_call 130; refine (E1.out _).mono ?_; rintro e w2 ⟨rfl, rfl⟩))
    have HS3 := HS1
    refine (IHP.out _ _ _ HS3.out (by first | exact .inr trivial | exact .inr rfl | exact .inl rfl) (by omega) (by omega)).mono ?_
    rintro e w4 hE
    replace hE := hE.from (keeps_since HS3.out)
    rcases hE with ⟨rfl, hJ4, hk4⟩ | ⟨rfl, hx4, hk4⟩
    · go_wp2_with fail
      go_ret
      exact .inl ⟨rfl, hJ4, hk4⟩
    · go_wp2_with fail
      go_ret
      exact .inr ⟨rfl, hx4, hk4⟩

end Go.Proofs.Ytbclpbgomkfabaa
end

section
namespace Go.Proofs.Ytbclpbgomkfabaa
open Go.RowKit Go.Deep Go.Shelf
attribute [local go_sem] Oper.semAt_some

set_option maxRecDepth 100000 in
set_option maxHeartbeats 400000 in
theorem goF_m (By Bg l : Nat) (own : Nat → Prop) (J Jx : List (Nat × Int) → World → Prop) (all : List (Nat × Int)) (K : ByteArray) (V x : Int) (M cap b o s L F T : Nat) (W : World) (hF : F ≤ 4) (hT : T ≤ 4) (hs : s ≤ 31) (hFT : F ≠ T) (hsF : s.testBit F = true) (hsT : s.testBit T = true)
    (EF : ∀ W : World, Calls Try.prog 114 #[.agg #[.string K, .int .i64 L, .int .i64 V]] W fun e w' => e = .returned (.tuple #[.int .i64 F, .int .i64 T]) ∧ W.Since W.heap.size w')
    (hb : FB By Bg l W)
    (IHP : ∀ (X : World) (q c' : Nat), W.Since W.heap.size X → (q = o + 3 ∨ cap = 1) → M ≤ c' → c' ≤ cap → Calls Try.prog 129 #[.slice (some ⟨b, q, none⟩) M c', .int .i64 s, .int .i64 x, .pointer (some ⟨By, 0, none⟩), .pointer (some ⟨Bg, 0, none⟩)] X (FE own J Jx all X)) (hM : M + 1 ≤ 10) (hcap : M + 1 ≤ cap) (hc63 : cap ≤ 9223372036854775807)
    (k1 : W.cell? ⟨b, o, none⟩ = some (.string K)) (k2 : W.cell? ⟨b, o + 1, none⟩ = some (.int .i64 L)) (k3 : W.cell? ⟨b, o + 2, none⟩ = some (.int .i64 V)) :
    Calls Try.prog 129 #[.slice (some ⟨b, o, none⟩) (M + 1) cap, .int .i64 s, .int .i64 x, .pointer (some ⟨By, 0, none⟩), .pointer (some ⟨Bg, 0, none⟩)] W (FE own J Jx all W) := by
  obtain ⟨d1, d2, d3⟩ := chip_box W K L V 36
  have HS := Lib.hid ((World.Since.refl W.heap.size W).alloc (Nat.le_refl _) (.cells #[.string K, .int .i64 L, .int .i64 V] 36))
  have E1 := fun X => inSet_any s F (by omega) (by omega) X
  simp only [hsF] at E1
  replace E1 := Lib.hid E1
  have E2 := fun X => inSet_any s T (by omega) (by omega) X
  simp only [hsT] at E2
  replace E2 := Lib.hid E2
  have hftb : ((F : Int) == (T : Int)) = false := by simp; omega
  replace EF := Lib.hid EF
  replace IHP := Lib.hid IHP
  have HB := Lib.hid hb
  clear hb hsF hsT
  rcases Nat.lt_or_eq_of_le (show 1 ≤ cap by omega) with hc1 | rfl
  · have hb1 : (0 : Int) ≤ (M : Int) := by omega
    have hb2 : (1 : Int) ≤ (M : Int) + 1 := by omega
    have hb3 : (M : Int) + 1 ≤ (cap : Int) := by omega
    have hc2 : ¬ cap = 1 := by omega
    have hc3 : ¬ 1 = cap := by omega
    go_enter Try.func129, Try.ntmps129
    have a1 := fun ob => cell_alloc_l ob k1
    have a2 := fun ob => cell_alloc_l ob k2
    have a3 := fun ob => cell_alloc_l ob k3
    have hbg := cell_alloc_l (.cells #[.string K, .int .i64 L, .int .i64 V] 36) HB.out.bg
    have hbl := World.block_lt_of_cell? _ _ hbg
    go_wp2_with fail
    go_region
    clear a1 a2 a3
    go_wp2_with (first
      | (go_at_call 114; refine (EF.out _).mono ?_; rintro e w1 ⟨rfl, hs1⟩; replace hs1 := since_of_drew hs1; have hbg1 := (hs1.cell hbl).trans hbg; have HS1 := Lib.hid (HS.out.trans (since_mono hs1 HS.out.size)); clear hs1)
      | (go_at_call 130; ((with_reducible refine (E1.out _).mono ?_); rintro e w2 ⟨rfl, rfl⟩)))
    go_quiet (first | (go_at_call 130; with_reducible exact Calls.quiet_of_same ((E1.out _).mono fun _ _ h => ⟨h.1, h.2.symm⟩)) | (go_at_call 130; with_reducible exact Calls.quiet_of_same ((E2.out _).mono fun _ _ h => ⟨h.1, h.2.symm⟩)))
    have hs3 : W.Since W.heap.size (w1.drewN nq) := since_drewN HS1.out nq
    have hbg3 : (w1.drewN nq).cell? ⟨Bg, 0, none⟩ = _ := hbg1
    have HS3 := Lib.hid hs3
    clear hs3
    go_wp2_with fail
    refine (IHP.out _ _ _ HS3.out (by first | exact .inr trivial | exact .inr rfl | exact .inl rfl) (by omega) (by omega)).mono ?_
    rintro e w4 hE
    replace hE := hE.from (keeps_since HS3.out)
    rcases hE with ⟨rfl, hJ4, hk4⟩ | ⟨rfl, hx4, hk4⟩
    · go_wp2_with fail
      go_ret
      exact .inl ⟨rfl, hJ4, hk4⟩
    · go_wp2_with fail
      go_ret
      exact .inr ⟨rfl, hx4, hk4⟩
  · obtain rfl : M = 0 := by omega
    clear hM hcap hc63
    go_enter Try.func129, Try.ntmps129
    have a1 := fun ob => cell_alloc_l ob k1
    have a2 := fun ob => cell_alloc_l ob k2
    have a3 := fun ob => cell_alloc_l ob k3
    have hbg := cell_alloc_l (.cells #[.string K, .int .i64 L, .int .i64 V] 36) HB.out.bg
    have hbl := World.block_lt_of_cell? _ _ hbg
    go_wp2_with fail
    go_region
    clear a1 a2 a3
    go_wp2_with (first
      | (go_at_call 114; refine (EF.out _).mono ?_; rintro e w1 ⟨rfl, hs1⟩; replace hs1 := since_of_drew hs1; have hbg1 := (hs1.cell hbl).trans hbg; have HS1 := Lib.hid (HS.out.trans (since_mono hs1 HS.out.size)); clear hs1)
      | (go_at_call 130; ((with_reducible refine (E1.out _).mono ?_); rintro e w2 ⟨rfl, rfl⟩)))
    go_quiet (first | (go_at_call 130; with_reducible exact Calls.quiet_of_same ((E1.out _).mono fun _ _ h => ⟨h.1, h.2.symm⟩)) | (go_at_call 130; with_reducible exact Calls.quiet_of_same ((E2.out _).mono fun _ _ h => ⟨h.1, h.2.symm⟩)))
    have hs3 : W.Since W.heap.size (w1.drewN nq) := since_drewN HS1.out nq
    have hbg3 : (w1.drewN nq).cell? ⟨Bg, 0, none⟩ = _ := hbg1
    have HS3 := Lib.hid hs3
    clear hs3
    go_wp2_with fail
    refine (IHP.out _ _ _ HS3.out (by first | exact .inr trivial | exact .inr rfl | exact .inl rfl) (by omega) (by omega)).mono ?_
    rintro e w4 hE
    replace hE := hE.from (keeps_since HS3.out)
    rcases hE with ⟨rfl, hJ4, hk4⟩ | ⟨rfl, hx4, hk4⟩
    · go_wp2_with fail
      go_ret
      exact .inl ⟨rfl, hJ4, hk4⟩
    · go_wp2_with fail
      go_ret
      exact .inr ⟨rfl, hx4, hk4⟩

end Go.Proofs.Ytbclpbgomkfabaa
end

section
namespace Go.Proofs.Ytbclpbgomkfabaa
open Go.RowKit Go.Deep Go.Shelf
attribute [local go_sem] Oper.semAt_some

theorem FE.one {own : Nat → Prop} {J Jx : List (Nat × Int) → World → Prop} {all : List (Nat × Int)} {W W' : World} {e : Ending} (h : FE own J Jx all W e W') : ∃ bb, e = .returned (.bool bb) ∧ Keeps own W W' ∧ (bb = true → J all W') ∧ (bb = false → ∃ q, q <+: all ∧ Jx q W') := by
  rcases h with ⟨he, hj, hk⟩ | ⟨he, hj, hk⟩
  · exact ⟨true, he, hk, fun _ => hj, fun h => by simp at h⟩
  · exact ⟨false, he, hk, fun h => by simp at h, fun _ => hj⟩
set_option maxRecDepth 100000 in
set_option maxHeartbeats 400000 in
theorem goF_o (By Bg l : Nat) (own : Nat → Prop) (J Jx : List (Nat × Int) → World → Prop) (mid all : List (Nat × Int)) (hmid : mid <+: all) (K : ByteArray) (V x : Int) (M cap b o s L F T : Nat) (W : World) (hF : F ≤ 4) (hT : T ≤ 4) (hs : s ≤ 31) (hFT : F ≠ T) (hsF : s.testBit F = true) (hsT : s.testBit T = false) (hw1 : IntKind.i64.wrap (x * V) = x * V) (u : Nat) (hu : bits BinOp.xor IntKind.i64 (s : Int) (bits BinOp.or IntKind.i64 (2 ^ F) (2 ^ T)) = (u : Int)) (hB1 : ¬ own Bg) (hown : ∀ k, own k → k < W.heap.size)
    (EF : ∀ W : World, Calls Try.prog 114 #[.agg #[.string K, .int .i64 L, .int .i64 V]] W fun e w' => e = .returned (.tuple #[.int .i64 F, .int .i64 T]) ∧ W.Since W.heap.size w')
    (hb : FB By Bg l W)
    (IHO : ∀ (X : World) (q c' : Nat), W.Since W.heap.size X → (q = o + 3 ∨ cap = 1) → M ≤ c' → c' ≤ cap → Calls Try.prog 129 #[.slice (some ⟨b, q, none⟩) M c', .int .i64 u, .int .i64 (x * V), .pointer (some ⟨By, 0, none⟩), .pointer (some ⟨Bg, 0, none⟩)] X (FE own J Jx mid X))
    (IHP : ∀ (X : World) (q c' : Nat), J mid X → Keeps own W X → (q = o + 3 ∨ cap = 1) → M ≤ c' → c' ≤ cap → Calls Try.prog 129 #[.slice (some ⟨b, q, none⟩) M c', .int .i64 s, .int .i64 x, .pointer (some ⟨By, 0, none⟩), .pointer (some ⟨Bg, 0, none⟩)] X (FE own J Jx all X)) (hM : M + 1 ≤ 10) (hcap : M + 1 ≤ cap) (hc63 : cap ≤ 9223372036854775807)
    (k1 : W.cell? ⟨b, o, none⟩ = some (.string K)) (k2 : W.cell? ⟨b, o + 1, none⟩ = some (.int .i64 L)) (k3 : W.cell? ⟨b, o + 2, none⟩ = some (.int .i64 V)) :
    Calls Try.prog 129 #[.slice (some ⟨b, o, none⟩) (M + 1) cap, .int .i64 s, .int .i64 x, .pointer (some ⟨By, 0, none⟩), .pointer (some ⟨Bg, 0, none⟩)] W (FE own J Jx all W) := by
  obtain ⟨d1, d2, d3⟩ := chip_box W K L V 36
  have HS := Lib.hid ((World.Since.refl W.heap.size W).alloc (Nat.le_refl _) (.cells #[.string K, .int .i64 L, .int .i64 V] 36))
  have E1 := fun X => inSet_any s F (by omega) (by omega) X
  simp only [hsF] at E1
  replace E1 := Lib.hid E1
  have E2 := fun X => inSet_any s T (by omega) (by omega) X
  simp only [hsT] at E2
  replace E2 := Lib.hid E2
  have hftb : ((F : Int) == (T : Int)) = false := by simp; omega
  replace EF := Lib.hid EF
  replace IHP := Lib.hid IHP
  replace IHO := Lib.hid IHO
  have HU := Lib.hid hu
  have HMid := Lib.hid hmid
  obtain ⟨p1, _⟩ := p2w_fin ⟨F, by omega⟩
  obtain ⟨p2, _⟩ := p2w_fin ⟨T, by omega⟩
  simp only at p1 p2
  have hm1 : min F 64 = F := by omega
  have hm2 : min T 64 = T := by omega
  clear hu hmid
  have HB := Lib.hid hb
  clear hb hsF hsT
  rcases Nat.lt_or_eq_of_le (show 1 ≤ cap by omega) with hc1 | rfl
  · have hb1 : (0 : Int) ≤ (M : Int) := by omega
    have hb2 : (1 : Int) ≤ (M : Int) + 1 := by omega
    have hb3 : (M : Int) + 1 ≤ (cap : Int) := by omega
    have hc2 : ¬ cap = 1 := by omega
    have hc3 : ¬ 1 = cap := by omega
    go_enter Try.func129, Try.ntmps129
    have a1 := fun ob => cell_alloc_l ob k1
    have a2 := fun ob => cell_alloc_l ob k2
    have a3 := fun ob => cell_alloc_l ob k3
    have hbg := cell_alloc_l (.cells #[.string K, .int .i64 L, .int .i64 V] 36) HB.out.bg
    have hbl := World.block_lt_of_cell? _ _ hbg
    go_wp2_with fail
    go_region
    clear a1 a2 a3
    go_wp2_with (first
      | (go_at_call 114; refine (EF.out _).mono ?_; rintro e w1 ⟨rfl, hs1⟩; replace hs1 := since_of_drew hs1; have hbg1 := (hs1.cell hbl).trans hbg; have hw3 := (hs1.cell (World.block_lt_of_cell? _ _ d3)).trans d3; have HS1 := Lib.hid (HS.out.trans (since_mono hs1 HS.out.size)); clear hs1)
      | (go_at_call 130; ((with_reducible refine (E1.out _).mono ?_); rintro e w2 ⟨rfl, rfl⟩)))
    have hS7 : w1.cell? ⟨Bg, 0, none⟩ = some (.func (.func 129) #[] #[.pointer (some ⟨By, 0, none⟩), .pointer (some ⟨Bg, 0, none⟩)]) ∧ w1.cell? ⟨W.heap.size, 2, none⟩ = some (.int .i64 V) := ⟨hbg1, hw3⟩
    have hu := HU.out
    have hKC := fun (X : World) (hk : Keeps own w1 X) => show X.cell? ⟨Bg, 0, none⟩ = some (.func (.func 129) #[] #[.pointer (some ⟨By, 0, none⟩), .pointer (some ⟨Bg, 0, none⟩)]) ∧ X.cell? ⟨W.heap.size, 2, none⟩ = some (.int .i64 V) from ⟨hk.cell (a := ⟨Bg, 0, none⟩) hB1 hbg1, hk.cell (a := ⟨W.heap.size, 2, none⟩) (fun h => by have := hown _ h; simp at this) hw3⟩
    have HKC := Lib.hid hKC
    clear hKC
    go_region_held3 (fun W' => W'.cell? ⟨Bg, 0, none⟩ = some (.func (.func 129) #[] #[.pointer (some ⟨By, 0, none⟩), .pointer (some ⟨Bg, 0, none⟩)]) ∧ W'.cell? ⟨W.heap.size, 2, none⟩ = some (.int .i64 V))
      (first | exact g9 | exact hS7)
      (first
        | (go_at_call 130; ((with_reducible refine (E1.out _).mono ?_); rintro e w2 ⟨rfl, rfl⟩))
        | (go_at_call 130; ((with_reducible refine (E2.out _).mono ?_); rintro e w2 ⟨rfl, rfl⟩))
        | (go_at_call 129; refine (IHO.out _ _ _ HS1.out.drew (by first | exact .inr trivial | exact .inr rfl | exact .inl rfl) (by omega) (by omega)).mono ?_; rintro e w5 hE; obtain ⟨bb, rfl, hk5, hJ5, hx5⟩ := hE.one; have g9 := HKC.out _ ((keeps_since ((World.Since.refl w1.heap.size w1).drew)).trans hk5); have HK5 := Lib.hid ((keeps_since (own := own) (HS1.out.drew)).trans hk5); have HJ5 := Lib.hid hJ5; have HX5 := Lib.hid hx5; clear hk5 hJ5 hx5))
    all_goals
      obtain ⟨hg5, _⟩ := g9
      cases bb
      · obtain ⟨q5, hq5, hx5⟩ := HX5.out rfl
        go_wp2_with fail
        go_ret
        exact .inr ⟨rfl, ⟨q5, hq5.trans HMid.out, hx5⟩, HK5.out⟩
      · have hJ5 := HJ5.out rfl
        go_wp2_with fail
        refine (IHP.out _ _ _ hJ5 HK5.out (by first | exact .inr trivial | exact .inr rfl | exact .inl rfl) (by omega) (by omega)).mono ?_
        rintro e w6 hE
        replace hE := hE.from HK5.out
        rcases hE with ⟨rfl, hJ6, hk6⟩ | ⟨rfl, hx6, hk6⟩
        · go_wp2_with fail
          go_ret
          exact .inl ⟨rfl, hJ6, hk6⟩
        · go_wp2_with fail
          go_ret
          exact .inr ⟨rfl, hx6, hk6⟩
  · obtain rfl : M = 0 := by omega
    clear hM hcap hc63
    go_enter Try.func129, Try.ntmps129
    have a1 := fun ob => cell_alloc_l ob k1
    have a2 := fun ob => cell_alloc_l ob k2
    have a3 := fun ob => cell_alloc_l ob k3
    have hbg := cell_alloc_l (.cells #[.string K, .int .i64 L, .int .i64 V] 36) HB.out.bg
    have hbl := World.block_lt_of_cell? _ _ hbg
    go_wp2_with fail
    go_region
    clear a1 a2 a3
    go_wp2_with (first
      | (go_at_call 114; refine (EF.out _).mono ?_; rintro e w1 ⟨rfl, hs1⟩; replace hs1 := since_of_drew hs1; have hbg1 := (hs1.cell hbl).trans hbg; have hw3 := (hs1.cell (World.block_lt_of_cell? _ _ d3)).trans d3; have HS1 := Lib.hid (HS.out.trans (since_mono hs1 HS.out.size)); clear hs1)
      | (go_at_call 130; ((with_reducible refine (E1.out _).mono ?_); rintro e w2 ⟨rfl, rfl⟩)))
    have hS7 : w1.cell? ⟨Bg, 0, none⟩ = some (.func (.func 129) #[] #[.pointer (some ⟨By, 0, none⟩), .pointer (some ⟨Bg, 0, none⟩)]) ∧ w1.cell? ⟨W.heap.size, 2, none⟩ = some (.int .i64 V) := ⟨hbg1, hw3⟩
    have hu := HU.out
    have hKC := fun (X : World) (hk : Keeps own w1 X) => show X.cell? ⟨Bg, 0, none⟩ = some (.func (.func 129) #[] #[.pointer (some ⟨By, 0, none⟩), .pointer (some ⟨Bg, 0, none⟩)]) ∧ X.cell? ⟨W.heap.size, 2, none⟩ = some (.int .i64 V) from ⟨hk.cell (a := ⟨Bg, 0, none⟩) hB1 hbg1, hk.cell (a := ⟨W.heap.size, 2, none⟩) (fun h => by have := hown _ h; simp at this) hw3⟩
    have HKC := Lib.hid hKC
    clear hKC
    go_region_held3 (fun W' => W'.cell? ⟨Bg, 0, none⟩ = some (.func (.func 129) #[] #[.pointer (some ⟨By, 0, none⟩), .pointer (some ⟨Bg, 0, none⟩)]) ∧ W'.cell? ⟨W.heap.size, 2, none⟩ = some (.int .i64 V))
      (first | exact g9 | exact hS7)
      (first
        | (go_at_call 130; ((with_reducible refine (E1.out _).mono ?_); rintro e w2 ⟨rfl, rfl⟩))
        | (go_at_call 130; ((with_reducible refine (E2.out _).mono ?_); rintro e w2 ⟨rfl, rfl⟩))
        | (go_at_call 129; refine (IHO.out _ _ _ HS1.out.drew (by first | exact .inr trivial | exact .inr rfl | exact .inl rfl) (by omega) (by omega)).mono ?_; rintro e w5 hE; obtain ⟨bb, rfl, hk5, hJ5, hx5⟩ := hE.one; have g9 := HKC.out _ ((keeps_since ((World.Since.refl w1.heap.size w1).drew)).trans hk5); have HK5 := Lib.hid ((keeps_since (own := own) (HS1.out.drew)).trans hk5); have HJ5 := Lib.hid hJ5; have HX5 := Lib.hid hx5; clear hk5 hJ5 hx5))
    all_goals
      obtain ⟨hg5, _⟩ := g9
      cases bb
      · obtain ⟨q5, hq5, hx5⟩ := HX5.out rfl
        go_wp2_with fail
        go_ret
        exact .inr ⟨rfl, ⟨q5, hq5.trans HMid.out, hx5⟩, HK5.out⟩
      · have hJ5 := HJ5.out rfl
        go_wp2_with fail
        refine (IHP.out _ _ _ hJ5 HK5.out (by first | exact .inr trivial | exact .inr rfl | exact .inl rfl) (by omega) (by omega)).mono ?_
        rintro e w6 hE
        replace hE := hE.from HK5.out
        rcases hE with ⟨rfl, hJ6, hk6⟩ | ⟨rfl, hx6, hk6⟩
        · go_wp2_with fail
          go_ret
          exact .inl ⟨rfl, hJ6, hk6⟩
        · go_wp2_with fail
          go_ret
          exact .inr ⟨rfl, hx6, hk6⟩

end Go.Proofs.Ytbclpbgomkfabaa
end

section
namespace Go.Proofs.Ytbclpbgomkfabaa
open Go.RowKit Go.Deep Go.Shelf
attribute [local go_sem] Oper.semAt_some

theorem xorO_fin : ∀ s : Fin 32, ∀ i k : Fin 5, i ≠ k → bits BinOp.xor IntKind.i64 (s.val : Int) (bits BinOp.or IntKind.i64 (2 ^ i.val) (2 ^ k.val)) = ((s.val ^^^ 2 ^ i.val ^^^ 2 ^ k.val : Nat) : Int) ∧ s.val ^^^ 2 ^ i.val ^^^ 2 ^ k.val ≤ 31 := by decide +kernel
theorem ChipsR.keeps {own : Nat → Prop} {W X : World} {b o : Nat} {cs : List RC} (h : ChipsR W (some ⟨b, o, none⟩) cs) (hk : Keeps own W X) (hb : ¬ own b) : ChipsR X (some ⟨b, o, none⟩) cs := fun h0 => by
  obtain ⟨b', o', e, hc⟩ := h h0
  simp only [Option.some.injEq, Addr.mk.injEq, and_true] at e
  obtain ⟨rfl, rfl⟩ := e
  exact ⟨b, o, rfl, fun i hi => ⟨hk.cell (a := ⟨b, o + i * 3, none⟩) hb (hc i hi).1, hk.cell (a := ⟨b, o + i * 3 + 1, none⟩) hb (hc i hi).2.1, hk.cell (a := ⟨b, o + i * 3 + 2, none⟩) hb (hc i hi).2.2⟩⟩
theorem FB.since {By Bg l : Nat} {W X : World} (h : FB By Bg l W) (hs : W.Since W.heap.size X) : FB By Bg l X := h.keeps (own := fun _ => False) (keeps_since hs) (fun h => h) (fun h => h)
theorem nine_w {x V B : Int} (hv : -9 ≤ V ∧ V ≤ 9) (hx : -B ≤ x ∧ x ≤ B) : -(9 * B) ≤ x * V ∧ x * V ≤ 9 * B := by
  have h : V = -9 ∨ V = -8 ∨ V = -7 ∨ V = -6 ∨ V = -5 ∨ V = -4 ∨ V = -3 ∨ V = -2 ∨ V = -1 ∨ V = 0 ∨ V = 1 ∨ V = 2 ∨ V = 3 ∨ V = 4 ∨ V = 5 ∨ V = 6 ∨ V = 7 ∨ V = 8 ∨ V = 9 := by omega
  rcases h with rfl | rfl | rfl | rfl | rfl | rfl | rfl | rfl | rfl | rfl | rfl | rfl | rfl | rfl | rfl | rfl | rfl | rfl | rfl <;> omega

def pxF (x : Nat × Int) : Prop := x.1 ≤ 31 ∧ -(nineP 10) ≤ x.2 ∧ x.2 ≤ nineP 10

set_option maxRecDepth 100000 in
set_option maxHeartbeats 1000000 in
theorem goF_one (l By Bg : Nat) (own : Nat → Prop) (J Jx : List (Nat × Int) → World → Prop)
    (a : Option Addr) (cap s : Nat) (x : Int) (pre : List (Nat × Int)) (W : World) (hb : FB By Bg l W) (hY : YieldAt Fence.wide 7 Try.prog l (encF (s, x)) W fun e W' => (e = .returned (.bool true) ∧ J (pre ++ [(s, x)]) W' ∧ Keeps own W W') ∨ (e = .returned (.bool false) ∧ Jx (pre ++ [(s, x)]) W' ∧ Keeps own W W')) :
    Calls Try.prog 129 #[.slice a 0 cap, .int .i64 s, .int .i64 x, .pointer (some ⟨By, 0, none⟩), .pointer (some ⟨Bg, 0, none⟩)] W (FE own J Jx (pre ++ [(s, x)]) W) := by
  obtain ⟨fn, tmps, assign, body, hy, hR⟩ := hY
  have hyb := hb.yb
  dsimp only [encF] at hy
  clear hb
  refine (callsIn_wide (n := 8)).1 ?_
  refine callsIn_of_wp Try.func129 rfl trivial ?_ rfl
  simp only [Try.ntmps129, List.size_toArray, List.length_cons, List.length_nil, Nat.reduceAdd, Nat.reduceSub, Array.replicate_succ, Array.replicate_zero, List.push_toArray, List.append_toArray, List.nil_append, List.cons_append]
  gi_wp2
  refine hR.mono ?_
  rintro e W3 (⟨rfl, hJ3, hk3⟩ | ⟨rfl, hx3, hk3⟩)
  · gi_wp2
    go_ret
    exact .inl ⟨rfl, hJ3, hk3⟩
  · gi_wp2
    go_ret
    exact .inr ⟨rfl, ⟨_, List.prefix_refl _, hx3⟩, hk3⟩

theorem goF_any (l By Bg NN B : Nat) (own : Nat → Prop) (J Jx : List (Nat × Int) → World → Prop) (hJ : FromB B J) (hBy : B ≤ By) (hBg : B ≤ Bg) (hown : ∀ k, own k → k < B)
    (hY : ∀ m pre x W, J pre W → pxF x → pre.length < NN → YieldAt Fence.wide m Try.prog l (encF x) W fun e W' => (e = .returned (.bool true) ∧ J (pre ++ [x]) W' ∧ Keeps own W W') ∨ (e = .returned (.bool false) ∧ Jx (pre ++ [x]) W' ∧ Keeps own W W')) :
    ∀ (cs : List RC) (a : Option Addr) (N cap s : Nat) (x : Int) (pre : List (Nat × Int)) (W : World), cs.length = N → N ≤ 10 → N ≤ cap → cap ≤ 9223372036854775807 → (∀ c ∈ cs, RCok c ∧ chOk 5 (toC c)) → s ≤ 31 → -(nineP (10 - N)) ≤ x ∧ x ≤ nineP (10 - N) → FB By Bg l W → ChipsR W a cs → (0 < N → ∀ b o, a = some ⟨b, o, none⟩ → ¬ own b) → J pre W → pre.length + (famL (cs.map toC) s x).length ≤ NN →
    Calls Try.prog 129 #[.slice a N cap, .int .i64 s, .int .i64 x, .pointer (some ⟨By, 0, none⟩), .pointer (some ⟨Bg, 0, none⟩)] W (FE own J Jx (pre ++ famL (cs.map toC) s x) W)
  | [], a, N, cap, s, x, pre, W, hN, _, _, _, _, hs, hx, hb, _, _, hj, hl => by
    obtain rfl : N = 0 := hN.symm
    exact goF_one l By Bg own J Jx a cap s x pre W hb (hY 7 pre (s, x) W hj ⟨hs, hx⟩ (by simp [famL] at hl; omega))
  | c :: cs, a, N, cap, s, x, pre, W, hN, h10, hcap, hc63, hok, hs, hx, hb, hm, hnb, hj, hl => by
    obtain ⟨b, o, rfl, ⟨k1, k2, k3⟩, ht⟩ := hm.split
    obtain ⟨hrc, h5⟩ := hok c (by simp)
    obtain ⟨M, rfl⟩ : ∃ M, N = M + 1 := ⟨cs.length, by simpa using hN.symm⟩
    have hM : cs.length = M := by simpa using hN
    have hbn := hnb (by omega) b o rfl
    have hBl : B ≤ W.heap.size := by have := World.block_lt_of_cell? _ _ hb.yb; simp only at this; omega
    have e9 : nineP (10 - M) = 9 * nineP (10 - (M + 1)) := by rw [show 10 - M = (10 - (M + 1)) + 1 by omega]; rfl
    have hp9 := nineP_le (k := 10 - M) (by omega)
    have hq9 := nineP_pos (10 - (M + 1))
    have hxw := nine_w hrc.2.2 hx
    have hw1 : IntKind.i64.wrap (x * c.w) = x * c.w := IntWalk.i64_in _ ⟨by omega, by omega⟩
    have IH := fun (X : World) (q c' s' : Nat) (x' : Int) (pre' : List (Nat × Int)) (hk : Keeps own W X) (hcr : ChipsR W (some ⟨b, q, none⟩) cs) (h1 : M ≤ c') (h2 : c' ≤ cap) (hs' : s' ≤ 31) (hx' : -(nineP (10 - M)) ≤ x' ∧ x' ≤ nineP (10 - M)) (hj' : J pre' X) (hl' : pre'.length + (famL (cs.map toC) s' x').length ≤ NN) =>
      goF_any l By Bg NN B own J Jx hJ hBy hBg hown hY cs (some ⟨b, q, none⟩) M c' s' x' pre' X hM (by omega) h1 (by omega) (fun c hc => hok c (by simp [hc])) hs' hx' (hb.keeps hk (fun h => by have := hown _ h; omega) (fun h => by have := hown _ h; omega)) (hcr.keeps hk hbn) (fun _ b' o' e => by injection e with e; injection e with e1; subst e1; exact hbn) hj' hl'
    have hJs := fun (X : World) (h : W.Since W.heap.size X) => hJ pre W X none hj ⟨h.os, h.tape, h.output, h.size, fun k hk _ => h.block k hk⟩ (fun r e => by cases e)
    have htW := fun (q : Nat) (hq : q = o + 3 ∨ cap = 1) => ht W q cap (World.Since.refl _ _) (by omega) hq
    have EF := fun (X : World) => ends_any c X hrc
    have hxs : -(nineP (10 - M)) ≤ x ∧ x ≤ nineP (10 - M) := by omega
    have hxv : -(nineP (10 - M)) ≤ x * c.w ∧ x * c.w ≤ nineP (10 - M) := by omega
    obtain ⟨g1, g2⟩ := toC_ok5 h5
    obtain ⟨K, l', V⟩ := c
    obtain ⟨hkk, ⟨hl0, hl10⟩, hv9⟩ := hrc
    simp only at k1 k2 k3 hw1 hxv EF hl0 hv9
    obtain ⟨L, rfl⟩ : ∃ L : Nat, l' = L := ⟨l'.toNat, by omega⟩
    have hCw : (toC ⟨K, (L : Int), V⟩).2.2 = V := toC_w _
    rw [List.map_cons] at hl ⊢
    obtain ⟨CC, hCC⟩ : ∃ CC, toC ⟨K, (L : Int), V⟩ = CC := ⟨_, rfl⟩
    rw [hCC] at hl g1 g2 h5 hCw ⊢
    simp only [hCC] at EF
    by_cases e2 : CC.1 = 2
    · have c1 : chR CC = CC.2.1 := if_pos e2
      have c2 : chK CC = CC.2.1 := if_pos e2
      rw [c1, c2] at EF
      cases hbit : s.testBit CC.2.1 with
      | true =>
        have hf : famL (CC :: cs.map toC) s x = famL (cs.map toC) s (x * V) := by
          show (if CC.1 = 2 then _ else _) = _
          rw [if_pos e2, if_pos hbit, hCw]
        rw [hf] at hl ⊢
        exact goF_h By Bg l own J Jx _ K V x M cap b o s L CC.2.1 W g1 hs hbit hw1 EF hb (fun X q c' h hq h1 h2 => IH X q c' s (x * V) pre (keeps_since h) (htW q hq) h1 h2 hs hxv (hJs X h) hl) h10 hcap hc63 k1 k2 k3
      | false =>
        have hf : famL (CC :: cs.map toC) s x = famL (cs.map toC) s x := by
          show (if CC.1 = 2 then _ else _) = _
          rw [if_pos e2, if_neg (by rw [hbit]; simp)]
        rw [hf] at hl ⊢
        exact goF_g By Bg l own J Jx _ K V x M cap b o s L CC.2.1 CC.2.1 W g1 hs hbit EF hb (fun X q c' h hq h1 h2 => IH X q c' s x pre (keeps_since h) (htW q hq) h1 h2 hs hxs (hJs X h) hl) h10 hcap hc63 k1 k2 k3
    · have c1 : chR CC = cFrom CC := if_neg e2
      have c2 : chK CC = cTo CC := if_neg e2
      rw [c1, c2] at EF
      obtain ⟨hF, hT⟩ := g2 e2
      have hne := (ch_ft h5 e2).2.2
      cases hbF : s.testBit (cFrom CC) with
      | false =>
        have hf : famL (CC :: cs.map toC) s x = famL (cs.map toC) s x := by
          show (if CC.1 = 2 then _ else _) = _
          rw [if_neg e2, if_neg (by rw [hbF]; simp)]
        rw [hf] at hl ⊢
        exact goF_g By Bg l own J Jx _ K V x M cap b o s L (cFrom CC) (cTo CC) W hF hs hbF EF hb (fun X q c' h hq h1 h2 => IH X q c' s x pre (keeps_since h) (htW q hq) h1 h2 hs hxs (hJs X h) hl) h10 hcap hc63 k1 k2 k3
      | true =>
        cases hbT : s.testBit (cTo CC) with
        | true =>
          have hf : famL (CC :: cs.map toC) s x = famL (cs.map toC) s x := by
            show (if CC.1 = 2 then _ else _) = _
            rw [if_neg e2, if_neg (by rw [hbT]; simp)]
          rw [hf] at hl ⊢
          exact goF_m By Bg l own J Jx _ K V x M cap b o s L (cFrom CC) (cTo CC) W hF hT hs hne hbF hbT EF hb (fun X q c' h hq h1 h2 => IH X q c' s x pre (keeps_since h) (htW q hq) h1 h2 hs hxs (hJs X h) hl) h10 hcap hc63 k1 k2 k3
        | false =>
          have hf : famL (CC :: cs.map toC) s x = famL (cs.map toC) (s ^^^ 2 ^ cFrom CC ^^^ 2 ^ cTo CC) (x * V) ++ famL (cs.map toC) s x := by
            show (if CC.1 = 2 then _ else _) = _
            rw [if_neg e2, if_pos ⟨hbF, hbT⟩, hCw]
          rw [hf] at hl ⊢
          obtain ⟨u1, u2⟩ := xorO_fin ⟨s, by omega⟩ ⟨cFrom CC, by omega⟩ ⟨cTo CC, by omega⟩ (fun e => hne (by injection e))
          simp only at u1 u2
          rw [List.length_append] at hl
          rw [← List.append_assoc]
          exact goF_o By Bg l own J Jx (pre ++ famL (cs.map toC) (s ^^^ 2 ^ cFrom CC ^^^ 2 ^ cTo CC) (x * V)) _ (List.prefix_append _ _) K V x M cap b o s L (cFrom CC) (cTo CC) W hF hT hs hne hbF hbT hw1 _ u1 (fun h => by have := hown _ h; omega) (fun k h => by have := hown _ h; omega) EF hb
            (fun X q c' h hq h1 h2 => IH X q c' _ (x * V) pre (keeps_since h) (htW q hq) h1 h2 u2 hxv (hJs X h) (by omega))
            (fun X q c' hm hk hq h1 h2 => IH X q c' s x _ hk (htW q hq) h1 h2 hs hxs hm (by rw [List.length_append]; omega)) h10 hcap hc63 k1 k2 k3

end Go.Proofs.Ytbclpbgomkfabaa
end

section
namespace Go.Proofs.Ytbclpbgomkfabaa
open Go.RowKit Go.Deep Go.Shelf
attribute [local go_sem] Oper.semAt_some

theorem room_any (k : Nat) : Fence.wide.room k := fun d h => by cases h
theorem yieldAt_any {m m' : Nat} {P : Program} {l : Nat} {args : Array Value} {W : World} {R : Ending → World → Prop} (h : YieldAt Fence.wide m P l args W R) : YieldAt Fence.wide m' P l args W R := by
  obtain ⟨fn, tmps, assign, body, hy, hR⟩ := h
  exact ⟨fn, tmps, assign, body, hy, hR.1, fun c cs _ => hR.2 c cs (room_any _)⟩

theorem step_append_fitsG {P : Program} (w : World) {ops : Array Oper} {o : Oper} {a : Act} {K : Act → World → Prop} {Q : Exit → Act → World → Prop} {E : Prop} (hw : Region.wanted o (yielded ops a.tmps) = true) (s x : Operand) (t : TypeId)
    (hop : o.op = Op.call { callee := Callee.builtin Builtin.append, args := #[s, x], argTypes := #[t, t] })
    (base : Nat) (e : TypeId) (i : TypeInfo) (size : Nat) (h1 : P.underlying t = some (.slice e)) (h2 : P.info? e = some i) (h4 : i.size = size)
    (g k cap : Nat) (xs : List Value) (hs : a.eval s = .slice (some ⟨g, 0, none⟩) k cap) (hown : w.ownsRow base e size (.slice (some ⟨g, 0, none⟩) k cap) k xs) (ad : Addr) (m c : Nat) (news : List Value) (hx : a.eval x = .slice (some ad) m c) (hn : news.length = m * size)
    (hc : ∀ j u, news[j]? = some u → w.cell? (ad.add j) = some u) (h1c : ∀ u ∈ news, u.oneCell' = true) (b1 : k + m ≤ cap)
    (hK : ∀ w', w'.ownsRow base e size (.slice (some ⟨g, 0, none⟩) (k + m) cap) (k + m) (xs ++ news) → w.grownBy w' (some g) → K (a.put o.dst (.slice (some ⟨g, 0, none⟩) (k + m) cap)) w') :
    if Region.wanted o (yielded ops a.tmps) = true then Oper.wp P o a w K Q else E := by
  rw [if_pos hw]
  obtain ⟨w', hrun, r1, r2⟩ := run_append_fits (P := P) w base t o.type e i size h1 h2 h4 g k cap xs hown ad m c news hn hc h1c b1
  unfold Oper.wp
  simp [execOp, hop, resolve, invoke, builtin, hs, hx, hrun, Result.andThen]
  exact hK w' r1 r2

theorem grown_drewC (w : World) (n : Nat) : w.grownBy (w.drewN n) none := ⟨rfl, rfl, rfl, Nat.le_refl _, fun _ _ _ => rfl⟩
theorem undrew {a b : World} {row : Option Nat} (h : a.drew.grownBy b row) : a.grownBy b row := ⟨h.os, h.tape, h.output, h.size, h.block⟩

theorem map_snd {α : Type} (g : Nat) (L : List α) : (([] : List (Nat × α)) ++ L.map (Prod.mk g)).map (fun x => x.2) = L := by
  rw [List.nil_append]
  induction L with
  | nil => rfl
  | cons x L ih => rw [List.map_cons, List.map_cons, ih]

theorem since_rowC {w X Y : World} {row : Option Nat} (h : w.Since w.heap.size X) (hg : X.grownBy Y row) (hr : ∀ r, row = some r → w.heap.size ≤ r) : w.Since w.heap.size Y :=
  ⟨hg.os.trans h.os, hg.tape.trans h.tape, hg.output.trans h.output, Nat.le_trans h.size hg.size, fun k hk => (hg.block k (by have := h.size; omega) (fun e => by have := hr k e.symm; omega)).trans (h.block k hk)⟩

end Go.Proofs.Ytbclpbgomkfabaa
end

section
namespace Go.Proofs.Ytbclpbgomkfabaa
open Go.RowKit Go.Deep Go.Shelf
attribute [local go_sem] Oper.semAt_some

theorem families_any (a : Option Addr) (N cap : Nat) (s : Int) (w : World) :
    Calls Try.prog 106 #[.slice a N cap, .int .i64 s] w fun e w' => e = .returned (.func (.func 128) #[] #[.pointer (some ⟨w.heap.size, 0, none⟩), .pointer (some ⟨w.heap.size + 1, 0, none⟩)]) ∧ w' = (w.alloc (.cells #[.slice a N cap] 23)).alloc (.cells #[.int .i64 s] 3) := by
  go_enter Try.func106, Try.ntmps106
  go_wp2
  go_ret
  exact ⟨rfl, by simp⟩

set_option maxRecDepth 100000 in
set_option maxHeartbeats 1000000 in
theorem families_stops (k Bc Bf N cap s : Nat) (a : Option Addr) (cs : List RC) (w : World) (hN : cs.length = N) (h10 : N ≤ 10) (hcap : N ≤ cap) (hc63 : cap ≤ 9223372036854775807) (hok : ∀ c ∈ cs, RCok c ∧ chOk 5 (toC c)) (hs : s ≤ 31) (hm : ChipsR w a cs) (hc : w.cell? ⟨Bc, 0, none⟩ = some (.slice a N cap)) (hf : w.cell? ⟨Bf, 0, none⟩ = some (.int .i64 s)) :
    SeqE Fence.wide k Try.prog 128 #[.pointer (some ⟨Bc, 0, none⟩), .pointer (some ⟨Bf, 0, none⟩)] encF (fun x _ => pxF x) (fun q => q = Bc ∨ q = Bf ∨ (0 < N ∧ ∃ b o, a = some ⟨b, o, none⟩ ∧ q = b)) (fun ys => ys = famL (cs.map toC) s 1) (fun ys => ys <+: famL (cs.map toC) s 1) 1025 w := by
  intro l J Jx own W hW hown hJ hJx hY hj
  refine callsIn_wide.2 ?_
  have hlc := World.block_lt_of_cell? _ _ hc
  have hlf := World.block_lt_of_cell? _ _ hf
  have c1 := (hW.cell (p := ⟨Bc, 0, none⟩) hlc).trans hc
  have c2 := (hW.cell (p := ⟨Bf, 0, none⟩) hlf).trans hf
  have hl : (famL (cs.map toC) s 1).length ≤ 1024 := by
    have h1 := famL_len (cs.map toC) s 1
    have h2 := twoP_le (k := (cs.map toC).length) (by rw [List.length_map]; omega)
    omega
  have hmW : ChipsR W a cs := fun h0 => by
    obtain ⟨b, o, e, hh⟩ := hm h0
    have hbl := World.block_lt_of_cell? _ _ (hh 0 h0).1
    exact ⟨b, o, e, fun i hi => ⟨(hW.cell (p := ⟨b, o + i * 3, none⟩) hbl).trans (hh i hi).1, (hW.cell (p := ⟨b, o + i * 3 + 1, none⟩) hbl).trans (hh i hi).2.1, (hW.cell (p := ⟨b, o + i * 3 + 2, none⟩) hbl).trans (hh i hi).2.2⟩⟩
  have hn1 := nineP_pos (10 - N)
  have HG := Lib.hid (fun (V : World) (hs2 : W.Since W.heap.size V) (hb : FB W.heap.size (W.heap.size + 1) l V) (hjv : J [] V) =>
    goF_any l W.heap.size (W.heap.size + 1) 1025 W.heap.size own J Jx hJ (Nat.le_refl _) (by omega) (fun k hk => (hown k hk).1) (fun m pre x V' hp hpx hl => yieldAt_any (hY pre x V' hp hpx hl)) cs a N cap s 1 [] V hN h10 hcap hc63 hok hs ⟨by omega, by omega⟩ hb (hmW.since hs2) (fun h0 b o e h => (hown _ h).2 (.inr (.inr ⟨h0, b, o, e, rfl⟩))) hjv (by simp; omega))
  have HJ := Lib.hid hJ
  have HJJ := Lib.hid hj
  have d1 := fun o1 o2 => cell_alloc_l o2 (cell_alloc_l o1 c1)
  have d2 := fun o1 o2 => cell_alloc_l o2 (cell_alloc_l o1 c2)
  clear hJ hJx hY hj hown hmW hm hok hl
  go_enter Try.func128, Try.ntmps128
  go_wp2_with fail
  refine (HG.out _ (((World.Since.refl _ _).alloc (Nat.le_refl _) _).alloc (by simp) _) ⟨cell_alloc_l _ (cell_new_l W _ _).1, ?hbg⟩ (HJ.out.alloc _ (HJ.out.alloc _ HJJ.out))).mono ?_
  case hbg => rw [← World.size_alloc W (.cells #[.func (.yield l) #[] #[]] 54)]; exact (cell_new_l _ _ _).1
  rintro e w2 (⟨rfl, hj2, hk2⟩ | ⟨rfl, ⟨q, hqp, hq⟩, hk2⟩)
  · go_wp2_with fail
    go_end0
    exact ⟨⟨_, rfl⟩, .inl ⟨_, rfl, hj2⟩⟩
  · go_wp2_with fail
    go_end0
    exact ⟨⟨_, rfl⟩, .inr ⟨_, hqp, hq⟩⟩

end Go.Proofs.Ytbclpbgomkfabaa
end

section
namespace Go.Proofs.Ytbclpbgomkfabaa
open Go.RowKit Go.Deep Go.Shelf
attribute [local go_sem] Oper.semAt_some

structure SBF (w : World) (y : Int) (W : World) : Prop where
  bs : Boxed W w.heap.size 3 (.int .i64 y)
  sn : w.Since w.heap.size W
theorem SBF.kept {w W W' : World} {y : Int} {row : Option Nat} (h : SBF w y W) (hg : W.grownBy W' row) (hr : ∀ r, row = some r → w.heap.size + 1 ≤ r) : SBF w y W' :=
  ⟨h.bs.kept hg (fun e => by have := hr _ e.symm; omega), h.sn.grown hg h.sn.size (fun k e => by have := hr k e; omega)⟩
theorem SBF.set {w W : World} {y : Int} (h : SBF w y W) (z : Int) : SBF w z (W.setCell ⟨w.heap.size, 0, none⟩ (.int .i64 z)) :=
  ⟨h.bs.set _, h.sn.setCell (Nat.le_refl _) _⟩
theorem sbf_start (w : World) (y : Int) : SBF w y (w.alloc (.cells #[.int .i64 y] 3)) := ⟨Boxed.new w 3 (.int .i64 y), (World.Since.refl _ w).alloc (Nat.le_refl _) _⟩
theorem sumTo2_snoc (t : Nat) (l : List (Nat × Int)) (x : Nat × Int) : sumTo2 t (l ++ [x]) = if x.1 = t then sumTo2 t l + x.2 else sumTo2 t l := by
  rw [sumTo2_app]
  unfold sumTo2
  simp only [List.foldl_cons, List.foldl_nil]
  split <;> simp

set_option maxRecDepth 100000 in
set_option maxHeartbeats 1000000 in
theorem familySum_any (a : Option Addr) (N cap s t : Nat) (cs : List RC) (w : World) (hN : cs.length = N) (h10 : N ≤ 10) (hcap : N ≤ cap) (hc63 : cap ≤ 9223372036854775807) (hok : ∀ c ∈ cs, RCok c ∧ chOk 5 (toC c)) (hs : s ≤ 31) (ht : t ≤ 31) (hm : ChipsR w a cs) :
    Calls Try.prog 53 #[.slice a N cap, .int .i64 s, .int .i64 t] w fun e w' => e = .returned (.int .i64 (famN (cs.map toC) s t)) ∧ w.Since w.heap.size w' := by
  have hfs : sumTo2 t (famL (cs.map toC) s 1) = famN (cs.map toC) s t := by rw [famL_sum]; omega
  have HM := Lib.hid hm
  have HOK := Lib.hid hok
  have HFS := Lib.hid hfs
  clear hm hok hfs
  refine (callsIn_wide (n := 9)).1 ?_
  refine callsIn_of_wp_marks Try.func53 rfl trivial ?_ rfl
  simp only [Try.ntmps53, List.size_toArray, List.length_cons, List.length_nil, Nat.reduceAdd, Nat.reduceSub, Array.replicate_succ, Array.replicate_zero, List.push_toArray, List.append_toArray, List.nil_append, List.cons_append]
  gi_wp2_with (refine ⟨trivial, ?_⟩; gi_at_call 106; refine (callsIn_wide.2 (families_any a N cap _ _)).mono ?_; rintro e w' ⟨rfl, rfl⟩)
  obtain ⟨w1, hw1⟩ : ∃ w1, w.alloc (.cells #[.int .i64 (t : Int)] 3) = w1 := ⟨_, rfl⟩
  have hz1 : w1.heap.size = w.heap.size + 1 := by rw [← hw1]; simp
  have hs1 : w.Since w.heap.size w1 := by rw [← hw1]; exact (World.Since.refl _ _).alloc (Nat.le_refl _) _
  have ct : w1.cell? ⟨w.heap.size, 0, none⟩ = some (.int .i64 t) := by rw [← hw1]; exact (cell_new_l w _ 3).1
  have hP2 := ((sbf_start w1 0).kept (World.grownBy_alloc _ (.cells #[.slice a N cap] 23) none) (fun r e => by cases e)).kept (World.grownBy_alloc _ (.cells #[.int .i64 (s : Int)] 3) none) (fun r e => by cases e)
  have hbc := cell_alloc_l (.cells #[.int .i64 (s : Int)] 3) (cell_new_l (w1.alloc (.cells #[.int .i64 0] 3)) (.slice a N cap) 23).1
  have hbf := (cell_new_l ((w1.alloc (.cells #[.int .i64 0] 3)).alloc (.cells #[.slice a N cap] 23)) (.int .i64 (s : Int)) 3).1
  have hz2 : (((w1.alloc (.cells #[.int .i64 0] 3)).alloc (.cells #[.slice a N cap] 23)).alloc (.cells #[.int .i64 (s : Int)] 3)).heap.size = w1.heap.size + 3 := by simp
  simp only [World.size_alloc] at hbc hbf
  rw [hw1]
  obtain ⟨W0, hW0⟩ : ∃ W0, ((w1.alloc (.cells #[.int .i64 0] 3)).alloc (.cells #[.slice a N cap] 23)).alloc (.cells #[.int .i64 (s : Int)] 3) = W0 := ⟨_, rfl⟩
  rw [hW0] at hbc hbf hP2 hz2 ⊢
  rw [hz1] at hbc hbf hz2
  have hmW := HM.out.since (hs1.trans (since_mono hP2.sn hs1.size))
  clear hW0 hw1
  have hneed : ∀ q, (q = w.heap.size + 1 + 1 ∨ q = w.heap.size + 1 + 1 + 1 ∨ (0 < N ∧ ∃ b o, a = some ⟨b, o, none⟩ ∧ q = b)) → q < W0.heap.size ∧ q ≠ w1.heap.size := fun q hq => by
    rcases hq with rfl | rfl | ⟨h0, b, o, e, rfl⟩
    · omega
    · omega
    · obtain ⟨b', o', e', hc⟩ := HM.out (by omega)
      have hl := World.block_lt_of_cell? _ _ (hc 0 (by omega)).1
      rw [e] at e'
      injection e' with e'
      injection e' with e1
      simp only at hl
      omega
  refine rangeC (F := Fence.wide) (n := 9) rfl (by omega) (gf := 128) (lb := #[.pointer (some ⟨w.heap.size + 1 + 1, 0, none⟩), .pointer (some ⟨w.heap.size + 1 + 1 + 1, 0, none⟩)]) rfl trivial (enters_of Try.func128 (by kernel_rfl) rfl)
    (families_stops 8 (w.heap.size + 1 + 1) (w.heap.size + 1 + 1 + 1) N cap s a cs W0 hN h10 hcap hc63 HOK.out hs hmW hbc hbf).toC (fun _ => rfl) (fun _ _ _ _ _ h _ _ => h) (fun k => k = w1.heap.size) (by rintro k rfl; exact ⟨by omega, fun h => (hneed _ h).2 rfl⟩) (fun k h => (hneed k h).1)
    (fun (pre : List (Nat × Int)) W => SBF w1 (sumTo2 t pre) W ∧ pre.length ≤ 1025 ∧ ∀ x ∈ pre, -10000000000 ≤ x.2 ∧ x.2 ≤ 10000000000)
    (fun pre X Y row hs hg hr => ⟨hs.1.kept hg (fun r e => by have := hr r e; omega), hs.2⟩)
    ⟨hP2, by simp⟩
    (fun x => { tmps := #[.slice a N cap, .int .i64 s, .int .i64 t, undef, undef, .pointer (some ⟨w.heap.size, 0, none⟩), .int .i64 0, .pointer (some ⟨w.heap.size + 1, 0, none⟩), .int .i64 (x.1 : Int), .int .i64 x.2, .slice a N cap, .int .i64 s, .func (.func 128) #[] #[.pointer (some ⟨w.heap.size + 1 + 1, 0, none⟩), .pointer (some ⟨w.heap.size + 1 + 1 + 1, 0, none⟩)], .int .i64 (x.1 : Int), .int .i64 x.2, undef, undef, undef, undef, undef, undef, undef], defers := [] }) ?assign ?body ?done
  case assign =>
    intro lp x W K hK
    simp only [encF]
    gi_wp2
    exact hK
  case body =>
    rintro lp pre x W hl ⟨hv, hpl, hpre⟩ hpx hlen
    have hyb := sumTo2_bd t (B := 10000000000) (by omega) pre hpre
    have hsn := sumTo2_snoc t pre x
    have hx9 := nineP_le (k := 10) (by omega)
    obtain ⟨_, hx1, hx2⟩ := hpx
    have hmul : (10000000000 : Int) * pre.length ≤ 10000000000 * 1025 := Int.mul_le_mul_of_nonneg_left (by omega) (by omega)
    obtain ⟨y, hy⟩ : ∃ y, sumTo2 t pre = y := ⟨_, rfl⟩
    rw [hy] at hv hyb hsn
    obtain ⟨x1, x2⟩ := x
    simp only at hx1 hx2 hsn ⊢
    have hws : IntKind.i64.wrap (y + x2) = y + x2 := IntWalk.i64_in _ ⟨by omega, by omega⟩
    have cS : W.cell? ⟨w.heap.size + 1, 0, none⟩ = some (.int .i64 y) := by rw [← hz1]; exact hv.bs.cell
    have fS : W.frozen? ⟨w.heap.size + 1, 0, none⟩ = false := by rw [← hz1]; exact hv.bs.frozen
    have cT : W.cell? ⟨w.heap.size, 0, none⟩ = some (.int .i64 t) := (hv.sn.cell (by show w.heap.size < _; omega)).trans ct
    have HSN := Lib.hid hsn
    have HV := Lib.hid hv
    have HPRE := Lib.hid (show ∀ x' ∈ pre ++ [(x1, x2)], -10000000000 ≤ x'.2 ∧ x'.2 ≤ 10000000000 from fun x' hx' => by
      rcases List.mem_append.1 hx' with h | h
      · exact hpre x' h
      · simp at h; subst h; simp only; omega)
    have hl2 : (pre ++ [(x1, x2)]).length ≤ 1025 := by rw [List.length_append, List.length_singleton]; omega
    clear hyb hmul hsn hv hpre hy
    by_cases he : x1 = t
    · subst he
      have hS := HSN.out
      rw [if_pos rfl] at hS
      have HS2 := Lib.hid hS
      clear hS HSN
      gi_wp2
      exact ⟨Keeps.grown (grownBy_setCell' W (w.heap.size + 1) _) (fun r e => by cases e; rfl), by rw [HS2.out, ← hz1]; exact HV.out.set _, hl2, fun p q h => HPRE.out (p, q) h⟩
    · have heb : ((x1 : Int) == (t : Int)) = false := by simp; omega
      have hS := HSN.out
      rw [if_neg he] at hS
      have HS2 := Lib.hid hS
      clear hS HSN he
      gi_wp2
      exact ⟨Keeps.refl _ _, by rw [HS2.out]; exact HV.out, hl2, fun p q h => HPRE.out (p, q) h⟩
  case done =>
    rintro D ys W hD hS ⟨hv, _⟩ hK
    rw [hS, HFS.out] at hv
    have cS : W.cell? ⟨w.heap.size + 1, 0, none⟩ = some (.int .i64 (famN (cs.map toC) s t)) := by rw [← hz1]; exact hv.bs.cell
    have hlt := hv.bs.lt
    have HS := Lib.hid (since_rowC (hs1.trans (since_mono hv.sn hs1.size)) (grownBy_putObj' W D (.deferred none)) (fun r e => by cases e; omega))
    obtain ⟨y, hyy⟩ : ∃ y, famN (cs.map toC) s t = y := ⟨_, rfl⟩
    rw [hyy] at cS
    have HYY := Lib.hid hyy
    clear hv hS hyy
    gi_wp2
    refine ⟨by simp, .inl ⟨_, _, rfl, run_takeDeferred hK, ?_⟩⟩
    refine ⟨.int .i64 y, ?_, by rw [HYY.out], HS.out⟩
    simp [results, Try.f53, go_sem]

end Go.Proofs.Ytbclpbgomkfabaa
end

section
namespace Go.Proofs.Ytbclpbgomkfabaa
open Go.RowKit Go.Deep

theorem bit0_fin : ∀ s : Fin 64, ∀ i : Fin 6, (bits BinOp.and IntKind.i64 ((s.val : Int) / 2 ^ i.val) 1 == 0) = !s.val.testBit i.val := by decide +kernel
theorem bit0_any (s i : Nat) (hs : s ≤ 63) (hi : i ≤ 5) : (bits BinOp.and IntKind.i64 ((s : Int) / 2 ^ i) 1 == 0) = !s.testBit i := bit0_fin ⟨s, by omega⟩ ⟨i, by omega⟩
theorem pow_wrap (n : Nat) (h : n ≤ 6) : wrap64 (wrap64 (2 ^ n) - 1) = ((2 ^ n - 1 : Nat) : Int) := by
  have h : n = 0 ∨ n = 1 ∨ n = 2 ∨ n = 3 ∨ n = 4 ∨ n = 5 ∨ n = 6 := by omega
  rcases h with rfl | rfl | rfl | rfl | rfl | rfl | rfl <;> decide +kernel

end Go.Proofs.Ytbclpbgomkfabaa
end

section
namespace Go.Proofs.Ytbclpbgomkfabaa
open Go.RowKit Go.Deep

noncomputable def sqB (l : List (List Int)) : Bool := tabIn l && (l.length == (l.getD 0 []).length)
theorem sqB_of {l : List (List Int)} (h : sqB l = true) : TabIn l ∧ l.length = (l.getD 0 []).length := by
  unfold sqB at h
  rw [Bool.and_eq_true] at h
  exact ⟨tabIn_of h.1, by simpa using h.2⟩

end Go.Proofs.Ytbclpbgomkfabaa
end

section
namespace Go.Proofs.Ytbclpbgomkfabaa
open Go.RowKit Go.Deep

theorem orS_fin : ∀ s : Fin 64, ∀ k : Fin 6, bits BinOp.or IntKind.i64 (s.val : Int) (2 ^ k.val) = ((s.val ||| 2 ^ k.val : Nat) : Int) := by decide +kernel
theorem orS_lt : ∀ s : Fin 64, ∀ k : Fin 6, s.val ||| 2 ^ k.val ≤ 63 := by decide +kernel
theorem pow_in : ∀ k : Fin 6, IntKind.i64.wrap ((2 : Int) ^ k.val) = (2 : Int) ^ k.val := by decide +kernel
theorem popcS_le (s : Nat) : popcS s ≤ 6 := sel_length s 6 6

end Go.Proofs.Ytbclpbgomkfabaa
end

section
namespace Go.Proofs.Ytbclpbgomkfabaa
open Go.RowKit Go.Deep

def SpecV (w : World) (ok : Bool) (x : Int) (e : Ending) (w' : World) : Prop := e = .returned (.tuple #[.int .i64 (if ok then x else 0), .bool ok]) ∧ Drawn w w'

def trF (l : List (List Int)) (i : Nat) : Int := at2 l i i

end Go.Proofs.Ytbclpbgomkfabaa
end

section
namespace Go.Proofs.Ytbclpbgomkfabaa
open Go.RowKit Go.Deep

theorem andNot_fin : ∀ n : Fin 7, ∀ k : Fin 6, k.val < n.val → bits BinOp.andNot IntKind.i64 ((2 ^ n.val - 1 : Nat) : Int) (2 ^ k.val) = ((2 ^ n.val - 1 - 2 ^ k.val : Nat) : Int) := by decide +kernel
theorem less_fin : ∀ n : Fin 7, 1 ≤ n.val → IntKind.i64.wrap (((2 ^ n.val - 1 : Nat) : Int) - 1) = ((2 ^ n.val - 2 : Nat) : Int) := by decide +kernel
theorem pow63 : ∀ n : Fin 7, 2 ^ n.val - 1 ≤ 63 := by decide +kernel

def SpecW (w : World) (ok : Bool) (x : Int) (e : Ending) (w' : World) : Prop := e = .returned (.tuple #[.int .i64 (if ok then x else 0), .bool ok]) ∧ w.Since w.heap.size w'

end Go.Proofs.Ytbclpbgomkfabaa
end

section
namespace Go.Proofs.Ytbclpbgomkfabaa
open Go.RowKit Go.Deep

theorem sn_tmod (k : Nat) (h : k < 64) : (Int.tmod (k : Int) 2 == 0) = !decide (k % 2 = 1) := by
  have h2 : ∀ k : Fin 64, (Int.tmod (k.val : Int) 2 == 0) = !decide (k.val % 2 = 1) := by decide +kernel
  exact h2 ⟨k, h⟩

set_option maxHeartbeats 400000 in
theorem signOf_any (k : Nat) (h : k < 64) (w : World) :
    Calls Try.prog 152 #[.int .i64 k] w fun e w' => e = .returned (.int .i64 (sn k)) ∧ w = w' := by
  have e := sn_tmod k h
  by_cases ho : k % 2 = 1
  · have e2 : sn k = -1 := if_pos ho
    rw [e2]
    have e3 : (Int.tmod (k : Int) 2 == 0) = false := by rw [e]; simp [ho]
    clear e h
    go_enter Try.func152, Try.ntmps152
    go_wp2
    go_ret
    exact ⟨rfl, rfl⟩
  · have e2 : sn k = 1 := if_neg ho
    rw [e2]
    have e3 : (Int.tmod (k : Int) 2 == 0) = true := by rw [e]; simp [ho]
    clear e h
    go_enter Try.func152, Try.ntmps152
    go_wp2
    go_ret
    exact ⟨rfl, rfl⟩

set_option maxHeartbeats 2000000 in
theorem without_any (a : Option Addr) (cap n r k : Nat) (l : List (List Int)) (w : World) (hn : l.length = n) (hT : TabIn l) (hw : (l.getD 0 []).length = n) (hr : r < n) (hk : k < n) (hm : MatR w a l) :
    Calls Try.prog 153 #[.slice a n cap, .int .i64 r, .int .i64 k] w fun e w' => ∃ a' cap', e = .returned (.slice a' (partL l (2 ^ n - 1 - 2 ^ r) (2 ^ n - 1 - 2 ^ k)).length cap') ∧ w.Since w.heap.size w' ∧ OwnT w.heap.size w'.heap.size w' a' (partL l (2 ^ n - 1 - 2 ^ r) (2 ^ n - 1 - 2 ^ k)) := by
  have h6 := hT.2.1
  rw [hn] at h6
  have E1 := fun (W : World) => allRows_any a cap n W h6
  have E2 := fun (W : World) (h : w.Since w.heap.size W) => width_any a cap n l W hn (by omega) (by omega) (hm.since h)
  rw [hw] at E2
  have E3 := fun (W : World) => fullSet_any n h6 W
  have e1 := andNot_fin ⟨n, by omega⟩ ⟨r, by omega⟩ hr
  have e2 := andNot_fin ⟨n, by omega⟩ ⟨k, by omega⟩ hk
  have e3 := pow63 ⟨n, by omega⟩
  have w1 := pow_in ⟨r, by omega⟩
  have w2 := pow_in ⟨k, by omega⟩
  simp only at e1 e2 e3 w1 w2
  have hm1 : min r 64 = r := by omega
  have hm2 : min k 64 = k := by omega
  have E4 := fun (W : World) (h : w.Since w.heap.size W) => part_any a cap n (2 ^ n - 1 - 2 ^ r) (2 ^ n - 1 - 2 ^ k) l W hn hT (Nat.le_trans (Nat.sub_le _ _) e3) (Nat.le_trans (Nat.sub_le _ _) e3) (hm.since h)
  obtain ⟨s, hs⟩ : ∃ s, s = 2 ^ n - 1 - 2 ^ r := ⟨_, rfl⟩
  obtain ⟨c, hc⟩ : ∃ s, s = 2 ^ n - 1 - 2 ^ k := ⟨_, rfl⟩
  obtain ⟨Aa, hA⟩ : ∃ s, s = 2 ^ n - 1 := ⟨_, rfl⟩
  rw [← hs, ← hA] at e1
  rw [← hc, ← hA] at e2
  simp only [← hs, ← hc] at E4 ⊢
  simp only [← hA] at E1 E3
  have H1 := Lib.hid E1
  have H2 := Lib.hid E2
  have H3 := Lib.hid E3
  have H4 := Lib.hid E4
  clear E1 E2 E3 E4 hs hc hA hT hm hn hw e3
  go_enter Try.func153, Try.ntmps153
  go_wp2
  go_region_held3 (fun _ => True) (exact trivial)
    (first
      | (go_at_call 113; refine (H1.out _).mono ?_; rintro e w3 ⟨rfl, rfl⟩)
      | (go_at_call 68; refine (H2.out _ ?_).mono ?_; (exact (World.Since.refl _ _).drew); rintro e w3 ⟨rfl, rfl⟩)
      | (go_at_call 104; refine (H3.out _).mono ?_; rintro e w3 ⟨rfl, rfl⟩)
      | (go_at_call 117; refine (H4.out _ ?_).mono ?_; (exact (World.Since.refl _ _).drew); rintro e w3 ⟨a', cap', rfl, hs2, ho⟩))
  all_goals
    go_wp2
    go_ret
    exact ⟨a', cap', rfl, since_of_drew hs2, ho⟩

end Go.Proofs.Ytbclpbgomkfabaa
end

section
namespace Go.Proofs.Ytbclpbgomkfabaa
open Go.RowKit Go.Deep

def oc1 (s : Int) : Int := IntKind.u64.wrap (bits BinOp.and IntKind.u64 (s / 2) 6148914691236517205 + bits BinOp.and IntKind.u64 s 6148914691236517205)
def oc2 (x : Int) : Int := IntKind.u64.wrap (bits BinOp.and IntKind.u64 (x / 4) 3689348814741910323 + bits BinOp.and IntKind.u64 x 3689348814741910323)
def oc3 (x : Int) : Int := bits BinOp.and IntKind.u64 (IntKind.u64.wrap (x / 16 + x)) 1085102592571150095
def oc4 (x : Int) : Int := IntKind.u64.wrap (x + x / 256)
def oc5 (x : Int) : Int := IntKind.u64.wrap (x + x / 65536)
def oc6 (x : Int) : Int := IntKind.u64.wrap (x + x / 4294967296)
def ocF (s : Int) : Int := bits BinOp.and IntKind.i64 (wrap64 (oc6 (oc5 (oc4 (oc3 (oc2 (oc1 s))))))) 127
theorem ocF_fin : ∀ s : Fin 64, ocF s.val = popcS s.val := by decide +kernel

set_option maxRecDepth 100000 in
set_option maxHeartbeats 1000000 in
theorem ones64_any (s : Nat) (h : s < 64) (w : World) :
    Calls Try.prog 127 #[.int .u64 s] w fun e w' => e = .returned (.int .i64 (popcS s)) ∧ w = w' := by
  go_enter Try.func127, Try.ntmps127
  go_wp2
  go_ret
  refine ⟨?_, rfl⟩
  have e := ocF_fin ⟨s, h⟩
  simp only [ocF, oc6, oc5, oc4, oc3, oc2, oc1] at e
  exact congrArg (fun z => Ending.returned (Value.int IntKind.i64 z)) e

set_option maxHeartbeats 400000 in
theorem ones_any (s : Nat) (h : s < 64) (w : World) :
    Calls Try.prog 105 #[.int .u64 s] w fun e w' => e = .returned (.int .i64 (popcS s)) ∧ w = w' := by
  have E := Lib.hid (ones64_any s h w)
  go_enter Try.func105, Try.ntmps105
  go_wp2_with fail
  refine (E.out).mono ?_
  rintro e w' ⟨rfl, rfl⟩
  go_wp2
  go_ret
  exact ⟨rfl, rfl⟩

set_option maxHeartbeats 400000 in
theorem members_any (s : Nat) (h : s < 64) (w : World) :
    Calls Try.prog 52 #[.int .i64 s] w fun e w' => e = .returned (.int .i64 (popcS s)) ∧ w = w' := by
  have E := Lib.hid (ones_any s h w)
  go_enter Try.func52, Try.ntmps52
  go_wp2_with fail
  refine (E.out).mono ?_
  rintro e w' ⟨rfl, rfl⟩
  go_wp2
  go_ret
  exact ⟨rfl, rfl⟩

set_option maxHeartbeats 400000 in
theorem isSet_any (x : Int) (n : Nat) (hn : n ≤ 6) (w : World) :
    Calls Try.prog 51 #[.int .i64 x, .int .i64 n] w fun e w' => e = .returned (.bool (inB x 0 (2 ^ n - 1 : Nat))) ∧ w = w' := by
  have E1 := Lib.hid (fullSet_any n hn w)
  have E2 := Lib.hid (inRange_any x 0 (2 ^ n - 1 : Nat) w)
  go_enter Try.func51, Try.ntmps51
  go_wp2_with fail
  refine (E1.out).mono ?_
  rintro e w' ⟨rfl, rfl⟩
  go_wp2_with fail
  refine (E2.out).mono ?_
  rintro e w' ⟨rfl, rfl⟩
  go_wp2
  go_ret
  exact ⟨rfl, rfl⟩

end Go.Proofs.Ytbclpbgomkfabaa
end

section
namespace Go.Proofs.Ytbclpbgomkfabaa
open Go.RowKit Go.Deep

theorem chOk_mono {n : Nat} {c : CH} (h : chOk n c) (hn : n ≤ 5) : chOk 5 c := by
  unfold chOk at h ⊢
  refine ⟨h.1, ?_⟩
  have h2 := h.2
  split
  · rename_i e
    rw [if_pos e] at h2
    omega
  · rename_i e
    rw [if_neg e] at h2
    omega

set_option maxHeartbeats 400000 in
theorem implNetFamilies_any (a : Option Addr) (cap N : Nat) (n s t : Int) (cs : List RC) (w : World) (hN : cs.length = N) (hcap : N ≤ cap) (h63 : cap ≤ 9223372036854775807) (hm : ChipsR w a cs) :
    Calls Try.prog 15 #[.int .i64 n, .slice a N cap, .int .i64 s, .int .i64 t] w fun e w' => e = .returned (.tuple #[.int .i64 (famsV n cs s t), .bool (famsB n cs s t)]) ∧ w.Since w.heap.size w' := by
  have E := implNetIn_any a cap N n cs w hN (by omega) hm
  cases hb : netB n cs with
  | false =>
    have hl : famsB n cs s t = false := by unfold famsB; rw [hb, Bool.false_and]
    unfold famsV
    rw [hl, if_neg (by simp)]
    rw [hb] at E
    replace E := Lib.hid E
    clear hb hm hN hl
    go_enter Try.func15, Try.ntmps15
    go_wp2_with (go_at_call 46; refine (E.out).mono ?_; rintro e w1 ⟨rfl, hs1⟩; have HS1 := Lib.hid hs1; clear hs1)
    go_ret2
    exact ⟨rfl, HS1.out⟩
  | true =>
    obtain ⟨m, rfl, ho⟩ := netB_ok hb
    rw [hb] at E
    replace E := Lib.hid E
    have hn2 := ho.lo
    have hn5 := ho.hi
    have h10 := ho.len
    rw [hN] at h10
    obtain ⟨_, p3, p4, p5⟩ := p5_fin ⟨m, by omega⟩
    simp only at p3 p4 p5
    have hlb : famsB m cs s t = (inB s 0 ((2 ^ m - 1 : Nat) : Int) && (inB t 0 ((2 ^ m - 1 : Nat) : Int) && (popcS s.toNat == popcS t.toNat))) := by
      unfold famsB
      rw [hb, Bool.true_and, Int.toNat_natCast, p3, show ((2 ^ m : Nat) : Int) - 1 = ((2 ^ m - 1 : Nat) : Int) by omega]
    have E1 := fun (W : World) => isSet_any s m (by omega) W
    have E2 := fun (W : World) => isSet_any t m (by omega) W
    obtain ⟨b1, hb1⟩ : ∃ b, inB s 0 ((2 ^ m - 1 : Nat) : Int) = b := ⟨_, rfl⟩
    obtain ⟨b2, hb2⟩ : ∃ b, inB t 0 ((2 ^ m - 1 : Nat) : Int) = b := ⟨_, rfl⟩
    simp only [hb1] at E1
    simp only [hb2] at E2
    rw [hb1, hb2] at hlb
    replace E1 := Lib.hid E1
    replace E2 := Lib.hid E2
    by_cases hbb : b1 = true ∧ b2 = true
    · obtain ⟨rfl, rfl⟩ := hbb
      unfold inB at hb1 hb2
      simp only [decide_eq_true_eq] at hb1 hb2
      obtain ⟨j, rfl⟩ : ∃ j : Nat, s = j := ⟨s.toNat, by omega⟩
      obtain ⟨l, rfl⟩ : ∃ l : Nat, t = l := ⟨t.toNat, by omega⟩
      rw [Bool.true_and, Bool.true_and, Int.toNat_natCast, Int.toNat_natCast] at hlb
      have E3 := Lib.hid (fun (W : World) => members_any j (by omega) W)
      have E4 := Lib.hid (fun (W : World) => members_any l (by omega) W)
      have hok5 : ∀ c ∈ cs, RCok c ∧ chOk 5 (toC c) := fun c hc => ⟨(ho.ok c hc).1, chOk_mono (ho.ok c hc).2 hn5⟩
      have E5 := Lib.hid (fun (W : World) (hs : w.Since w.heap.size W) => familySum_any a N cap j l cs W hN h10 hcap h63 hok5 (by omega) (by omega) (hm.since hs))
      have hv : famsV m cs j l = if popcS j = popcS l then famN (cs.map toC) j l else 0 := by
        unfold famsV
        rw [hlb]
        by_cases e : popcS j = popcS l
        · simp [e]
        · simp [e]
      rw [hv, hlb]
      obtain ⟨P, hP⟩ : ∃ P, famN (cs.map toC) j l = P := ⟨_, rfl⟩
      rw [hP] at E5 ⊢
      clear hb hm hN hP hlb hv ho hb1 hb2 p3 p4 p5 hok5
      by_cases hpp : popcS j = popcS l
      · rw [if_pos hpp]
        have hpb : (popcS j == popcS l) = true := by simpa using hpp
        rw [hpb]
        rw [hpp] at E3
        clear hpp hpb
        go_enter Try.func15, Try.ntmps15
        go_wp2_with (first
          | (go_at_call 46; refine (E.out).mono ?_; rintro e w1 ⟨rfl, hs1⟩; have HS1 := Lib.hid hs1; clear hs1)
          | (go_at_call 51; ((with_reducible refine (E1.out _).mono ?_); rintro e w2 ⟨rfl, rfl⟩))
          | (go_at_call 51; ((with_reducible refine (E2.out _).mono ?_); rintro e w2 ⟨rfl, rfl⟩))
          | (go_at_call 52; ((with_reducible refine (E3.out _).mono ?_); rintro e w2 ⟨rfl, rfl⟩))
          | (go_at_call 52; ((with_reducible refine (E4.out _).mono ?_); rintro e w2 ⟨rfl, rfl⟩))
          | (go_at_call 53; refine (E5.out _ HS1.out).mono ?_; rintro e w3 ⟨rfl, hs3⟩; have HS3 := Lib.hid (HS1.out.trans (since_mono hs3 HS1.out.size)); clear hs3))
        go_ret2
        exact ⟨rfl, HS3.out⟩
      · rw [if_neg hpp]
        have hpb : (popcS j == popcS l) = false := by simpa using hpp
        have hpi : ((popcS j : Int) == (popcS l : Int)) = false := by simp; omega
        rw [hpb]
        go_enter Try.func15, Try.ntmps15
        go_wp2_with (first
          | (go_at_call 46; refine (E.out).mono ?_; rintro e w1 ⟨rfl, hs1⟩; have HS1 := Lib.hid hs1; clear hs1)
          | (go_at_call 51; ((with_reducible refine (E1.out _).mono ?_); rintro e w2 ⟨rfl, rfl⟩))
          | (go_at_call 51; ((with_reducible refine (E2.out _).mono ?_); rintro e w2 ⟨rfl, rfl⟩))
          | (go_at_call 52; ((with_reducible refine (E3.out _).mono ?_); rintro e w2 ⟨rfl, rfl⟩))
          | (go_at_call 52; ((with_reducible refine (E4.out _).mono ?_); rintro e w2 ⟨rfl, rfl⟩)))
        go_ret2
        exact ⟨rfl, HS1.out⟩
    · have hlf : famsB m cs s t = false := by rw [hlb]; cases b1 <;> cases b2 <;> simp at hbb ⊢
      unfold famsV
      rw [hlf, if_neg (by simp)]
      clear hb hm hN hlb hlf ho hb1 hb2 p3 p4 p5
      cases b1 <;> cases b2
      case true.true => exact absurd ⟨rfl, rfl⟩ hbb
      all_goals
        clear hbb
        go_enter Try.func15, Try.ntmps15
        go_wp2_with (first
          | (go_at_call 46; refine (E.out).mono ?_; rintro e w1 ⟨rfl, hs1⟩; have HS1 := Lib.hid hs1; clear hs1)
          | (go_at_call 51; ((with_reducible refine (E1.out _).mono ?_); rintro e w2 ⟨rfl, rfl⟩))
          | (go_at_call 51; ((with_reducible refine (E2.out _).mono ?_); rintro e w2 ⟨rfl, rfl⟩)))
        go_ret2
        exact ⟨rfl, HS1.out⟩

end Go.Proofs.Ytbclpbgomkfabaa
end

section
namespace Go.Proofs.Ytbclpbgomkfabaa
open Go.RowKit Go.Deep Go.Shelf
attribute [local go_sem] Oper.semAt_some

theorem CB.turn {w W W' : World} {v : Value} {cs : List RC} {row : Option Nat} (h : CB w W v cs) (hg : W.grownBy W' row) (hr : ∀ r, row = some r → w.heap.size ≤ r ∧ ∃ o : Obj, W.heap[r]? = some o ∧ o.isCells = false) : CB w W' v cs := by
  refine ⟨h.since.grown hg h.since.size (fun k e => (hr k e).1), h.own.kept hg ?_⟩
  rcases h.own.2 with ⟨hv, _⟩ | ⟨g, cap, cur, hv, _, hgg, _⟩
  · exact .inl (by rw [hv]; rfl)
  · refine .inr ?_
    rw [hv]
    intro e
    obtain ⟨_, o, h2, h3⟩ := hr g e.symm
    rw [hgg] at h2
    injection h2 with h2
    rw [← h2] at h3
    cases h3
theorem CB.setBelow {w W : World} {v : Value} {cs : List RC} {g : Nat} (h : CB w W v cs) (hg : g < w.heap.size) (u : Value) : CB (w.setCell ⟨g, 0, none⟩ u) (W.setCell ⟨g, 0, none⟩ u) v cs := by
  refine ⟨⟨h.since.os, h.since.tape, h.since.output, by simpa using h.since.size, fun k hk => ?_⟩, ?_⟩
  · have hk' : k < w.heap.size := by simpa using hk
    simp [World.setCell, Array.getElem?_modify, h.since.block k hk']
  · rw [World.size_setCell]
    refine h.own.kept (row := some g) ⟨rfl, rfl, rfl, by simp, fun k hk hne => Below.heap_setCell _ _ _ _ (fun e => hne (by rw [e]))⟩ ?_
    cases hv : v.ownBlock with
    | none => exact .inl rfl
    | some k => exact .inr (fun e => by injection e with e; have := (h.own.lt k hv).1; omega)

structure TndC (W0 Wb : World) (g : Nat) : Prop where
  os : Wb.os = W0.os
  tape : Wb.tape = W0.tape
  output : Wb.output = W0.output
  size : Wb.heap.size = W0.heap.size
  block : ∀ b, b < W0.heap.size → b ≠ g → Wb.heap[b]? = W0.heap[b]?
def PCh (W0 : World) (g : Nat) (L : List RC) (W : World) : Prop :=
  ∃ Wb v, TndC W0 Wb g ∧ Wb.heap[g]? = some (.cells #[v] 23 (0, 0)) ∧ CB Wb W v L
theorem PCh.kp {W0 : World} {g : Nat} {L : List RC} {W : World} (h : PCh W0 g L W) : W0.heap.size ≤ W.heap.size ∧ ∀ b, b ≠ g → b < W0.heap.size → W.heap[b]? = W0.heap[b]? := by
  obtain ⟨Wb, v, hT, _, hB⟩ := h
  have h1 := hT.size
  exact ⟨by have := hB.since.size; omega, fun b hb hlt => (hB.since.block b (by omega)).trans (hT.block b hlt hb)⟩
theorem PCh.own {W0 A B : World} {g : Nat} {L : List RC} {row : Option Nat} (h : PCh W0 g L A) (hg : A.grownBy B row) (hr : ∀ r, row = some r → W0.heap.size ≤ r ∧ ∃ o : Obj, A.heap[r]? = some o ∧ o.isCells = false) : PCh W0 g L B := by
  obtain ⟨Wb, v, hT, hb, hB⟩ := h
  exact ⟨Wb, v, hT, hb, hB.turn hg (fun r e => by rw [hT.size]; exact hr r e)⟩
theorem PCh.since {w W0 W : World} {g : Nat} {L : List RC} (h : PCh W0 g L W) (hB : w.Since w.heap.size W0) (hg : w.heap.size ≤ g) : w.Since w.heap.size W := by
  obtain ⟨Wb, v, hT, _, hBT⟩ := h
  have h1 := hT.size
  have h0 := hB.size
  exact ⟨hBT.since.os.trans (hT.os.trans hB.os), hBT.since.tape.trans (hT.tape.trans hB.tape), hBT.since.output.trans (hT.output.trans hB.output), by have := hBT.since.size; omega,
    fun k hk => ((hBT.since.block k (by omega)).trans (hT.block k (by omega) (by omega))).trans (hB.block k hk)⟩

theorem turn_end {W0 Wb W w1 w2 : World} {v v' : Value} {xs : List RC} {c : RC} {g B b : Nat} {n : Nat} (hT : TndC W0 Wb g) (hb : Wb.heap[g]? = some (.cells #[v] 23 (0, 0))) (h : CB Wb W v xs) (hs : W.Since W.heap.size w1) (hn : n = xs.length + 1)
    (hg : g < W0.heap.size) (hB : B < W0.heap.size) (hbb : b < W0.heap.size) (hB2 : B ≠ g) (hb2 : b ≠ g)
    (hown : w2.ownsRow Wb.heap.size 36 3 v' n (ch3 xs ++ ch3 [c])) (hgr : (w1.alloc (.cells #[.string c.k, .int .i64 c.l, .int .i64 c.w] 36)).grownBy w2 v.ownBlock) :
    (∃ va vcap, v' = .slice va n vcap) ∧ (w2.cell? ⟨g, 0, none⟩ = some v ∧ w2.frozen? ⟨g, 0, none⟩ = false) ∧ ∀ u, u = v' → (KeepsFrom W0.heap.size W (w2.setCell ⟨g, 0, none⟩ u) ∧ KpC B b W (w2.setCell ⟨g, 0, none⟩ u) ∧ PCh W0 g (xs ++ [c]) (w2.setCell ⟨g, 0, none⟩ u)) := by
  have h0 := h.since.size
  have h1 := hs.size
  have hz := hT.size
  have hkeep : ∀ q, q < W.heap.size → some q ≠ v.ownBlock → w2.heap[q]? = W.heap[q]? := fun q hq hne => by
    rw [hgr.block q (by simp; omega) hne, Below.heap_alloc _ _ _ (by omega), hs.block q hq]
  have hown0 : ∀ q, q < W0.heap.size → some q ≠ v.ownBlock := fun q hq e => by have := (h.own.lt q e.symm).1; omega
  have hbw : W.heap[g]? = some (.cells #[v] 23 (0, 0)) := (h.since.block g (by omega)).trans hb
  have hg2 : w2.heap[g]? = some (.cells #[v] 23 (0, 0)) := (hkeep g (by omega) (hown0 g hg)).trans hbw
  have hz2 := hgr.size
  simp only [World.size_alloc] at hz2
  refine ⟨?_, ⟨by simp [World.cell?, hg2], by simp [World.frozen?, hg2]⟩, ?_⟩
  · rcases hown.2 with ⟨hv, h0⟩ | ⟨g, cap, cur, rfl, _⟩
    · exact ⟨none, 0, by rw [hv, h0]⟩
    · exact ⟨_, _, rfl⟩
  rintro u rfl
  have hP : CB Wb w2 u (xs ++ [c]) := h.push (ds := [c]) hn (hs.alloc (by omega) _) hown hgr
  have hk2 : KeepsOthers W w2 := ⟨by omega, fun k o hk ho => by
    have hlt := (Array.getElem?_eq_some_iff.1 hk).1
    rw [hkeep k hlt (fun e => ?_)]
    · exact hk
    · rcases h.own.2 with ⟨hv, _⟩ | ⟨g', cap, cur, hv, _, hgg, _⟩
      · rw [hv] at e; cases e
      · rw [hv] at e
        injection e with e
        rw [e, hgg] at hk
        injection hk with hk
        rw [← hk] at ho
        cases ho⟩
  refine ⟨(hk2.trans (KeepsOthers.setCell _ _ _)).from _, ⟨?_, ?_⟩, ⟨Wb.setCell ⟨g, 0, none⟩ u, u, ⟨hT.os, hT.tape, hT.output, (World.size_setCell Wb ⟨g, 0, none⟩ u).trans hT.size, fun q hq hn => (Below.heap_setCell _ _ _ _ hn).trans (hT.block q hq hn)⟩, by simp [World.setCell, Array.getElem?_modify, hb], hP.setBelow (by omega) u⟩⟩
  · rw [Below.heap_setCell _ _ _ _ hB2]; exact hkeep B (by omega) (hown0 B hB)
  · rw [Below.heap_setCell _ _ _ _ hb2]; exact hkeep b (by omega) (hown0 b hbb)

set_option maxRecDepth 100000 in
set_option maxHeartbeats 1000000 in
theorem implNetTurn_any (a : Option Addr) (cap N : Nat) (n : Int) (cs : List RC) (w : World) (hN : cs.length = N) (h63 : N ≤ 9223372036854775807) (hm : ChipsR w a cs) :
    Calls Try.prog 16 #[.int .i64 n, .slice a N cap] w fun e w' => ∃ a' cap', e = .returned (.tuple #[.slice a' (resC (netB n cs) (turnC cs)).length cap', .bool (netB n cs)]) ∧ w.Since w.heap.size w' ∧ OwnC w.heap.size w'.heap.size w' a' (resC (netB n cs) (turnC cs)) := by
  have E := implNetIn_any a cap N n cs w hN h63 hm
  cases hb : netB n cs with
  | false =>
    rw [hb] at E
    replace E := Lib.hid E
    clear hb hm hN
    go_enter Try.func16, Try.ntmps16
    go_wp2_with (go_at_call 46; refine (E.out).mono ?_; rintro e w1 ⟨rfl, hs1⟩; have HS1 := Lib.hid hs1; clear hs1)
    go_ret2
    exact ⟨_, _, rfl, HS1.out, OwnC.nil _ _ _ _⟩
  | true =>
    have hl : (resC true (turnC cs)).length = N := by unfold resC turnC; rw [if_pos rfl, List.length_map, List.length_reverse, hN]
    rw [hl]
    have hres : resC true (turnC cs) = turnC cs := rfl
    rw [hres]
    obtain ⟨m, rfl, ho⟩ := netB_ok hb
    have h10 := ho.len
    rw [hN] at h10
    rw [hb] at E
    replace E := Lib.hid E
    obtain ⟨iC, hiC⟩ := infoChip_parts
    have HI := Lib.hid hiC
    have HN := Lib.hid hN
    have HM := Lib.hid hm
    have hmix : Try.prog.follows .mixedOrders = true := by kernel_rfl
    clear hb hm hN hl hres hiC ho
    refine (callsIn_wide (n := 9)).1 ?_
    refine callsIn_of_wp_marks Try.func16 rfl trivial ?_ rfl
    simp only [Try.ntmps16, List.size_toArray, List.length_cons, List.length_nil, Nat.reduceAdd, Nat.reduceSub, Array.replicate_succ, Array.replicate_zero, List.push_toArray, List.append_toArray, List.nil_append, List.cons_append]
    gi_wp2_with (first
      | (refine ⟨trivial, ?_⟩; gi_at_call 46; refine (callsIn_wide.2 (E.out)).mono ?_; rintro e w1 ⟨rfl, hs1⟩; have HS1 := Lib.hid hs1; clear hs1)
      | (refine ⟨trivial, ?_⟩; gi_at_call 54; refine (callsIn_wide.2 (backward_any _ _ _ _)).mono ?_; rintro e w3 ⟨rfl, rfl⟩))
    obtain ⟨W0, hW0⟩ : ∃ W0, W0 = (w1.alloc (.cells #[.slice none 0 0] 23)).alloc (.cells #[.slice a N cap] 23) := ⟨_, rfl⟩
    obtain ⟨g, hg⟩ : ∃ g, w1.heap.size = g := ⟨_, rfl⟩
    rw [← hW0, hg]
    have hz1 := HS1.out.size
    have hsz0 : W0.heap.size = g + 1 + 1 := by rw [hW0, ← hg]; simp
    have hS0 : w.Since w.heap.size W0 := by rw [hW0]; exact ((HS1.out.alloc (by omega) _).alloc (by simp; omega) _)
    have hbx0 : W0.heap[g]? = some (.cells #[.slice none 0 0] 23 (0, 0)) := by rw [hW0, ← hg]; exact (Below.heap_alloc _ _ _ (by simp)).trans (World.alloc_heap_new w1 _)
    have hBc : W0.cell? ⟨g + 1, 0, none⟩ = some (.slice a N cap) := by
      have h := cell_new_l (w1.alloc (.cells #[.slice none 0 0] 23)) (.slice a N cap) 23
      rw [← hW0] at h
      have h' := h.1
      simpa [hg] using h'
    obtain ⟨b, o, ha, hb, hc⟩ : ∃ b o, (0 < N → a = some ⟨b, o, none⟩) ∧ (b < w.heap.size ∨ b = g + 1) ∧ ∀ q, q < N → W0.cell? ⟨b, o + q * 3, none⟩ = some (.string (cs.getD q rc0).k) ∧ W0.cell? ⟨b, o + q * 3 + 1, none⟩ = some (.int .i64 (cs.getD q rc0).l) ∧ W0.cell? ⟨b, o + q * 3 + 2, none⟩ = some (.int .i64 (cs.getD q rc0).w) := by
      by_cases h0 : 0 < N
      · obtain ⟨b, o, e, hc⟩ := HM.out (by rw [HN.out]; exact h0)
        have hl := World.block_lt_of_cell? _ _ (hc 0 (by rw [HN.out]; exact h0)).1
        exact ⟨b, o, fun _ => e, .inl hl, fun q hq => ⟨(hS0.cell (by exact hl)).trans (hc q (by rw [HN.out]; exact hq)).1, (hS0.cell (by exact hl)).trans (hc q (by rw [HN.out]; exact hq)).2.1, (hS0.cell (by exact hl)).trans (hc q (by rw [HN.out]; exact hq)).2.2⟩⟩
      · exact ⟨g + 1, 0, fun h => absurd h h0, .inr rfl, fun q hq => by omega⟩
    have hbB : b < W0.heap.size := by omega
    have hne1 : b ≠ g := by omega
    have hP0 : PCh W0 g [] W0 := ⟨W0, _, ⟨rfl, rfl, rfl, rfl, fun _ _ _ => rfl⟩, hbx0, cb_none _⟩
    have hwg : w.heap.size ≤ g := by omega
    clear hW0 hg hbx0
    refine wpIn_rangeFunc_ownH (F := Fence.wide) (n := 9) rfl (by omega) (gf := 107) (lb := #[.pointer (some ⟨g + 1, 0, none⟩)]) rfl trivial (enters_of Try.func107 (by kernel_rfl) rfl)
      (back_stops 8 (by omega) (g + 1) b o N cap a cs h10 ha W0 (by omega) hbB hBc hc)
      (fun h k => h.trans k) (kpC_b (by omega) hbB) (Below.refl _ _) (fun _ => rfl)
      (fun pre W => PCh W0 g ((cameL cs pre).map trC) W)
      (fun _ _ _ => False)
      (fun s X Y row hs hg hr => hs.own hg hr)
      (fun c s X Y row hs hg hr => hs)
      hP0
      (fun x a' W => ∃ Bx, W0.heap.size ≤ Bx ∧ Box3 W Bx (cs.getD x.1 rc0).k (cs.getD x.1 rc0).l (cs.getD x.1 rc0).w ∧ a' = { tmps := #[.int .i64 m, .slice a N cap, undef, undef, .slice none 0 0, .bool false, .pointer (some ⟨g, 0, none⟩), undef, .pointer (some ⟨Bx, 0, none⟩), .int .i64 m, .slice a N cap, .bool true, .bool false, .slice a N cap, .func (.func 107) #[] #[.pointer (some ⟨g + 1, 0, none⟩)], .int .i64 (x.1 : Int), .agg #[.string (cs.getD x.1 rc0).k, .int .i64 (cs.getD x.1 rc0).l, .int .i64 (cs.getD x.1 rc0).w], undef, undef, undef, undef, undef, undef], defers := [] })
      (fun x a' _ X Y row hs hg hr => by obtain ⟨Bx, h1, h2, h3⟩ := hs; exact ⟨Bx, h1, h2.own hg (fun r e => (hr r e).2), h3⟩)
      ?assign ?body ?done ?stop
    case assign =>
      rintro l2 pre x W Kq hI hK
      have hkp := hI.kp
      simp only [encB]
      gi_wp2
      exact hK _ _ ((KeepsOthers.alloc _ _).from _) (KpC.grown (World.grownBy_alloc _ _ none) (by omega) (by omega) (by simp) (by simp)) (hI.own (World.grownBy_alloc _ _ none) (fun r e => by cases e)) ⟨W.heap.size, hkp.1, Box3.new W _ _ _, rfl⟩
    case body =>
      rintro l2 pre x a' W hl ⟨r, hr⟩ hI ⟨Bx, hBx, bX, rfl⟩ hlt
      have hcam : (cameL cs (pre ++ [x])).map trC = (cameL cs pre).map trC ++ [trC (cs.getD x.1 rc0)] := by
        unfold cameL
        rw [List.map_append, List.map_append]
        rfl
      have hlen : ((cameL cs pre).map trC).length ≤ 11 := by unfold cameL; rw [List.length_map, List.length_map]; omega
      obtain ⟨c, hcc⟩ : ∃ c, cs.getD x.1 rc0 = c := ⟨_, rfl⟩
      obtain ⟨xs, hxs⟩ : ∃ xs, (cameL cs pre).map trC = xs := ⟨_, rfl⟩
      rw [hcc] at bX hcam ⊢
      rw [hxs] at hcam hI hlen
      have EE := fun (V : World) => chipTurned_any c V
      obtain ⟨c', hc'⟩ : ∃ c', trC c = c' := ⟨_, rfl⟩
      rw [hc'] at hcam
      simp only [hc'] at EE
      obtain ⟨K, L, V⟩ := c
      obtain ⟨K', L', V'⟩ := c'
      simp only at EE bX ⊢
      have HSN := Lib.hid hcam
      obtain ⟨c1, c2, c3⟩ := bX.cells
      have hkp := hI.kp
      obtain ⟨Wb, v, hTd, hbx, hCB⟩ := hI
      have hWb : Wb.heap.size ≤ W.heap.size := hCB.since.size
      have hzb := hTd.size
      have hbW : W.heap[g]? = some (.cells #[v] 23 (0, 0)) := (hCB.since.block g (by omega)).trans hbx
      have hpc : W.cell? ⟨g, 0, none⟩ = some v := by simp [World.cell?, hbW]
      have hgW : g < W.heap.size := by omega
      have hg0 : g < W0.heap.size := by omega
      have hB0 : g + 1 < W0.heap.size := by omega
      have hbb := hbB
      have hB2 : g + 1 ≠ g := by omega
      have hb2 := hne1
      have HTD := Lib.hid hTd
      have HBX := Lib.hid hbx
      have HCB := Lib.hid hCB
      replace EE := Lib.hid EE
      clear hTd hbx hCB hbW hcam hc' hcc hxs bX hr hkp hP0
      gi_wp2
      refine wpIn_region_any hmix (wpAnyIn_of_wpAny ?hno (noDefer_of (by kernel_rfl)) _ _ _ _ ?_)
      case hno =>
        rintro ⟨a, w, h⟩
        exact h
      change wpAny _ _ _ _ _ _ _ (World.drew _)
      refine wpAny_ready (rs := [0, 1]) (by kernel_rfl) (by simp) (AllReady.cons rfl (fun K hK => ?p0) (AllReady.cons rfl (fun K hK => ?p1) AllReady.nil))
      case p0 =>
        go_simp
        refine hK _ _ ?_
        clear hK K
        refine wpAny_ready (rs := [1]) (by kernel_rfl) (by simp) (AllReady.cons rfl (fun K hK => ?_) AllReady.nil)
        go_simp
        refine hK _ _ ?_
        clear hK K
        refine wpAny_ready (rs := [2]) (by kernel_rfl) (by simp) (AllReady.cons rfl (fun K hK => ?_) AllReady.nil)
        go_simp
        go_at_call 55
        refine (EE.out _).mono ?_
        rintro e w4 ⟨rfl, hs4⟩
        go_wp2_with fail
        replace hs4 := since_of_drew hs4
        have hp1 := (hs4.cell (a := ⟨g, 0, none⟩) hgW).trans hpc
        have hp2 := fun ob => cell_alloc_l ob hp1
        have hz4 := hs4.size
        have HS4 := Lib.hid hs4
        have HBL := Lib.hid (HCB.out.later hs4)
        clear hs4
        refine wpAny_ready (rs := [3]) (by kernel_rfl) (by simp) (AllReady.cons rfl (fun K hK => ?_) AllReady.nil)
        go_simp
        refine hK _ _ ?_
        clear hK K
        refine wpAny_ready (rs := [4]) (by kernel_rfl) (by simp) (AllReady.cons rfl (fun K hK => ?_) AllReady.nil)
        rw [if_pos (by rfl)]
        refine wp_append_own _ (.tmp 17) (.tmp 20) 23 rfl Wb.heap.size 36 iC (.agg #[.string ⟨#[]⟩, .int .i64 0, .int .i64 0]) 3 32 Try.underlying23 HI.out.1 HI.out.2.1 HI.out.2.2.1 HI.out.2.2.2 rfl (by decide) _ _ _ rfl (HBL.out.own.alloc _) ⟨w4.heap.size, 0, none⟩ 1 1 (ch3 [⟨K', L', V'⟩]) rfl rfl (by have := news3 w4 ⟨K', L', V'⟩ 36; simpa using this) (ch3_one _) (by unfold maxLen; omega) (by omega) (by simp; omega) ?_
        intro v' w5 hown' hgrow _
        refine hK _ _ ?_
        clear hK K
        obtain ⟨⟨va, vcap, rfl⟩, ⟨hp3, hf3⟩, hfin⟩ := turn_end (c := ⟨K', L', V'⟩) HTD.out HBX.out HCB.out HS4.out rfl hg0 hB0 hbb hB2 hb2 hown' hgrow
        have HFIN := Lib.hid (hfin _ rfl)
        clear hfin hown' hgrow
        simp only [Act.put, List.setIfInBounds_toArray]
        refine wpAny_ready (rs := [5]) (by kernel_rfl) (by simp) (AllReady.cons rfl (fun K hK => ?_) AllReady.nil)
        go_simp
        refine hK _ _ ?_
        clear hK K
        refine wpAny_done (by kernel_rfl) ?_ _
        have hfin := HFIN.out
        rw [← HSN.out] at hfin
        exact hfin
      case p1 =>
        go_simp
        refine hK _ _ ?_
        clear hK K
        refine wpAny_ready (rs := [0, 2]) (by kernel_rfl) (by simp) (AllReady.cons rfl (fun K hK => ?p10) (AllReady.cons rfl (fun K hK => ?p12) AllReady.nil))
        case p10 =>
          go_simp
          refine hK _ _ ?_
          clear hK K
          refine wpAny_ready (rs := [2]) (by kernel_rfl) (by simp) (AllReady.cons rfl (fun K hK => ?_) AllReady.nil)
          go_simp
          go_at_call 55
          refine (EE.out _).mono ?_
          rintro e w4 ⟨rfl, hs4⟩
          go_wp2_with fail
          replace hs4 := since_of_drew hs4
          have hp1 := (hs4.cell (a := ⟨g, 0, none⟩) hgW).trans hpc
          have hp2 := fun ob => cell_alloc_l ob hp1
          have hz4 := hs4.size
          have HS4 := Lib.hid hs4
          have HBL := Lib.hid (HCB.out.later hs4)
          clear hs4
          refine wpAny_ready (rs := [3]) (by kernel_rfl) (by simp) (AllReady.cons rfl (fun K hK => ?_) AllReady.nil)
          go_simp
          refine hK _ _ ?_
          clear hK K
          refine wpAny_ready (rs := [4]) (by kernel_rfl) (by simp) (AllReady.cons rfl (fun K hK => ?_) AllReady.nil)
          rw [if_pos (by rfl)]
          refine wp_append_own _ (.tmp 17) (.tmp 20) 23 rfl Wb.heap.size 36 iC (.agg #[.string ⟨#[]⟩, .int .i64 0, .int .i64 0]) 3 32 Try.underlying23 HI.out.1 HI.out.2.1 HI.out.2.2.1 HI.out.2.2.2 rfl (by decide) _ _ _ rfl (HBL.out.own.alloc _) ⟨w4.heap.size, 0, none⟩ 1 1 (ch3 [⟨K', L', V'⟩]) rfl rfl (by have := news3 w4 ⟨K', L', V'⟩ 36; simpa using this) (ch3_one _) (by unfold maxLen; omega) (by omega) (by simp; omega) ?_
          intro v' w5 hown' hgrow _
          refine hK _ _ ?_
          clear hK K
          obtain ⟨⟨va, vcap, rfl⟩, ⟨hp3, hf3⟩, hfin⟩ := turn_end (c := ⟨K', L', V'⟩) HTD.out HBX.out HCB.out HS4.out rfl hg0 hB0 hbb hB2 hb2 hown' hgrow
          have HFIN := Lib.hid (hfin _ rfl)
          clear hfin hown' hgrow
          simp only [Act.put, List.setIfInBounds_toArray]
          refine wpAny_ready (rs := [5]) (by kernel_rfl) (by simp) (AllReady.cons rfl (fun K hK => ?_) AllReady.nil)
          go_simp
          refine hK _ _ ?_
          clear hK K
          refine wpAny_done (by kernel_rfl) ?_ _
          have hfin := HFIN.out
          rw [← HSN.out] at hfin
          exact hfin
        case p12 =>
          go_simp
          go_at_call 55
          refine (EE.out _).mono ?_
          rintro e w4 ⟨rfl, hs4⟩
          go_wp2_with fail
          replace hs4 := since_of_drew hs4
          have hp1 := (hs4.cell (a := ⟨g, 0, none⟩) hgW).trans hpc
          have hp2 := fun ob => cell_alloc_l ob hp1
          have hz4 := hs4.size
          have HS4 := Lib.hid hs4
          have HBL := Lib.hid (HCB.out.later hs4)
          clear hs4
          refine wpAny_ready (rs := [0, 3]) (by kernel_rfl) (by simp) (AllReady.cons rfl (fun K hK => ?p120) (AllReady.cons rfl (fun K hK => ?p123) AllReady.nil))
          case p120 =>
            go_simp
            refine hK _ _ ?_
            clear hK K
            refine wpAny_ready (rs := [3]) (by kernel_rfl) (by simp) (AllReady.cons rfl (fun K hK => ?_) AllReady.nil)
            go_simp
            refine hK _ _ ?_
            clear hK K
            refine wpAny_ready (rs := [4]) (by kernel_rfl) (by simp) (AllReady.cons rfl (fun K hK => ?_) AllReady.nil)
            rw [if_pos (by rfl)]
            refine wp_append_own _ (.tmp 17) (.tmp 20) 23 rfl Wb.heap.size 36 iC (.agg #[.string ⟨#[]⟩, .int .i64 0, .int .i64 0]) 3 32 Try.underlying23 HI.out.1 HI.out.2.1 HI.out.2.2.1 HI.out.2.2.2 rfl (by decide) _ _ _ rfl (HBL.out.own.alloc _) ⟨w4.heap.size, 0, none⟩ 1 1 (ch3 [⟨K', L', V'⟩]) rfl rfl (by have := news3 w4 ⟨K', L', V'⟩ 36; simpa using this) (ch3_one _) (by unfold maxLen; omega) (by omega) (by simp; omega) ?_
            intro v' w5 hown' hgrow _
            refine hK _ _ ?_
            clear hK K
            obtain ⟨⟨va, vcap, rfl⟩, ⟨hp3, hf3⟩, hfin⟩ := turn_end (c := ⟨K', L', V'⟩) HTD.out HBX.out HCB.out HS4.out rfl hg0 hB0 hbb hB2 hb2 hown' hgrow
            have HFIN := Lib.hid (hfin _ rfl)
            clear hfin hown' hgrow
            simp only [Act.put, List.setIfInBounds_toArray]
            refine wpAny_ready (rs := [5]) (by kernel_rfl) (by simp) (AllReady.cons rfl (fun K hK => ?_) AllReady.nil)
            go_simp
            refine hK _ _ ?_
            clear hK K
            refine wpAny_done (by kernel_rfl) ?_ _
            have hfin := HFIN.out
            rw [← HSN.out] at hfin
            exact hfin
          case p123 =>
            go_simp
            refine hK _ _ ?_
            clear hK K
            refine wpAny_ready (rs := [0]) (by kernel_rfl) (by simp) (AllReady.cons rfl (fun K hK => ?_) AllReady.nil)
            go_simp
            refine hK _ _ ?_
            clear hK K
            refine wpAny_ready (rs := [4]) (by kernel_rfl) (by simp) (AllReady.cons rfl (fun K hK => ?_) AllReady.nil)
            rw [if_pos (by rfl)]
            refine wp_append_own _ (.tmp 17) (.tmp 20) 23 rfl Wb.heap.size 36 iC (.agg #[.string ⟨#[]⟩, .int .i64 0, .int .i64 0]) 3 32 Try.underlying23 HI.out.1 HI.out.2.1 HI.out.2.2.1 HI.out.2.2.2 rfl (by decide) _ _ _ rfl (HBL.out.own.alloc _) ⟨w4.heap.size, 0, none⟩ 1 1 (ch3 [⟨K', L', V'⟩]) rfl rfl (by have := news3 w4 ⟨K', L', V'⟩ 36; simpa using this) (ch3_one _) (by unfold maxLen; omega) (by omega) (by simp; omega) ?_
            intro v' w5 hown' hgrow _
            refine hK _ _ ?_
            clear hK K
            obtain ⟨⟨va, vcap, rfl⟩, ⟨hp3, hf3⟩, hfin⟩ := turn_end (c := ⟨K', L', V'⟩) HTD.out HBX.out HCB.out HS4.out rfl hg0 hB0 hbb hB2 hb2 hown' hgrow
            have HFIN := Lib.hid (hfin _ rfl)
            clear hfin hown' hgrow
            simp only [Act.put, List.setIfInBounds_toArray]
            refine wpAny_ready (rs := [5]) (by kernel_rfl) (by simp) (AllReady.cons rfl (fun K hK => ?_) AllReady.nil)
            go_simp
            refine hK _ _ ?_
            clear hK K
            refine wpAny_done (by kernel_rfl) ?_ _
            have hfin := HFIN.out
            rw [← HSN.out] at hfin
            exact hfin
    case done =>
      rintro D ys W hD rfl hI hK
      rw [came_whole HN.out] at hI
      have hsn := hI.since hS0 hwg
      have hkp := hI.kp
      obtain ⟨Wb, v, hTd, hbx, hCB⟩ := hI
      have hzb := hTd.size
      have hWb : Wb.heap.size ≤ W.heap.size := hCB.since.size
      have hbW : W.heap[g]? = some (.cells #[v] 23 (0, 0)) := (hCB.since.block g (by omega)).trans hbx
      obtain ⟨va, vc, rfl, hO, _, _⟩ := hCB.ownC
      have hpc : W.cell? ⟨g, 0, none⟩ = some (.slice va (cs.reverse.map trC).length vc) := by simp [World.cell?, hbW]
      have hlN : (cs.reverse.map trC).length = N := by rw [List.length_map, List.length_reverse, HN.out]
      rw [hlN] at hpc
      have HCB := Lib.hid hCB
      have HSN := Lib.hid hsn
      clear hTd hbx hCB hbW hc hP0 hBc hO hsn
      gi_wp2
      refine ⟨by simp, .inl ⟨_, _, rfl, run_takeDeferred hK, ?_⟩⟩
      have hg := grownBy_putObj' W D (.deferred none)
      have hr : ∀ r, some D = some r → ∃ o : Obj, W.heap[r]? = some o ∧ o.isCells = false := fun r e => by cases e; exact ⟨_, hK, rfl⟩
      obtain ⟨va', vc', e, hO, _, _⟩ := (HCB.out.turn hg (fun r e => ⟨by cases e; omega, hr r e⟩)).ownC
      injection e with e1 e2 e3
      subst e1
      refine ⟨.tuple #[.slice va N vc, .bool true], ?_, va, vc, rfl, since_rowL HSN.out (Nat.le_refl _) hg (fun r e => by cases e; omega), hO.mono (by omega) (Nat.le_refl _)⟩
      simp [results, Try.f16, go_sem]
    case stop =>
      rintro D c pre W hD hpre hF hK
      exact hF.elim

end Go.Proofs.Ytbclpbgomkfabaa
end

section
namespace Go.Proofs.Ytbclpbgomkfabaa
open Go.RowKit Go.Deep

set_option maxHeartbeats 1000000 in
theorem sameInts_same (a b : Option Addr) (ca cb n : Nat) (l : List Int) (w : World) (hn : l.length = n) (h63 : n ≤ 9223372036854775807) (ha : RowR w a l) (hb : RowR w b l) :
    Calls Try.prog 87 #[.slice a n ca, .slice b n cb] w fun e w' => e = .returned (.bool true) ∧ Drawn w w' := by
  have H := Lib.hid hn; clear hn
  go_enter Try.func87, Try.ntmps87
  go_wp2
  go_loopg [5] n (fun g i wr => ∃ k : Nat, k ≤ n ∧ g = n - k ∧ i = .int .i64 k ∧ Drawn w wr)
  case atStart => exact ⟨0, Nat.zero_le _, rfl, rfl, Drawn.refl w⟩
  case round =>
    obtain ⟨k, hk, rfl, rfl, hD⟩ := hrel
    by_cases hlt : k < n
    · obtain ⟨b1, o1, rfl, hc1⟩ := ha (by rw [H.out]; omega)
      obtain ⟨b2, o2, rfl, hc2⟩ := hb (by rw [H.out]; omega)
      have c1 := hc1 k (by rw [H.out]; exact hlt)
      have c2 := hc2 k (by rw [H.out]; exact hlt)
      obtain ⟨x, hx⟩ : ∃ x, x = l.getD k 0 := ⟨_, rfl⟩
      rw [← hx] at c1 c2
      rw [← hD.cell] at c1 c2
      clear hx hc1 hc2 ha hb
      go_wp2
      go_quiet (fail)
      go_wp2
      go_roundg (n - (k + 1))
      case measure => omega
      case rel => exact ⟨k + 1, by omega, rfl, by go_num, hD.trans (Drawn.mk _ _)⟩
    · go_wp2
      go_ret
      exact ⟨rfl, hD⟩

set_option maxHeartbeats 1000000 in
theorem sameRows_same (a b : Option Addr) (ca cb n : Nat) (l : List (List Int)) (w : World) (hn : l.length = n) (h63 : n ≤ 9223372036854775807) (hl : ∀ r, r < l.length → (l.getD r []).length ≤ 9223372036854775807)
    (ha : MatR w a l) (hb : MatR w b l) :
    Calls Try.prog 34 #[.slice a n ca, .slice b n cb] w fun e w' => e = .returned (.bool true) ∧ Drawn w w' := by
  have H := Lib.hid hn; clear hn
  go_enter Try.func34, Try.ntmps34
  go_wp2
  go_loopg [5] n (fun g i wr => ∃ k : Nat, k ≤ n ∧ g = n - k ∧ i = .int .i64 k ∧ Drawn w wr)
  case atStart => exact ⟨0, Nat.zero_le _, rfl, rfl, Drawn.refl w⟩
  case round =>
    obtain ⟨k, hk, rfl, rfl, hD⟩ := hrel
    by_cases hlt : k < n
    · obtain ⟨b1, o1, A1, C1, rfl, hc1⟩ := ha (by rw [H.out]; omega)
      obtain ⟨b2, o2, A2, C2, rfl, hc2⟩ := hb (by rw [H.out]; omega)
      obtain ⟨c1, r1⟩ := hc1 k (by rw [H.out]; exact hlt)
      obtain ⟨c2, r2⟩ := hc2 k (by rw [H.out]; exact hlt)
      have hlk := hl k (by rw [H.out]; exact hlt)
      obtain ⟨x, hx⟩ : ∃ x, x = l.getD k [] := ⟨_, rfl⟩
      rw [← hx] at c1 c2 r1 r2 hlk
      obtain ⟨m, hm⟩ : ∃ m, x.length = m := ⟨_, rfl⟩
      rw [hm] at c1 c2 hlk
      have HM := Lib.hid hm
      clear hx hc1 hc2 ha hb hl hm
      have r1 := r1.drawn hD
      have r2 := r2.drawn hD
      rw [← hD.cell] at c1 c2
      have e1 := fun (p : Nat) => sameInts_same (A1 k) (A2 k) (C1 k) (C2 k) m x (wr.drewN p) HM.out hlk r1 r2
      have E1 := Lib.hid e1; clear e1 r1 r2
      go_wp2
      go_quiet ((go_at_call 87; exact Calls.quiet_of (E1.out _)))
      go_wp2
      go_roundg (n - (k + 1))
      case measure => omega
      case rel => exact ⟨k + 1, by omega, rfl, by go_num, hD.trans (Drawn.mk _ _)⟩
    · go_wp2
      go_ret
      exact ⟨rfl, hD⟩

end Go.Proofs.Ytbclpbgomkfabaa
end

section
namespace Go.Proofs.Ytbclpbgomkfabaa
open Go.RowKit Go.Deep

theorem szL_of {l : List (List Int)} {n k : Nat} (h1 : l.length ≤ n) (h2 : ∀ j, j < l.length → (l.getD j []).length ≤ k) (hnk : n * k + n ≤ 1048576) : szL l ≤ 1048576 := by
  have h3 := sumTo_le_mul l k h2 l.length (Nat.le_refl _)
  have h4 : l.length * k ≤ n * k := Nat.mul_le_mul_right _ h1
  have h5 : k * l.length = l.length * k := Nat.mul_comm _ _
  unfold szL
  omega
theorem rows_le {l : List (List Int)} (h : szL l ≤ 1048576) : ∀ r, r < l.length → (l.getD r []).length ≤ 9223372036854775807 := fun r hr => by
  have := row_le l hr
  unfold szL at h
  omega

theorem tab_self {l : List (List Int)} {n m : Nat} (hn : l.length = n) (hm : ∀ r, r < n → (l.getD r []).length = m) : tabF n m (at2 l) = l := by
  refine List.ext_getElem (by rw [tabF_length, hn]) fun r h1 h2 => ?_
  have hr : r < n := by rw [tabF_length] at h1; exact h1
  have e1 : (tabF n m (at2 l))[r] = (tabF n m (at2 l)).getD r [] := by simp [List.getD, h1]
  have e2 : l[r] = l.getD r [] := by simp [List.getD, h2]
  rw [e1, e2, tabF_get _ _ _ _ hr]
  refine List.ext_getElem (by rw [List.length_map, List.length_range, hm r hr]) fun k h3 h4 => ?_
  rw [List.getElem_map, List.getElem_range]
  unfold at2
  obtain ⟨x, hx⟩ : ∃ x, x = l.getD r [] := ⟨_, rfl⟩
  subst hx
  generalize l.getD r [] = x at *
  simp [List.getD, h4]

theorem turnL_turnL {l : List (List Int)} (hT : TabIn l) : turnL (turnL l) = l := by
  have h1 := hT.1
  have hw := hT.width
  have e0 : ((turnL l).getD 0 []).length = l.length := tabF_len _ _ _ _ hw.1
  have e1 : turnL (turnL l) = tabF l.length (l.getD 0 []).length fun k i => at2 (turnL l) i k := by
    show tabF ((turnL l).getD 0 []).length (turnL l).length _ = _
    rw [e0, turnL_length]
  rw [e1]
  have e2 : tabF l.length (l.getD 0 []).length (fun k i => at2 (turnL l) i k) = tabF l.length (l.getD 0 []).length (at2 l) := by
    unfold tabF
    refine List.map_congr_left fun r hr => List.map_congr_left fun k hk => ?_
    exact tabF_at _ _ _ _ _ (List.mem_range.1 hk) (List.mem_range.1 hr)
  rw [e2]
  exact tab_self rfl (fun r hr => hT.row hr)

end Go.Proofs.Ytbclpbgomkfabaa
end

section
namespace Go.Proofs.Ytbclpbgomkfabaa
open Go.RowKit

theorem bytes_loop (bs : ByteArray) : ∀ (n i : Nat) (r : List UInt8), i + n = bs.size → ByteArray.toList.loop bs i r = r.reverse ++ bs.data.toList.drop i := by
  intro n
  induction n with
  | zero =>
    intro i r h
    unfold ByteArray.toList.loop
    rw [if_neg (by omega)]
    have : bs.data.toList.length = bs.size := by rw [Array.length_toList]; rfl
    rw [List.drop_of_length_le (by omega), List.append_nil]
  | succ n ih =>
    intro i r h
    unfold ByteArray.toList.loop
    rw [if_pos (by omega), ih (i + 1) _ (by omega)]
    have hl : bs.data.toList.length = bs.size := by rw [Array.length_toList]; rfl
    rw [List.drop_eq_getElem_cons (show i < bs.data.toList.length by omega), List.reverse_cons, List.append_assoc]
    congr 1
    have hi : i < bs.data.size := by have : bs.size = bs.data.size := rfl; omega
    have e : bs.get! i = bs.data[i] := getElem!_pos bs.data i hi
    rw [e]
    simp
theorem bytes_toList (bs : ByteArray) : bs.toList = bs.data.toList := by
  unfold ByteArray.toList
  rw [bytes_loop bs bs.size 0 [] (by omega)]
  simp
theorem bytes_one {K : ByteArray} {x : UInt8} (h : K.toList = [x]) : K = ⟨#[x]⟩ := by
  rw [bytes_toList] at h
  cases K with
  | mk d =>
    simp only at h
    congr 1
    cases d with
    | mk l => simp at h; rw [h]
theorem kU_list : kU.toList = [117] := by decide +kernel
theorem kD_list : kD.toList = [100] := by decide +kernel
theorem trC_k (c : RC) : (trC c).l = c.l ∧ (trC c).w = c.w := ⟨rfl, rfl⟩
theorem trC_trC (c : RC) : trC (trC c) = c := by
  obtain ⟨K, L, V⟩ := c
  unfold trC
  by_cases h : K.toList = [117]
  · simp only [h, if_true, kD_list]
    rw [if_neg (by decide), bytes_one h]
  · by_cases h2 : K.toList = [100]
    · simp only [h2, if_true, if_neg (show ¬ ([100] : List UInt8) = [117] by decide), kU_list]
      rw [bytes_one h2]
    · simp only [h, h2, if_false]
theorem turn_turn (cs : List RC) : turnC (turnC cs) = cs := by
  unfold turnC
  rw [← List.map_reverse, List.reverse_reverse, List.map_map]
  have : trC ∘ trC = id := funext trC_trC
  rw [this, List.map_id]
theorem kindB_tr (n : Int) (c : RC) : kindB n (trC c) = kindB n c := by
  obtain ⟨K, L, V⟩ := c
  unfold kindB trC
  by_cases h : K.toList = [117]
  · simp [h]
  · by_cases h2 : K.toList = [100]
    · simp [h2]
    · simp [h, h2]
theorem netB_turn (n : Int) (cs : List RC) : netB n (turnC cs) = netB n cs := by
  unfold netB turnC
  rw [List.length_map, List.length_reverse, List.all_map, List.all_reverse]
  congr 3
  funext c
  show chipB n (trC c) = chipB n c
  unfold chipB
  rw [kindB_tr]
  rfl
theorem toC_tr (c : RC) : toC (trC c) = swC (toC c) := by
  obtain ⟨K, L, V⟩ := c
  unfold toC trC swC
  by_cases h : K.toList = [117]
  · simp [h]
  · by_cases h2 : K.toList = [100]
    · simp [h2]
    · simp [h, h2]
theorem outC_turn {n : Nat} (h1 : 1 ≤ n) {cs : List RC} (hc : ∀ c ∈ cs, (toC c).1 ≤ 2) : outC n (turnC cs) = turnL (outC n cs) := by
  have e : (turnC cs).map toC = ((cs.map toC).map swC).reverse := by
    unfold turnC
    rw [← List.map_reverse, ← List.map_reverse, List.map_map, List.map_map]
    exact List.map_congr_left fun c _ => toC_tr c
  show outT n _ = tabF ((outC n cs).getD 0 []).length (outC n cs).length _
  unfold outC
  rw [e, outT_row _ (by omega), outT_length]
  unfold outT tabF
  refine List.map_congr_left fun k hk => List.map_congr_left fun i hi => ?_
  have hk' := List.mem_range.1 hk
  have hi' := List.mem_range.1 hi
  rw [net_turn (cs.map toC) (fun c h => by obtain ⟨d, hd, rfl⟩ := List.mem_map.1 h; exact hc d hd) i k hi' hk']
  exact (outT_at _ hi' hk').symm
theorem turn_self {n : Nat} (h1 : 1 ≤ n) (cs : List RC) : turnL (turnL (outC n cs)) = outC n cs := by
  have e0 : ((outC n cs).getD 0 []).length = n := outT_row _ (by omega)
  have el : (outC n cs).length = n := outT_length _ _
  have e1 : turnL (outC n cs) = tabF n n fun k i => at2 (outC n cs) i k := by
    show tabF ((outC n cs).getD 0 []).length (outC n cs).length _ = _
    rw [e0, el]
  rw [e1]
  show tabF ((tabF n n _).getD 0 []).length (tabF n n _).length _ = _
  rw [tabF_len _ _ _ _ (show 0 < n by omega), tabF_length]
  have e2 : tabF n n (fun k i => at2 (tabF n n fun k i => at2 (outC n cs) i k) i k) = tabF n n (at2 (outC n cs)) := by
    unfold tabF
    refine List.map_congr_left fun r hr => List.map_congr_left fun k hk => ?_
    exact tabF_at _ _ _ _ _ (List.mem_range.1 hk) (List.mem_range.1 hr)
  rw [e2]
  exact tab_self el (fun r hr => outT_row _ hr)
theorem ntabB_turn {n : Nat} {cs : List RC} (h : netB n cs = true) : ntabB n (turnC cs) = ntabB n cs := by
  obtain ⟨m, hm, ho⟩ := netB_ok h
  obtain rfl := Int.ofNat.inj hm
  have h2 := ho.lo
  unfold ntabB
  rw [netB_turn, h, Bool.true_and, Bool.true_and]
  show tabIn (outC n (turnC cs)) = tabIn (outC n cs)
  rw [outC_turn (by omega) (fun c hc => (ho.ok c hc).2.1)]
  by_cases hT : TabIn (outC n cs)
  · rw [tabIn_true hT, tabIn_turn hT]
  · rw [tabIn_false hT, tabIn_false]
    intro h3
    exact hT (by have := tabIn_of (tabIn_turn h3); rw [turn_self (by omega)] at this; exact this)

end Go.Proofs.Ytbclpbgomkfabaa
end

section
namespace Go.Proofs.Ytbclpbgomkfabaa
open Go.RowKit Go.Deep

theorem path_turn {n : Nat} {cs : List RC} (hc : ∀ c ∈ cs, chOk n (toC c)) {j l : Nat} (hj : j < n) (hl : l < n) : pathN ((turnC cs).map toC) l j = pathN (cs.map toC) j l := by
  have hmap : (turnC cs).map toC = ((cs.map toC).map swC).reverse := by
    unfold turnC
    rw [List.map_map, ← List.map_reverse, ← List.map_reverse, List.map_map]
    apply List.map_congr_left
    intro c _
    exact toC_tr c
  have hok : ∀ c ∈ cs.map toC, chOk n c := fun c h => by
    obtain ⟨d, hd, rfl⟩ := List.mem_map.1 h
    exact hc d hd
  have hok2 : ∀ c ∈ ((cs.map toC).map swC).reverse, chOk n c := fun c h => by
    rw [List.mem_reverse] at h
    obtain ⟨d, hd, rfl⟩ := List.mem_map.1 h
    have h1 := hok d hd
    unfold chOk swC at *
    refine ⟨?_, ?_⟩
    · simp only; split <;> (try split) <;> omega
    · simp only
      have h2 := h1.2
      split <;> split at h2 <;> (try split) <;> simp_all
  rw [hmap, path_net _ hok2 l j hl, path_net _ hok j l hj]
  exact net_turn _ (fun c h => (hok c h).1) j l hj hl
theorem pow_pos5 : ∀ n : Fin 6, ∀ i : Fin 5, i.val < n.val → 2 ^ i.val < 2 ^ n.val ∧ popcS (2 ^ i.val) = 1 := by decide +kernel
theorem inB_lt {A M : Nat} (h : A < M) : inB (A : Int) 0 ((M : Int) - 1) = true := by
  unfold inB
  simp only [decide_eq_true_eq]
  omega
theorem fams_one {m j l : Nat} {cs : List RC} (hnb : netB m cs = true) (hj : j < m) (hl : l < m) (h5 : m ≤ 5) : famsB m cs ((2 ^ j : Nat) : Int) ((2 ^ l : Nat) : Int) = true ∧ famsV m cs ((2 ^ j : Nat) : Int) ((2 ^ l : Nat) : Int) = pathN (cs.map toC) j l := by
  obtain ⟨h1, h2⟩ := pow_pos5 ⟨m, by omega⟩ ⟨j, by omega⟩ hj
  obtain ⟨h3, h4⟩ := pow_pos5 ⟨m, by omega⟩ ⟨l, by omega⟩ hl
  simp only at h1 h2 h3 h4
  have e1 : ((2 : Int) ^ (m : Int).toNat) = ((2 ^ m : Nat) : Int) := by rw [Int.toNat_natCast]; simp
  have hb : famsB m cs ((2 ^ j : Nat) : Int) ((2 ^ l : Nat) : Int) = true := by
    unfold famsB
    rw [hnb, e1, Int.toNat_natCast, Int.toNat_natCast, h2, h4]
    rw [inB_lt h1, inB_lt h3]
    rfl
  refine ⟨hb, ?_⟩
  unfold famsV
  rw [hb, if_pos rfl, Int.toNat_natCast, Int.toNat_natCast, fam_one]

set_option maxRecDepth 100000 in
set_option maxHeartbeats 1000000 in
theorem fnPaths (a : Option Addr) (cap n : Nat) (w : World) (hc : n ≤ cap) (h63 : cap ≤ 9223372036854775807) (hb : BytR w a n) :
    Calls Try.prog 3 #[.slice a n cap] w fun e w' => e = .returned (.bool true) ∧ w.Since w.heap.size w' := by
  by_cases hlen : 1048576 < n
  · have hl' : decide ((1048576 : Int) < (n : Int)) = true := by simp; omega
    clear hb
    go_enter Try.func3, Try.ntmps3
    go_wp2
    go_ret
    exact ⟨rfl, World.Since.refl _ _⟩
  · have hl' : decide ((1048576 : Int) < (n : Int)) = false := by simp; omega
    have ED := Lib.hid (drawNetPaths_any a n cap w hc h63 hb)
    clear hb
    go_enter Try.func3, Try.ntmps3
    go_wp2_with fail
    refine (ED.out).mono ?_
    rintro e w1 ⟨m, a1, ca, cs, i, k, rfl, hs1, hm, hl, ⟨g, rfl⟩, hcl, hc63, ho⟩
    clear ED
    obtain ⟨N, hN⟩ : ∃ N, cs.length = N := ⟨_, rfl⟩
    rw [hN] at hl hcl ⊢
    have HS1 := Lib.hid hs1
    have E1 := fun (W : World) (h : w1.Since w1.heap.size W) => implNetPaths_any (some ⟨g, 0, none⟩) ca N m i k cs W hN (by omega) (ho.chips.since h)
    have E2 := fun (W : World) (h : w1.Since w1.heap.size W) => specNetPaths_any (some ⟨g, 0, none⟩) ca N m i k cs W hN (by omega) (by omega) (ho.chips.since h)
    cases hok : linesB m cs i k with
    | false =>
      have hv : pathsV m cs i k = 0 := by unfold pathsV; rw [hok, if_neg (by simp)]
      simp only [hok, hv] at E1 E2
      replace E1 := Lib.hid E1
      replace E2 := Lib.hid E2
      clear ho hs1 hok hN hv
      go_wp2_with (first
        | (go_at_call 13; refine (E1.out _ (World.Since.refl _ _)).mono ?_; rintro e w2 ⟨rfl, hs2⟩; have HS2 := Lib.hid hs2; clear hs2)
        | (go_at_call 14; refine (E2.out _ HS2.out).mono ?_; rintro e w3 ⟨rfl, hs3⟩; have HS3 := Lib.hid (HS1.out.trans (since_mono (HS2.out.trans (since_mono hs3 HS2.out.size)) HS1.out.size)); clear hs3))
      go_ret
      exact ⟨rfl, HS3.out⟩
    | true =>
      obtain ⟨_, j, l, hq, ho2, ⟨rfl, hj⟩, rfl, hl2⟩ := lines_ok hok
      obtain rfl := Int.ofNat.inj hq
      have hnb : netB m cs = true := by
        unfold linesB at hok
        rw [Bool.and_eq_true] at hok
        exact hok.1
      have hlT : linesB m (turnC cs) l j = true := by
        unfold linesB at hok ⊢
        rw [netB_turn]
        simp only [Bool.and_eq_true] at hok ⊢
        exact ⟨hok.1, hok.2.2, hok.2.1⟩
      have hv : pathsV m cs j l = pathN (cs.map toC) j l := by unfold pathsV; rw [hok]; rfl
      have hvT : pathsV m (turnC cs) l j = pathN (cs.map toC) j l := by
        unfold pathsV
        rw [hlT, if_pos rfl, Int.toNat_natCast, Int.toNat_natCast]
        exact path_turn (fun c hc => (ho2.ok c hc).2) hj hl2
      obtain ⟨hfb, hfv⟩ := fams_one hnb hj hl2 hm.2
      have E3 := fun (W : World) (h : w1.Since w1.heap.size W) => implNetFamilies_any (some ⟨g, 0, none⟩) ca N m ((2 ^ j : Nat) : Int) ((2 ^ l : Nat) : Int) cs W hN (by omega) (by omega) (ho.chips.since h)
      have E4 := fun (W : World) (h : w1.Since w1.heap.size W) => implNetTurn_any (some ⟨g, 0, none⟩) ca N m cs W hN (by omega) (ho.chips.since h)
      have hTl : (turnC cs).length = N := by unfold turnC; rw [List.length_map, List.length_reverse, hN]
      have hres : resC true (turnC cs) = turnC cs := rfl
      have E5 := fun (W : World) (a' : Option Addr) (c' : Nat) (h : ChipsR W a' (turnC cs)) => implNetPaths_any a' c' N m l j (turnC cs) W hTl (by omega) h
      simp only [hnb, hres, hTl] at E4
      obtain ⟨P, hP⟩ : ∃ P, pathN (cs.map toC) j l = P := ⟨_, rfl⟩
      rw [hP] at hv hvT hfv
      simp only [hok, hv] at E1 E2
      have z1 : ((2 ^ j : Nat) : Int) = (2 : Int) ^ j := by simp
      have z2 : ((2 ^ l : Nat) : Int) = (2 : Int) ^ l := by simp
      simp only [hfb, hfv] at E3
      rw [z1, z2] at E3
      simp only [hlT, hvT] at E5
      obtain ⟨TC, hTC⟩ : ∃ TC, turnC cs = TC := ⟨_, rfl⟩
      rw [hTC] at E4 E5
      replace E1 := Lib.hid E1
      replace E2 := Lib.hid E2
      replace E3 := Lib.hid E3
      replace E4 := Lib.hid E4
      replace E5 := Lib.hid E5
      obtain ⟨k1, k2⟩ := p2w_fin ⟨j, by omega⟩
      obtain ⟨k3, k4⟩ := p2w_fin ⟨l, by omega⟩
      simp only at k1 k2 k3 k4
      clear ho hs1 hok hN hv hvT hP hlT hnb ho2 hq hfb hfv hTl hres hTC z1 z2
      go_wp2_with (first
        | (go_at_call 13; refine (E1.out _ (World.Since.refl _ _)).mono ?_; rintro e w2 ⟨rfl, hs2⟩; have HS2 := Lib.hid hs2; clear hs2)
        | (go_at_call 14; refine (E2.out _ HS2.out).mono ?_; rintro e w3 ⟨rfl, hs3⟩; have HS3 := Lib.hid (HS2.out.trans (since_mono hs3 HS2.out.size)); clear hs3))
      go_wp2_with fail
      go_region_held3 (fun _ => True) (first | trivial)
        (first | (go_at_call 15; refine (E3.out _ (by first | exact HS3.out.drew | exact HS3.out)).mono ?_; rintro e w4 ⟨rfl, hs4⟩; have HS4 := Lib.hid (HS3.out.trans (since_mono (since_of_drew hs4) HS3.out.size)); clear hs4))
      go_wp2_with fail
      refine (E4.out w4 HS4.out).mono ?_
      rintro e w5 ⟨a5, c5, rfl, hs5, ho5⟩
      have HS5 := Lib.hid (HS4.out.trans (since_mono hs5 HS4.out.size))
      have HO5 := Lib.hid ho5.chips
      clear hs5 ho5
      go_wp2_with fail
      refine (E5.out w5 _ _ HO5.out).mono ?_
      rintro e w6 ⟨rfl, hs6⟩
      have HS6 := Lib.hid (HS1.out.trans (since_mono (HS5.out.trans (since_mono hs6 HS5.out.size)) HS1.out.size))
      clear hs6
      go_wp2
      go_ret
      exact ⟨rfl, HS6.out⟩

end Go.Proofs.Ytbclpbgomkfabaa
end

section
namespace Go.Proofs.Ytbclpbgomkfabaa
open Go.ChangeShapes Go.WideShapes Go.ChangeAt Go.RowKit Go.Deep

theorem below_since' {B : Nat} {w w' : World} (h : Below B w w') : w.Since B w' := ⟨h.os, h.tape, h.output, h.size, h.block⟩
theorem since_below' {B : Nat} {w w' : World} (h : w.Since B w') : Below B w w' := ⟨h.os, h.tape, h.output, h.size, h.block⟩

section
variable {H : Type} {enc : TypeId × Value → H} {P : Program}
theorem post_of_below {f : Func} {s : ChangeSpec} {apart fresh handsOn again : Bool} {W W' : World} {args : Array Value} {v : Value} {ds gs : List (DataW H)} {before pa pv : List MemPlace}
    (hW : DataW.Whole enc P f.params.toList s.vars apart W args.toList ds gs before)
    (hres : ∀ (b : Nat) (sp : Nat → Bool) (hd : Bool), DataW.TrodAll enc P W' b sp hd f.resultTypes.toList (v.resultList f.resultTypes.size) (s.fn H (ds ++ gs)).results [])
    (hargs : ∀ sp : Nat → Bool, (∀ p ∈ before, sp p.block = true) → DataW.TrodAll enc P W' 0 sp true f.params.toList args.toList (s.fn H (ds ++ gs)).args pa)
    (hvars : ∀ sp : Nat → Bool, (∀ p ∈ before, sp p.block = true) → DataW.TrodVars enc P W' sp s.vars (s.fn H (ds ++ gs)).vars pv)
    (hps : before = pa ++ pv) (hb : Below W.heap.size W W') (hag : again = false) :
    s.post enc P f apart fresh handsOn again W args v W' := by
  have hlt : ∀ p ∈ before, p.block < W.heap.size := fun p hp => hW.lt p hp
  have hold : ∀ p ∈ before, (fun b => decide (b < W.heap.size)) p.block = true := fun p hp => by simpa using hlt p hp
  refine ⟨ds, gs, before, [], pa, pv, hW, hres _ _ _, hargs _ hold, hvars _ hold, World.keptBut_mono (fun p hp => ⟨hp, ?_⟩) (hb.frame (· ∈ before)), fun h => ?_⟩
  · rw [hps, List.mem_append] at hp
    exact Or.inr hp
  · rw [hag] at h; cases h

theorem open_mat {W : World} {t e q : TypeId} {a : Option Addr} {n cap : Nat} {d : DataW H} {p : List MemPlace} (ht : P.underlying t = some (.slice e)) (he : P.underlying e = some (.slice q)) (hq : P.underlying q = some (.int .i64))
    (ce : P.cellsOf e = 1) (cq : P.cellsOf q = 1) (h : DataW.Trod enc P W 0 (fun _ => true) true t (.slice a n cap) d p) :
    ∃ l : List (List Int), l.length = n ∧ MatR W a l ∧ n ≤ 9223372036854775807 ∧ ∀ r, r < l.length → (l.getD r []).length ≤ 9223372036854775807 := by
  obtain ⟨fuel, hf⟩ := h
  rcases open_int_rows ht he hq ce cq hf with ⟨hcs, _⟩ | ⟨a', len', cap', A, L, C, Z, hcs, _, hl, hm, _, hrows⟩
  · simp [Value.cells] at hcs
    obtain ⟨rfl, rfl, rfl⟩ := hcs
    exact ⟨[], rfl, (fun h => by simp at h), by omega, fun r hr => by simp at hr⟩
  · simp [Value.cells] at hcs
    obtain ⟨rfl, rfl, rfl⟩ := hcs
    have hmx : maxLen = 9223372036854775807 := rfl
    have hlen : ∀ r, r < n → ((Z r).take (L r)).length = L r := fun r hr => by
      obtain ⟨_, h1, _, h2, _⟩ := hrows r (by omega)
      rw [List.length_take]; omega
    have hget : ∀ r, r < n → ((List.range n).map fun r => (Z r).take (L r)).getD r [] = (Z r).take (L r) := fun r hr => by simp [List.getD, hr]
    refine ⟨(List.range n).map fun r => (Z r).take (L r), by simp, fun h => ?_, by omega, fun r hr => ?_⟩
    · obtain ⟨b, o, spot⟩ := a'
      simp at h
      have hspot : spot = none := by simpa [Addr.add] using World.cell?_spot (hrows 0 (by omega)).1
      subst hspot
      refine ⟨b, o, A, C, rfl, fun r hr => ?_⟩
      simp at hr
      rw [hget r hr, hlen r hr]
      obtain ⟨g1, g2, g3, g4, g5, g6, g7⟩ := hrows r (by omega)
      refine ⟨by rw [← add_plain]; exact g1, fun h0 => ?_⟩
      rw [hlen r hr] at h0
      cases hA : A r with
      | none => have := g6 hA; omega
      | some a'' =>
        obtain ⟨_, hcell⟩ := g7 a'' hA
        obtain ⟨b', o', sp⟩ := a''
        have hs : sp = none := by simpa [Addr.add] using World.cell?_spot (hcell 0 (by omega))
        subst hs
        refine ⟨b', o', rfl, fun i hi => ?_⟩
        rw [hlen r hr] at hi
        rw [← add_plain, hcell i (by omega)]
        congr 2
        simp [List.getD, hi]
    · simp at hr
      rw [hget r hr, hlen r hr]
      obtain ⟨_, h1, h2, _⟩ := hrows r (by omega)
      omega
end

theorem Try.own : ownKnob Try.prog.godebug = none := by kernel_rfl
theorem Try.laidOut : laidOutB Try.prog = true := by kernel_rfl
theorem Try.cellsR : Try.prog.cellsOf 43 = 1 := by kernel_rfl
theorem Try.cellsI : Try.prog.cellsOf 3 = 1 := by kernel_rfl

end Go.Proofs.Ytbclpbgomkfabaa
end

section
namespace Go.Proofs.Ytbclpbgomkfabaa
open Go.ChangeShapes Go.WideShapes Go.ChangeAt Go.RowKit Go.Deep

theorem wf_u8_of {n : Int} (h : (Lit.int .u8 n).wf = true) : 0 ≤ n ∧ n ≤ 255 := by
  have h2 : (0 : Int) ≤ n ∧ n ≤ 255 := by simpa [Lit.wf, IntKind.min, IntKind.max, IntKind.signed, IntKind.bits] using h
  exact h2

theorem open_bytes {H : Type} {enc : TypeId × Value → H} {P : Program} {W : World} {t e : TypeId} {a : Option Addr} {n cap : Nat} {d : DataW H} {p : List MemPlace} (ht : P.underlying t = some (.slice e)) (he : P.underlying e = some (.int .u8)) (ce : P.cellsOf e = 1)
    (h : DataW.Trod enc P W 0 (fun _ => true) true t (.slice a n cap) d p) : BytR W a n ∧ n ≤ cap ∧ cap ≤ 9223372036854775807 := by
  obtain ⟨fuel, hf⟩ := h
  rcases open_ints ht he ce hf with ⟨hcs, _⟩ | ⟨a', len, cap', zs, hcs, _, hl, hm, hlen, _, hcell, hwf⟩
  · simp [Value.cells] at hcs
    obtain ⟨rfl, rfl, rfl⟩ := hcs
    exact ⟨fun h => absurd h (by omega), by omega, by omega⟩
  · simp [Value.cells] at hcs
    obtain ⟨rfl, rfl, rfl⟩ := hcs
    have hmx : maxLen = 9223372036854775807 := rfl
    have hzl : zs.length = cap := by simpa using hlen
    refine ⟨fun h0 => ?_, by omega, by omega⟩
    obtain ⟨b, o, spot⟩ := a'
    have hspot : spot = none := by simpa [Addr.add] using World.cell?_spot (hcell 0 (by omega))
    subst hspot
    refine ⟨b, o, rfl, fun i hi => ?_⟩
    have hi' : i < zs.length := by omega
    have hw := wf_u8_of (hwf (zs.getD i 0) (by simp [List.getD, hi']))
    obtain ⟨z, hz⟩ := Int.eq_ofNat_of_zero_le hw.1
    refine ⟨z, by omega, ?_⟩
    rw [← add_plain, hcell i hi', hz]

theorem Try.cellsB : Try.prog.cellsOf 5 = 1 := by kernel_rfl

end Go.Proofs.Ytbclpbgomkfabaa
end

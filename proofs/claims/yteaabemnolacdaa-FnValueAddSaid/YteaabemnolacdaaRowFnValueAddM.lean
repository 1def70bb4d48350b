import Derived.Test.YteaabemnolacdaaSome
import Derived.OwnWalk
import Derived.Test.YteaabemnolacdaaHarn2
import Derived.Test.YteaabemnolacdaaPartImpl
import Derived.Test.YteaabemnolacdaaSwapped
import Derived.Test.YteaabemnolacdaaAddImpl
import Derived.Test.YteaabemnolacdaaAddSpec
import Derived.Test.YteaabemnolacdaaOrdDet
import Derived.Test.YteaabemnolacdaaL2Square
import Derived.Test.YteaabemnolacdaaOrdersK
import Derived.Test.YteaabemnolacdaaRows
import Derived.Test.YteaabemnolacdaaData
import Derived.ProofKit
import Derived.Deep.Matrix
import Derived.Test.YteaabemnolacdaaDraw0

section
namespace Go.Proofs.Yteaabemnolacdaa
open Go.RowKit Go.Deep

set_option maxHeartbeats 1000000 in
theorem l6Open_any (a : Option Addr) (nb cb : Nat) (w : World) (hc : nb ≤ cb) (h63 : cb ≤ 9223372036854775807) (hb : BytR w a nb) :
    Calls Try.prog 59 #[.slice a nb cb] w fun e w' => ∃ n' c', e = .returned (.pointer (some ⟨w.heap.size, 0, none⟩)) ∧ w.Since w.heap.size w' ∧ w'.heap.size = w.heap.size + 1 ∧ RD w w' w.heap.size a n' c' 80 0 := by
  by_cases hl : 2000 < nb
  · have hl' : decide ((2000 : Int) < (nb : Int)) = true := by simp; omega
    have h2 : (2000 : Int) ≤ (cb : Int) := by omega
    obtain ⟨b, o, rfl, hcell⟩ := hb (by omega)
    go_enter Try.func59, Try.ntmps59
    go_wp2
    go_ret
    exact ⟨_, _, rfl, (World.Since.refl _ _).alloc (Nat.le_refl _) _, by simp, ⟨heap_alloc_new _ _, Nat.le_refl _, (World.Since.refl _ _).alloc (Nat.le_refl _) _, fun _ => ⟨b, o, rfl, fun i hi => hcell i (by omega)⟩, by omega⟩⟩
  · have hl' : decide ((2000 : Int) < (nb : Int)) = false := by simp; omega
    go_enter Try.func59, Try.ntmps59
    go_wp2
    go_ret
    exact ⟨_, _, rfl, (World.Since.refl _ _).alloc (Nat.le_refl _) _, by simp, ⟨heap_alloc_new _ _, Nat.le_refl _, (World.Since.refl _ _).alloc (Nat.le_refl _) _, hb, by omega⟩⟩

def DrawnT (w w' : World) (R K : Nat) (a : Option Addr) (l : List (List Int)) : Prop :=
  1 ≤ l.length ∧ l.length ≤ R ∧ (∀ j, j < l.length → 1 ≤ (l.getD j []).length ∧ (l.getD j []).length ≤ K + 1) ∧ InT w.heap.size w'.heap.size w' a l

set_option maxHeartbeats 1000000 in
theorem l91One_any (a : Option Addr) (nb cb : Nat) (w : World) (hc : nb ≤ cb) (h63 : cb ≤ 9223372036854775807) (hb : BytR w a nb) :
    Calls Try.prog 100 #[.slice a nb cb] w fun e w' => ∃ a' cap l, e = .returned (.slice a' l.length cap) ∧ w.Since w.heap.size w' ∧ DrawnT w w' 5 5 a' l := by
  have E := Lib.hid (l6Open_any a nb cb w hc h63 hb)
  clear hb
  go_enter Try.func100, Try.ntmps100
  go_wp2_with fail
  refine (E.out).mono ?_
  rintro e w1 ⟨n', c', rfl, hs, hz, hd⟩
  have HD := Lib.hid hd
  clear hd
  go_wp2_with fail
  refine (l91Some_any w w1 w.heap.size n' c' 0 5 5 a HD.out (by omega) (by omega) (by omega) (by omega) (by omega)).mono ?_
  rintro e w2 ⟨a', cap', l, p', rfl, hg, hd2, hp, h1, h5, hl, hit⟩
  go_wp2
  go_ret
  exact ⟨a', cap', l, rfl, hs.trans (since_grown hg (Nat.le_refl _) hs.size), h1, h5, hl, hit.mono hs.size (Nat.le_refl _)⟩

end Go.Proofs.Yteaabemnolacdaa
end

section
namespace Go.Proofs.Yteaabemnolacdaa
open Go.RowKit Go.Deep

theorem results_four {fn : Func} {a b c d : Tmp} (h : fn.results = #[.tmp a, .tmp b, .tmp c, .tmp d]) (tmps : Array Value) (P : Program) (w : World) :
    (results fn tmps).run P w = .ok (.tuple #[tmps.getD a undef, tmps.getD b undef, tmps.getD c undef, tmps.getD d undef]) w := by
  simp [results, h]

set_option maxRecDepth 100000 in
set_option maxHeartbeats 2000000 in
theorem drawAdd_any (a : Option Addr) (nb cb : Nat) (w : World) (hc : nb ≤ cb) (h63 : cb ≤ 9223372036854775807) (hb : BytR w a nb) :
    Calls Try.prog 49 #[.slice a nb cb] w fun e w' => ∃ a' cap l, ∃ (x y z : Int), e = .returned (.tuple #[.slice a' l.length cap, .int .i64 x, .int .i64 y, .int .i64 z]) ∧ w.Since w.heap.size w' ∧ DrawnT w w' 5 5 a' l := by
  have E := Lib.hid (l6Open_any a nb cb w hc h63 hb)
  clear hb
  go_enter Try.func49, Try.ntmps49
  go_wp2_with fail
  refine (E.out).mono ?_
  rintro e w1 ⟨n', c', rfl, hs, hz, hd⟩
  have HD0 := Lib.hid hd
  clear hd
  have hz1 : w.heap.size < w1.heap.size := by omega
  clear hz
  go_wp2_with fail
  refine (l91Some_any w w1 w.heap.size n' c' 0 5 5 a HD0.out (by omega) (by omega) (by omega) (by omega) (by omega)).mono ?_
  rintro e w2 ⟨a', cap', l, p', rfl, hg, hd2, hp, h1, h5, hl, hit⟩
  have HG0 := Lib.hid hg
  have HIT := Lib.hid hit
  have HL := Lib.hid hl
  have HD := Lib.hid hd2
  obtain ⟨nn, hnn⟩ : ∃ n, l.length = n := ⟨_, rfl⟩
  rw [hnn] at h1 h5 ⊢
  have HN := Lib.hid hnn
  clear hg hit hl hd2 hnn
  have HG := Lib.hid (World.grownBy_refl w2 (some w.heap.size))
  have hn0 : ((nn : Int) == 0) = false := by simp; omega
  go_wp2_with (first
    | (go_at_call 60; refine (pick_any w _ w.heap.size n' c' _ a _ HD.out (by omega)).mono ?_; rintro e wk ⟨y, rfl, hy, hg, hd⟩; have HG := Lib.hid (grown_trans HG.out hg); have HD := Lib.hid hd; clear hd hg))
  have hs2 : w.Since w.heap.size w2 := hs.trans (since_grown HG0.out (Nat.le_refl _) hs.size)
  have hs3 := hs2.trans (since_grown HG.out (Nat.le_refl _) hs2.size)
  (try simp only [Exit.inBlock, Exit.then]); refine bodyPost_ret (results_four rfl _ _ _) rfl ?_
  exact ⟨_, _, l, _, _, _, by rw [HN.out]; rfl, hs3, by rw [HN.out]; exact h1, by rw [HN.out]; exact h5, HL.out, (HIT.out.kept HG.out hz1).mono hs.size HG.out.size⟩

set_option maxRecDepth 100000 in
set_option maxHeartbeats 2000000 in
theorem drawBeside_any (a : Option Addr) (nb cb : Nat) (w : World) (hc : nb ≤ cb) (h63 : cb ≤ 9223372036854775807) (hb : BytR w a nb) :
    Calls Try.prog 46 #[.slice a nb cb] w fun e w' => ∃ a' cap l b' cap2 u, e = .returned (.tuple #[.slice a' l.length cap, .slice b' u.length cap2]) ∧ w.Since w.heap.size w' ∧ DrawnT w w' 3 3 a' l ∧ DrawnT w w' 4 3 b' u := by
  have E := Lib.hid (l6Open_any a nb cb w hc h63 hb)
  clear hb
  go_enter Try.func46, Try.ntmps46
  go_wp2_with fail
  refine (E.out).mono ?_
  rintro e w1 ⟨n', c', rfl, hs, hz, hd⟩
  have HD0 := Lib.hid hd
  clear hd
  have hz1 : w.heap.size < w1.heap.size := by omega
  clear hz
  go_wp2_with fail
  refine (l91Some_any w w1 w.heap.size n' c' 0 3 3 a HD0.out (by omega) (by omega) (by omega) (by omega) (by omega)).mono ?_
  rintro e w2 ⟨a', cap', l, p', rfl, hg, hd2, hp, h1, h5, hl, hit⟩
  have HG0 := Lib.hid hg
  have HIT := Lib.hid hit
  have HL := Lib.hid hl
  have HD := Lib.hid hd2
  obtain ⟨nn, hnn⟩ : ∃ n, l.length = n := ⟨_, rfl⟩
  rw [hnn] at h1 h5 ⊢
  have HN := Lib.hid hnn
  clear hg hit hl hd2 hnn
  go_wp2_with fail
  refine (l91Some_any w w2 w.heap.size n' c' p' 4 3 a HD.out (by omega) (by omega) (by omega) (by omega) (by omega)).mono ?_
  rintro e w2q ⟨aq', capq', lq, pq', rfl, hgq, hd2q, hpq, h1q, h5q, hlq, hitq⟩
  have HG0q := Lib.hid hgq
  have HITq := Lib.hid hitq
  have HLq := Lib.hid hlq
  have HDq := Lib.hid hd2q
  obtain ⟨nnq, hnnq⟩ : ∃ n, lq.length = n := ⟨_, rfl⟩
  rw [hnnq] at h1q h5q ⊢
  have HNq := Lib.hid hnnq
  clear hgq hitq hlq hd2q hnnq
  have hs2 : w.Since w.heap.size w2 := hs.trans (since_grown HG0.out (Nat.le_refl _) hs.size)
  have hs3 := hs2.trans (since_grown HG0q.out (Nat.le_refl _) hs2.size)
  go_wp2
  go_ret2
  exact ⟨_, _, l, _, _, lq, by rw [HN.out, HNq.out]; rfl, hs3, ⟨by rw [HN.out]; exact h1, by rw [HN.out]; exact h5, HL.out, (HIT.out.kept HG0q.out hz1).mono hs.size HG0q.out.size⟩, ⟨by rw [HNq.out]; exact h1q, by rw [HNq.out]; exact h5q, HLq.out, HITq.out.mono hs2.size (Nat.le_refl _)⟩⟩

end Go.Proofs.Yteaabemnolacdaa
end

section
namespace Go.Proofs.Yteaabemnolacdaa
open Go.RowKit Go.Deep

set_option maxHeartbeats 1000000 in
theorem sameInts_same (a b : Option Addr) (ca cb n : Nat) (l : List Int) (w : World) (hn : l.length = n) (h63 : n ≤ 9223372036854775807) (ha : RowR w a l) (hb : RowR w b l) :
    Calls Try.prog 67 #[.slice a n ca, .slice b n cb] w fun e w' => e = .returned (.bool true) ∧ Drawn w w' := by
  have H := Lib.hid hn; clear hn
  go_enter Try.func67, Try.ntmps67
  go_wp2
  go_loopg [5] n (fun g i wr => ∃ k : Nat, k ≤ n ∧ g = n - k ∧ i = .int .i64 k ∧ Drawn w wr)
  case atStart => exact ⟨0, Nat.zero_le _, rfl, rfl, Drawn.refl w⟩
  case round =>
    obtain ⟨k, hk, rfl, rfl, hD⟩ := hrel
    by_cases hlt : k < n
    · obtain ⟨b1, o1, rfl, hc1⟩ := ha (by rw [H.out]; omega)
      obtain ⟨b2, o2, rfl, hc2⟩ := hb (by rw [H.out]; omega)
      have c1 := hc1 k (by rw [H.out]; exact hlt)
      have c2 := hc2 k (by rw [H.out]; exact hlt)
      obtain ⟨x, hx⟩ : ∃ x, x = l.getD k 0 := ⟨_, rfl⟩
      rw [← hx] at c1 c2
      rw [← hD.cell] at c1 c2
      clear hx hc1 hc2 ha hb
      go_wp2
      go_quiet (fail)
      go_wp2
      go_roundg (n - (k + 1))
      case measure => omega
      case rel => exact ⟨k + 1, by omega, rfl, by go_num, hD.trans (Drawn.mk _ _)⟩
    · go_wp2
      go_ret
      exact ⟨rfl, hD⟩

set_option maxHeartbeats 1000000 in
theorem sameRows_same (a b : Option Addr) (ca cb n : Nat) (l : List (List Int)) (w : World) (hn : l.length = n) (h63 : n ≤ 9223372036854775807) (hl : ∀ r, r < l.length → (l.getD r []).length ≤ 9223372036854775807)
    (ha : MatR w a l) (hb : MatR w b l) :
    Calls Try.prog 19 #[.slice a n ca, .slice b n cb] w fun e w' => e = .returned (.bool true) ∧ Drawn w w' := by
  have H := Lib.hid hn; clear hn
  go_enter Try.func19, Try.ntmps19
  go_wp2
  go_loopg [5] n (fun g i wr => ∃ k : Nat, k ≤ n ∧ g = n - k ∧ i = .int .i64 k ∧ Drawn w wr)
  case atStart => exact ⟨0, Nat.zero_le _, rfl, rfl, Drawn.refl w⟩
  case round =>
    obtain ⟨k, hk, rfl, rfl, hD⟩ := hrel
    by_cases hlt : k < n
    · obtain ⟨b1, o1, A1, C1, rfl, hc1⟩ := ha (by rw [H.out]; omega)
      obtain ⟨b2, o2, A2, C2, rfl, hc2⟩ := hb (by rw [H.out]; omega)
      obtain ⟨c1, r1⟩ := hc1 k (by rw [H.out]; exact hlt)
      obtain ⟨c2, r2⟩ := hc2 k (by rw [H.out]; exact hlt)
      have hlk := hl k (by rw [H.out]; exact hlt)
      obtain ⟨x, hx⟩ : ∃ x, x = l.getD k [] := ⟨_, rfl⟩
      rw [← hx] at c1 c2 r1 r2 hlk
      obtain ⟨m, hm⟩ : ∃ m, x.length = m := ⟨_, rfl⟩
      rw [hm] at c1 c2 hlk
      have HM := Lib.hid hm
      clear hx hc1 hc2 ha hb hl hm
      have r1 := r1.drawn hD
      have r2 := r2.drawn hD
      rw [← hD.cell] at c1 c2
      have e1 := fun (p : Nat) => sameInts_same (A1 k) (A2 k) (C1 k) (C2 k) m x (wr.drewN p) HM.out hlk r1 r2
      have E1 := Lib.hid e1; clear e1 r1 r2
      go_wp2
      go_quiet ((go_at_call 67; exact Calls.quiet_of (E1.out _)))
      go_wp2
      go_roundg (n - (k + 1))
      case measure => omega
      case rel => exact ⟨k + 1, by omega, rfl, by go_num, hD.trans (Drawn.mk _ _)⟩
    · go_wp2
      go_ret
      exact ⟨rfl, hD⟩

end Go.Proofs.Yteaabemnolacdaa
end

section
namespace Go.Proofs.Yteaabemnolacdaa
open Go.RowKit Go.Deep

theorem szL_of {l : List (List Int)} {n k : Nat} (h1 : l.length ≤ n) (h2 : ∀ j, j < l.length → (l.getD j []).length ≤ k) (hnk : n * k + n ≤ 1048576) : szL l ≤ 1048576 := by
  have h3 := sumTo_le_mul l k h2 l.length (Nat.le_refl _)
  have h4 : l.length * k ≤ n * k := Nat.mul_le_mul_right _ h1
  have h5 : k * l.length = l.length * k := Nat.mul_comm _ _
  unfold szL
  omega
theorem rows_le {l : List (List Int)} (h : szL l ≤ 1048576) : ∀ r, r < l.length → (l.getD r []).length ≤ 9223372036854775807 := fun r hr => by
  have := row_le l hr
  unfold szL at h
  omega

theorem tab_self {l : List (List Int)} {n m : Nat} (hn : l.length = n) (hm : ∀ r, r < n → (l.getD r []).length = m) : tabF n m (at2 l) = l := by
  refine List.ext_getElem (by rw [tabF_length, hn]) fun r h1 h2 => ?_
  have hr : r < n := by rw [tabF_length] at h1; exact h1
  have e1 : (tabF n m (at2 l))[r] = (tabF n m (at2 l)).getD r [] := by simp [List.getD, h1]
  have e2 : l[r] = l.getD r [] := by simp [List.getD, h2]
  rw [e1, e2, tabF_get _ _ _ _ hr]
  refine List.ext_getElem (by rw [List.length_map, List.length_range, hm r hr]) fun k h3 h4 => ?_
  rw [List.getElem_map, List.getElem_range]
  unfold at2
  obtain ⟨x, hx⟩ : ∃ x, x = l.getD r [] := ⟨_, rfl⟩
  subst hx
  generalize l.getD r [] = x at *
  simp [List.getD, h4]

theorem turnL_turnL {l : List (List Int)} (hT : TabIn l) : turnL (turnL l) = l := by
  have h1 := hT.1
  have hw := hT.width
  have e0 : ((turnL l).getD 0 []).length = l.length := tabF_len _ _ _ _ hw.1
  have e1 : turnL (turnL l) = tabF l.length (l.getD 0 []).length fun k i => at2 (turnL l) i k := by
    show tabF ((turnL l).getD 0 []).length (turnL l).length _ = _
    rw [e0, turnL_length]
  rw [e1]
  have e2 : tabF l.length (l.getD 0 []).length (fun k i => at2 (turnL l) i k) = tabF l.length (l.getD 0 []).length (at2 l) := by
    unfold tabF
    refine List.map_congr_left fun r hr => List.map_congr_left fun k hk => ?_
    exact tabF_at _ _ _ _ _ (List.mem_range.1 hk) (List.mem_range.1 hr)
  rw [e2]
  exact tab_self rfl (fun r hr => hT.row hr)

end Go.Proofs.Yteaabemnolacdaa
end

section
namespace Go.Proofs.Yteaabemnolacdaa
open Go.RowKit Go.Deep

noncomputable def partOk (l : List (List Int)) (s c : Int) : Bool := tabIn l && (inB s 1 (2 ^ l.length - 1 : Nat) && inB c 1 (2 ^ (l.getD 0 []).length - 1 : Nat))
theorem partOk_tab {l : List (List Int)} {s c : Int} (h : partOk l s c = true) : TabIn (partL l s.toNat c.toNat) := by
  unfold partOk at h
  rw [Bool.and_eq_true, Bool.and_eq_true] at h
  have h2 := of_decide_eq_true h.2.1
  have h3 := of_decide_eq_true h.2.2
  have p1 := Nat.one_le_two_pow (n := l.length)
  have p2 := Nat.one_le_two_pow (n := (l.getD 0 []).length)
  exact partL_tab (tabIn_of h.1) (by omega) (by omega) (by omega) (by omega)

set_option maxHeartbeats 800000 in
theorem isFilled_any (x : Int) (n : Nat) (hn : n ≤ 6) (w : World) :
    Calls Try.prog 93 #[.int .i64 x, .int .i64 n] w fun e w' => e = .returned (.bool (inB x 1 (2 ^ n - 1 : Nat))) ∧ w = w' := by
  have E := Lib.hid (fullSet_any n hn w)
  go_enter Try.func93, Try.ntmps93
  go_wp2_with fail
  refine (E.out).mono ?_
  rintro e w' ⟨rfl, rfl⟩
  go_wp2_with fail
  refine (inRange_any _ _ _ _).mono ?_
  rintro e w' ⟨rfl, rfl⟩
  go_wp2
  go_ret
  exact ⟨rfl, rfl⟩

end Go.Proofs.Yteaabemnolacdaa
end

section
namespace Go.Proofs.Yteaabemnolacdaa
open Go.RowKit Go.Deep

noncomputable def swapOk (l : List (List Int)) (i k : Int) : Bool := tabIn l && (rowB i l.length && rowB k l.length)
theorem swapOk_tab {l : List (List Int)} {i k : Int} (h : swapOk l i k = true) : TabIn (swapL l i.toNat k.toNat) := by
  unfold swapOk at h
  rw [Bool.and_eq_true, Bool.and_eq_true] at h
  obtain ⟨i, rfl, hi⟩ := rowB_of h.2.1
  obtain ⟨k, rfl, hk⟩ := rowB_of h.2.2
  exact swapL_tab (tabIn_of h.1) hi hk
theorem szL_swapOk (l : List (List Int)) (i k : Int) (h : swapOk l i k = true) : szL (swapL l i.toNat k.toNat) ≤ 1048576 := szL_tab (swapOk_tab h)

set_option maxHeartbeats 1000000 in
theorem implTableSwap_any (a : Option Addr) (cap n : Nat) (l : List (List Int)) (i k : Int) (w : World) (hn : l.length = n) (hsz : szL l ≤ 1048576) (hm : MatR w a l) :
    Calls Try.prog 33 #[.slice a n cap, .int .i64 i, .int .i64 k] w (ImplT w (swapOk l i k) (swapL l i.toNat k.toNat)) := by
  have E := Lib.hid (implTableIn_any a cap n l w hn hsz hm)
  cases hT : tabIn l with
  | false =>
    have hok : swapOk l i k = false := by unfold swapOk; rw [hT]; rfl
    rw [hT] at E
    rw [hok]
    clear hT hsz hm hn hok
    go_enter Try.func33, Try.ntmps33
    go_wp2_with fail
    refine (E.out).mono ?_
    rintro e w1 ⟨rfl, hs⟩
    go_wp2
    go_ret2
    exact ⟨_, _, rfl, hs, OwnT.nil _ _ _ _⟩
  | true =>
    have hTT := tabIn_of hT
    have h1 := hTT.1
    have h6 := hTT.2.1
    rw [hn] at h1 h6
    rw [hT] at E
    have E2 := Lib.hid (fun W => hasRow_any a cap n i W h1 h6)
    have E3 := Lib.hid (fun W => hasRow_any a cap n k W h1 h6)
    cases hfr : rowB i n with
    | false =>
      have hok : swapOk l i k = false := by unfold swapOk; rw [hT, hn, hfr]; rfl
      rw [hfr] at E2
      rw [hok]
      clear hT hsz hm hn hok hTT hfr E3
      go_enter Try.func33, Try.ntmps33
      go_wp2_with fail
      refine (E.out).mono ?_
      rintro e w1 ⟨rfl, hs⟩
      go_wp2_with fail
      refine (E2.out w1).mono ?_
      rintro e w2 ⟨rfl, rfl⟩
      go_wp2
      go_ret2
      exact ⟨_, _, rfl, hs, OwnT.nil _ _ _ _⟩
    | true =>
      rw [hfr] at E2
      cases hto : rowB k n with
      | false =>
        have hok : swapOk l i k = false := by unfold swapOk; rw [hT, hn, hfr, hto]; rfl
        rw [hto] at E3
        rw [hok]
        clear hT hsz hm hn hok hTT hfr hto
        go_enter Try.func33, Try.ntmps33
        go_wp2_with fail
        refine (E.out).mono ?_
        rintro e w1 ⟨rfl, hs⟩
        go_wp2_with fail
        refine (E2.out w1).mono ?_
        rintro e w2 ⟨rfl, rfl⟩
        go_wp2_with fail
        refine (E3.out w1).mono ?_
        rintro e w2 ⟨rfl, rfl⟩
        go_wp2
        go_ret2
        exact ⟨_, _, rfl, hs, OwnT.nil _ _ _ _⟩
      | true =>
        rw [hto] at E3
        have hok : swapOk l i k = true := by unfold swapOk; rw [hT, hn, hfr, hto]; rfl
        rw [hok]
        obtain ⟨i, rfl, hfl⟩ := rowB_of hfr
        obtain ⟨k, rfl, htl⟩ := rowB_of hto
        simp only [Int.toNat_natCast]
        have HE2 := Lib.hid (fun (W : World) (hs : w.Since w.heap.size W) => swapped_any a cap n i k l W hn hTT.rec hfl htl (hm.since hs))
        have HTL := Lib.hid ((swapL_length l i k).trans hn)
        have hTS := swapL_tab hTT (by rw [hn]; exact hfl) (by rw [hn]; exact htl)
        have HTS := Lib.hid (tabIn_true hTS)
        have HSZ := Lib.hid (szL_tab hTS)
        clear hT hsz hm hn hok hTT hfr hto hTS
        go_enter Try.func33, Try.ntmps33
        go_wp2_with fail
        refine (E.out).mono ?_
        rintro e w1 ⟨rfl, hs⟩
        go_wp2_with fail
        refine (E2.out w1).mono ?_
        rintro e w2 ⟨rfl, rfl⟩
        go_wp2_with fail
        refine (E3.out w1).mono ?_
        rintro e w2 ⟨rfl, rfl⟩
        go_wp2_with fail
        refine (HE2.out w1 hs).mono ?_
        rintro e w2 ⟨a2, cap2, rfl, hs2, ho⟩
        have hs12 : w.Since w.heap.size w2 := hs.trans (since_mono hs2 hs.size)
        have hz := hs.size
        have E6 := result_any a2 cap2 n _ _ (swapL l i k) w2 HTL.out HSZ.out ho
        rw [HTS.out] at E6
        replace E6 := Lib.hid E6
        go_wp2_with fail
        refine (E6.out).mono ?_
        rintro e w3 ⟨a', cap', rfl, hs3, ho3⟩
        go_wp2
        go_ret2
        exact ⟨a', cap', rfl, hs12.trans (since_mono hs3 hs12.size), ho3.mono hz hs3.size⟩

end Go.Proofs.Yteaabemnolacdaa
end

section
namespace Go.Proofs.Yteaabemnolacdaa
open Go.RowKit Go.Deep

structure SW (w1 w' : World) (b n m : Nat) (A : Nat → Option Addr) (G C : Nat → Nat) (Z : Nat → Nat → Int) (hi : Nat) : Prop where
  since : w1.Since w1.heap.size w'
  size : hi ≤ w'.heap.size
  own : OwnD w1.heap.size hi w' b A G C n (fun _ => m) Z
  free : ∀ r, r < n → w'.frozen? ⟨b, r, none⟩ = false
  inb : w1.heap.size ≤ b ∧ b < hi

theorem SW.later {w1 w' w2 : World} {b n m : Nat} {A : Nat → Option Addr} {G C : Nat → Nat} {Z : Nat → Nat → Int} {hi : Nat} (h : SW w1 w' b n m A G C Z hi) (hs : w'.Since w'.heap.size w2) : SW w1 w2 b n m A G C Z hi :=
  ⟨h.since.trans (since_mono hs h.since.size), Nat.le_trans h.size hs.size, h.own.later hs, fun r hr => by rw [hs.frozen (a := ⟨b, r, none⟩) (World.block_lt_of_cell? _ _ (h.own.top r hr))]; exact h.free r hr, h.inb⟩

theorem SW.put {w1 w2 w3 : World} {b n m : Nat} {A : Nat → Option Addr} {G C : Nat → Nat} {Z : Nat → Nat → Int} {hi : Nat} (h : SW w1 w2 b n m A G C Z hi) (hs : w2.Since w2.heap.size w3) {g cp : Nat} {x : List Int} (hg : w2.heap.size ≤ g) (hx : RowB w3 g x) (hxl : x.length = m)
    (hm : 0 < m) {i : Nat} (hi' : i < n) : SW w1 (w3.setCell ⟨b, i, none⟩ (.slice (some ⟨g, 0, none⟩) m cp)) b n m (fun r => if r = i then some ⟨g, 0, none⟩ else A r) (fun r => if r = i then g else G r) (fun r => if r = i then cp else C r) (fun r c => if r = i then x.getD c 0 else Z r c) w3.heap.size := by
  have h3 := h.later hs
  have hgl := hx.lt
  have hsz := h.size
  have hb := h.inb
  have hss := h.since.size
  have hsz3 := hs.size
  have hgb : g ≠ b := by omega
  refine ⟨h3.since.setCell hb.1 _, by simp, ⟨fun r hr => ?_, fun r hr h0 => ?_, fun r hr h0 => ?_, fun r hr c hc => ?_, fun r hr c hc => ?_, fun r r' hr hr' h0 h0' e => ?_⟩, fun r hr => by rw [World.frozen?_setCell]; exact h3.free r hr, hb.1, by omega⟩
  · by_cases e : r = i
    · subst e
      rw [if_pos rfl, if_pos rfl]
      exact World.cell?_setCell_same' _ _ _ (by rw [h3.own.top r hr]; rfl)
    · rw [if_neg e, if_neg e, World.cell?_setCell_other _ _ _ _ (fun e' => e (by injection e' with _ e'; exact e'.symm))]
      exact h3.own.top r hr
  · by_cases e : r = i
    · rw [if_pos e, if_pos e]
    · rw [if_neg e, if_neg e]; exact h3.own.addr r hr h0
  · by_cases e : r = i
    · rw [if_pos e]; exact ⟨by omega, hgl, hgb⟩
    · rw [if_neg e]; have := h3.own.inside r hr h0; exact ⟨this.1, by omega, this.2.2⟩
  · by_cases e : r = i
    · rw [if_pos e, if_pos e, World.cell?_setCell_other _ _ _ _ (fun e' => hgb (by injection e' with e'; exact e'.symm))]
      exact hx.cell (by rw [hxl]; exact hc)
    · rw [if_neg e, if_neg e, World.cell?_setCell_other _ _ _ _ (fun e' => (h3.own.inside r hr (by omega)).2.2 (by injection e' with e'; exact e'.symm))]
      exact h3.own.cell r hr c hc
  · rw [World.frozen?_setCell]
    by_cases e : r = i
    · rw [if_pos e]; exact hx.frozen c
    · rw [if_neg e]; exact h3.own.free r hr c hc
  · by_cases e1 : r = i <;> by_cases e2 : r' = i
    · omega
    · rw [if_pos e1, if_neg e2] at e
      have := (h.own.inside r' hr' h0').2.1
      omega
    · rw [if_neg e1, if_pos e2] at e
      have := (h.own.inside r hr h0).2.1
      omega
    · rw [if_neg e1, if_neg e2] at e
      exact h3.own.apart r r' hr hr' h0 h0' e

theorem OwnT.sw {w w1 : World} {a : Option Addr} {l : List (List Int)} {n m : Nat} (h : OwnT w.heap.size w1.heap.size w1 a l) (hn : l.length = n) (h1 : 0 < n) (hm : ∀ r, r < n → (l.getD r []).length = m) (hs : w.Since w.heap.size w1) (hf : FreeTop w1 a n) :
    ∃ b A G C, a = some ⟨b, 0, none⟩ ∧ SW w w1 b n m A G C (fun r c => at2 l r c) w1.heap.size := by
  obtain ⟨b, A, G, C, e, hb, hW⟩ := h.wr hn h1 hm hs (fun _ _ => 0)
  exact ⟨b, A, G, C, e, hs, Nat.le_refl _, hW.own.congr fun r _ c _ => by unfold updF; rw [if_neg (by omega)], fun r hr => hf b r e hr, hb⟩

theorem SW.ownT {w1 w' : World} {b n m : Nat} {A : Nat → Option Addr} {G C : Nat → Nat} {Z : Nat → Nat → Int} {hi : Nat} {l : List (List Int)} (h : SW w1 w' b n m A G C Z hi) (hn : l.length = n) (hm : ∀ r, r < n → (l.getD r []).length = m) (hZ : ∀ r c, r < n → c < m → at2 l r c = Z r c) : OwnT w1.heap.size w'.heap.size w' (some ⟨b, 0, none⟩) l :=
  (h.own.ownT h.inb hn hm fun r hr c hc => hZ r c hr hc).mono (Nat.le_refl _) h.size

theorem own_row (W : World) : (W.alloc (.cells #[] 3)).ownsRow W.heap.size 3 1 (.slice (some ⟨W.heap.size, 0, none⟩) 0 0) 0 [] := World.ownsRow_made W #[] 0 (Nat.le_refl _) (Nat.zero_le _) rfl
theorem row_cells {w W : World} {b' o' m : Nat} {x : List Int} (hx : x.length = m) (hs : w.Since w.heap.size W) (hce : ∀ j, j < m → w.cell? ⟨b', o' + j, none⟩ = some (.int .i64 (x.getD j 0))) (o : Obj) : ∀ (j : Nat) (u : Value), (x.map (Value.int .i64))[j]? = some u → (W.alloc o).cell? ((⟨b', o', none⟩ : Addr).add j) = some u := fun j u hj => by
  rw [Go.WideShapes.add_plain]
  obtain ⟨hjl, he⟩ := List.getElem?_eq_some_iff.1 hj
  have hjx : j < m := by rw [← hx]; simpa using hjl
  have h2 := hce j hjx
  refine cell_alloc_l _ ?_
  rw [hs.cell (a := ⟨b', o' + j, none⟩) (World.block_lt_of_cell? _ _ h2), h2, ← he]
  simp [List.getD, show j < x.length by omega]

end Go.Proofs.Yteaabemnolacdaa
end

section
namespace Go.Proofs.Yteaabemnolacdaa
open Go.RowKit Go.Deep

theorem swap_back {l : List (List Int)} {i k : Int} (h : swapOk l i k = true) : swapOk (swapL l i.toNat k.toNat) i k = true ∧ swapL (swapL l i.toNat k.toNat) i.toNat k.toNat = l := by
  have hT := swapOk_tab h
  unfold swapOk at h ⊢
  rw [Bool.and_eq_true, Bool.and_eq_true] at h
  refine ⟨by rw [tabIn_true hT, swapL_length, h.2.1, h.2.2]; rfl, ?_⟩
  obtain ⟨i, rfl, hi⟩ := rowB_of h.2.1
  obtain ⟨k, rfl, hk⟩ := rowB_of h.2.2
  rw [Int.toNat_natCast, Int.toNat_natCast]
  have e : swapL (swapL l i k) i k = (List.range l.length).map fun r => l.getD r [] := by
    show (List.range (swapL l i k).length).map (fun r => (swapL l i k).getD (sw i k r) []) = _
    rw [swapL_length]
    refine List.map_congr_left fun r hr => ?_
    rw [swapL_get l i k (sw_lt hi hk (List.mem_range.1 hr)), sw_sw]
  rw [e, range_getD]

theorem tabF_congr {n m : Nat} {f g : Nat → Nat → Int} (h : ∀ i k, i < n → k < m → f i k = g i k) : tabF n m f = tabF n m g := by
  unfold tabF
  exact List.map_congr_left fun r hr => List.map_congr_left fun k hk => h r k (List.mem_range.1 hr) (List.mem_range.1 hk)

theorem add_back {l : List (List Int)} {fr tq f : Int} (h : addOk l fr tq f = true) : addOk (addL l fr.toNat tq.toNat f) fr tq (-f) = true ∧ addL (addL l fr.toNat tq.toNat f) fr.toNat tq.toNat (-f) = l := by
  unfold addOk at h ⊢
  simp only [Bool.and_eq_true, Bool.not_eq_true'] at h
  obtain ⟨h1, h2, h3, h4, h5, h6⟩ := h
  have hT := tabIn_of h1
  obtain ⟨fr, rfl, hfr⟩ := rowB_of h2
  obtain ⟨tq, rfl, hto⟩ := rowB_of h3
  rw [Int.toNat_natCast, Int.toNat_natCast] at *
  have hne : fr ≠ tq := by rintro rfl; simp at h4
  have hw := hT.width
  have h0 := hT.1
  have e0 : ((addL l fr tq f).getD 0 []).length = (l.getD 0 []).length := tabF_len _ _ _ _ (by omega)
  have e : addL (addL l fr tq f) fr tq (-f) = l := by
    show tabF (addL l fr tq f).length ((addL l fr tq f).getD 0 []).length (addF (addL l fr tq f) fr tq (-f)) = l
    rw [addL_length, e0]
    refine Eq.trans (tabF_congr fun i k hi hk => ?_) (tab_self rfl (fun r hr => hT.row hr))
    have a1 : at2 (addL l fr tq f) i k = addF l fr tq f i k := tabF_at _ _ _ _ _ hi hk
    have a2 : at2 (addL l fr tq f) fr k = addF l fr tq f fr k := tabF_at _ _ _ _ _ hfr hk
    show (if i = tq then at2 (addL l fr tq f) i k + (-f) * at2 (addL l fr tq f) fr k else at2 (addL l fr tq f) i k) = at2 l i k
    rw [a1, a2]
    unfold addF
    by_cases hi : i = tq
    · rw [if_pos hi, if_pos hi, if_neg hne, Int.neg_mul]; omega
    · rw [if_neg hi, if_neg hi]
  refine ⟨?_, e⟩
  have h5' := of_decide_eq_true h5
  rw [h6, addL_length, h2, h3, h4, e, h1]
  have : inB (-f) (-30) 30 = true := by unfold inB at *; simp at *; omega
  rw [this]; rfl
theorem addOk_num {l : List (List Int)} {fr tq f : Int} (h : addOk l fr tq f = true) : -30 ≤ f ∧ f ≤ 30 := by
  unfold addOk at h
  simp only [Bool.and_eq_true] at h
  exact of_decide_eq_true h.2.2.2.2.1

end Go.Proofs.Yteaabemnolacdaa
end

section
namespace Go.Proofs.Yteaabemnolacdaa
open Go.RowKit Go.Deep

theorem addL_val {l : List (List Int)} {x y z : Int} (h : addOk l x y z = true) :
    sqB (addL l x.toNat y.toNat z) = sqB l ∧ (if sqB (addL l x.toNat y.toNat z) = true then ordF (addL l x.toNat y.toNat z) (addL l x.toNat y.toNat z).length (addL l x.toNat y.toNat z).length 0 else 0) = (if sqB l = true then ordF l l.length l.length 0 else 0) := by
  unfold addOk at h
  simp only [Bool.and_eq_true, Bool.not_eq_true'] at h
  obtain ⟨h1, h2, h3, h4, _, h6⟩ := h
  have hT := tabIn_of h1
  obtain ⟨fr, rfl, hfr⟩ := rowB_of h2
  obtain ⟨tq, rfl, hto⟩ := rowB_of h3
  rw [Int.toNat_natCast, Int.toNat_natCast] at *
  have hne : fr ≠ tq := by rintro rfl; simp at h4
  have h0 := hT.1
  have e0 : ((addL l fr tq z).getD 0 []).length = (l.getD 0 []).length := tabF_len _ _ _ _ (by omega)
  have el := addL_length l fr tq z
  have hsq : sqB (addL l fr tq z) = sqB l := by unfold sqB; rw [h1, h6, e0, el]
  refine ⟨hsq, ?_⟩
  rw [hsq]
  cases hs : sqB l with
  | false => rfl
  | true =>
    rw [if_pos rfl, if_pos rfl, el]
    obtain ⟨_, hw⟩ := sqB_of hs
    have h66 := hT.2.1
    rw [ordF_all _ h66, ordF_all _ h66, dt_congr l.length (g := setR (at2 l) tq (fun j => 1 * at2 l tq j + z * at2 l fr j)) (fun i j hi hj => ?_), dt_add (at2 l) 1 z hto hfr (Ne.symm hne)]
    · omega
    · have e : at2 (addL l fr tq z) i j = addF l fr tq z i j := tabF_at _ _ _ i j hi (by omega)
      rw [e]
      unfold addF setR
      split
      · rename_i h
        rw [h]
        show at2 l tq j + z * at2 l fr j = 1 * at2 l tq j + z * at2 l fr j
        omega
      · rfl

end Go.Proofs.Yteaabemnolacdaa
end

section
namespace Go.Proofs.Yteaabemnolacdaa
open Go.RowKit Go.Deep

set_option maxRecDepth 100000 in
set_option maxHeartbeats 4000000 in
theorem fnValueAdd (a : Option Addr) (cap n : Nat) (w : World) (hc : n ≤ cap) (h63 : cap ≤ 9223372036854775807) (hb : BytR w a n) :
    Calls Try.prog 13 #[.slice a n cap] w fun e w' => e = .returned (.bool true) ∧ w.Since w.heap.size w' := by
  by_cases hlen : 1048576 < n
  · have hl' : decide ((1048576 : Int) < (n : Int)) = true := by simp; omega
    clear hb
    go_enter Try.func13, Try.ntmps13
    go_wp2
    go_ret
    exact ⟨rfl, World.Since.refl _ _⟩
  · have hl' : decide ((1048576 : Int) < (n : Int)) = false := by simp; omega
    have ED := Lib.hid (drawAdd_any a n cap w hc h63 hb)
    clear hb
    go_enter Try.func13, Try.ntmps13
    go_wp2_with fail
    refine (ED.out).mono ?_
    rintro e w1 ⟨a1, c1, l, x, y, z, rfl, hs1, h1, h5, hlens, hit⟩
    have hsz : szL l ≤ 1048576 := szL_of h5 (fun j hj => (hlens j hj).2) (by decide)
    obtain ⟨nn, hn⟩ : ∃ nn, l.length = nn := ⟨_, rfl⟩
    rw [hn]
    have HN := Lib.hid hn
    have HSZ := Lib.hid hsz
    have HM := Lib.hid (fun (W : World) (h : w1.Since w1.heap.size W) => hit.matR.since h)
    have HS1 := Lib.hid hs1
    obtain ⟨ok, hok⟩ : ∃ ok, addOk l x y z = ok := ⟨_, rfl⟩
    obtain ⟨M, hM⟩ : ∃ M, resT ok (addL l x.toNat y.toNat z) = M := ⟨_, rfl⟩
    have E1 := implTableAdd_any a1 c1 nn l x y z w1 hn hsz (hit.matR)
    have E2 := fun (W : World) (h : w1.Since w1.heap.size W) => specTableAdd_any a1 c1 nn l x y z W hn hsz (hit.matR.since h)
    have hMsz : szL M ≤ 1048576 := by
      rw [← hM]
      cases hok' : ok with
      | false => simp [resT, szL, sumTo]
      | true => rw [hok'] at hok; exact szL_addOk l x y z hok
    unfold ImplT at E1
    unfold SpecT at E2
    rw [hok, hM] at E1
    simp only [hok, hM] at E2
    obtain ⟨q, hq⟩ : ∃ q, M.length = q := ⟨_, rfl⟩
    rw [hq] at E1
    simp only [hq] at E2
    have hq63 : q ≤ 9223372036854775807 := by unfold szL at hMsz; omega
    replace E1 := Lib.hid E1
    replace E2 := Lib.hid E2
    have HQ := Lib.hid hq
    have HMS := Lib.hid hMsz
    have HOK := Lib.hid hok
    have HMM := Lib.hid hM
    clear hn hsz hit hs1 h1 h5 hlens hq hMsz hok hM
    go_wp2_with fail
    refine (E1.out).mono ?_
    rintro e w2 ⟨a2, c2, rfl, hs2, ho2⟩
    have HO := Lib.hid (fun (W : World) (h : w2.Since w2.heap.size W) => ho2.matR.since h)
    have HS2 := Lib.hid hs2
    clear ho2 hs2
    go_wp2_with fail
    refine (E2.out w2 HS2.out).mono ?_
    rintro e w3 ⟨a3, c3, rfl, hs3, hi3⟩
    have ES := Lib.hid (fun (W : World) (h : w3.Since w3.heap.size W) => sameRows_same a2 a3 c2 c3 q M W HQ.out hq63 (rows_le HMS.out) (HO.out W (hs3.trans (since_mono h hs3.size))) (hi3.matR.since h))
    have HS3 := Lib.hid hs3
    clear hi3 hs3
    go_wp2_with fail
    refine (ES.out w3 (World.Since.refl _ _)).mono ?_
    rintro e w4 ⟨rfl, hd4⟩
    have hs4 := hd4.since w3.heap.size
    have hs14 : w1.Since w1.heap.size w4 := (HS2.out.trans (since_mono HS3.out HS2.out.size)).trans (since_mono hs4 (by have := HS2.out.size; have := HS3.out.size; omega))
    have HS4 := Lib.hid hs14
    have hs24 : w2.Since w2.heap.size w4 := HS3.out.trans (since_mono hs4 HS3.out.size)
    have HS24 := Lib.hid hs24
    cases ok with
    | false =>
      clear hs14 hs24 hd4
      go_wp2_with fail
      refine (ES.out w4 hs4).mono ?_
      rintro e w5 ⟨rfl, hd5⟩
      have HS5 := Lib.hid (hd5.since w4.heap.size)
      clear hd5
      go_wp2
      go_ret
      exact ⟨rfl, HS1.out.trans (since_mono (HS4.out.trans (since_mono HS5.out HS4.out.size)) HS1.out.size)⟩
    | true =>
      have hMl : M = addL l x.toNat y.toNat z := HMM.out.symm
      clear hs4 hd4
      obtain ⟨hsq, hval⟩ := addL_val HOK.out
      rw [← hMl, HQ.out, HN.out] at hval
      rw [← hMl] at hsq
      have E5 := implValueOrders_any a1 c1 nn l w4 HN.out HSZ.out (HM.out w4 hs14)
      have E6 := fun (W : World) (h : w2.Since w2.heap.size W) => implValueOrders_any a2 c2 q M W HQ.out HMS.out (HO.out W h)
      unfold SpecW at E5 E6
      rw [hval, hsq] at E6
      generalize (if sqB l = true then ordF l nn nn 0 else 0) = v at E5 E6
      generalize sqB l = b at E5 E6
      replace E5 := Lib.hid E5
      replace E6 := Lib.hid E6
      clear hval hsq hMl hs14 hs24
      go_wp2_with fail
      refine (E5.out).mono ?_
      rintro e w5 ⟨rfl, hs5⟩
      have HS5 := Lib.hid (HS4.out.trans (since_mono hs5 HS4.out.size))
      have HS25 := Lib.hid (HS24.out.trans (since_mono hs5 HS24.out.size))
      clear hs5
      go_wp2_with fail
      refine (E6.out w5 HS25.out).mono ?_
      rintro e w6 ⟨rfl, hs6⟩
      have HS6 := Lib.hid (HS5.out.trans (since_mono hs6 HS5.out.size))
      clear hs6
      cases b
      all_goals
        go_wp2
        go_ret
        exact ⟨rfl, HS1.out.trans (since_mono HS6.out HS1.out.size)⟩

end Go.Proofs.Yteaabemnolacdaa
end

section
namespace Go.Proofs.Yteaabemnolacdaa
open Go.ChangeShapes Go.WideShapes Go.ChangeAt Go.RowKit Go.Deep

theorem below_since' {B : Nat} {w w' : World} (h : Below B w w') : w.Since B w' := ⟨h.os, h.tape, h.output, h.size, h.block⟩
theorem since_below' {B : Nat} {w w' : World} (h : w.Since B w') : Below B w w' := ⟨h.os, h.tape, h.output, h.size, h.block⟩

section
variable {H : Type} {enc : TypeId × Value → H} {P : Program}
theorem post_of_below {f : Func} {s : ChangeSpec} {apart fresh handsOn again : Bool} {W W' : World} {args : Array Value} {v : Value} {ds gs : List (DataW H)} {before pa pv : List MemPlace}
    (hW : DataW.Whole enc P f.params.toList s.vars apart W args.toList ds gs before)
    (hres : ∀ (b : Nat) (sp : Nat → Bool) (hd : Bool), DataW.TrodAll enc P W' b sp hd f.resultTypes.toList (v.resultList f.resultTypes.size) (s.fn H (ds ++ gs)).results [])
    (hargs : ∀ sp : Nat → Bool, (∀ p ∈ before, sp p.block = true) → DataW.TrodAll enc P W' 0 sp true f.params.toList args.toList (s.fn H (ds ++ gs)).args pa)
    (hvars : ∀ sp : Nat → Bool, (∀ p ∈ before, sp p.block = true) → DataW.TrodVars enc P W' sp s.vars (s.fn H (ds ++ gs)).vars pv)
    (hps : before = pa ++ pv) (hb : Below W.heap.size W W') (hag : again = false) :
    s.post enc P f apart fresh handsOn again W args v W' := by
  have hlt : ∀ p ∈ before, p.block < W.heap.size := fun p hp => hW.lt p hp
  have hold : ∀ p ∈ before, (fun b => decide (b < W.heap.size)) p.block = true := fun p hp => by simpa using hlt p hp
  refine ⟨ds, gs, before, [], pa, pv, hW, hres _ _ _, hargs _ hold, hvars _ hold, World.keptBut_mono (fun p hp => ⟨hp, ?_⟩) (hb.frame (· ∈ before)), fun h => ?_⟩
  · rw [hps, List.mem_append] at hp
    exact Or.inr hp
  · rw [hag] at h; cases h

theorem open_mat {W : World} {t e q : TypeId} {a : Option Addr} {n cap : Nat} {d : DataW H} {p : List MemPlace} (ht : P.underlying t = some (.slice e)) (he : P.underlying e = some (.slice q)) (hq : P.underlying q = some (.int .i64))
    (ce : P.cellsOf e = 1) (cq : P.cellsOf q = 1) (h : DataW.Trod enc P W 0 (fun _ => true) true t (.slice a n cap) d p) :
    ∃ l : List (List Int), l.length = n ∧ MatR W a l ∧ n ≤ 9223372036854775807 ∧ ∀ r, r < l.length → (l.getD r []).length ≤ 9223372036854775807 := by
  obtain ⟨fuel, hf⟩ := h
  rcases open_int_rows ht he hq ce cq hf with ⟨hcs, _⟩ | ⟨a', len', cap', A, L, C, Z, hcs, _, hl, hm, _, hrows⟩
  · simp [Value.cells] at hcs
    obtain ⟨rfl, rfl, rfl⟩ := hcs
    exact ⟨[], rfl, (fun h => by simp at h), by omega, fun r hr => by simp at hr⟩
  · simp [Value.cells] at hcs
    obtain ⟨rfl, rfl, rfl⟩ := hcs
    have hmx : maxLen = 9223372036854775807 := rfl
    have hlen : ∀ r, r < n → ((Z r).take (L r)).length = L r := fun r hr => by
      obtain ⟨_, h1, _, h2, _⟩ := hrows r (by omega)
      rw [List.length_take]; omega
    have hget : ∀ r, r < n → ((List.range n).map fun r => (Z r).take (L r)).getD r [] = (Z r).take (L r) := fun r hr => by simp [List.getD, hr]
    refine ⟨(List.range n).map fun r => (Z r).take (L r), by simp, fun h => ?_, by omega, fun r hr => ?_⟩
    · obtain ⟨b, o, spot⟩ := a'
      simp at h
      have hspot : spot = none := by simpa [Addr.add] using World.cell?_spot (hrows 0 (by omega)).1
      subst hspot
      refine ⟨b, o, A, C, rfl, fun r hr => ?_⟩
      simp at hr
      rw [hget r hr, hlen r hr]
      obtain ⟨g1, g2, g3, g4, g5, g6, g7⟩ := hrows r (by omega)
      refine ⟨by rw [← add_plain]; exact g1, fun h0 => ?_⟩
      rw [hlen r hr] at h0
      cases hA : A r with
      | none => have := g6 hA; omega
      | some a'' =>
        obtain ⟨_, hcell⟩ := g7 a'' hA
        obtain ⟨b', o', sp⟩ := a''
        have hs : sp = none := by simpa [Addr.add] using World.cell?_spot (hcell 0 (by omega))
        subst hs
        refine ⟨b', o', rfl, fun i hi => ?_⟩
        rw [hlen r hr] at hi
        rw [← add_plain, hcell i (by omega)]
        congr 2
        simp [List.getD, hi]
    · simp at hr
      rw [hget r hr, hlen r hr]
      obtain ⟨_, h1, h2, _⟩ := hrows r (by omega)
      omega
end

theorem Try.own : ownKnob Try.prog.godebug = none := by kernel_rfl
theorem Try.laidOut : laidOutB Try.prog = true := by kernel_rfl
theorem Try.cellsR : Try.prog.cellsOf 36 = 1 := by kernel_rfl
theorem Try.cellsI : Try.prog.cellsOf 3 = 1 := by kernel_rfl

end Go.Proofs.Yteaabemnolacdaa
end

section
namespace Go.Proofs.Yteaabemnolacdaa
open Go.ChangeShapes Go.WideShapes Go.ChangeAt Go.RowKit Go.Deep

theorem wf_u8_of {n : Int} (h : (Lit.int .u8 n).wf = true) : 0 ≤ n ∧ n ≤ 255 := by
  have h2 : (0 : Int) ≤ n ∧ n ≤ 255 := by simpa [Lit.wf, IntKind.min, IntKind.max, IntKind.signed, IntKind.bits] using h
  exact h2

theorem open_bytes {H : Type} {enc : TypeId × Value → H} {P : Program} {W : World} {t e : TypeId} {a : Option Addr} {n cap : Nat} {d : DataW H} {p : List MemPlace} (ht : P.underlying t = some (.slice e)) (he : P.underlying e = some (.int .u8)) (ce : P.cellsOf e = 1)
    (h : DataW.Trod enc P W 0 (fun _ => true) true t (.slice a n cap) d p) : BytR W a n ∧ n ≤ cap ∧ cap ≤ 9223372036854775807 := by
  obtain ⟨fuel, hf⟩ := h
  rcases open_ints ht he ce hf with ⟨hcs, _⟩ | ⟨a', len, cap', zs, hcs, _, hl, hm, hlen, _, hcell, hwf⟩
  · simp [Value.cells] at hcs
    obtain ⟨rfl, rfl, rfl⟩ := hcs
    exact ⟨fun h => absurd h (by omega), by omega, by omega⟩
  · simp [Value.cells] at hcs
    obtain ⟨rfl, rfl, rfl⟩ := hcs
    have hmx : maxLen = 9223372036854775807 := rfl
    have hzl : zs.length = cap := by simpa using hlen
    refine ⟨fun h0 => ?_, by omega, by omega⟩
    obtain ⟨b, o, spot⟩ := a'
    have hspot : spot = none := by simpa [Addr.add] using World.cell?_spot (hcell 0 (by omega))
    subst hspot
    refine ⟨b, o, rfl, fun i hi => ?_⟩
    have hi' : i < zs.length := by omega
    have hw := wf_u8_of (hwf (zs.getD i 0) (by simp [List.getD, hi']))
    obtain ⟨z, hz⟩ := Int.eq_ofNat_of_zero_le hw.1
    refine ⟨z, by omega, ?_⟩
    rw [← add_plain, hcell i hi', hz]

theorem Try.cellsB : Try.prog.cellsOf 5 = 1 := by kernel_rfl

end Go.Proofs.Yteaabemnolacdaa
end

section
namespace Go.Proofs.Yteaabemnolacdaa
open Go.ChangeShapes Go.WideShapes Go.ChangeAt Go.RowKit Go.Deep

set_option maxRecDepth 100000 in
theorem lifted_FnValueAdd (os : Os) (started : os.Started) (H : Type) (enc : TypeId × Value → H) :
    ReturnsInHanded {} Try.checked os 13 .any (Rows.fnValueAddSpec.pre6 enc Try.prog Try.f13 Rows.fnValueAddRow.domain false) (Rows.fnValueAddSpec.post enc Try.prog Try.f13 false true false false) := by
  refine returnsInHanded_of_change (C := Try.checked) Try.own started (by kernel_rfl) Try.func13
    (ChangeSpec.witness6 (enc := enc) (C := Try.checked) false ⟨#[], #[.slice none 0 0], []⟩ 8 (by kernel_rfl) (by kernel_rfl) (by kernel_rfl) (by kernel_rfl)) ?_
  intro W base args ds gs before hval0 hW _ _
  have hval : ∀ (j : Nat) t v, Try.f13.params[j]? = some t → args[j]? = some v → Value.okWide Try.prog W .any base t v := hval0
  have hW' := hW
  obtain ⟨p, q, hA0, hV, rfl, hfz, hnd⟩ := hW
  have hA : DataW.TrodAll enc Try.prog W 0 (fun _ => true) true Try.f13.params.toList args.toList ds p := hA0
  rw [Try.params13] at hA hval
  obtain ⟨v0, d0, rfl, rfl, h0⟩ := trodAll_one hA
  obtain ⟨p0, hp0⟩ : ∃ p0, p0 = p := ⟨_, rfl⟩
  subst hp0
  obtain ⟨rfl, rfl⟩ := trodVars_none hV
  obtain ⟨a0, n0, cap0, rfl⟩ := okWide_slice Try.underlying22 (hval 0 22 v0 rfl rfl)
  obtain ⟨hb0, hc0, h630⟩ := open_bytes Try.underlying22 Try.underlying5 Try.cellsB h0
  clear hA0 hval0
  simp only [List.append_nil] at hW'
  have hlt0 : ∀ x ∈ p0, x.block < W.heap.size := fun x hx => hW'.lt x (by simp [hx])
  refine (fnValueAdd a0 cap0 n0 W hc0 h630 hb0).mono fun e W' ⟨he, hs⟩ => ?_
  subst he
  have hb := since_below' hs
  have ht0 : ∀ sp : Nat → Bool, (∀ x ∈ p0, sp x.block = true) → DataW.Trod enc Try.prog W' 0 sp true 22 (.slice a0 n0 cap0) d0 p0 := fun sp hsp =>
    WideElems.Trod_stays Try.laidOut (by kernel_rfl) (of_decide_eq_true (by kernel_rfl)) h0 (fun x hx => hb.same (hlt0 x hx)) hsp
  have hargs : ∀ sp : Nat → Bool, (∀ x ∈ (p0), sp x.block = true) → DataW.TrodAll enc Try.prog W' 0 sp true [22] [.slice a0 n0 cap0] [d0] (p0) := fun sp hsp => by
    have := trodAll_mk1 (enc := enc) (P := Try.prog) (w := W') (base := 0) (spare := sp) (held := true) (ht0 sp (fun x hx => hsp x (by simp [hx])))
    simpa using this
  exact ⟨_, rfl, post_of_below (pa := p0) (pv := []) hW' (fun _ _ _ => trodAll_mk1 (shut_bool Try.underlying4 true)) (fun sp hsp => hargs sp (fun x hx => hsp x (by simpa using hx))) (fun _ _ => rfl) (by simp) hb rfl⟩

theorem FnValueAdd_holds : Rows.FnValueAddSaid :=
  OpenClaim.holds_of_wide 13 Try.f13 rfl rfl rfl rfl rfl rfl rfl ⟨rfl, rfl, rfl, rfl, rfl⟩ rfl rfl rfl rfl rfl (by kernel_rfl) Try.func13 (by kernel_rfl)
    (of_decide_eq_true (by kernel_rfl)) (by unfold Func.isWrapper; first | (rw [if_pos (by decide +kernel)]; kernel_rfl) | (rw [if_neg (by decide +kernel)]; exact ⟨rfl, rfl⟩))
    (fun os started H enc _ => lifted_FnValueAdd os started H enc)

end Go.Proofs.Yteaabemnolacdaa
end

import Derived.Test.YthdemjfllfhhpaaPartImpl
import Derived.Test.YthdemjfllfhhpaaMinorV
import Derived.Test.YthdemjfllfhhpaaL2Square
import Derived.Test.YthdemjfllfhhpaaSig
import Derived.Test.YthdemjfllfhhpaaDet
import Derived.Test.YthdemjfllfhhpaaRowsF
import Derived.Test.YthdemjfllfhhpaaSquareV
import Derived.Test.YthdemjfllfhhpaaPivotsI
import Derived.Test.YthdemjfllfhhpaaHarn2
import Derived.Test.YthdemjfllfhhpaaDrawOne
import Derived.Test.YthdemjfllfhhpaaMinorD
import Derived.Test.YthdemjfllfhhpaaOrdersK
import Derived.Test.YthdemjfllfhhpaaRows
import Derived.Test.YthdemjfllfhhpaaData
import Derived.ProofKit
import Derived.Deep.Matrix
import Derived.Test.YthdemjfllfhhpaaDraw0

section
namespace Go.Proofs.Ythdemjfllfhhpaa
open Go.RowKit Go.Deep

noncomputable def partOk (l : List (List Int)) (s c : Int) : Bool := tabIn l && (inB s 1 (2 ^ l.length - 1 : Nat) && inB c 1 (2 ^ (l.getD 0 []).length - 1 : Nat))
theorem partOk_tab {l : List (List Int)} {s c : Int} (h : partOk l s c = true) : TabIn (partL l s.toNat c.toNat) := by
  unfold partOk at h
  rw [Bool.and_eq_true, Bool.and_eq_true] at h
  have h2 := of_decide_eq_true h.2.1
  have h3 := of_decide_eq_true h.2.2
  have p1 := Nat.one_le_two_pow (n := l.length)
  have p2 := Nat.one_le_two_pow (n := (l.getD 0 []).length)
  exact partL_tab (tabIn_of h.1) (by omega) (by omega) (by omega) (by omega)

set_option maxHeartbeats 800000 in
theorem isFilled_any (x : Int) (n : Nat) (hn : n ≤ 6) (w : World) :
    Calls Try.prog 64 #[.int .i64 x, .int .i64 n] w fun e w' => e = .returned (.bool (inB x 1 (2 ^ n - 1 : Nat))) ∧ w = w' := by
  have E := Lib.hid (fullSet_any n hn w)
  go_enter Try.func64, Try.ntmps64
  go_wp2_with fail
  refine (E.out).mono ?_
  rintro e w' ⟨rfl, rfl⟩
  go_wp2_with fail
  refine (inRange_any _ _ _ _).mono ?_
  rintro e w' ⟨rfl, rfl⟩
  go_wp2
  go_ret
  exact ⟨rfl, rfl⟩

end Go.Proofs.Ythdemjfllfhhpaa
end

section
namespace Go.Proofs.Ythdemjfllfhhpaa
open Go.RowKit Go.Deep

theorem popcS_one : ∀ s : Fin 64, 1 ≤ s.val → 1 ≤ popcS s.val := by decide +kernel
theorem minor_part {l : List (List Int)} {s c : Int} (h : minorOk l s c = true) (h0 : s ≠ 0) : partOk l s c = true ∧ (partL l s.toNat c.toNat).length = popcS s.toNat ∧ sqB (partL l s.toNat c.toNat) = true := by
  unfold minorOk at h
  simp only [Bool.and_eq_true] at h
  obtain ⟨hT, hs, hc, he⟩ := h
  have hTT := tabIn_of hT
  have hs' := of_decide_eq_true hs
  have hc' := of_decide_eq_true hc
  have hp := eq_of_beq he
  have h6 := hTT.2.1
  have p1 : 2 ^ l.length ≤ 2 ^ 6 := Nat.pow_le_pow_right (by omega) h6
  have p2 : 2 ^ (l.getD 0 []).length ≤ 2 ^ 6 := Nat.pow_le_pow_right (by omega) hTT.width.2
  have g1 : 0 < 2 ^ l.length := Nat.pow_pos (by omega)
  have g2 : 0 < 2 ^ (l.getD 0 []).length := Nat.pow_pos (by omega)
  have hs2 : 1 ≤ s.toNat := by omega
  have hpos := popcS_one ⟨s.toNat, by omega⟩ hs2
  have hc2 : 1 ≤ c.toNat := popcS_pos ⟨c.toNat, by omega⟩ (by rw [← hp]; exact hpos)
  obtain ⟨e1, e2⟩ := part_sq hTT (s := s.toNat) (c := c.toNat) (by omega) (by omega) hp
  obtain ⟨e3, e4⟩ := e2 hpos
  refine ⟨?_, e1, ?_⟩
  · unfold partOk
    rw [hT, Bool.true_and, Bool.and_eq_true]
    exact ⟨decide_eq_true (by omega), decide_eq_true (by omega)⟩
  · unfold sqB
    rw [tabIn_true e3, e1, e4]; simp
theorem minor_zero {l : List (List Int)} {c : Int} : minorV l 0 c = 1 := by
  unfold minorV
  have : popcS (0 : Int).toNat = 0 := by decide
  rw [this, ordF_zero]

end Go.Proofs.Ythdemjfllfhhpaa
end

section
namespace Go.Proofs.Ythdemjfllfhhpaa
open Go.RowKit Go.Deep

def oc1 (s : Int) : Int := IntKind.u64.wrap (bits BinOp.and IntKind.u64 (s / 2) 6148914691236517205 + bits BinOp.and IntKind.u64 s 6148914691236517205)
def oc2 (x : Int) : Int := IntKind.u64.wrap (bits BinOp.and IntKind.u64 (x / 4) 3689348814741910323 + bits BinOp.and IntKind.u64 x 3689348814741910323)
def oc3 (x : Int) : Int := bits BinOp.and IntKind.u64 (IntKind.u64.wrap (x / 16 + x)) 1085102592571150095
def oc4 (x : Int) : Int := IntKind.u64.wrap (x + x / 256)
def oc5 (x : Int) : Int := IntKind.u64.wrap (x + x / 65536)
def oc6 (x : Int) : Int := IntKind.u64.wrap (x + x / 4294967296)
def ocF (s : Int) : Int := bits BinOp.and IntKind.i64 (wrap64 (oc6 (oc5 (oc4 (oc3 (oc2 (oc1 s))))))) 127
theorem ocF_fin : ∀ s : Fin 64, ocF s.val = popcS s.val := by decide +kernel

set_option maxRecDepth 100000 in
set_option maxHeartbeats 1000000 in
theorem ones64_any (s : Nat) (h : s < 64) (w : World) :
    Calls Try.prog 121 #[.int .u64 s] w fun e w' => e = .returned (.int .i64 (popcS s)) ∧ w = w' := by
  go_enter Try.func121, Try.ntmps121
  go_wp2
  go_ret
  refine ⟨?_, rfl⟩
  have e := ocF_fin ⟨s, h⟩
  simp only [ocF, oc6, oc5, oc4, oc3, oc2, oc1] at e
  exact congrArg (fun z => Ending.returned (Value.int IntKind.i64 z)) e

set_option maxHeartbeats 400000 in
theorem ones_any (s : Nat) (h : s < 64) (w : World) :
    Calls Try.prog 107 #[.int .u64 s] w fun e w' => e = .returned (.int .i64 (popcS s)) ∧ w = w' := by
  have E := Lib.hid (ones64_any s h w)
  go_enter Try.func107, Try.ntmps107
  go_wp2_with fail
  refine (E.out).mono ?_
  rintro e w' ⟨rfl, rfl⟩
  go_wp2
  go_ret
  exact ⟨rfl, rfl⟩

set_option maxHeartbeats 400000 in
theorem members_any (s : Nat) (h : s < 64) (w : World) :
    Calls Try.prog 59 #[.int .i64 s] w fun e w' => e = .returned (.int .i64 (popcS s)) ∧ w = w' := by
  have E := Lib.hid (ones_any s h w)
  go_enter Try.func59, Try.ntmps59
  go_wp2_with fail
  refine (E.out).mono ?_
  rintro e w' ⟨rfl, rfl⟩
  go_wp2
  go_ret
  exact ⟨rfl, rfl⟩

set_option maxHeartbeats 400000 in
theorem isSet_any (x : Int) (n : Nat) (hn : n ≤ 6) (w : World) :
    Calls Try.prog 57 #[.int .i64 x, .int .i64 n] w fun e w' => e = .returned (.bool (inB x 0 (2 ^ n - 1 : Nat))) ∧ w = w' := by
  have E1 := Lib.hid (fullSet_any n hn w)
  have E2 := Lib.hid (inRange_any x 0 (2 ^ n - 1 : Nat) w)
  go_enter Try.func57, Try.ntmps57
  go_wp2_with fail
  refine (E1.out).mono ?_
  rintro e w' ⟨rfl, rfl⟩
  go_wp2_with fail
  refine (E2.out).mono ?_
  rintro e w' ⟨rfl, rfl⟩
  go_wp2
  go_ret
  exact ⟨rfl, rfl⟩

end Go.Proofs.Ythdemjfllfhhpaa
end

section
namespace Go.Proofs.Ythdemjfllfhhpaa
open Go.RowKit Go.Deep

def lacks (n U : Nat) : List Nat := (List.range n).filter fun k => !U.testBit k
def gam (U j : Nat) : Nat := (lacks 6 U).getD j 0
def sgU (U : Nat) : Int := sn (((List.range 6).filter fun k => U.testBit k).foldl (· + ·) 0 + popcS U * (popcS U - 1) / 2)

theorem lacks_len : ∀ n : Fin 7, ∀ U : Fin 64, U.val < 2 ^ n.val → (lacks n.val U.val).length + popcS U.val = n.val := by decide +kernel
theorem lacks_get : ∀ n : Fin 7, ∀ U : Fin 64, ∀ j : Fin 6, U.val < 2 ^ n.val → j.val + popcS U.val < n.val → (lacks n.val U.val).getD j.val 0 = gam U.val j.val ∧ gam U.val j.val < n.val ∧ U.val.testBit (gam U.val j.val) = false := by decide +kernel
theorem gam_or : ∀ U : Fin 64, ∀ j j' : Fin 6, j.val + popcS U.val < 6 → j'.val + popcS U.val + 1 < 6 → gam (U.val ||| 2 ^ gam U.val j.val) j'.val = gam U.val (skip j.val j'.val) := by decide +kernel
theorem sgU_or : ∀ U : Fin 64, ∀ j : Fin 6, j.val + popcS U.val < 6 → sn (popcS (U.val / 2 ^ gam U.val j.val)) * sgU (U.val ||| 2 ^ gam U.val j.val) = sgU U.val * sn j.val := by decide +kernel
theorem popcS_add : ∀ U : Fin 64, ∀ k : Fin 6, U.val.testBit k.val = false → popcS (U.val ||| 2 ^ k.val) = popcS U.val + 1 := by decide +kernel

theorem sumL_get (F : Nat → Int) : ∀ l : List Nat, (l.map F).foldr (· + ·) 0 = sumN (fun j => F (l.getD j 0)) l.length
  | [] => rfl
  | x :: xs => by
    rw [List.length_cons, sumN_first, List.map_cons, List.foldr_cons, sumL_get F xs]
    rfl
theorem sumL_snoc (l : List Int) (x : Int) : (l ++ [x]).foldr (· + ·) 0 = l.foldr (· + ·) 0 + x := by
  induction l with
  | nil => simp
  | cons y ys ih => simp only [List.cons_append, List.foldr_cons, ih]; omega
theorem sumN_lacks (F : Nat → Int) (U : Nat) : ∀ n, sumN (fun k => if U.testBit k then 0 else F k) n = ((lacks n U).map F).foldr (· + ·) 0
  | 0 => rfl
  | n + 1 => by
    have e : lacks (n + 1) U = lacks n U ++ (if U.testBit n then [] else [n]) := by
      unfold lacks
      rw [List.range_succ, List.filter_append]
      cases h : U.testBit n <;> simp [h]
    unfold sumN
    rw [sumN_lacks F U n, e]
    cases h : U.testBit n
    · simp only [Bool.false_eq_true, if_false, List.map_append, List.map_cons, List.map_nil, sumL_snoc]
    · simp

theorem ordF_dt (l : List (List Int)) {n : Nat} (hn : n ≤ 6) : ∀ (d U : Nat), U < 2 ^ n → popcS U + d = n → ordF l n d U = sgU U * dt d (fun i j => at2 l (n - d + i) (gam U j))
  | 0, U, hU, hp => by
    rw [ordF_zero, dt_zero]
    have h : ∀ n : Fin 7, ∀ U : Fin 64, U.val < 2 ^ n.val → popcS U.val = n.val → sgU U.val = 1 := by decide +kernel
    have p : 2 ^ n ≤ 2 ^ 6 := Nat.pow_le_pow_right (by omega) hn
    have := h ⟨n, by omega⟩ ⟨U, by omega⟩ hU (by simpa using hp)
    simp only at this
    rw [this]; rfl
  | d + 1, U, hU, hp => by
    have p : 2 ^ n ≤ 2 ^ 6 := Nat.pow_le_pow_right (by omega) hn
    have hlen := lacks_len ⟨n, by omega⟩ ⟨U, by omega⟩ hU
    simp only at hlen
    rw [ordF_succ, dt_succ, ← sumN_mul]
    have e0 : ∀ k, ordT l (n - (d + 1)) U (ordF l n d) k = if U.testBit k then 0 else sn (popcS (U / 2 ^ k)) * (at2 l (n - (d + 1)) k * ordF l n d (U ||| 2 ^ k)) := fun k => by
      unfold ordT
      split
      · rfl
      · rw [sg_sn]
    rw [sumN_congr n (fun k _ => e0 k), sumN_lacks (fun k => sn (popcS (U / 2 ^ k)) * (at2 l (n - (d + 1)) k * ordF l n d (U ||| 2 ^ k))), sumL_get, show (lacks n U).length = d + 1 by omega]
    refine sumN_congr _ fun j hj => ?_
    obtain ⟨g1, g2, g3⟩ := lacks_get ⟨n, by omega⟩ ⟨U, by omega⟩ ⟨j, by omega⟩ hU (by simp only; omega)
    simp only at g1 g2 g3
    have hs := sgU_or ⟨U, by omega⟩ ⟨j, by omega⟩ (by simp only; omega)
    have ha := popcS_add ⟨U, by omega⟩ ⟨gam U j, by omega⟩ g3
    simp only at hs ha
    rw [g1, ordF_dt l hn d (U ||| 2 ^ gam U j) (Nat.or_lt_two_pow hU (Nat.pow_lt_pow_right (by omega) g2)) (by omega)]
    have ed : dt d (fun i j' => at2 l (n - d + i) (gam (U ||| 2 ^ gam U j) j')) = dt d (dr j (fun i j => at2 l (n - (d + 1) + i) (gam U j))) := dt_congr d fun i j' _ hj' => by
      have := gam_or ⟨U, by omega⟩ ⟨j, by omega⟩ ⟨j', by omega⟩ (by simp only; omega) (by simp only; omega)
      simp only at this
      rw [this]
      show _ = at2 l (n - (d + 1) + (i + 1)) (gam U (skip j j'))
      rw [show n - (d + 1) + (i + 1) = n - d + i by omega]
    rw [ed, Nat.add_zero]
    generalize dt d (dr j (fun i j => at2 l (n - (d + 1) + i) (gam U j))) = D
    generalize at2 l (n - (d + 1)) (gam U j) = y
    rw [show sn (popcS (U / 2 ^ gam U j)) * (y * (sgU (U ||| 2 ^ gam U j) * D)) = (sn (popcS (U / 2 ^ gam U j)) * sgU (U ||| 2 ^ gam U j)) * (y * D) by grind, hs, Int.mul_assoc]
theorem gam_zero : ∀ j : Fin 6, gam 0 j.val = j.val := by decide +kernel
theorem ordF_all (l : List (List Int)) {n : Nat} (hn : n ≤ 6) : ordF l n n 0 = dt n (at2 l) := by
  rw [ordF_dt l hn n 0 (Nat.pow_pos (by omega)) (by have : popcS 0 = 0 := by decide
                                                    omega)]
  have h1 : sgU 0 = 1 := by decide +kernel
  rw [h1, Int.one_mul]
  refine dt_congr n fun i j hi hj => ?_
  have := gam_zero ⟨j, by omega⟩
  simp only at this
  rw [this, Nat.sub_self, Nat.zero_add]

end Go.Proofs.Ythdemjfllfhhpaa
end

section
namespace Go.Proofs.Ythdemjfllfhhpaa
open Go.RowKit Go.Deep

theorem OwnT.but {lo hi rb : Nat} {w w' : World} {a : Option Addr} {l : List (List Int)} (h : OwnT lo hi w a l) (hb : rb < lo) (hg : w.grownBy w' (some rb)) : MatR w' a l := by
  intro h0
  obtain ⟨b, A, G, C, e, hbl, hr, _⟩ := h h0
  have hc : ∀ (x k : Nat) (v : Value), lo ≤ x → w.cell? ⟨x, k, none⟩ = some v → w'.cell? ⟨x, k, none⟩ = some v := fun x k v hx hv =>
    (World.cell?_of_block (a := ⟨x, k, none⟩) (hg.block x (World.block_lt_of_cell? _ _ hv) (by intro e; injection e with e; omega))).trans hv
  refine ⟨b, 0, A, C, e, fun r hrl => ?_⟩
  obtain ⟨c1, c2⟩ := hr r hrl
  rw [Nat.zero_add]
  refine ⟨hc _ _ _ hbl.1 c1, fun hp => ?_⟩
  obtain ⟨eA, hG, c3⟩ := c2 hp
  exact ⟨G r, 0, eA, fun i hi => by rw [Nat.zero_add]; exact hc _ _ _ hG.1 (c3 i hi).1⟩

theorem since_map (w : World) : w.Since w.heap.size (w.alloc (.map #[] 0)) := (World.Since.refl w.heap.size w).alloc (Nat.le_refl _) _

def mnP (l : List (List Int)) (x : Nat × Nat) : Int := dt (popcS x.1) (at2 (partL l x.1 x.2))

set_option maxRecDepth 100000 in
set_option maxHeartbeats 1000000 in
theorem minor_any (a : Option Addr) (cap n m r c : Nat) (l : List (List Int)) (w : World) (hn : l.length = n) (hmm : (l.getD 0 []).length = m) (hT : TabIn l) (hr : r < 2 ^ n) (hc : c < 2 ^ m) (hpc : popcS r = popcS c) (hm : MatR w a l) :
    Calls Try.prog 60 #[.slice a n cap, .int .i64 r, .int .i64 c] w fun e w' => e = .returned (.int .i64 (mnP l (r, c))) ∧ w.Since w.heap.size w' := by
  have h6 := hT.2.1
  have hw := hT.width
  rw [hn] at h6
  rw [hmm] at hw
  have hp6 : 2 ^ n ≤ 2 ^ 6 := Nat.pow_le_pow_right (by omega) h6
  have hp6' : 2 ^ m ≤ 2 ^ 6 := Nat.pow_le_pow_right (by omega) hw.2
  have hsq := part_sq hT (s := r) (c := c) (by rw [hn]; exact hr) (by rw [hmm]; exact hc) hpc
  have EP := part_any a cap n r c l (w.alloc (.map #[] 0)) hn hT (by omega) (by omega) (hm.since (since_map w))
  rw [hsq.1] at EP
  have EV := fun (a2 : Option Addr) (c2 : Nat) (V : World) (h : MatR V a2 (partL l r c)) => byPivots_any (popcS r) (partL l r c) a2 c2 V hsq (popcS_le r) h
  have hv : mnP l (r, c) = dt (popcS r) (at2 (partL l r c)) := rfl
  rw [hv]
  obtain ⟨L, hL⟩ : ∃ L, L = partL l r c := ⟨_, rfl⟩
  obtain ⟨k, hk⟩ : ∃ k, k = popcS r := ⟨_, rfl⟩
  simp only [← hk] at EP EV ⊢
  simp only [← hL] at EP EV ⊢
  obtain ⟨x, hx⟩ : ∃ x, x = dt k (at2 L) := ⟨_, rfl⟩
  simp only [← hx] at EV ⊢
  replace EP := Lib.hid EP
  replace EV := Lib.hid EV
  have hmk := @run_makeMap Try.prog
  clear hn hmm hT hr hc hpc hm h6 hw hp6 hp6' hsq hv hL hk hx
  go_enter Try.func60, Try.ntmps60
  go_wp2_with fail
  refine (EP.out).mono ?_
  rintro e w3 ⟨a3, c3, rfl, hs3, ho3⟩
  have HR := Lib.hid ((roads_made w).kept (grown_of_since (row := none) hs3) (by simp))
  have HS3 := Lib.hid ((since_map w).trans (since_mono hs3 (by simp)))
  have HA := Lib.hid (anyValue_of w.heap.size a3 k c3 x w3 HR.out (fun W' hg => EV.out a3 c3 W' (ho3.but (rb := w.heap.size) (by simp) hg)))
  have HSP := Lib.hid (fun (w4 : World) (hg : w3.grownBy w4 (some w.heap.size)) => (show w.Since w.heap.size w4 from ⟨hg.os.trans HS3.out.os, hg.tape.trans HS3.out.tape, hg.output.trans HS3.out.output, Nat.le_trans HS3.out.size hg.size, fun j hj => (hg.block j (Nat.lt_of_lt_of_le hj HS3.out.size) (by intro e; injection e with e; omega)).trans (HS3.out.block j hj)⟩))
  clear hs3 ho3
  go_wp2_with fail
  refine (HA.out).mono ?_
  rintro e w4 ⟨rfl, hg, hr⟩
  have HS4 := Lib.hid (HSP.out w4 hg)
  clear hg hr
  go_wp2
  go_ret
  exact ⟨rfl, HS4.out⟩

end Go.Proofs.Ythdemjfllfhhpaa
end

section
namespace Go.Proofs.Ythdemjfllfhhpaa
open Go.RowKit Go.Deep

set_option maxRecDepth 100000 in
set_option maxHeartbeats 2000000 in
theorem implValueMinor_any (a : Option Addr) (cap n : Nat) (l : List (List Int)) (s c : Int) (w : World) (hn : l.length = n) (hsz : szL l ≤ 1048576) (hm : MatR w a l) :
    Calls Try.prog 17 #[.slice a n cap, .int .i64 s, .int .i64 c] w (SpecW w (minorOk l s c) (minorV l s c)) := by
  have E := Lib.hid (implTableIn_any a cap n l w hn hsz hm)
  cases hT : tabIn l with
  | false =>
    have hok : minorOk l s c = false := by unfold minorOk; rw [hT]; rfl
    rw [hT] at E
    rw [hok]
    clear hT hsz hm hn hok
    go_enter Try.func17, Try.ntmps17
    go_wp2_with fail
    refine (E.out).mono ?_
    rintro e w1 ⟨rfl, hd⟩
    have HS := Lib.hid hd
    clear hd
    go_wp2
    go_ret2
    exact ⟨rfl, HS.out⟩
  | true =>
    have hTT := tabIn_of hT
    rw [hT] at E
    have h6 := hTT.2.1
    have h1 := hTT.1
    have hw := hTT.width
    rw [hn] at h6 h1
    have EI := fun (W : World) => isSet_any s n h6 W
    cases hb : inB s 0 (2 ^ n - 1 : Nat) with
    | false =>
      have hok : minorOk l s c = false := by unfold minorOk; rw [hT, hn, hb]; rfl
      rw [hok]
      rw [hb] at EI
      replace EI := Lib.hid EI
      clear hT hsz hm hn hok hTT hb
      go_enter Try.func17, Try.ntmps17
      go_wp2_with fail
      refine (E.out).mono ?_
      rintro e w1 ⟨rfl, hd⟩
      have HS := Lib.hid hd
      clear hd
      go_wp2_with fail
      refine (EI.out w1).mono ?_
      rintro e w2 ⟨rfl, rfl⟩
      go_wp2
      go_ret2
      exact ⟨rfl, HS.out⟩
    | true =>
      have EW := fun (W : World) (h : w.Since w.heap.size W) => width_any a cap n l W hn (by omega) (by omega) (hm.since h)
      obtain ⟨m, hmm⟩ : ∃ m, (l.getD 0 []).length = m := ⟨_, rfl⟩
      rw [hmm] at hw EW
      have EC := fun (W : World) => isSet_any c m hw.2 W
      rw [hb] at EI
      cases hbc : inB c 0 (2 ^ m - 1 : Nat) with
      | false =>
        have hok : minorOk l s c = false := by unfold minorOk; rw [hT, hn, hb, hmm, hbc]; rfl
        rw [hok]
        rw [hbc] at EC
        replace EI := Lib.hid EI
        replace EC := Lib.hid EC
        replace EW := Lib.hid EW
        clear hT hsz hm hn hok hTT hb hbc hmm
        go_enter Try.func17, Try.ntmps17
        go_wp2_with fail
        refine (E.out).mono ?_
        rintro e w1 ⟨rfl, hd⟩
        have HS := Lib.hid hd
        clear hd
        go_wp2_with fail
        refine (EI.out w1).mono ?_
        rintro e w2 ⟨rfl, rfl⟩
        go_wp2_with fail
        refine (EW.out w1 HS.out).mono ?_
        rintro e w2 ⟨rfl, rfl⟩
        go_wp2_with fail
        refine (EC.out w1).mono ?_
        rintro e w2 ⟨rfl, rfl⟩
        go_wp2
        go_ret2
        exact ⟨rfl, HS.out⟩
      | true =>
        rw [hbc] at EC
        have hp6 : 2 ^ n ≤ 2 ^ 6 := Nat.pow_le_pow_right (by omega) h6
        have hp6' : 2 ^ m ≤ 2 ^ 6 := Nat.pow_le_pow_right (by omega) hw.2
        have hpn : 1 ≤ 2 ^ n := Nat.pow_pos (by omega)
        have hpm : 1 ≤ 2 ^ m := Nat.pow_pos (by omega)
        obtain ⟨s', hs', hsl⟩ : ∃ s' : Nat, s = s' ∧ s' < 2 ^ n := by
          simp [inB] at hb
          exact ⟨s.toNat, by omega, by omega⟩
        obtain ⟨c', hc', hcl⟩ : ∃ c' : Nat, c = c' ∧ c' < 2 ^ m := by
          simp [inB] at hbc
          exact ⟨c.toNat, by omega, by omega⟩
        subst hs' hc'
        have EM1 := fun (W : World) => members_any s' (by omega) W
        have EM2 := fun (W : World) => members_any c' (by omega) W
        replace EI := Lib.hid EI
        replace EC := Lib.hid EC
        replace EW := Lib.hid EW
        by_cases hpc : popcS s' = popcS c'
        · have hok : minorOk l s' c' = true := by unfold minorOk; rw [hT, hn, hb, hmm, hbc]; simp [hpc]
          rw [hok]
          have hsq := part_sq hTT (s := s') (c := c') (by rw [hn]; exact hsl) (by rw [hmm]; exact hcl) hpc
          have hv : minorV l s' c' = dt (popcS s') (at2 (partL l s' c')) := by
            unfold minorV
            simp only [Int.toNat_natCast]
            exact ordF_all _ (popcS_le s')
          rw [hv]
          have EP := fun (W : World) (h : w.Since w.heap.size W) => minor_any a cap n m s' c' l W hn hmm hTT hsl hcl hpc (hm.since h)
          have hmvv : dt (popcS s') (at2 (partL l s' c')) = mnP l (s', c') := rfl
          rw [hmvv]
          rw [← hpc] at EM2
          have hk6 := popcS_le s'
          obtain ⟨k, hk⟩ : ∃ k, k = popcS s' := ⟨_, rfl⟩
          simp only [← hk] at EM1 EM2 hk6 ⊢
          obtain ⟨x, hx⟩ : ∃ x, x = mnP l (s', c') := ⟨_, rfl⟩
          simp only [← hx] at EP ⊢
          replace EM1 := Lib.hid EM1
          replace EM2 := Lib.hid EM2
          replace EP := Lib.hid EP
          clear hT hsz hm hn hok hTT hb hbc hmm hpc hsq hv hmvv hk hx
          go_enter Try.func17, Try.ntmps17
          go_wp2_with fail
          refine (E.out).mono ?_
          rintro e w1 ⟨rfl, hd⟩
          have HS := Lib.hid hd
          clear hd
          go_wp2_with fail
          refine (EI.out w1).mono ?_
          rintro e w2 ⟨rfl, rfl⟩
          go_wp2_with fail
          refine (EW.out w1 HS.out).mono ?_
          rintro e w2 ⟨rfl, rfl⟩
          go_wp2_with fail
          refine (EC.out w1).mono ?_
          rintro e w2 ⟨rfl, rfl⟩
          go_wp2_with fail
          refine (EM1.out w1).mono ?_
          rintro e w2 ⟨rfl, rfl⟩
          go_wp2_with fail
          refine (EM2.out w1).mono ?_
          rintro e w2 ⟨rfl, rfl⟩
          go_wp2_with fail
          refine (EP.out w1 HS.out).mono ?_
          rintro e w2 ⟨rfl, hs2⟩
          have HS4 := Lib.hid (HS.out.trans (since_mono hs2 HS.out.size))
          clear hs2
          go_wp2
          go_ret2
          exact ⟨rfl, HS4.out⟩
        · have hok : minorOk l s' c' = false := by unfold minorOk; rw [hT, hn, hb, hmm, hbc]; simp [hpc]
          rw [hok]
          obtain ⟨x1, hx1⟩ : ∃ x, x = popcS s' := ⟨_, rfl⟩
          obtain ⟨x2, hx2⟩ : ∃ x, x = popcS c' := ⟨_, rfl⟩
          have hne : ((x1 : Int) != (x2 : Int)) = true := by simp; omega
          simp only [← hx1] at EM1
          simp only [← hx2] at EM2
          replace EM1 := Lib.hid EM1
          replace EM2 := Lib.hid EM2
          clear hT hsz hm hn hok hTT hb hbc hmm hpc hx1 hx2
          go_enter Try.func17, Try.ntmps17
          go_wp2_with fail
          refine (E.out).mono ?_
          rintro e w1 ⟨rfl, hd⟩
          have HS := Lib.hid hd
          clear hd
          go_wp2_with fail
          refine (EI.out w1).mono ?_
          rintro e w2 ⟨rfl, rfl⟩
          go_wp2_with fail
          refine (EW.out w1 HS.out).mono ?_
          rintro e w2 ⟨rfl, rfl⟩
          go_wp2_with fail
          refine (EC.out w1).mono ?_
          rintro e w2 ⟨rfl, rfl⟩
          go_wp2_with fail
          refine (EM1.out w1).mono ?_
          rintro e w2 ⟨rfl, rfl⟩
          go_wp2_with fail
          refine (EM2.out w1).mono ?_
          rintro e w2 ⟨rfl, rfl⟩
          go_wp2
          go_ret2
          exact ⟨rfl, HS.out⟩

end Go.Proofs.Ythdemjfllfhhpaa
end

section
namespace Go.Proofs.Ythdemjfllfhhpaa
open Go.RowKit Go.Deep

set_option maxHeartbeats 1000000 in
theorem sameInts_same (a b : Option Addr) (ca cb n : Nat) (l : List Int) (w : World) (hn : l.length = n) (h63 : n ≤ 9223372036854775807) (ha : RowR w a l) (hb : RowR w b l) :
    Calls Try.prog 75 #[.slice a n ca, .slice b n cb] w fun e w' => e = .returned (.bool true) ∧ Drawn w w' := by
  have H := Lib.hid hn; clear hn
  go_enter Try.func75, Try.ntmps75
  go_wp2
  go_loopg [5] n (fun g i wr => ∃ k : Nat, k ≤ n ∧ g = n - k ∧ i = .int .i64 k ∧ Drawn w wr)
  case atStart => exact ⟨0, Nat.zero_le _, rfl, rfl, Drawn.refl w⟩
  case round =>
    obtain ⟨k, hk, rfl, rfl, hD⟩ := hrel
    by_cases hlt : k < n
    · obtain ⟨b1, o1, rfl, hc1⟩ := ha (by rw [H.out]; omega)
      obtain ⟨b2, o2, rfl, hc2⟩ := hb (by rw [H.out]; omega)
      have c1 := hc1 k (by rw [H.out]; exact hlt)
      have c2 := hc2 k (by rw [H.out]; exact hlt)
      obtain ⟨x, hx⟩ : ∃ x, x = l.getD k 0 := ⟨_, rfl⟩
      rw [← hx] at c1 c2
      rw [← hD.cell] at c1 c2
      clear hx hc1 hc2 ha hb
      go_wp2
      go_quiet (fail)
      go_wp2
      go_roundg (n - (k + 1))
      case measure => omega
      case rel => exact ⟨k + 1, by omega, rfl, by go_num, hD.trans (Drawn.mk _ _)⟩
    · go_wp2
      go_ret
      exact ⟨rfl, hD⟩

set_option maxHeartbeats 1000000 in
theorem sameRows_same (a b : Option Addr) (ca cb n : Nat) (l : List (List Int)) (w : World) (hn : l.length = n) (h63 : n ≤ 9223372036854775807) (hl : ∀ r, r < l.length → (l.getD r []).length ≤ 9223372036854775807)
    (ha : MatR w a l) (hb : MatR w b l) :
    Calls Try.prog 27 #[.slice a n ca, .slice b n cb] w fun e w' => e = .returned (.bool true) ∧ Drawn w w' := by
  have H := Lib.hid hn; clear hn
  go_enter Try.func27, Try.ntmps27
  go_wp2
  go_loopg [5] n (fun g i wr => ∃ k : Nat, k ≤ n ∧ g = n - k ∧ i = .int .i64 k ∧ Drawn w wr)
  case atStart => exact ⟨0, Nat.zero_le _, rfl, rfl, Drawn.refl w⟩
  case round =>
    obtain ⟨k, hk, rfl, rfl, hD⟩ := hrel
    by_cases hlt : k < n
    · obtain ⟨b1, o1, A1, C1, rfl, hc1⟩ := ha (by rw [H.out]; omega)
      obtain ⟨b2, o2, A2, C2, rfl, hc2⟩ := hb (by rw [H.out]; omega)
      obtain ⟨c1, r1⟩ := hc1 k (by rw [H.out]; exact hlt)
      obtain ⟨c2, r2⟩ := hc2 k (by rw [H.out]; exact hlt)
      have hlk := hl k (by rw [H.out]; exact hlt)
      obtain ⟨x, hx⟩ : ∃ x, x = l.getD k [] := ⟨_, rfl⟩
      rw [← hx] at c1 c2 r1 r2 hlk
      obtain ⟨m, hm⟩ : ∃ m, x.length = m := ⟨_, rfl⟩
      rw [hm] at c1 c2 hlk
      have HM := Lib.hid hm
      clear hx hc1 hc2 ha hb hl hm
      have r1 := r1.drawn hD
      have r2 := r2.drawn hD
      rw [← hD.cell] at c1 c2
      have e1 := fun (p : Nat) => sameInts_same (A1 k) (A2 k) (C1 k) (C2 k) m x (wr.drewN p) HM.out hlk r1 r2
      have E1 := Lib.hid e1; clear e1 r1 r2
      go_wp2
      go_quiet ((go_at_call 75; exact Calls.quiet_of (E1.out _)))
      go_wp2
      go_roundg (n - (k + 1))
      case measure => omega
      case rel => exact ⟨k + 1, by omega, rfl, by go_num, hD.trans (Drawn.mk _ _)⟩
    · go_wp2
      go_ret
      exact ⟨rfl, hD⟩

end Go.Proofs.Ythdemjfllfhhpaa
end

section
namespace Go.Proofs.Ythdemjfllfhhpaa
open Go.RowKit Go.Deep

theorem szL_of {l : List (List Int)} {n k : Nat} (h1 : l.length ≤ n) (h2 : ∀ j, j < l.length → (l.getD j []).length ≤ k) (hnk : n * k + n ≤ 1048576) : szL l ≤ 1048576 := by
  have h3 := sumTo_le_mul l k h2 l.length (Nat.le_refl _)
  have h4 : l.length * k ≤ n * k := Nat.mul_le_mul_right _ h1
  have h5 : k * l.length = l.length * k := Nat.mul_comm _ _
  unfold szL
  omega
theorem rows_le {l : List (List Int)} (h : szL l ≤ 1048576) : ∀ r, r < l.length → (l.getD r []).length ≤ 9223372036854775807 := fun r hr => by
  have := row_le l hr
  unfold szL at h
  omega

theorem tab_self {l : List (List Int)} {n m : Nat} (hn : l.length = n) (hm : ∀ r, r < n → (l.getD r []).length = m) : tabF n m (at2 l) = l := by
  refine List.ext_getElem (by rw [tabF_length, hn]) fun r h1 h2 => ?_
  have hr : r < n := by rw [tabF_length] at h1; exact h1
  have e1 : (tabF n m (at2 l))[r] = (tabF n m (at2 l)).getD r [] := by simp [List.getD, h1]
  have e2 : l[r] = l.getD r [] := by simp [List.getD, h2]
  rw [e1, e2, tabF_get _ _ _ _ hr]
  refine List.ext_getElem (by rw [List.length_map, List.length_range, hm r hr]) fun k h3 h4 => ?_
  rw [List.getElem_map, List.getElem_range]
  unfold at2
  obtain ⟨x, hx⟩ : ∃ x, x = l.getD r [] := ⟨_, rfl⟩
  subst hx
  generalize l.getD r [] = x at *
  simp [List.getD, h4]

theorem turnL_turnL {l : List (List Int)} (hT : TabIn l) : turnL (turnL l) = l := by
  have h1 := hT.1
  have hw := hT.width
  have e0 : ((turnL l).getD 0 []).length = l.length := tabF_len _ _ _ _ hw.1
  have e1 : turnL (turnL l) = tabF l.length (l.getD 0 []).length fun k i => at2 (turnL l) i k := by
    show tabF ((turnL l).getD 0 []).length (turnL l).length _ = _
    rw [e0, turnL_length]
  rw [e1]
  have e2 : tabF l.length (l.getD 0 []).length (fun k i => at2 (turnL l) i k) = tabF l.length (l.getD 0 []).length (at2 l) := by
    unfold tabF
    refine List.map_congr_left fun r hr => List.map_congr_left fun k hk => ?_
    exact tabF_at _ _ _ _ _ (List.mem_range.1 hk) (List.mem_range.1 hr)
  rw [e2]
  exact tab_self rfl (fun r hr => hT.row hr)

end Go.Proofs.Ythdemjfllfhhpaa
end

section
namespace Go.Proofs.Ythdemjfllfhhpaa
open Go.RowKit Go.Deep

set_option maxHeartbeats 1000000 in
theorem implTablePart_any (a : Option Addr) (cap n : Nat) (l : List (List Int)) (s c : Int) (w : World) (hn : l.length = n) (hsz : szL l ≤ 1048576) (hm : MatR w a l) :
    Calls Try.prog 19 #[.slice a n cap, .int .i64 s, .int .i64 c] w (ImplT w (partOk l s c) (partL l s.toNat c.toNat)) := by
  have E := Lib.hid (implTableIn_any a cap n l w hn hsz hm)
  cases hT : tabIn l with
  | false =>
    have hok : partOk l s c = false := by unfold partOk; rw [hT]; rfl
    rw [hT] at E
    rw [hok]
    clear hT hsz hm hn hok
    go_enter Try.func19, Try.ntmps19
    go_wp2_with fail
    refine (E.out).mono ?_
    rintro e w1 ⟨rfl, hs⟩
    go_wp2
    go_ret2
    exact ⟨_, _, rfl, hs, OwnT.nil _ _ _ _⟩
  | true =>
    have hTT := tabIn_of hT
    rw [hT] at E
    have h6 := hTT.2.1
    have h1 := hTT.1
    have hw := hTT.width
    rw [hn] at h6 h1
    have E2 := fun (W : World) => isFilled_any s n h6 W
    cases hb : inB s 1 (2 ^ n - 1 : Nat) with
    | false =>
      have hok : partOk l s c = false := by unfold partOk; rw [hT, hn, hb]; rfl
      rw [hok]
      rw [hb] at E2
      replace E2 := Lib.hid E2
      clear hT hsz hm hn hok hTT hb
      go_enter Try.func19, Try.ntmps19
      go_wp2_with fail
      refine (E.out).mono ?_
      rintro e w1 ⟨rfl, hs⟩
      go_wp2_with fail
      refine (E2.out w1).mono ?_
      rintro e w2 ⟨rfl, rfl⟩
      go_wp2
      go_ret2
      exact ⟨_, _, rfl, hs, OwnT.nil _ _ _ _⟩
    | true =>
      obtain ⟨m, hmm⟩ : ∃ m, (l.getD 0 []).length = m := ⟨_, rfl⟩
      have E3 := fun (W : World) (hs : w.Since w.heap.size W) => width_any a cap n l W hn (by omega) (by omega) (hm.since hs)
      rw [hmm] at E3 hw
      have E4 := fun (W : World) => isFilled_any c m hw.2 W
      rw [hb] at E2
      replace E2 := Lib.hid E2
      replace E3 := Lib.hid E3
      cases hbc : inB c 1 (2 ^ m - 1 : Nat) with
      | false =>
        have hok : partOk l s c = false := by unfold partOk; rw [hT, hn, hb, hmm, hbc]; rfl
        rw [hok]
        rw [hbc] at E4
        replace E4 := Lib.hid E4
        clear hT hsz hm hn hok hTT hb hbc hmm
        go_enter Try.func19, Try.ntmps19
        go_wp2_with fail
        refine (E.out).mono ?_
        rintro e w1 ⟨rfl, hs⟩
        go_wp2_with fail
        refine (E2.out w1).mono ?_
        rintro e w2 ⟨rfl, rfl⟩
        go_wp2_with fail
        refine (E3.out w1 hs).mono ?_
        rintro e w2 ⟨rfl, rfl⟩
        go_wp2_with fail
        refine (E4.out w1).mono ?_
        rintro e w2 ⟨rfl, rfl⟩
        go_wp2
        go_ret2
        exact ⟨_, _, rfl, hs, OwnT.nil _ _ _ _⟩
      | true =>
        have hok : partOk l s c = true := by unfold partOk; rw [hT, hn, hb, hmm, hbc]; rfl
        have hPT := partOk_tab hok
        rw [hok]
        rw [hbc] at E4
        replace E4 := Lib.hid E4
        have b1 := of_decide_eq_true hb
        have b2 := of_decide_eq_true hbc
        have p1 : 2 ^ n ≤ 2 ^ 6 := Nat.pow_le_pow_right (by omega) h6
        have p2 : 2 ^ m ≤ 2 ^ 6 := Nat.pow_le_pow_right (by omega) hw.2
        obtain ⟨sn, rfl⟩ := Int.eq_ofNat_of_zero_le (show 0 ≤ s by omega)
        obtain ⟨cn, rfl⟩ := Int.eq_ofNat_of_zero_le (show 0 ≤ c by omega)
        rw [Int.toNat_natCast, Int.toNat_natCast] at hPT ⊢
        have E5 := Lib.hid (fun (W : World) (hs : w.Since w.heap.size W) => part_any a cap n sn cn l W hn hTT (by omega) (by omega) (hm.since hs))
        have HPT := Lib.hid (tabIn_true hPT)
        have HSZ := Lib.hid (szL_tab hPT)
        clear hT hsz hm hn hok hTT hb hbc hmm b1 b2 p1 p2 hPT
        go_enter Try.func19, Try.ntmps19
        go_wp2_with fail
        refine (E.out).mono ?_
        rintro e w1 ⟨rfl, hs⟩
        go_wp2_with fail
        refine (E2.out w1).mono ?_
        rintro e w2 ⟨rfl, rfl⟩
        go_wp2_with fail
        refine (E3.out w1 hs).mono ?_
        rintro e w2 ⟨rfl, rfl⟩
        go_wp2_with fail
        refine (E4.out w1).mono ?_
        rintro e w2 ⟨rfl, rfl⟩
        go_wp2_with fail
        refine (E5.out w1 hs).mono ?_
        rintro e w3 ⟨a3, cap3, rfl, hs3, ho⟩
        have hs13 : w.Since w.heap.size w3 := hs.trans (since_mono hs3 hs.size)
        have hz := hs.size
        have E6 := result_any a3 cap3 _ _ _ (partL l sn cn) w3 rfl HSZ.out ho
        rw [HPT.out] at E6
        replace E6 := Lib.hid E6
        go_wp2_with fail
        refine (E6.out).mono ?_
        rintro e w4 ⟨a', cap', rfl, hs4, ho4⟩
        go_wp2
        go_ret2
        exact ⟨a', cap', rfl, hs13.trans (since_mono hs4 hs13.size), ho4.mono hz hs4.size⟩

end Go.Proofs.Ythdemjfllfhhpaa
end

section
namespace Go.Proofs.Ythdemjfllfhhpaa
open Go.RowKit Go.Deep

set_option maxRecDepth 100000 in
set_option maxHeartbeats 4000000 in
theorem fnMinor (a : Option Addr) (cap n : Nat) (w : World) (hc : n ≤ cap) (h63 : cap ≤ 9223372036854775807) (hb : BytR w a n) :
    Calls Try.prog 4 #[.slice a n cap] w fun e w' => e = .returned (.bool true) ∧ w.Since w.heap.size w' := by
  by_cases hlen : 1048576 < n
  · have hl' : decide ((1048576 : Int) < (n : Int)) = true := by simp; omega
    clear hb
    go_enter Try.func4, Try.ntmps4
    go_wp2
    go_ret
    exact ⟨rfl, World.Since.refl _ _⟩
  · have hl' : decide ((1048576 : Int) < (n : Int)) = false := by simp; omega
    have ED := Lib.hid (drawMinor_any a n cap w hc h63 hb)
    clear hb
    go_enter Try.func4, Try.ntmps4
    go_wp2_with fail
    refine (ED.out).mono ?_
    rintro e w1 ⟨a1, c1, l, x, y, rfl, hs1, h1, h5, hlens, hit⟩
    have hsz : szL l ≤ 1048576 := szL_of h5 (fun j hj => (hlens j hj).2) (by decide)
    obtain ⟨nn, hn⟩ : ∃ nn, l.length = nn := ⟨_, rfl⟩
    rw [hn]
    have HN := Lib.hid hn
    have HSZ := Lib.hid hsz
    have HM := Lib.hid (fun (W : World) (h : w1.Since w1.heap.size W) => hit.matR.since h)
    have HS1 := Lib.hid hs1
    obtain ⟨ok, hok⟩ : ∃ ok, minorOk l x y = ok := ⟨_, rfl⟩
    obtain ⟨v, hv⟩ : ∃ v, (if ok = true then minorV l x y else 0) = v := ⟨_, rfl⟩
    have E1 := implValueMinor_any a1 c1 nn l x y w1 hn hsz hit.matR
    have E2 := fun (W : World) (h : w1.Since w1.heap.size W) => specValueMinor_any a1 c1 nn l x y W hn hsz (hit.matR.since h)
    unfold SpecW at E1 E2
    rw [hok, hv] at E1
    simp only [hok, hv] at E2
    replace E1 := Lib.hid E1
    replace E2 := Lib.hid E2
    have HOK := Lib.hid hok
    have HV := Lib.hid hv
    clear hn hsz hit hs1 h1 h5 hlens hok hv
    go_wp2_with fail
    refine (E1.out).mono ?_
    rintro e w2 ⟨rfl, hs2⟩
    have HS2 := Lib.hid hs2
    clear hs2
    go_wp2_with fail
    refine (E2.out w2 HS2.out).mono ?_
    rintro e w3 ⟨rfl, hd3⟩
    have HS3 := Lib.hid (HS2.out.trans (since_mono hd3 HS2.out.size))
    clear hd3
    cases ok with
    | false =>
      go_wp2
      go_ret
      exact ⟨rfl, HS1.out.trans (since_mono HS3.out HS1.out.size)⟩
    | true =>
      have hv := HV.out
      rw [if_pos rfl] at hv
      by_cases hx0 : x = 0
      · subst hx0
        rw [minor_zero] at hv
        subst hv
        go_wp2
        go_ret
        exact ⟨rfl, HS1.out.trans (since_mono HS3.out HS1.out.size)⟩
      · have hx0' : (x == 0) = false := by simpa using hx0
        obtain ⟨k1, k2, k3⟩ := minor_part HOK.out hx0
        have hsz2 := szL_tab (sqB_of k3).1
        unfold minorV at hv
        obtain ⟨q, hq⟩ : ∃ q, popcS x.toNat = q := ⟨_, rfl⟩
        rw [hq] at k2 hv
        have E5 := fun (W : World) (h : w1.Since w1.heap.size W) => implTablePart_any a1 c1 nn l x y W HN.out HSZ.out (HM.out W h)
        have E6 := fun (a' : Option Addr) (c' : Nat) (W : World) (h : MatR W a' (partL l x.toNat y.toNat)) => implValueOrders_any a' c' q (partL l x.toNat y.toNat) W k2 hsz2 h
        unfold ImplT at E5
        unfold SpecW at E6
        simp only [k1, resT, if_true, k2] at E5
        simp only [k3, hv, if_true] at E6
        replace E5 := Lib.hid E5
        replace E6 := Lib.hid E6
        clear k1 k2 k3 hv hq hsz2
        go_wp2_with fail
        refine (E5.out w3 HS3.out).mono ?_
        rintro e w5 ⟨a5, c5, rfl, hs5, ho5⟩
        have HS5 := Lib.hid (HS3.out.trans (since_mono hs5 HS3.out.size))
        have HX5 := Lib.hid ho5.matR
        clear hs5 ho5
        go_wp2_with fail
        refine (E6.out a5 c5 w5 HX5.out).mono ?_
        rintro e w6 ⟨rfl, hs6⟩
        have HS6 := Lib.hid (HS5.out.trans (since_mono hs6 HS5.out.size))
        clear hs6
        go_wp2
        go_ret
        exact ⟨rfl, HS1.out.trans (since_mono HS6.out HS1.out.size)⟩

end Go.Proofs.Ythdemjfllfhhpaa
end

section
namespace Go.Proofs.Ythdemjfllfhhpaa
open Go.ChangeShapes Go.WideShapes Go.ChangeAt Go.RowKit Go.Deep

theorem below_since' {B : Nat} {w w' : World} (h : Below B w w') : w.Since B w' := ⟨h.os, h.tape, h.output, h.size, h.block⟩
theorem since_below' {B : Nat} {w w' : World} (h : w.Since B w') : Below B w w' := ⟨h.os, h.tape, h.output, h.size, h.block⟩

section
variable {H : Type} {enc : TypeId × Value → H} {P : Program}
theorem post_of_below {f : Func} {s : ChangeSpec} {apart fresh handsOn again : Bool} {W W' : World} {args : Array Value} {v : Value} {ds gs : List (DataW H)} {before pa pv : List MemPlace}
    (hW : DataW.Whole enc P f.params.toList s.vars apart W args.toList ds gs before)
    (hres : ∀ (b : Nat) (sp : Nat → Bool) (hd : Bool), DataW.TrodAll enc P W' b sp hd f.resultTypes.toList (v.resultList f.resultTypes.size) (s.fn H (ds ++ gs)).results [])
    (hargs : ∀ sp : Nat → Bool, (∀ p ∈ before, sp p.block = true) → DataW.TrodAll enc P W' 0 sp true f.params.toList args.toList (s.fn H (ds ++ gs)).args pa)
    (hvars : ∀ sp : Nat → Bool, (∀ p ∈ before, sp p.block = true) → DataW.TrodVars enc P W' sp s.vars (s.fn H (ds ++ gs)).vars pv)
    (hps : before = pa ++ pv) (hb : Below W.heap.size W W') (hag : again = false) :
    s.post enc P f apart fresh handsOn again W args v W' := by
  have hlt : ∀ p ∈ before, p.block < W.heap.size := fun p hp => hW.lt p hp
  have hold : ∀ p ∈ before, (fun b => decide (b < W.heap.size)) p.block = true := fun p hp => by simpa using hlt p hp
  refine ⟨ds, gs, before, [], pa, pv, hW, hres _ _ _, hargs _ hold, hvars _ hold, World.keptBut_mono (fun p hp => ⟨hp, ?_⟩) (hb.frame (· ∈ before)), fun h => ?_⟩
  · rw [hps, List.mem_append] at hp
    exact Or.inr hp
  · rw [hag] at h; cases h

theorem open_mat {W : World} {t e q : TypeId} {a : Option Addr} {n cap : Nat} {d : DataW H} {p : List MemPlace} (ht : P.underlying t = some (.slice e)) (he : P.underlying e = some (.slice q)) (hq : P.underlying q = some (.int .i64))
    (ce : P.cellsOf e = 1) (cq : P.cellsOf q = 1) (h : DataW.Trod enc P W 0 (fun _ => true) true t (.slice a n cap) d p) :
    ∃ l : List (List Int), l.length = n ∧ MatR W a l ∧ n ≤ 9223372036854775807 ∧ ∀ r, r < l.length → (l.getD r []).length ≤ 9223372036854775807 := by
  obtain ⟨fuel, hf⟩ := h
  rcases open_int_rows ht he hq ce cq hf with ⟨hcs, _⟩ | ⟨a', len', cap', A, L, C, Z, hcs, _, hl, hm, _, hrows⟩
  · simp [Value.cells] at hcs
    obtain ⟨rfl, rfl, rfl⟩ := hcs
    exact ⟨[], rfl, (fun h => by simp at h), by omega, fun r hr => by simp at hr⟩
  · simp [Value.cells] at hcs
    obtain ⟨rfl, rfl, rfl⟩ := hcs
    have hmx : maxLen = 9223372036854775807 := rfl
    have hlen : ∀ r, r < n → ((Z r).take (L r)).length = L r := fun r hr => by
      obtain ⟨_, h1, _, h2, _⟩ := hrows r (by omega)
      rw [List.length_take]; omega
    have hget : ∀ r, r < n → ((List.range n).map fun r => (Z r).take (L r)).getD r [] = (Z r).take (L r) := fun r hr => by simp [List.getD, hr]
    refine ⟨(List.range n).map fun r => (Z r).take (L r), by simp, fun h => ?_, by omega, fun r hr => ?_⟩
    · obtain ⟨b, o, spot⟩ := a'
      simp at h
      have hspot : spot = none := by simpa [Addr.add] using World.cell?_spot (hrows 0 (by omega)).1
      subst hspot
      refine ⟨b, o, A, C, rfl, fun r hr => ?_⟩
      simp at hr
      rw [hget r hr, hlen r hr]
      obtain ⟨g1, g2, g3, g4, g5, g6, g7⟩ := hrows r (by omega)
      refine ⟨by rw [← add_plain]; exact g1, fun h0 => ?_⟩
      rw [hlen r hr] at h0
      cases hA : A r with
      | none => have := g6 hA; omega
      | some a'' =>
        obtain ⟨_, hcell⟩ := g7 a'' hA
        obtain ⟨b', o', sp⟩ := a''
        have hs : sp = none := by simpa [Addr.add] using World.cell?_spot (hcell 0 (by omega))
        subst hs
        refine ⟨b', o', rfl, fun i hi => ?_⟩
        rw [hlen r hr] at hi
        rw [← add_plain, hcell i (by omega)]
        congr 2
        simp [List.getD, hi]
    · simp at hr
      rw [hget r hr, hlen r hr]
      obtain ⟨_, h1, h2, _⟩ := hrows r (by omega)
      omega
end

theorem Try.own : ownKnob Try.prog.godebug = none := by kernel_rfl
theorem Try.laidOut : laidOutB Try.prog = true := by kernel_rfl
theorem Try.cellsR : Try.prog.cellsOf 37 = 1 := by kernel_rfl
theorem Try.cellsI : Try.prog.cellsOf 3 = 1 := by kernel_rfl

end Go.Proofs.Ythdemjfllfhhpaa
end

section
namespace Go.Proofs.Ythdemjfllfhhpaa
open Go.ChangeShapes Go.WideShapes Go.ChangeAt Go.RowKit Go.Deep

theorem wf_u8_of {n : Int} (h : (Lit.int .u8 n).wf = true) : 0 ≤ n ∧ n ≤ 255 := by
  have h2 : (0 : Int) ≤ n ∧ n ≤ 255 := by simpa [Lit.wf, IntKind.min, IntKind.max, IntKind.signed, IntKind.bits] using h
  exact h2

theorem open_bytes {H : Type} {enc : TypeId × Value → H} {P : Program} {W : World} {t e : TypeId} {a : Option Addr} {n cap : Nat} {d : DataW H} {p : List MemPlace} (ht : P.underlying t = some (.slice e)) (he : P.underlying e = some (.int .u8)) (ce : P.cellsOf e = 1)
    (h : DataW.Trod enc P W 0 (fun _ => true) true t (.slice a n cap) d p) : BytR W a n ∧ n ≤ cap ∧ cap ≤ 9223372036854775807 := by
  obtain ⟨fuel, hf⟩ := h
  rcases open_ints ht he ce hf with ⟨hcs, _⟩ | ⟨a', len, cap', zs, hcs, _, hl, hm, hlen, _, hcell, hwf⟩
  · simp [Value.cells] at hcs
    obtain ⟨rfl, rfl, rfl⟩ := hcs
    exact ⟨fun h => absurd h (by omega), by omega, by omega⟩
  · simp [Value.cells] at hcs
    obtain ⟨rfl, rfl, rfl⟩ := hcs
    have hmx : maxLen = 9223372036854775807 := rfl
    have hzl : zs.length = cap := by simpa using hlen
    refine ⟨fun h0 => ?_, by omega, by omega⟩
    obtain ⟨b, o, spot⟩ := a'
    have hspot : spot = none := by simpa [Addr.add] using World.cell?_spot (hcell 0 (by omega))
    subst hspot
    refine ⟨b, o, rfl, fun i hi => ?_⟩
    have hi' : i < zs.length := by omega
    have hw := wf_u8_of (hwf (zs.getD i 0) (by simp [List.getD, hi']))
    obtain ⟨z, hz⟩ := Int.eq_ofNat_of_zero_le hw.1
    refine ⟨z, by omega, ?_⟩
    rw [← add_plain, hcell i hi', hz]

theorem Try.cellsB : Try.prog.cellsOf 5 = 1 := by kernel_rfl

end Go.Proofs.Ythdemjfllfhhpaa
end

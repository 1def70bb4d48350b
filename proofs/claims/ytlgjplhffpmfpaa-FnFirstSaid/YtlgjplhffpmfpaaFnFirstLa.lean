import Derived.Test.YtlgjplhffpmfpaaTabIn
import Derived.Test.YtlgjplhffpmfpaaData
import Derived.RangeFuncRecord
import Derived.Test.YtlgjplhffpmfpaaDet
import Derived.Test.YtlgjplhffpmfpaaRowsF
import Derived.Test.YtlgjplhffpmfpaaBar
import Derived.Test.YtlgjplhffpmfpaaUnitSpec
import Derived.Deep.RegionHeld3
import Derived.Test.YtlgjplhffpmfpaaOwn
import Derived.Deep.AppendLies
import Derived.Test.YtlgjplhffpmfpaaTurnSpec
import Derived.Deep.QuietTactic
import Derived.OwnWalk
import Derived.Test.YtlgjplhffpmfpaaImpl1
import Derived.Test.YtlgjplhffpmfpaaL2Size
import Derived.Test.YtlgjplhffpmfpaaSeqC
import Derived.BigQuiet
import Derived.Deep.RegionLawGrows
import Derived.Test.YtlgjplhffpmfpaaCopy
import Derived.Laws.AppendOwn
import Derived.Test.YtlgjplhffpmfpaaLSum
import Derived.Test.YtlgjplhffpmfpaaGrid
import Derived.Test.YtlgjplhffpmfpaaSumSpec
import Derived.StillTailTactics
import Derived.Test.YtlgjplhffpmfpaaOrdF
import Derived.Test.YtlgjplhffpmfpaaPartImpl
import Derived.Test.YtlgjplhffpmfpaaWR
import Derived.Test.YtlgjplhffpmfpaaMark
import Derived.Test.YtlgjplhffpmfpaaHarn2

section
namespace Go.Proofs.Ytlgjplhffpmfpaa
open Go.RowKit Go.Deep

structure RC where
  k : ByteArray
  l : Int
  w : Int
def rc0 : RC := ⟨ByteArray.empty, 0, 0⟩
def ChipsR (W : World) (a : Option Addr) (cs : List RC) : Prop :=
  0 < cs.length → ∃ b o, a = some ⟨b, o, none⟩ ∧ ∀ i, i < cs.length → W.cell? ⟨b, o + i * 3, none⟩ = some (.string (cs.getD i rc0).k) ∧ W.cell? ⟨b, o + i * 3 + 1, none⟩ = some (.int .i64 (cs.getD i rc0).l) ∧ W.cell? ⟨b, o + i * 3 + 2, none⟩ = some (.int .i64 (cs.getD i rc0).w)
theorem ChipsR.since {w W : World} {a : Option Addr} {cs : List RC} (h : ChipsR w a cs) (hs : w.Since w.heap.size W) : ChipsR W a cs := fun h0 => by
  obtain ⟨b, o, e, hc⟩ := h h0
  refine ⟨b, o, e, fun i hi => ?_⟩
  obtain ⟨h1, h2, h3⟩ := hc i hi
  exact ⟨(hs.cell (World.block_lt_of_cell? _ _ h1)).trans h1, (hs.cell (World.block_lt_of_cell? _ _ h2)).trans h2, (hs.cell (World.block_lt_of_cell? _ _ h3)).trans h3⟩
noncomputable def kindB (n : Int) (c : RC) : Bool := if c.k.toList = [104] then inB c.l 0 (n - 1) else if c.k.toList = [117] ∨ c.k.toList = [100] then inB c.l 0 (n - 2) else false
noncomputable def chipB (n : Int) (c : RC) : Bool := kindB n c && inB c.w (-9) 9
noncomputable def netB (n : Int) (cs : List RC) : Bool := inB n 2 5 && (decide (cs.length ≤ 10) && cs.all (chipB n))
theorem netB_false {n : Int} {cs : List RC} {i : Nat} (hi : i < cs.length) (h : chipB n (cs.getD i rc0) = false) : netB n cs = false := by
  have : cs.all (chipB n) = false := by
    cases e : cs.all (chipB n) with
    | false => rfl
    | true =>
      have h1 := List.all_eq_true.1 e (cs.getD i rc0) (by
        have : cs.getD i rc0 = cs[i] := by simp [List.getD, hi]
        rw [this]; exact List.getElem_mem _)
      rw [h] at h1; cases h1
  unfold netB
  rw [this]
  simp
theorem netB_true {n : Int} {cs : List RC} (h1 : inB n 2 5 = true) (h2 : cs.length ≤ 10) (h : ∀ i, i < cs.length → chipB n (cs.getD i rc0) = true) : netB n cs = true := by
  have : cs.all (chipB n) = true := List.all_eq_true.2 fun c hc => by
    obtain ⟨i, hi, e⟩ := List.mem_iff_getElem.1 hc
    have := h i hi
    rw [show cs.getD i rc0 = cs[i] by simp [List.getD, hi], e] at this
    exact this
  unfold netB
  rw [h1, this, decide_eq_true h2]
  rfl

set_option maxRecDepth 100000 in
set_option maxHeartbeats 1000000 in
theorem specNetIn_any (a : Option Addr) (cap N : Nat) (n : Int) (cs : List RC) (w : World) (hN : cs.length = N) (h63 : N ≤ 9223372036854775807) (hm : ChipsR w a cs) :
    Calls Try.prog 71 #[.int .i64 n, .slice a N cap] w fun e w' => e = .returned (.bool (netB n cs)) ∧ w.Since w.heap.size w' := by
  by_cases hn : inB n 2 5 = true
  · have E := Lib.hid (fun (W : World) => l6In_at n 2 5 true W hn)
    by_cases hl : N ≤ 10
    · have hl' : decide ((10 : Int) < (N : Int)) = false := by simp; omega
      have HT := Lib.hid (fun h => netB_true (n := n) (cs := cs) hn (by omega) h)
      have HF := Lib.hid (fun (i : Nat) (hi : i < N) h => netB_false (n := n) (cs := cs) (i := i) (by omega) h)
      have HN := Lib.hid hN
      have HM := Lib.hid (show ∀ i, i < N → ∃ b o, a = some ⟨b, o, none⟩ ∧ w.cell? ⟨b, o + i * 3, none⟩ = some (.string (cs.getD i rc0).k) ∧ w.cell? ⟨b, o + i * 3 + 1, none⟩ = some (.int .i64 (cs.getD i rc0).l) ∧ w.cell? ⟨b, o + i * 3 + 2, none⟩ = some (.int .i64 (cs.getD i rc0).w) from fun i hi => by
        obtain ⟨b, o, e, h⟩ := hm (by omega)
        exact ⟨b, o, e, h i (by omega)⟩)
      have hn2 : 2 ≤ n ∧ n ≤ 5 := by unfold inB at hn; exact of_decide_eq_true hn
      clear hm hN hn
      go_enter Try.func71, Try.ntmps71
      go_wp2_with (go_at_call 41; refine (E.out _).mono ?_; rintro e w1 ⟨rfl, rfl⟩)
      go_loopg [5, 6, 7] N (fun g i _ _ wr => ∃ r : Nat, r ≤ N ∧ g = N - r ∧ i = .int .i64 r ∧ w.Since w.heap.size wr ∧ ∀ j, j < r → chipB n (cs.getD j rc0) = true)
      case atStart => exact ⟨0, Nat.zero_le _, rfl, rfl, World.Since.refl _ _, fun j hj => by omega⟩
      case round =>
        obtain ⟨r, hr, rfl, rfl, hS, hall⟩ := hrel
        by_cases hlt : r < N
        · obtain ⟨b, o, rfl, k1, k2, k3⟩ := HM.out r hlt
          have c1 := (hS.cell (World.block_lt_of_cell? _ _ k1)).trans k1
          have c2 := (hS.cell (World.block_lt_of_cell? _ _ k2)).trans k2
          have c3 := (hS.cell (World.block_lt_of_cell? _ _ k3)).trans k3
          have hcf := fun h => HF.out r hlt h
          have hct := fun (h : chipB n (cs.getD r rc0) = true) => show ∀ j, j < r + 1 → chipB n (cs.getD j rc0) = true from fun j hj => by
            by_cases e : j = r
            · subst e; exact h
            · exact hall j (by omega)
          have hcb : chipB n (cs.getD r rc0) = (kindB n (cs.getD r rc0) && inB (cs.getD r rc0).w (-9) 9) := rfl
          unfold kindB at hcb
          obtain ⟨K, hK⟩ : ∃ K, (cs.getD r rc0).k = K := ⟨_, rfl⟩
          obtain ⟨L, hL⟩ : ∃ L, (cs.getD r rc0).l = L := ⟨_, rfl⟩
          obtain ⟨V, hV⟩ : ∃ V, (cs.getD r rc0).w = V := ⟨_, rfl⟩
          rw [hK] at c1 hcb
          rw [hL] at c2 hcb
          rw [hV] at c3 hcb
          have HCF := Lib.hid hcf
          have HCT := Lib.hid hct
          have hb := World.alloc_heap_new wr (.cells #[.string K, .int .i64 L, .int .i64 V] 71)
          have d1 : (wr.alloc (.cells #[.string K, .int .i64 L, .int .i64 V] 71)).cell? ⟨wr.heap.size, 0, none⟩ = some (.string K) := by unfold World.cell?; rw [hb]; rfl
          have d2 : (wr.alloc (.cells #[.string K, .int .i64 L, .int .i64 V] 71)).cell? ⟨wr.heap.size, 1, none⟩ = some (.int .i64 L) := by unfold World.cell?; rw [hb]; rfl
          have d3 : (wr.alloc (.cells #[.string K, .int .i64 L, .int .i64 V] 71)).cell? ⟨wr.heap.size, 2, none⟩ = some (.int .i64 V) := by unfold World.cell?; rw [hb]; rfl
          have HS := Lib.hid (hS.alloc hS.size (.cells #[.string K, .int .i64 L, .int .i64 V] 71))
          have hw1 : IntKind.i64.wrap (n - 1) = n - 1 := IntWalk.i64_in _ ⟨by omega, by omega⟩
          have hw2 : IntKind.i64.wrap (n - 2) = n - 2 := IntWalk.i64_in _ ⟨by omega, by omega⟩
          clear k1 k2 k3 hb hcf hct hK hL hV hall hS
          by_cases hH : K.toList = [104]
          · rw [if_pos hH] at hcb
            obtain ⟨b1, hb1⟩ : ∃ b1, inB L 0 (n - 1) = b1 := ⟨_, rfl⟩
            obtain ⟨b2, hb2⟩ : ∃ b2, inB V (-9) 9 = b2 := ⟨_, rfl⟩
            rw [hb1, hb2] at hcb
            have HCB := Lib.hid hcb
            clear hcb
            cases b1 <;> cases b2
            all_goals
              go_wp2_with (go_at_call 41; refine (l6In_any _ _ _ _).mono ?_; rintro e w1 ⟨rfl, rfl⟩; simp only [hb1, hb2])
              first
                | (go_ret; exact ⟨by rw [HCF.out HCB.out]; rfl, HS.out⟩)
                | (go_roundg (N - (r + 1))
                   case measure => omega
                   case rel => exact ⟨r + 1, by omega, by omega, by go_num, HS.out, HCT.out HCB.out⟩)
          · rw [if_neg hH] at hcb
            by_cases hU : K.toList = [117]
            · rw [if_pos (.inl hU)] at hcb
              clear hH
              obtain ⟨b1, hb1⟩ : ∃ b1, inB L 0 (n - 2) = b1 := ⟨_, rfl⟩
              obtain ⟨b2, hb2⟩ : ∃ b2, inB V (-9) 9 = b2 := ⟨_, rfl⟩
              rw [hb1, hb2] at hcb
              have HCB := Lib.hid hcb
              clear hcb
              cases b1 <;> cases b2
              all_goals
                go_wp2_with (go_at_call 41; refine (l6In_any _ _ _ _).mono ?_; rintro e w1 ⟨rfl, rfl⟩; simp only [hb1, hb2])
                first
                  | (go_ret; exact ⟨by rw [HCF.out HCB.out]; rfl, HS.out⟩)
                  | (go_roundg (N - (r + 1))
                     case measure => omega
                     case rel => exact ⟨r + 1, by omega, by omega, by go_num, HS.out, HCT.out HCB.out⟩)
            · by_cases hD : K.toList = [100]
              · rw [if_pos (.inr hD)] at hcb
                clear hH hU
                obtain ⟨b1, hb1⟩ : ∃ b1, inB L 0 (n - 2) = b1 := ⟨_, rfl⟩
                obtain ⟨b2, hb2⟩ : ∃ b2, inB V (-9) 9 = b2 := ⟨_, rfl⟩
                rw [hb1, hb2] at hcb
                have HCB := Lib.hid hcb
                clear hcb
                cases b1 <;> cases b2
                all_goals
                  go_wp2_with (go_at_call 41; refine (l6In_any _ _ _ _).mono ?_; rintro e w1 ⟨rfl, rfl⟩; simp only [hb1, hb2])
                  first
                    | (go_ret; exact ⟨by rw [HCF.out HCB.out]; rfl, HS.out⟩)
                    | (go_roundg (N - (r + 1))
                       case measure => omega
                       case rel => exact ⟨r + 1, by omega, by omega, by go_num, HS.out, HCT.out HCB.out⟩)
              · rw [if_neg (fun h => h.elim hU hD), Bool.false_and] at hcb
                have HCB := Lib.hid hcb
                have q1 : (K.toList == [104]) = false := by simpa using hH
                have q2 : (K.toList == [117]) = false := by simpa using hU
                have q3 : (K.toList == [100]) = false := by simpa using hD
                clear hcb
                go_wp2
                go_ret
                exact ⟨by rw [HCF.out HCB.out]; rfl, HS.out⟩
        · obtain rfl : r = N := by omega
          have hfin := HT.out (fun i hi => hall i (by rw [HN.out] at hi; exact hi))
          have HFIN := Lib.hid hfin
          clear hfin hall
          go_wp2
          go_ret
          exact ⟨by rw [HFIN.out]; rfl, hS⟩
    · have hl' : decide ((10 : Int) < (N : Int)) = true := by simp; omega
      have HF := Lib.hid (show netB n cs = false from by unfold netB; rw [decide_eq_false (by omega)]; simp)
      clear hm hN hn
      go_enter Try.func71, Try.ntmps71
      go_wp2_with (go_at_call 41; refine (E.out _).mono ?_; rintro e w1 ⟨rfl, rfl⟩)
      go_ret
      exact ⟨by rw [HF.out]; rfl, World.Since.refl _ _⟩
  · have hn' : inB n 2 5 = false := by simpa using hn
    have E := Lib.hid (fun (W : World) => l6In_at n 2 5 false W hn')
    have HF := Lib.hid (show netB n cs = false from by unfold netB; rw [hn']; rfl)
    clear hm hN hn hn'
    go_enter Try.func71, Try.ntmps71
    go_wp2_with (go_at_call 41; refine (E.out _).mono ?_; rintro e w1 ⟨rfl, rfl⟩)
    go_ret
    exact ⟨by rw [HF.out]; rfl, World.Since.refl _ _⟩

end Go.Proofs.Ytlgjplhffpmfpaa
end

section
namespace Go.Proofs.Ytlgjplhffpmfpaa
open Go.RowKit Go.Deep

end Go.Proofs.Ytlgjplhffpmfpaa
end

section
namespace Go.Proofs.Ytlgjplhffpmfpaa
open Go.RowKit Go.Deep

def lacks (n U : Nat) : List Nat := (List.range n).filter fun k => !U.testBit k
def gam (U j : Nat) : Nat := (lacks 6 U).getD j 0
def sgU (U : Nat) : Int := sn (((List.range 6).filter fun k => U.testBit k).foldl (· + ·) 0 + popcS U * (popcS U - 1) / 2)

theorem lacks_len : ∀ n : Fin 7, ∀ U : Fin 64, U.val < 2 ^ n.val → (lacks n.val U.val).length + popcS U.val = n.val := by decide +kernel
theorem lacks_get : ∀ n : Fin 7, ∀ U : Fin 64, ∀ j : Fin 6, U.val < 2 ^ n.val → j.val + popcS U.val < n.val → (lacks n.val U.val).getD j.val 0 = gam U.val j.val ∧ gam U.val j.val < n.val ∧ U.val.testBit (gam U.val j.val) = false := by decide +kernel
theorem gam_or : ∀ U : Fin 64, ∀ j j' : Fin 6, j.val + popcS U.val < 6 → j'.val + popcS U.val + 1 < 6 → gam (U.val ||| 2 ^ gam U.val j.val) j'.val = gam U.val (skip j.val j'.val) := by decide +kernel
theorem sgU_or : ∀ U : Fin 64, ∀ j : Fin 6, j.val + popcS U.val < 6 → sn (popcS (U.val / 2 ^ gam U.val j.val)) * sgU (U.val ||| 2 ^ gam U.val j.val) = sgU U.val * sn j.val := by decide +kernel
theorem popcS_add : ∀ U : Fin 64, ∀ k : Fin 6, U.val.testBit k.val = false → popcS (U.val ||| 2 ^ k.val) = popcS U.val + 1 := by decide +kernel

theorem sumL_get (F : Nat → Int) : ∀ l : List Nat, (l.map F).foldr (· + ·) 0 = sumN (fun j => F (l.getD j 0)) l.length
  | [] => rfl
  | x :: xs => by
    rw [List.length_cons, sumN_first, List.map_cons, List.foldr_cons, sumL_get F xs]
    rfl
theorem sumL_snoc (l : List Int) (x : Int) : (l ++ [x]).foldr (· + ·) 0 = l.foldr (· + ·) 0 + x := by
  induction l with
  | nil => simp
  | cons y ys ih => simp only [List.cons_append, List.foldr_cons, ih]; omega
theorem sumN_lacks (F : Nat → Int) (U : Nat) : ∀ n, sumN (fun k => if U.testBit k then 0 else F k) n = ((lacks n U).map F).foldr (· + ·) 0
  | 0 => rfl
  | n + 1 => by
    have e : lacks (n + 1) U = lacks n U ++ (if U.testBit n then [] else [n]) := by
      unfold lacks
      rw [List.range_succ, List.filter_append]
      cases h : U.testBit n <;> simp [h]
    unfold sumN
    rw [sumN_lacks F U n, e]
    cases h : U.testBit n
    · simp only [Bool.false_eq_true, if_false, List.map_append, List.map_cons, List.map_nil, sumL_snoc]
    · simp

theorem ordF_dt (l : List (List Int)) {n : Nat} (hn : n ≤ 6) : ∀ (d U : Nat), U < 2 ^ n → popcS U + d = n → ordF l n d U = sgU U * dt d (fun i j => at2 l (n - d + i) (gam U j))
  | 0, U, hU, hp => by
    rw [ordF_zero, dt_zero]
    have h : ∀ n : Fin 7, ∀ U : Fin 64, U.val < 2 ^ n.val → popcS U.val = n.val → sgU U.val = 1 := by decide +kernel
    have p : 2 ^ n ≤ 2 ^ 6 := Nat.pow_le_pow_right (by omega) hn
    have := h ⟨n, by omega⟩ ⟨U, by omega⟩ hU (by simpa using hp)
    simp only at this
    rw [this]; rfl
  | d + 1, U, hU, hp => by
    have p : 2 ^ n ≤ 2 ^ 6 := Nat.pow_le_pow_right (by omega) hn
    have hlen := lacks_len ⟨n, by omega⟩ ⟨U, by omega⟩ hU
    simp only at hlen
    rw [ordF_succ, dt_succ, ← sumN_mul]
    have e0 : ∀ k, ordT l (n - (d + 1)) U (ordF l n d) k = if U.testBit k then 0 else sn (popcS (U / 2 ^ k)) * (at2 l (n - (d + 1)) k * ordF l n d (U ||| 2 ^ k)) := fun k => by
      unfold ordT
      split
      · rfl
      · rw [sg_sn]
    rw [sumN_congr n (fun k _ => e0 k), sumN_lacks (fun k => sn (popcS (U / 2 ^ k)) * (at2 l (n - (d + 1)) k * ordF l n d (U ||| 2 ^ k))), sumL_get, show (lacks n U).length = d + 1 by omega]
    refine sumN_congr _ fun j hj => ?_
    obtain ⟨g1, g2, g3⟩ := lacks_get ⟨n, by omega⟩ ⟨U, by omega⟩ ⟨j, by omega⟩ hU (by simp only; omega)
    simp only at g1 g2 g3
    have hs := sgU_or ⟨U, by omega⟩ ⟨j, by omega⟩ (by simp only; omega)
    have ha := popcS_add ⟨U, by omega⟩ ⟨gam U j, by omega⟩ g3
    simp only at hs ha
    rw [g1, ordF_dt l hn d (U ||| 2 ^ gam U j) (Nat.or_lt_two_pow hU (Nat.pow_lt_pow_right (by omega) g2)) (by omega)]
    have ed : dt d (fun i j' => at2 l (n - d + i) (gam (U ||| 2 ^ gam U j) j')) = dt d (dr j (fun i j => at2 l (n - (d + 1) + i) (gam U j))) := dt_congr d fun i j' _ hj' => by
      have := gam_or ⟨U, by omega⟩ ⟨j, by omega⟩ ⟨j', by omega⟩ (by simp only; omega) (by simp only; omega)
      simp only at this
      rw [this]
      show _ = at2 l (n - (d + 1) + (i + 1)) (gam U (skip j j'))
      rw [show n - (d + 1) + (i + 1) = n - d + i by omega]
    rw [ed, Nat.add_zero]
    generalize dt d (dr j (fun i j => at2 l (n - (d + 1) + i) (gam U j))) = D
    generalize at2 l (n - (d + 1)) (gam U j) = y
    rw [show sn (popcS (U / 2 ^ gam U j)) * (y * (sgU (U ||| 2 ^ gam U j) * D)) = (sn (popcS (U / 2 ^ gam U j)) * sgU (U ||| 2 ^ gam U j)) * (y * D) by grind, hs, Int.mul_assoc]
theorem gam_zero : ∀ j : Fin 6, gam 0 j.val = j.val := by decide +kernel
theorem ordF_all (l : List (List Int)) {n : Nat} (hn : n ≤ 6) : ordF l n n 0 = dt n (at2 l) := by
  rw [ordF_dt l hn n 0 (Nat.pow_pos (by omega)) (by have : popcS 0 = 0 := by decide
                                                    omega)]
  have h1 : sgU 0 = 1 := by decide +kernel
  rw [h1, Int.one_mul]
  refine dt_congr n fun i j hi hj => ?_
  have := gam_zero ⟨j, by omega⟩
  simp only at this
  rw [this, Nat.sub_self, Nat.zero_add]

end Go.Proofs.Ytlgjplhffpmfpaa
end

section
namespace Go.Proofs.Ytlgjplhffpmfpaa
open Go.RowKit Go.Deep

theorem sumN_more (f : Nat → Int) (n : Nat) : ∀ m, (∀ j, n ≤ j → j < n + m → f j = 0) → sumN f (n + m) = sumN f n
  | 0, _ => rfl
  | m + 1, h => by
    show sumN f (n + m) + f (n + m) = _
    rw [sumN_more f n m (fun j h1 h2 => h j h1 (by omega)), h (n + m) (by omega) (by omega)]
    omega
theorem sumN_one (f : Nat → Int) (k : Nat) : ∀ n, k < n → (∀ j, j < n → j ≠ k → f j = 0) → sumN f n = f k
  | 0, h, _ => by omega
  | n + 1, h, hz => by
    unfold sumN
    by_cases e : k = n
    · subst e
      rw [sumN_none k (fun j hj => hz j (by omega) (by omega))]; omega
    · rw [sumN_one f k n (by omega) (fun j hj hk => hz j (by omega) hk), hz n (by omega) (fun h => e h.symm)]; omega
theorem sumN_mulR (c : Int) (f : Nat → Int) (n : Nat) : sumN (fun j => f j * c) n = sumN f n * c := by
  rw [sumN_congr n (g := fun j => c * f j) (fun j _ => Int.mul_comm _ _), sumN_mul, Int.mul_comm]

theorem dt_block (m : Nat) : ∀ (n : Nat) (f : Nat → Nat → Int), (∀ i j, i < n → n ≤ j → j < n + m → f i j = 0) → dt (n + m) f = dt n f * dt m (fun i j => f (n + i) (n + j))
  | 0, f, _ => by
    rw [dt_zero, Int.one_mul, Nat.zero_add]
    exact dt_congr m fun i j _ _ => by rw [Nat.zero_add, Nat.zero_add]
  | n + 1, f, h => by
    rw [show n + 1 + m = (n + m) + 1 by omega, dt_succ, show n + m + 1 = (n + 1) + m by omega, sumN_more _ (n + 1) m (fun j h1 h2 => by rw [h 0 j (by omega) h1 h2]; simp), dt_succ, ← sumN_mulR]
    refine sumN_congr _ fun k hk => ?_
    rw [dt_block m n (dr k f) (fun i j h1 h2 h3 => by
      show f (i + 1) (skip k j) = 0
      rw [skip_ge (by omega)]
      exact h _ _ (by omega) (by omega) (by omega))]
    have e : dt m (fun i j => dr k f (n + i) (n + j)) = dt m (fun i j => f (n + 1 + i) (n + 1 + j)) := dt_congr m fun i j _ _ => by
      show f (n + i + 1) (skip k (n + j)) = _
      rw [skip_ge (by omega), show n + i + 1 = n + 1 + i by omega, show n + j + 1 = n + 1 + j by omega]
    rw [e, Int.mul_assoc, Int.mul_assoc]

theorem dt_addS {n r : Nat} (f : Nat → Nat → Int) (c : Nat → Int) (s : Nat → Nat) (hr : r < n) : ∀ k, (∀ m, m < k → s m < n ∧ s m ≠ r) → dt n (setR f r (fun j => f r j + sumN (fun m => c m * f (s m) j) k)) = dt n f
  | 0, _ => by
    rw [dt_congr n (g := f) (fun i j _ _ => by
      unfold setR
      split
      · rename_i h; rw [h]; simp [sumN]
      · rfl)]
  | k + 1, h => by
    have e : ∀ i j, setR f r (fun j => f r j + sumN (fun m => c m * f (s m) j) (k + 1)) i j = setR f r (fun j => 1 * (f r j + sumN (fun m => c m * f (s m) j) k) + c k * f (s k) j) i j := fun i j => by
      unfold setR
      split
      · show f r j + (sumN (fun m => c m * f (s m) j) k + c k * f (s k) j) = 1 * (f r j + sumN (fun m => c m * f (s m) j) k) + c k * f (s k) j
        omega
      · rfl
    obtain ⟨h1, h2⟩ := h k (by omega)
    rw [dt_congr n (fun i j _ _ => e i j), dt_lin n r f 1 (c k) _ _ hr, dt_addS f c s hr k (fun m hm => h m (by omega)), dt_sameR (setR f r (fun j => f (s k) j)) (Ne.symm h2) hr h1 (fun j _ => by unfold setR; rw [if_pos rfl, if_neg h2])]
    omega

def mulF (n : Nat) (A B : Nat → Nat → Int) (i j : Nat) : Int := sumN (fun m => A i m * B m j) n
def oneF (i j : Nat) : Int := if i = j then 1 else 0
def blk (n : Nat) (A B : Nat → Nat → Int) (i j : Nat) : Int := if i < n then (if j < n then A i j else 0) else (if j < n then (if i - n = j then -1 else 0) else B (i - n) (j - n))
def blkT (n : Nat) (A B : Nat → Nat → Int) (t i j : Nat) : Int := if i < t then (if j < n then 0 else mulF n A B i (j - n)) else blk n A B i j
theorem dt_blkT (n : Nat) (A B : Nat → Nat → Int) : ∀ t, t ≤ n → dt (n + n) (blkT n A B t) = dt (n + n) (blk n A B)
  | 0, _ => dt_congr _ fun i j _ _ => by unfold blkT; rw [if_neg (by omega)]
  | t + 1, ht => by
    rw [← dt_blkT n A B t (by omega), ← dt_addS (blkT n A B t) (A t) (fun m => n + m) (show t < n + n by omega) n (fun m hm => ⟨by omega, by omega⟩)]
    refine dt_congr _ fun i j _ hj => ?_
    unfold setR
    by_cases hi : i = t
    · subst hi
      rw [if_pos rfl]
      have e1 : blkT n A B (i + 1) i j = if j < n then 0 else mulF n A B i (j - n) := if_pos (by omega)
      have e2 : blkT n A B i i j = if j < n then A i j else 0 := by unfold blkT blk; rw [if_neg (by omega), if_pos (by omega)]
      have e3 : ∀ m, blkT n A B i (n + m) j = if j < n then (if m = j then -1 else 0) else B m (j - n) := fun m => by unfold blkT blk; rw [if_neg (by omega), if_neg (by omega), Nat.add_sub_cancel_left]
      show _ = blkT n A B i i j + sumN (fun m => A i m * blkT n A B i (n + m) j) n
      rw [e1, e2]
      by_cases hjn : j < n
      · rw [if_pos hjn, if_pos hjn, sumN_one (fun m => A i m * blkT n A B i (n + m) j) j n hjn (fun m _ hmj => by rw [e3, if_pos hjn, if_neg hmj]; simp), e3, if_pos hjn, if_pos rfl]
        omega
      · rw [if_neg hjn, if_neg hjn, Int.zero_add]
        exact sumN_congr n fun m _ => by rw [e3, if_neg hjn]
    · rw [if_neg hi]
      unfold blkT
      by_cases h1 : i < t
      · rw [if_pos (by omega), if_pos h1]
      · rw [if_neg (by omega), if_neg h1]
def colT (n t j : Nat) : Nat := if j < t then n + j else if n ≤ j ∧ j < n + t then j - n else j
theorem dt_colT (n : Nat) (f : Nat → Nat → Int) : ∀ t, t ≤ n → dt (n + n) (fun i j => f i (colT n t j)) = sn t * dt (n + n) f
  | 0, _ => by
    rw [sn_zero, Int.one_mul]
    exact dt_congr _ fun i j _ _ => by
      congr 1
      unfold colT
      rw [if_neg (by omega), if_neg (by omega)]
  | t + 1, ht => by
    have h := dt_exC (fun i j => f i (colT n t j)) (show t ≠ n + t by omega) (show t < n + n by omega) (show n + t < n + n by omega)
    rw [dt_colT n f t (by omega)] at h
    rw [sn_succ]
    have e : dt (n + n) (fun i j => f i (colT n (t + 1) j)) = dt (n + n) (fun i j => f i (colT n t (ex t (n + t) j))) := dt_congr _ fun i j _ _ => by
      congr 1
      unfold colT ex
      repeat (first | split | omega)
    rw [e, h]
    grind
theorem dt_oneF : ∀ n, dt n oneF = 1
  | 0 => rfl
  | n + 1 => by
    rw [dt_corner oneF (fun i _ => if_neg (by omega)), show oneF 0 0 = 1 from rfl, Int.one_mul]
    rw [dt_congr n (g := oneF) (fun i j _ _ => by unfold oneF; by_cases h : i = j <;> simp [h])]
    exact dt_oneF n
theorem pw_neg : ∀ n, pw (-1) n = sn n
  | 0 => rfl
  | n + 1 => by rw [sn_succ, ← pw_neg n]; show -1 * pw (-1) n = _; omega
theorem dt_mul (n : Nat) (A B : Nat → Nat → Int) : dt n (mulF n A B) = dt n A * dt n B := by
  have h1 : dt (n + n) (blk n A B) = dt n A * dt n B := by
    rw [dt_block n n (blk n A B) (fun i j h1 h2 _ => by unfold blk; rw [if_pos h1, if_neg (by omega)])]
    congr 1
    · exact dt_congr n fun i j hi hj => by unfold blk; rw [if_pos hi, if_pos hj]
    · exact dt_congr n fun i j _ _ => by unfold blk; rw [if_neg (by omega), if_neg (by omega), Nat.add_sub_cancel_left, Nat.add_sub_cancel_left]
  have h2 := dt_colT n (blkT n A B n) n (Nat.le_refl _)
  rw [dt_blkT n A B n (Nat.le_refl _), h1] at h2
  have h3 : dt (n + n) (fun i j => blkT n A B n i (colT n n j)) = dt n (mulF n A B) * sn n := by
    rw [dt_block n n _ (fun i j h1 h2 h3 => by
      show blkT n A B n i (colT n n j) = 0
      have ec : colT n n j = j - n := by unfold colT; rw [if_neg (by omega), if_pos ⟨h2, h3⟩]
      rw [ec]
      unfold blkT
      rw [if_pos h1, if_pos (by omega)])]
    congr 1
    · refine dt_congr n fun i j hi hj => ?_
      show blkT n A B n i (colT n n j) = _
      have ec : colT n n j = n + j := by unfold colT; rw [if_pos hj]
      rw [ec]
      unfold blkT
      rw [if_pos hi, if_neg (by omega), Nat.add_sub_cancel_left]
    · rw [dt_congr n (g := fun i j => -1 * oneF i j) (fun i j hi hj => by
        show blkT n A B n (n + i) (colT n n (n + j)) = _
        have ec : colT n n (n + j) = j := by unfold colT; rw [if_neg (by omega), if_pos (by omega), Nat.add_sub_cancel_left]
        rw [ec]
        unfold blkT blk oneF
        rw [if_neg (show ¬ n + i < n by omega), if_neg (show ¬ n + i < n by omega), if_pos hj, Nat.add_sub_cancel_left]
        by_cases e : i = j <;> simp [e]), dt_scale (-1) n oneF, dt_oneF, pw_neg]
      omega
  rw [h3] at h2
  have h4 := sn_sq n
  have h5 : dt n (mulF n A B) * (sn n * sn n) = sn n * sn n * (dt n A * dt n B) := by grind
  rw [h4] at h5
  omega

def selN (s n i : Nat) : Nat := ((sel s n n).map (·.1)).getD i 0
theorem pickTo_at (c : Nat) (x : List Int) (m j : Nat) (hj : j < (sel c m m).length) : (pickTo c x m m).getD j 0 = x.getD (selN c m j) 0 := by
  unfold pickTo selN
  simp [List.getD, hj]
theorem partL_at (l : List (List Int)) (s c : Nat) {i j : Nat} (hi : i < (sel s l.length l.length).length) (hj : j < (sel c (l.getD 0 []).length (l.getD 0 []).length).length) :
    at2 (partL l s c) i j = at2 l (selN s l.length i) (selN c (l.getD 0 []).length j) := by
  have e1 : (partL l s c).getD i [] = pickTo c (l.getD (selN s l.length i) []) (l.getD 0 []).length (l.getD 0 []).length := by
    unfold partL partRows selN
    simp [List.getD, hi]
  unfold at2
  rw [e1, pickTo_at _ _ _ _ hj]
theorem selN_but : ∀ n : Fin 7, ∀ k : Fin 6, ∀ j : Fin 6, k.val < n.val → j.val + 1 < n.val → selN (2 ^ n.val - 1 - 2 ^ k.val) n.val j.val = skip k.val j.val := by decide +kernel
theorem sel_but_len : ∀ n : Fin 7, ∀ k : Fin 6, k.val < n.val → (sel (2 ^ n.val - 1 - 2 ^ k.val) n.val n.val).length + 1 = n.val := by decide +kernel
theorem partL_but {l : List (List Int)} {n r k i j : Nat} (hn : l.length = n) (hw : (l.getD 0 []).length = n) (h6 : n ≤ 6) (hr : r < n) (hk : k < n) (hi : i + 1 < n) (hj : j + 1 < n) :
    at2 (partL l (2 ^ n - 1 - 2 ^ r) (2 ^ n - 1 - 2 ^ k)) i j = at2 l (skip r i) (skip k j) := by
  have l1 := sel_but_len ⟨n, by omega⟩ ⟨r, by omega⟩ hr
  have l2 := sel_but_len ⟨n, by omega⟩ ⟨k, by omega⟩ hk
  simp only at l1 l2
  rw [partL_at l _ _ (by rw [hn]; omega) (by rw [hw]; omega), hn, hw]
  have e1 := selN_but ⟨n, by omega⟩ ⟨r, by omega⟩ ⟨i, by omega⟩ hr hi
  have e2 := selN_but ⟨n, by omega⟩ ⟨k, by omega⟩ ⟨j, by omega⟩ hk hj
  simp only at e1 e2
  rw [e1, e2]
theorem rowF_dt : ∀ (d : Nat) (l : List (List Int)), SqD d l → rowF d l = dt d (at2 l)
  | 0, _, _ => rfl
  | d + 1, l, h => by
    obtain ⟨hT, hw⟩ := h.2 (by omega)
    have h6 := hT.2.1
    have hn := h.1
    rw [rowF_succ, dt_succ]
    refine sumN_congr _ fun k hk => ?_
    rw [sg_sn, rowF_dt d _ (minor_sq h hk)]
    have e : dt d (at2 (minorL l (d + 1) k)) = dt d (dr k (at2 l)) := dt_congr d fun i j hi hj => by
      have := partL_but (r := 0) (k := k) (i := i) (j := j) hn hw (by omega) (by omega) hk (by omega) (by omega)
      exact this
    rw [e]

end Go.Proofs.Ytlgjplhffpmfpaa
end

section
namespace Go.Proofs.Ytlgjplhffpmfpaa

abbrev CH := Nat × Nat × Int
def cFrom (c : CH) : Nat := if c.1 = 0 then c.2.1 else c.2.1 + 1
def cTo (c : CH) : Nat := if c.1 = 0 then c.2.1 + 1 else c.2.1
def chOk (n : Nat) (c : CH) : Prop := c.1 ≤ 2 ∧ (if c.1 = 2 then c.2.1 < n else c.2.1 + 1 < n)
def pathN : List CH → Nat → Nat → Int
  | [], a, t => if a = t then 1 else 0
  | c :: cs, a, t => if c.1 = 2 then (if a = c.2.1 then c.2.2 * pathN cs a t else pathN cs a t) else pathN cs a t + (if a = cFrom c then c.2.2 * pathN cs (cTo c) t else 0)
def chM (c : CH) (i j : Nat) : Int := if i = j then (if c.1 = 2 ∧ i = c.2.1 then c.2.2 else 1) else if c.1 ≠ 2 ∧ i = cFrom c ∧ j = cTo c then c.2.2 else 0
def netM (n : Nat) : List CH → Nat → Nat → Int
  | [], i, k => if i = k then 1 else 0
  | c :: cs, i, k => sumN (fun j => chM c i j * netM n cs j k) n

theorem ch_ft {n : Nat} {c : CH} (h : chOk n c) (h2 : c.1 ≠ 2) : cFrom c < n ∧ cTo c < n ∧ cFrom c ≠ cTo c := by
  unfold chOk at h
  rw [if_neg h2] at h
  unfold cFrom cTo
  split <;> omega

theorem sumN_two (f : Nat → Int) {a b n : Nat} (ha : a < n) (hb : b < n) (hab : a ≠ b) (h : ∀ j, j < n → j ≠ a → j ≠ b → f j = 0) : sumN f n = f a + f b := by
  have e : sumN f n = sumN (fun j => (if j = a then f a else 0) + (if j = b then f b else 0)) n := sumN_congr n fun j hj => by
    by_cases h1 : j = a
    · subst h1; simp [hab]
    · by_cases h2 : j = b
      · subst h2; simp [h1]
      · rw [h j hj h1 h2]; simp [h1, h2]
  rw [e, sumN_add, sumN_one _ a n ha (fun j _ hj => by simp [hj]), sumN_one _ b n hb (fun j _ hj => by simp [hj])]
  simp

theorem ch_row {n : Nat} {c : CH} (h : chOk n c) {i : Nat} (hi : i < n) (f : Nat → Int) :
    sumN (fun j => chM c i j * f j) n = if c.1 = 2 then (if i = c.2.1 then c.2.2 * f i else f i) else f i + (if i = cFrom c then c.2.2 * f (cTo c) else 0) := by
  by_cases h2 : c.1 = 2
  · rw [if_pos h2, sumN_one _ i n hi (fun j _ hj => by
      unfold chM
      rw [if_neg (fun e => hj e.symm), if_neg (fun e => e.1 h2), Int.zero_mul])]
    unfold chM
    by_cases hl : i = c.2.1 <;> simp [h2, hl]
  · obtain ⟨h3, h4, h5⟩ := ch_ft h h2
    rw [if_neg h2]
    by_cases hf : i = cFrom c
    · subst hf
      rw [if_pos rfl, sumN_two _ h3 h4 h5 (fun j _ h6 h7 => by
        unfold chM
        rw [if_neg (fun e => h6 e.symm), if_neg (fun e => h7 e.2.2), Int.zero_mul])]
      unfold chM
      rw [if_pos rfl, if_neg (fun e => h2 e.1), if_neg h5, if_pos ⟨h2, rfl, rfl⟩, Int.one_mul]
    · rw [if_neg hf, sumN_one _ i n hi (fun j _ hj => by
        unfold chM
        rw [if_neg (fun e => hj e.symm), if_neg (fun e => hf e.2.1), Int.zero_mul])]
      unfold chM
      rw [if_pos rfl, if_neg (fun e => h2 e.1)]
      omega

theorem path_net {n : Nat} : ∀ (cs : List CH), (∀ c ∈ cs, chOk n c) → ∀ a t, a < n → pathN cs a t = netM n cs a t
  | [], _, _, _, _ => rfl
  | c :: cs, h, a, t, ha => by
    have hc := h c (by simp)
    have ih := path_net cs (fun c hc => h c (by simp [hc]))
    unfold netM
    rw [ch_row hc ha (fun j => netM n cs j t)]
    unfold pathN
    by_cases h2 : c.1 = 2
    · rw [if_pos h2, if_pos h2, ih a t ha]
    · rw [if_neg h2, if_neg h2, ih a t ha, ih (cTo c) t (ch_ft hc h2).2.1]

theorem net_app {n : Nat} : ∀ (xs bs : List CH) (i k : Nat), i < n → netM n (xs ++ bs) i k = sumN (fun j => netM n xs i j * netM n bs j k) n
  | [], bs, i, k, hi => by
    rw [sumN_one _ i n hi (fun j _ hj => by
      show (if i = j then (1 : Int) else 0) * _ = 0
      rw [if_neg (fun e => hj e.symm), Int.zero_mul])]
    show _ = (if i = i then (1 : Int) else 0) * _
    rw [if_pos rfl, Int.one_mul]
    rfl
  | c :: xs, bs, i, k, hi => by
    show sumN (fun j => chM c i j * netM n (xs ++ bs) j k) n = sumN (fun j => sumN (fun m => chM c i m * netM n xs m j) n * netM n bs j k) n
    rw [sumN_congr (g := fun m => sumN (fun j => chM c i m * netM n xs m j * netM n bs j k) n) n (fun m hm => by
      rw [net_app xs bs m k hm, ← sumN_mul]
      exact sumN_congr n fun j _ => (Int.mul_assoc _ _ _).symm)]
    rw [sumN_comm]
    exact sumN_congr n fun j _ => sumN_mulR _ _ _

def swC (c : CH) : CH := (if c.1 = 0 then 1 else if c.1 = 1 then 0 else c.1, c.2.1, c.2.2)
theorem sw_ft {c : CH} (h : c.1 ≤ 2) (h2 : c.1 ≠ 2) : cFrom (swC c) = cTo c ∧ cTo (swC c) = cFrom c ∧ (swC c).1 ≠ 2 := by
  unfold cFrom cTo swC
  have : c.1 = 0 ∨ c.1 = 1 := by omega
  rcases this with e | e <;> simp [e]
theorem sw_h {c : CH} (h2 : c.1 = 2) : swC c = c := by
  unfold swC
  rw [if_neg (by omega), if_neg (by omega)]
theorem ch_turn {c : CH} (h : c.1 ≤ 2) (i j : Nat) : chM (swC c) i j = chM c j i := by
  by_cases h2 : c.1 = 2
  · rw [sw_h h2]
    unfold chM
    by_cases e : i = j
    · subst e; rfl
    · rw [if_neg e, if_neg (show ¬ j = i from fun x => e x.symm), if_neg (fun x => x.1 h2), if_neg (fun x => x.1 h2)]
  · obtain ⟨h3, h4, h5⟩ := sw_ft h h2
    unfold chM
    rw [h3, h4]
    by_cases e : i = j
    · subst e
      rw [if_pos rfl, if_pos rfl, if_neg (fun x => h5 x.1), if_neg (fun x => h2 x.1)]
    · rw [if_neg e, if_neg (show ¬ j = i from fun x => e x.symm)]
      by_cases x : i = cTo c ∧ j = cFrom c
      · rw [if_pos ⟨h5, x.1, x.2⟩, if_pos ⟨h2, x.2, x.1⟩]; rfl
      · rw [if_neg (fun y => x y.2), if_neg (fun y => x ⟨y.2.2, y.2.1⟩)]
theorem net_one {n : Nat} (c : CH) {i k : Nat} (hk : k < n) : netM n [c] i k = chM c i k := by
  show sumN (fun j => chM c i j * (if j = k then 1 else 0)) n = _
  rw [sumN_one _ k n hk (fun j _ hj => by rw [if_neg hj, Int.mul_zero]), if_pos rfl, Int.mul_one]
theorem net_turn {n : Nat} : ∀ (cs : List CH), (∀ c ∈ cs, c.1 ≤ 2) → ∀ i k, i < n → k < n → netM n ((cs.map swC).reverse) k i = netM n cs i k
  | [], _, i, k, _, _ => by
    show (if k = i then (1 : Int) else 0) = if i = k then 1 else 0
    by_cases e : i = k
    · subst e; rfl
    · rw [if_neg e, if_neg (fun x => e x.symm)]
  | c :: cs, h, i, k, hi, hk => by
    rw [List.map_cons, List.reverse_cons, net_app _ _ k i hk]
    show _ = sumN (fun j => chM c i j * netM n cs j k) n
    refine sumN_congr n fun j hj => ?_
    rw [net_turn cs (fun c hc => h c (by simp [hc])) j k hj hk, net_one _ hi, ch_turn (h c (by simp)), Int.mul_comm]

end Go.Proofs.Ytlgjplhffpmfpaa
end

section
namespace Go.Proofs.Ytlgjplhffpmfpaa

def famN : List CH → Nat → Nat → Int
  | [], s, t => if s = t then 1 else 0
  | c :: cs, s, t => if c.1 = 2 then (if s.testBit c.2.1 = true then c.2.2 * famN cs s t else famN cs s t)
    else famN cs s t + (if s.testBit (cFrom c) = true ∧ s.testBit (cTo c) = false then c.2.2 * famN cs (s ^^^ 2 ^ cFrom c ^^^ 2 ^ cTo c) t else 0)

theorem c_ne (c : CH) : cFrom c ≠ cTo c := by unfold cFrom cTo; split <;> omega
theorem bit_one (i j : Nat) : (2 ^ i).testBit j = decide (i = j) := Nat.testBit_two_pow
theorem fam_one : ∀ (cs : List CH) (i k : Nat), famN cs (2 ^ i) (2 ^ k) = pathN cs i k
  | [], i, k => by
    unfold famN pathN
    by_cases e : i = k
    · subst e; simp
    · rw [if_neg e, if_neg (fun h => e (by
        have h1 := congrArg (fun x => Nat.testBit x i) h
        simp only [bit_one, decide_true] at h1
        exact (of_decide_eq_true h1.symm).symm))]
  | c :: cs, i, k => by
    unfold famN pathN
    rw [fam_one cs i k, bit_one, bit_one, bit_one]
    by_cases h2 : c.1 = 2
    · rw [if_pos h2, if_pos h2]
      by_cases e : i = c.2.1 <;> simp [e]
    · rw [if_neg h2, if_neg h2]
      by_cases e : i = cFrom c
      · subst e
        rw [if_pos ⟨by simp, by simp [c_ne c]⟩, if_pos rfl, Nat.xor_self, Nat.zero_xor, fam_one cs (cTo c) k]
      · rw [if_neg (fun h => e (by simpa using h.1)), if_neg e]
theorem fam_nn : ∀ (cs : List CH), (∀ c ∈ cs, 0 ≤ c.2.2) → ∀ s t, 0 ≤ famN cs s t
  | [], _, s, t => by unfold famN; split <;> omega
  | c :: cs, h, s, t => by
    have hc := h c (by simp)
    have ih := fam_nn cs (fun c hc => h c (by simp [hc]))
    unfold famN
    split
    · split
      · exact Int.mul_nonneg hc (ih _ _)
      · exact ih _ _
    · have h1 := ih s t
      split
      · have := Int.mul_nonneg hc (ih (s ^^^ 2 ^ cFrom c ^^^ 2 ^ cTo c) t)
        omega
      · omega
theorem path_nn (cs : List CH) (h : ∀ c ∈ cs, 0 ≤ c.2.2) (i k : Nat) : 0 ≤ pathN cs i k := by
  rw [← fam_one]; exact fam_nn cs h _ _
theorem path_stay : ∀ (cs : List CH), (∀ c ∈ cs, 1 ≤ c.2.2) → ∀ i, 1 ≤ pathN cs i i
  | [], _, i => by unfold pathN; simp
  | c :: cs, h, i => by
    have hc := h c (by simp)
    have ih := path_stay cs (fun c hc => h c (by simp [hc])) i
    have hn : ∀ a, 0 ≤ pathN cs a i := fun a => path_nn cs (fun c hc => by have := h c (by simp [hc]); omega) a i
    unfold pathN
    split
    · split
      · have := Int.mul_le_mul hc ih (by omega) (by omega : (0 : Int) ≤ c.2.2)
        omega
      · exact ih
    · split
      · have := Int.mul_nonneg (by omega : (0 : Int) ≤ c.2.2) (hn (cTo c))
        omega
      · omega

def p10 : Nat → Int
  | 0 => 1
  | k + 1 => 10 * p10 k
theorem p10_pos : ∀ k, 1 ≤ p10 k
  | 0 => by decide
  | k + 1 => by have := p10_pos k; show 1 ≤ 10 * p10 k; omega
theorem p10_le {k : Nat} (h : k ≤ 10) : p10 k ≤ 10000000000 := by
  have : ∀ j : Fin 11, p10 j.val ≤ 10000000000 := by decide
  exact this ⟨k, by omega⟩
theorem mul_bd9 {a b B : Int} (h1 : -9 ≤ a) (h2 : a ≤ 9) (h3 : -B ≤ b) (h4 : b ≤ B) : -(9 * B) ≤ a * b ∧ a * b ≤ 9 * B := by
  have k1 : 0 ≤ (9 - a) * (B + b) := Int.mul_nonneg (by omega) (by omega)
  have k2 : 0 ≤ (9 + a) * (B - b) := Int.mul_nonneg (by omega) (by omega)
  have k3 : 0 ≤ (9 - a) * (B - b) := Int.mul_nonneg (by omega) (by omega)
  have k4 : 0 ≤ (9 + a) * (B + b) := Int.mul_nonneg (by omega) (by omega)
  simp only [Int.add_mul, Int.sub_mul, Int.mul_add, Int.mul_sub] at k1 k2 k3 k4
  omega
theorem fam_bd : ∀ (cs : List CH), (∀ c ∈ cs, -9 ≤ c.2.2 ∧ c.2.2 ≤ 9) → ∀ s t, -(p10 cs.length) ≤ famN cs s t ∧ famN cs s t ≤ p10 cs.length
  | [], _, s, t => by unfold famN; split <;> simp [p10]
  | c :: cs, h, s, t => by
    have hc := h c (by simp)
    have ih := fam_bd cs (fun c hc => h c (by simp [hc]))
    have hp := p10_pos cs.length
    have e : p10 (c :: cs).length = 10 * p10 cs.length := rfl
    rw [e]
    have h1 := ih s t
    have m1 := mul_bd9 hc.1 hc.2 h1.1 h1.2
    have h2 := ih (s ^^^ 2 ^ cFrom c ^^^ 2 ^ cTo c) t
    have m2 := mul_bd9 hc.1 hc.2 h2.1 h2.2
    unfold famN
    split
    · split <;> omega
    · split <;> omega
theorem path_bd (cs : List CH) (h : ∀ c ∈ cs, -9 ≤ c.2.2 ∧ c.2.2 ≤ 9) (i k : Nat) : -(p10 cs.length) ≤ pathN cs i k ∧ pathN cs i k ≤ p10 cs.length := by
  rw [← fam_one]; exact fam_bd cs h _ _

end Go.Proofs.Ytlgjplhffpmfpaa
end

section
namespace Go.Proofs.Ytlgjplhffpmfpaa
open Go.RowKit Go.Deep

def toC (c : RC) : CH := (if c.k.toList = [117] then 0 else if c.k.toList = [100] then 1 else 2, c.l.toNat, c.w)
def RCok (c : RC) : Prop := (c.k.toList = [104] ∨ c.k.toList = [117] ∨ c.k.toList = [100]) ∧ (0 ≤ c.l ∧ c.l ≤ 10) ∧ -9 ≤ c.w ∧ c.w ≤ 9
theorem ChipsR.tail {W : World} {b o : Nat} {c : RC} {cs : List RC} (h : ∀ i, i < (c :: cs).length → W.cell? ⟨b, o + i * 3, none⟩ = some (.string ((c :: cs).getD i rc0).k) ∧ W.cell? ⟨b, o + i * 3 + 1, none⟩ = some (.int .i64 ((c :: cs).getD i rc0).l) ∧ W.cell? ⟨b, o + i * 3 + 2, none⟩ = some (.int .i64 ((c :: cs).getD i rc0).w)) :
    ChipsR W (some ⟨b, o + 3, none⟩) cs := fun h0 => ⟨b, o + 3, rfl, fun i hi => by
  have := h (i + 1) (by simp; omega)
  rw [show o + 3 + i * 3 = o + (i + 1) * 3 by omega]
  simpa using this⟩
theorem ChipsR.split {W : World} {a : Option Addr} {c : RC} {cs : List RC} (h : ChipsR W a (c :: cs)) : ∃ b o, a = some ⟨b, o, none⟩ ∧ (W.cell? ⟨b, o, none⟩ = some (.string c.k) ∧ W.cell? ⟨b, o + 1, none⟩ = some (.int .i64 c.l) ∧ W.cell? ⟨b, o + 2, none⟩ = some (.int .i64 c.w)) ∧
    ∀ (V : World) (q cap : Nat), W.Since W.heap.size V → cs.length + 1 ≤ cap → (q = o + 3 ∨ cap = 1) → ChipsR V (some ⟨b, q, none⟩) cs := by
  obtain ⟨b, o, rfl, hc⟩ := h (by simp)
  have hc0 := hc 0 (by simp)
  simp only [Nat.zero_mul, Nat.add_zero, List.getD_cons_zero] at hc0
  refine ⟨b, o, rfl, hc0, fun V q cap hs hcap hq => ?_⟩
  by_cases h0 : 0 < cs.length
  · obtain rfl : q = o + 3 := by omega
    exact (ChipsR.tail hc).since hs
  · exact fun h => absurd h h0
theorem chip_box (w : World) (K : ByteArray) (L V : Int) (T : TypeId) :
    (w.alloc (.cells #[.string K, .int .i64 L, .int .i64 V] T)).cell? ⟨w.heap.size, 0, none⟩ = some (.string K) ∧ (w.alloc (.cells #[.string K, .int .i64 L, .int .i64 V] T)).cell? ⟨w.heap.size, 1, none⟩ = some (.int .i64 L) ∧ (w.alloc (.cells #[.string K, .int .i64 L, .int .i64 V] T)).cell? ⟨w.heap.size, 2, none⟩ = some (.int .i64 V) := by
  have hb := World.alloc_heap_new w (.cells #[.string K, .int .i64 L, .int .i64 V] T)
  refine ⟨?_, ?_, ?_⟩ <;> (unfold World.cell?; rw [hb]; rfl)
theorem toC_h {K : ByteArray} {L : Nat} {V : Int} (h : K.toList = [104]) : toC ⟨K, (L : Int), V⟩ = (2, L, V) := by unfold toC; simp [h]
theorem toC_n {K : ByteArray} {L : Nat} {V : Int} (h : ¬ K.toList = [104]) (hk : K.toList = [104] ∨ K.toList = [117] ∨ K.toList = [100]) : ∃ k, k ≤ 1 ∧ toC ⟨K, (L : Int), V⟩ = (k, L, V) ∧
    (if K.toList = [117] then Value.tuple #[.int .i64 (L : Int), .int .i64 ((L + 1 : Nat) : Int)] else .tuple #[.int .i64 ((L + 1 : Nat) : Int), .int .i64 (L : Int)]) = .tuple #[.int .i64 (cFrom (k, L, V) : Nat), .int .i64 (cTo (k, L, V) : Nat)] := by
  rcases hk with e | e | e
  · exact absurd e h
  · exact ⟨0, by omega, by unfold toC; simp [e], by unfold cFrom cTo; simp [e]⟩
  · exact ⟨1, by omega, by unfold toC; simp [e], by unfold cFrom cTo; simp [e]⟩
theorem wrap_mul9 {V P : Int} (h : -9 ≤ V ∧ V ≤ 9) (hp : -10000000000 ≤ P ∧ P ≤ 10000000000) : IntKind.i64.wrap (V * P) = V * P ∧ -90000000000 ≤ V * P ∧ V * P ≤ 90000000000 := by
  have := mul_bd9 h.1 h.2 hp.1 hp.2
  exact ⟨IntWalk.i64_in _ ⟨by omega, by omega⟩, by omega, by omega⟩

end Go.Proofs.Ytlgjplhffpmfpaa
end

section
namespace Go.Proofs.Ytlgjplhffpmfpaa
open Go.RowKit Go.Deep

theorem infoChip : (Try.prog.info? 71).map (fun i => (i.size, i.bytes)) = some (3, 32) := by kernel_rfl
theorem zeroChip : ((Try.prog.info? 71).bind (·.zero)) = some (.agg #[.string ⟨#[]⟩, .int .i64 0, .int .i64 0]) := by kernel_rfl
theorem infoChip_parts : ∃ i, Try.prog.info? 71 = some i ∧ i.zero = some (.agg #[.string ⟨#[]⟩, .int .i64 0, .int .i64 0]) ∧ i.size = 3 ∧ i.bytes = 32 := by
  have h := infoChip
  have hz := zeroChip
  cases e : Try.prog.info? 71 with
  | none => rw [e] at h; cases h
  | some i =>
    rw [e] at h hz
    simp only [Option.map_some, Option.some.injEq, Prod.mk.injEq] at h
    exact ⟨i, rfl, hz, h.1, h.2⟩

def ch3 (cs : List RC) : List Value := cs.flatMap fun c => [.string c.k, .int .i64 c.l, .int .i64 c.w]
theorem ch3_length : ∀ cs, (ch3 cs).length = cs.length * 3
  | [] => rfl
  | c :: cs => by
    have := ch3_length cs
    unfold ch3 at this ⊢
    rw [List.flatMap_cons, List.length_append, this, List.length_cons]
    simp only [List.length_cons, List.length_nil]
    omega
theorem ch3_app (xs ys : List RC) : ch3 (xs ++ ys) = ch3 xs ++ ch3 ys := by simp [ch3]
theorem ch3_snoc (cs : List RC) (c : RC) : ch3 (cs ++ [c]) = ch3 cs ++ [.string c.k, .int .i64 c.l, .int .i64 c.w] := by simp [ch3]
theorem ch3_get : ∀ (cs : List RC) (i : Nat), i < cs.length → (ch3 cs)[i * 3]? = some (.string (cs.getD i rc0).k) ∧ (ch3 cs)[i * 3 + 1]? = some (.int .i64 (cs.getD i rc0).l) ∧ (ch3 cs)[i * 3 + 2]? = some (.int .i64 (cs.getD i rc0).w)
  | [], i, h => by simp at h
  | c :: cs, 0, _ => ⟨rfl, rfl, rfl⟩
  | c :: cs, i + 1, h => by
    have := ch3_get cs i (by simp at h; omega)
    rw [show (i + 1) * 3 = i * 3 + 3 by omega]
    exact this
theorem ch3_one (cs : List RC) : ∀ u ∈ ch3 cs, u.oneCell' = true := fun u hu => by
  obtain ⟨c, _, hc⟩ := List.mem_flatMap.1 hu
  simp at hc
  rcases hc with rfl | rfl | rfl <;> rfl

def InC (lo hi : Nat) (w : World) (a : Option Addr) (cs : List RC) : Prop :=
  0 < cs.length → ∃ g o : Nat, a = some ⟨g, o, none⟩ ∧ (lo ≤ g ∧ g < hi) ∧ ∀ i, i < cs.length → w.cell? ⟨g, o + i * 3, none⟩ = some (.string (cs.getD i rc0).k) ∧ w.cell? ⟨g, o + i * 3 + 1, none⟩ = some (.int .i64 (cs.getD i rc0).l) ∧ w.cell? ⟨g, o + i * 3 + 2, none⟩ = some (.int .i64 (cs.getD i rc0).w)
def OwnC (lo hi : Nat) (w : World) (a : Option Addr) (cs : List RC) : Prop :=
  0 < cs.length → ∃ g : Nat, a = some ⟨g, 0, none⟩ ∧ (lo ≤ g ∧ g < hi) ∧ ∀ i, i < cs.length → (w.cell? ⟨g, i * 3, none⟩ = some (.string (cs.getD i rc0).k) ∧ w.cell? ⟨g, i * 3 + 1, none⟩ = some (.int .i64 (cs.getD i rc0).l) ∧ w.cell? ⟨g, i * 3 + 2, none⟩ = some (.int .i64 (cs.getD i rc0).w)) ∧
    (w.frozen? ⟨g, i * 3, none⟩ = false ∧ w.frozen? ⟨g, i * 3 + 1, none⟩ = false ∧ w.frozen? ⟨g, i * 3 + 2, none⟩ = false)
theorem OwnC.inC {lo hi : Nat} {w : World} {a : Option Addr} {x : List RC} (h : OwnC lo hi w a x) : InC lo hi w a x := fun h0 => by
  obtain ⟨g, e, hg, hc⟩ := h h0
  exact ⟨g, 0, e, hg, fun i hi => by rw [Nat.zero_add]; exact (hc i hi).1⟩
theorem InC.chips {lo hi : Nat} {w : World} {a : Option Addr} {x : List RC} (h : InC lo hi w a x) : ChipsR w a x := fun h0 => by
  obtain ⟨g, o, e, _, hc⟩ := h h0
  exact ⟨g, o, e, hc⟩
theorem OwnC.chips {lo hi : Nat} {w : World} {a : Option Addr} {x : List RC} (h : OwnC lo hi w a x) : ChipsR w a x := h.inC.chips
theorem InC.nil (lo hi : Nat) (w : World) (a : Option Addr) : InC lo hi w a [] := fun h => by simp at h
theorem OwnC.nil (lo hi : Nat) (w : World) (a : Option Addr) : OwnC lo hi w a [] := fun h => by simp at h
theorem InC.mono {lo hi lo' hi' : Nat} {w : World} {a : Option Addr} {x : List RC} (h : InC lo hi w a x) (h1 : lo' ≤ lo) (h2 : hi ≤ hi') : InC lo' hi' w a x := fun h0 => by
  obtain ⟨g, o, e, hg, hc⟩ := h h0
  exact ⟨g, o, e, by omega, hc⟩
theorem OwnC.mono {lo hi lo' hi' : Nat} {w : World} {a : Option Addr} {x : List RC} (h : OwnC lo hi w a x) (h1 : lo' ≤ lo) (h2 : hi ≤ hi') : OwnC lo' hi' w a x := fun h0 => by
  obtain ⟨g, e, hg, hc⟩ := h h0
  exact ⟨g, e, by omega, hc⟩
theorem InC.frame {lo hi lo' hi' : Nat} {w w' : World} {a : Option Addr} {x : List RC} (h : InC lo hi w a x) (hf : Frame lo' hi' w w') (hd : hi ≤ lo' ∨ hi' ≤ lo) : InC lo hi w' a x := fun h0 => by
  obtain ⟨g, o, e, hg, hc⟩ := h h0
  exact ⟨g, o, e, hg, fun i hi1 => ⟨hf.cell (hc i hi1).1 (by show g < lo' ∨ hi' ≤ g; omega), hf.cell (hc i hi1).2.1 (by show g < lo' ∨ hi' ≤ g; omega), hf.cell (hc i hi1).2.2 (by show g < lo' ∨ hi' ≤ g; omega)⟩⟩
theorem OwnC.frame {lo hi lo' hi' : Nat} {w w' : World} {a : Option Addr} {x : List RC} (h : OwnC lo hi w a x) (hf : Frame lo' hi' w w') (hd : hi ≤ lo' ∨ hi' ≤ lo) : OwnC lo hi w' a x := fun h0 => by
  obtain ⟨g, e, hg, hc⟩ := h h0
  refine ⟨g, e, hg, fun i hi1 => ?_⟩
  obtain ⟨⟨c1, c2, c3⟩, f1, f2, f3⟩ := hc i hi1
  exact ⟨⟨hf.cell c1 (by show g < lo' ∨ hi' ≤ g; omega), hf.cell c2 (by show g < lo' ∨ hi' ≤ g; omega), hf.cell c3 (by show g < lo' ∨ hi' ≤ g; omega)⟩,
    (hf.frozen c1 (by show g < lo' ∨ hi' ≤ g; omega)).trans f1, (hf.frozen c2 (by show g < lo' ∨ hi' ≤ g; omega)).trans f2, (hf.frozen c3 (by show g < lo' ∨ hi' ≤ g; omega)).trans f3⟩
theorem InC.since {lo hi : Nat} {w w' : World} {a : Option Addr} {x : List RC} (h : InC lo hi w a x) (hs : w.Since w.heap.size w') : InC lo hi w' a x := h.frame (frame_since hs hi hi) (.inl (Nat.le_refl _))
theorem OwnC.since {lo hi : Nat} {w w' : World} {a : Option Addr} {x : List RC} (h : OwnC lo hi w a x) (hs : w.Since w.heap.size w') : OwnC lo hi w' a x := h.frame (frame_since hs hi hi) (.inl (Nat.le_refl _))

structure CB (w wr : World) (v : Value) (cs : List RC) : Prop where
  since : w.Since w.heap.size wr
  own : wr.ownsRow w.heap.size 71 3 v cs.length (ch3 cs)
theorem cb_none (w : World) : CB w w (.slice none 0 0) [] := ⟨World.Since.refl _ _, World.ownsRow_nil _ _ _ _⟩
theorem cb_start (w : World) (cs : Array Value) (hc : cs.size = 0) : CB w (w.alloc (.cells cs 71)) (.slice (some ⟨w.heap.size, 0, none⟩) 0 0) [] :=
  ⟨(World.Since.refl _ _).alloc (Nat.le_refl _) _, World.ownsRow_made w cs 0 (Nat.le_refl _) (Nat.zero_le _) (by simpa using hc)⟩
theorem CB.ownC {w wr : World} {v : Value} {cs : List RC} (h : CB w wr v cs) : ∃ a cap, v = .slice a cs.length cap ∧ OwnC w.heap.size wr.heap.size wr a cs ∧ cs.length ≤ cap ∧ cap ≤ 9223372036854775807 := by
  have hm : maxLen = 9223372036854775807 := rfl
  rcases h.own.2 with ⟨hv, h0⟩ | ⟨g, cap, cur, rfl, hb, hg, hn, hmx, hs, ht⟩
  · have : cs = [] := List.length_eq_zero_iff.1 h0
    subst this
    exact ⟨none, 0, hv, OwnC.nil _ _ _ _, Nat.le_refl _, by omega⟩
  · refine ⟨_, cap, rfl, fun _ => ⟨g, rfl, ⟨hb, (Array.getElem?_eq_some_iff.1 hg).1⟩, fun i hi => ?_⟩, hn, by omega⟩
    obtain ⟨e1, e2, e3⟩ := ch3_get cs i hi
    have hf : ∀ j, wr.frozen? ⟨g, j, none⟩ = false := fun j => by simp [World.frozen?, hg]
    exact ⟨⟨(World.ownsRow.cellAt h.own (i * 3) (by omega)).trans e1, (World.ownsRow.cellAt h.own (i * 3 + 1) (by omega)).trans e2, (World.ownsRow.cellAt h.own (i * 3 + 2) (by omega)).trans e3⟩, hf _, hf _, hf _⟩
theorem CB.later {w wr w1 : World} {v : Value} {cs : List RC} (h : CB w wr v cs) (hs : wr.Since wr.heap.size w1) : CB w w1 v cs :=
  ⟨h.since.trans (since_mono hs h.since.size), h.own.kept (row := none) ⟨hs.os, hs.tape, hs.output, hs.size, fun k hk _ => hs.block k hk⟩ (by
      cases hv : v.ownBlock with
      | none => exact .inl rfl
      | some k => exact .inr (by simp))⟩
theorem CB.push {w wr w1 W : World} {v v' : Value} {cs ds : List RC} {n : Nat} (h : CB w wr v cs) (hn : n = cs.length + ds.length) (hs : wr.Since wr.heap.size W) (hown : w1.ownsRow w.heap.size 71 3 v' n (ch3 cs ++ ch3 ds)) (hg : W.grownBy w1 v.ownBlock) :
    CB w w1 v' (cs ++ ds) := by
  have hB : w.heap.size ≤ wr.heap.size := h.since.size
  have hBW := hs.size
  subst hn
  refine ⟨(h.since.trans (since_mono hs hB)).grown hg (by omega) (fun k e => (h.own.lt k e).1), ?_⟩
  rw [ch3_app, List.length_append]
  exact hown

theorem news3 (w : World) (c : RC) (T : TypeId) : ∀ j u, (ch3 [c])[j]? = some u → (w.alloc (.cells #[.string c.k, .int .i64 c.l, .int .i64 c.w] T)).cell? ((⟨w.heap.size, 0, none⟩ : Addr).add j) = some u :=
  World.news_of_block (World.alloc_heap_new w (.cells #[.string c.k, .int .i64 c.l, .int .i64 c.w] T))

end Go.Proofs.Ytlgjplhffpmfpaa
end

section
namespace Go.Proofs.Ytlgjplhffpmfpaa
open Go.RowKit Go.Deep

theorem World.grownBy_refl (w : World) (row : Option Nat) : w.grownBy w row := ⟨rfl, rfl, rfl, Nat.le_refl _, fun _ _ _ => rfl⟩
theorem grown_trans {a b c : World} {row : Option Nat} (h : a.grownBy b row) (k : b.grownBy c row) : a.grownBy c row :=
  ⟨k.os.trans h.os, k.tape.trans h.tape, k.output.trans h.output, Nat.le_trans h.size k.size, fun i hi hn => (k.block i (Nat.lt_of_lt_of_le hi h.size) hn).trans (h.block i hi hn)⟩
theorem grown_since {a b : World} (row : Option Nat) (h : a.Since a.heap.size b) : a.grownBy b row := ⟨h.os, h.tape, h.output, h.size, fun i hi _ => h.block i hi⟩
theorem grown_of {a b : World} {row row' : Option Nat} (h : a.grownBy b row) (hr : ∀ k, row = some k → a.heap.size ≤ k ∨ some k = row') : a.grownBy b row' :=
  ⟨h.os, h.tape, h.output, h.size, fun i hi hn => h.block i hi (fun e => by
    rcases hr i e.symm with h1 | h1
    · omega
    · exact hn h1)⟩
theorem since_grown {a b : World} {G B : Nat} (h : a.grownBy b (some G)) (hG : B ≤ G) (hB : B ≤ a.heap.size) : a.Since B b :=
  ⟨h.os, h.tape, h.output, h.size, fun i hi => h.block i (by omega) (fun e => by injection e with e; omega)⟩

def BytR (w : World) (a : Option Addr) (n : Nat) : Prop :=
  0 < n → ∃ b o, a = some ⟨b, o, none⟩ ∧ ∀ i, i < n → ∃ z : Nat, z ≤ 255 ∧ w.cell? ⟨b, o + i, none⟩ = some (.int .u8 z)
theorem BytR.since {w w' : World} {a : Option Addr} {n : Nat} (h : BytR w a n) (hs : w.Since w.heap.size w') : BytR w' a n := by
  intro h0
  obtain ⟨b, o, e, hc⟩ := h h0
  refine ⟨b, o, e, fun i hi => ?_⟩
  obtain ⟨z, h1, h2⟩ := hc i hi
  exact ⟨z, h1, (hs.cell (a := ⟨b, o + i, none⟩) (World.block_lt_of_cell? _ _ h2)).trans h2⟩

structure RD (w0 w : World) (G : Nat) (a : Option Addr) (n c : Nat) (tr : TypeId) (p : Nat) : Prop where
  blk : w.heap[G]? = some (.cells #[.slice a n c, .int .i64 p] tr (0, 0))
  base : w0.heap.size ≤ G
  since : w0.Since w0.heap.size w
  bytes : BytR w0 a n
  small : n ≤ 2000
theorem RD.lt {w0 w : World} {G : Nat} {a : Option Addr} {n c : Nat} {tr : TypeId} {p : Nat} (h : RD w0 w G a n c tr p) : G < w.heap.size := (Array.getElem?_eq_some_iff.1 h.blk).1
theorem RD.cell0 {w0 w : World} {G : Nat} {a : Option Addr} {n c : Nat} {tr : TypeId} {p : Nat} (h : RD w0 w G a n c tr p) : w.cell? ⟨G, 0, none⟩ = some (.slice a n c) := by simp [World.cell?, h.blk]
theorem RD.cell1 {w0 w : World} {G : Nat} {a : Option Addr} {n c : Nat} {tr : TypeId} {p : Nat} (h : RD w0 w G a n c tr p) : w.cell? ⟨G, 1, none⟩ = some (.int .i64 p) := by simp [World.cell?, h.blk]
theorem RD.free1 {w0 w : World} {G : Nat} {a : Option Addr} {n c : Nat} {tr : TypeId} {p : Nat} (h : RD w0 w G a n c tr p) : w.frozen? ⟨G, 1, none⟩ = false := by simp [World.frozen?, h.blk]
theorem RD.set {w0 w : World} {G : Nat} {a : Option Addr} {n c : Nat} {tr : TypeId} {p : Nat} (h : RD w0 w G a n c tr p) (q : Nat) : RD w0 (w.setCell ⟨G, 1, none⟩ (.int .i64 q)) G a n c tr q :=
  ⟨by simp [World.setCell, Array.getElem?_modify, h.blk], h.base, h.since.setCell h.base _, h.bytes, h.small⟩
theorem RD.later {w0 w w' : World} {G : Nat} {a : Option Addr} {n c : Nat} {tr : TypeId} {p : Nat} (h : RD w0 w G a n c tr p) (hs : w.Since w.heap.size w') : RD w0 w' G a n c tr p :=
  ⟨(hs.block G h.lt).trans h.blk, h.base, h.since.trans (since_mono hs h.since.size), h.bytes, h.small⟩
theorem RD.grown {w0 w w' : World} {G : Nat} {a : Option Addr} {n c : Nat} {tr : TypeId} {p : Nat} {row : Option Nat} (h : RD w0 w G a n c tr p) (hg : w.grownBy w' row) (hr : ∀ k, row = some k → G < k) : RD w0 w' G a n c tr p :=
  ⟨(hg.block G h.lt (fun e => by have := hr G e.symm; omega)).trans h.blk, h.base, h.since.grown hg h.since.size (fun k e => by have := hr k e; have := h.base; omega), h.bytes, h.small⟩

def RW (B : Nat) (w : World) (v : Value) (x : List Int) : Prop := w.ownsRow B 3 1 v x.length (x.map (Value.int .i64))
theorem RW.kept {B : Nat} {w w' : World} {v : Value} {x : List Int} {G : Nat} (h : RW B w v x) (hg : w.grownBy w' (some G)) (hG : G < B) : RW B w' v x :=
  World.ownsRow.kept h hg (by
    cases hv : v.ownBlock with
    | none => exact .inl rfl
    | some k => exact .inr (fun e => by injection e with e; have := (World.ownsRow.lt h k hv).1; omega))
theorem RW.base {B B' : Nat} {w : World} {v : Value} {x : List Int} (h : RW B w v x) (hB : B' ≤ B) : RW B' w v x := by
  refine ⟨h.1, ?_⟩
  rcases h.2 with h1 | ⟨g, cap, cur, e, hb, hr⟩
  · exact .inl h1
  · exact .inr ⟨g, cap, cur, e, by omega, hr⟩
theorem RW.form {B : Nat} {w : World} {v : Value} {x : List Int} (h : RW B w v x) (h0 : 0 < x.length) : ∃ g cap, v = .slice (some ⟨g, 0, none⟩) x.length cap ∧ B ≤ g ∧ RowB w g x := RowB.of_owns h h0
theorem RW.set {B : Nat} {w : World} {g cap k : Nat} {x : List Int} (h : RW B w (.slice (some ⟨g, 0, none⟩) x.length cap) x) (_hk : k < x.length) (y : Int) : RW B (w.setCell ⟨g, k, none⟩ (.int .i64 y)) (.slice (some ⟨g, 0, none⟩) x.length cap) (x.set k y) := by
  rcases h.2 with ⟨e, _⟩ | ⟨g', cap', cur, e, hb, hg, hn, hm, hs, ht⟩
  · cases e
  · injection e with e1 e2 e3
    injection e1 with e1
    injection e1 with e1
    subst e1; subst e3
    refine ⟨by simp, .inr ⟨g, cap, cur.setIfInBounds k (.int .i64 y), by rw [List.length_set], hb, ?_, by rw [List.length_set]; exact hn, hm, by simpa using hs, ?_⟩⟩
    · simp [World.setCell, Array.getElem?_modify, hg]
    · rw [List.length_set, Nat.mul_one]
      rw [Nat.mul_one] at ht
      rw [List.map_set, ← ht]
      simp [List.take_set]

structure BD (B : Nat) (w : World) (v : Value) (l : List (List Int)) (A : Nat → Option Addr) (C : Nat → Nat) : Prop where
  own : w.ownsRow B 27 1 v l.length ((List.range l.length).map fun r => .slice (A r) (l.getD r []).length (C r))
  rows : ∀ r, r < l.length → 0 < (l.getD r []).length ∧ RW B w (.slice (A r) (l.getD r []).length (C r)) (l.getD r [])
  apart : ∀ r r', r < l.length → r' < l.length → A r = A r' → r = r'
theorem BD.start (w : World) (A : Nat → Option Addr) (C : Nat → Nat) {B : Nat} (hB : B ≤ w.heap.size) : BD B (w.alloc (.cells #[] 27)) (.slice (some ⟨w.heap.size, 0, none⟩) 0 0) [] A C :=
  ⟨World.ownsRow_made w #[] 0 hB (Nat.zero_le _) rfl, fun r hr => by simp at hr, fun r _ hr => by simp at hr⟩
theorem BD.kept {B : Nat} {w w' : World} {v : Value} {l : List (List Int)} {A : Nat → Option Addr} {C : Nat → Nat} {G : Nat} (h : BD B w v l A C) (hg : w.grownBy w' (some G)) (hG : G < B) : BD B w' v l A C :=
  ⟨World.ownsRow.kept h.own hg (by
      cases hv : v.ownBlock with
      | none => exact .inl rfl
      | some k => exact .inr (fun e => by injection e with e; have := (h.own.lt k hv).1; omega)),
    fun r hr => ⟨(h.rows r hr).1, (h.rows r hr).2.kept hg hG⟩, h.apart⟩
theorem BD.later {B : Nat} {w w' : World} {v : Value} {l : List (List Int)} {A : Nat → Option Addr} {C : Nat → Nat} (h : BD B w v l A C) (hs : w.Since w.heap.size w') : BD B w' v l A C := by
  have hg : w.grownBy w' none := grown_since none hs
  refine ⟨World.ownsRow.kept h.own hg ?_, fun r hr => ⟨(h.rows r hr).1, World.ownsRow.kept (h.rows r hr).2 hg ?_⟩, h.apart⟩
  · cases hv : v.ownBlock <;> simp
  · cases hv : (Value.slice (A r) (l.getD r []).length (C r)).ownBlock <;> simp
theorem BD.row {B : Nat} {w : World} {v : Value} {l : List (List Int)} {A : Nat → Option Addr} {C : Nat → Nat} (h : BD B w v l A C) {r : Nat} (hr : r < l.length) : ∃ g, A r = some ⟨g, 0, none⟩ ∧ B ≤ g ∧ RowB w g (l.getD r []) := by
  obtain ⟨g, cap, e, hb, hw⟩ := (h.rows r hr).2.form (h.rows r hr).1
  injection e with e _ _
  exact ⟨g, e, hb, hw⟩
theorem BD.top {B : Nat} {w : World} {v : Value} {l : List (List Int)} {A : Nat → Option Addr} {C : Nat → Nat} (h : BD B w v l A C) (h0 : 0 < l.length) : ∃ b cap cur, v = .slice (some ⟨b, 0, none⟩) l.length cap ∧ B ≤ b ∧ w.heap[b]? = some (.cells cur 27 (0, 0)) ∧ ∀ r, r < l.length → cur[r]? = some (.slice (A r) (l.getD r []).length (C r)) := by
  rcases h.own.2 with ⟨_, hn⟩ | ⟨g, cap, cur, e, hb, hg, hn, _, hs, ht⟩
  · omega
  · refine ⟨g, cap, cur, e, hb, hg, fun r hr => ?_⟩
    have h1 : (cur.toList.take (l.length * 1))[r]? = some (.slice (A r) (l.getD r []).length (C r)) := by rw [ht]; simp [hr]
    rw [List.getElem?_take] at h1
    have h2 : r < l.length ∧ cur[r]? = some (.slice (A r) (l.getD r []).length (C r)) := by simpa using h1
    exact h2.2
theorem BD.push {B : Nat} {w w1 : World} {v v' : Value} {l : List (List Int)} {A : Nat → Option Addr} {C : Nat → Nat} {x : List Int} {a : Option Addr} {cp : Nat} (h : BD B w v l A C) (h0 : 0 < x.length) (hx : RW B w (.slice a x.length cp) x)
    (hfresh : ∀ r, r < l.length → A r ≠ a)
    (hown : w1.ownsRow B 27 1 v' (l.length + 1) (((List.range l.length).map fun r => .slice (A r) (l.getD r []).length (C r)) ++ [.slice a x.length cp])) (hg : (w.alloc (.cells #[.slice a x.length cp] 27)).grownBy w1 v.ownBlock) :
    BD B w1 v' (l ++ [x]) (fun r => if r = l.length then a else A r) (fun r => if r = l.length then cp else C r) := by
  have hkeep : ∀ (u : Value) (y : List Int), 0 < y.length → RW B w u y → RW B w1 u y := by
    intro u y hy hu
    refine World.ownsRow.kept (World.ownsRow.alloc hu _) hg ?_
    obtain ⟨g, cap, e, _, cs, hc, _⟩ := hu.form hy
    subst e
    refine .inr fun e => ?_
    rcases h.own.2 with ⟨rfl, _⟩ | ⟨g', cap', cur, rfl, _, hgg, _⟩
    · cases e
    · injection e with e
      have e : g = g' := e
      rw [← e, hc] at hgg
      injection hgg with hgg
      injection hgg with _ e2 _
      exact absurd e2 (by decide)
  have e4 : ∀ q, q < l.length → (l ++ [x]).getD q [] = l.getD q [] := fun q hq => by simp [List.getD, List.getElem?_append_left hq]
  have e5 : (l ++ [x]).getD l.length [] = x := by simp [List.getD]
  have e6 : (l ++ [x]).length = l.length + 1 := by simp
  refine ⟨?_, fun r hr => ?_, fun r r' hr hr' e => ?_⟩
  · rw [e6, List.range_succ, List.map_append]
    have e2 : (List.range l.length).map (fun r => Value.slice (if r = l.length then a else A r) ((l ++ [x]).getD r []).length (if r = l.length then cp else C r)) = (List.range l.length).map fun r => .slice (A r) (l.getD r []).length (C r) := by
      refine List.map_congr_left fun r hr => ?_
      have hr' := List.mem_range.1 hr
      rw [if_neg (by omega), if_neg (by omega), e4 r hr']
    rw [e2]
    simpa [e5] using hown
  · by_cases e : r = l.length
    · subst e
      rw [e5, if_pos rfl, if_pos rfl]
      exact ⟨h0, hkeep _ _ h0 hx⟩
    · rw [e6] at hr
      rw [e4 r (by omega), if_neg e, if_neg e]
      exact ⟨(h.rows r (by omega)).1, hkeep _ _ (h.rows r (by omega)).1 (h.rows r (by omega)).2⟩
  · rw [e6] at hr hr'
    by_cases e1 : r = l.length <;> by_cases e2 : r' = l.length
    · omega
    · rw [if_pos e1, if_neg e2] at e
      exact absurd e.symm (hfresh r' (by omega))
    · rw [if_neg e1, if_pos e2] at e
      exact absurd e (hfresh r (by omega))
    · rw [if_neg e1, if_neg e2] at e
      exact h.apart r r' (by omega) (by omega) e
theorem BD.fresh {B : Nat} {w : World} {v : Value} {l : List (List Int)} {A : Nat → Option Addr} {C : Nat → Nat} (h : BD B w v l A C) {a : Option Addr} {g : Nat} (ha : a = some ⟨g, 0, none⟩) (hg : w.heap.size ≤ g) : ∀ r, r < l.length → A r ≠ a := by
  intro r hr e
  obtain ⟨g', e', _, hw⟩ := h.row hr
  have := hw.lt
  rw [e', ha] at e
  injection e with e; injection e with e
  omega
theorem BD.matR {B : Nat} {w : World} {v : Value} {l : List (List Int)} {A : Nat → Option Addr} {C : Nat → Nat} (h : BD B w v l A C) : ∃ a cap, v = .slice a l.length cap ∧ MatR w a l := by
  by_cases h0 : 0 < l.length
  · obtain ⟨b, cap, cur, e, _, hg, hc⟩ := h.top h0
    refine ⟨_, cap, e, fun _ => ⟨b, 0, A, C, rfl, fun r hr => ⟨?_, fun h1 => ?_⟩⟩⟩
    · rw [Nat.zero_add]; simp [World.cell?, hg, hc r hr]
    · obtain ⟨g, e, _, hw⟩ := h.row hr
      exact ⟨g, 0, e, fun i hi => by rw [Nat.zero_add]; exact hw.cell hi⟩
  · rcases h.own.2 with ⟨hv, hn⟩ | ⟨g, cap, cur, e, _⟩
    · exact ⟨none, 0, by rw [hv, hn], fun h => absurd h h0⟩
    · exact ⟨_, cap, e, fun h => absurd h h0⟩

end Go.Proofs.Ytlgjplhffpmfpaa
end

section
namespace Go.Proofs.Ytlgjplhffpmfpaa
open Go.RowKit Go.Deep

theorem grown_drewN {a b : World} {row : Option Nat} (h : a.grownBy b row) (q : Nat) : a.grownBy (b.drewN q) row := ⟨h.os, h.tape, h.output, h.size, h.block⟩
theorem xor_i64_nat (a b : Nat) (ha : a < 2 ^ 62) (hb : b < 2 ^ 62) : bits .xor .i64 (a : Int) (b : Int) = ((a ^^^ b : Nat) : Int) := by
  have hx : a ^^^ b < 2 ^ 62 := Nat.xor_lt_two_pow ha hb
  have h1 : (BitVec.ofInt 64 (a : Int)).toNat = a := by
    rw [BitVec.ofInt_natCast, BitVec.toNat_ofNat]; exact Nat.mod_eq_of_lt (by omega)
  have h2 : (BitVec.ofInt 64 (b : Int)).toNat = b := by
    rw [BitVec.ofInt_natCast, BitVec.toNat_ofNat]; exact Nat.mod_eq_of_lt (by omega)
  show IntKind.i64.wrap ((BitVec.ofInt 64 (a : Int) ^^^ BitVec.ofInt 64 (b : Int)).toNat : Int) = _
  rw [BitVec.toNat_xor, h1, h2]
  exact IntWalk.i64_in _ ⟨by omega, by omega⟩

set_option maxRecDepth 100000 in
set_option maxHeartbeats 2000000 in
theorem pick_any (w0 w : World) (G n c p : Nat) (a : Option Addr) (m : Int) (h : RD w0 w G a n c 54 p) (hp : p ≤ 100000) :
    Calls Try.prog 37 #[.pointer (some ⟨G, 0, none⟩), .int .i64 m] w fun e w' => ∃ x : Nat, e = .returned (.int .i64 x) ∧ ((x : Int) < m ∨ x = 0) ∧ w.grownBy w' (some G) ∧ RD w0 w' G a n c 54 (p + 1) := by
  have e0 := h.cell0
  have e1 := h.cell1
  have e2 := h.free1
  have hs := h.set (p + 1)
  have hwp : IntKind.i64.wrap ((p : Int) + 1) = (p : Int) + 1 := IntWalk.i64_in _ ⟨by omega, by omega⟩
  have hc : ((p + 1 : Nat) : Int) = (p : Int) + 1 := by omega
  have hgr : w.grownBy (w.setCell ⟨G, 1, none⟩ (.int .i64 (p + 1 : Nat))) (some G) := ⟨rfl, rfl, rfl, by simp, fun k _ hk => Below.heap_setCell _ _ _ _ (fun e => hk (by rw [e]))⟩
  rw [hc] at hs hgr
  have s0 := hs.cell0
  have s1 := hs.cell1
  rw [hc] at s1
  have hsm := hs.small
  have hbb := hs.bytes.since hs.since
  have HS := Lib.hid hs
  have HG := Lib.hid hgr
  have HB := Lib.hid hbb
  clear hs hgr h hbb hc
  by_cases hm : m < 1
  · go_enter Try.func37, Try.ntmps37
    go_wp2
    go_wp2
    go_ret
    exact ⟨0, rfl, .inr rfl, HG.out, HS.out⟩
  · obtain ⟨M, rfl⟩ := Int.eq_ofNat_of_zero_le (show 0 ≤ m by omega)
    have hM1 : 1 ≤ M := by omega
    have hd : decide ((M : Int) < 1) = false := by simp; omega
    by_cases hn : n = 0
    · subst hn
      go_enter Try.func37, Try.ntmps37
      go_wp2
      go_wp2
      go_ret
      exact ⟨0, rfl, .inr rfl, HG.out, HS.out⟩
    · have hn1 : 1 ≤ n := by omega
      have hnb : ((n : Int) == 0) = false := by simp; omega
      obtain ⟨b, o, rfl, hb⟩ := HB.out (by omega)
      have hwm : IntKind.i64.wrap ((p : Int) + 1 - 1) = (p : Int) := by rw [show (p : Int) + 1 - 1 = p by omega]; exact IntWalk.i64_in _ ⟨by omega, by omega⟩
      by_cases hlt : p < n
      · obtain ⟨z, hz, hzc⟩ := hb p hlt
        have hl : decide ((p : Int) < n) = true := by simp; omega
        clear hb
        go_enter Try.func37, Try.ntmps37
        go_wp2
        go_ret
        exact ⟨z % M, rfl, .inl (by have := Nat.mod_lt z hM1; omega), HG.out, HS.out⟩
      · have hl : decide ((p : Int) < n) = false := by simp; omega
        obtain ⟨q1, hq1, hql1⟩ : ∃ q : Nat, (p : Int) % (n : Int) = q ∧ q < n := ⟨p % n, (Int.natCast_emod p n).symm, Nat.mod_lt _ (by omega)⟩
        obtain ⟨q2, hq2, hql2⟩ : ∃ q : Nat, ((p : Int) * 7 + 3) % (n : Int) = q ∧ q < n := ⟨(p * 7 + 3) % n, by rw [Int.natCast_emod]; simp, Nat.mod_lt _ (by omega)⟩
        obtain ⟨dd, hdd, hdl⟩ : ∃ q : Nat, (p : Int) / (n : Int) = q ∧ q ≤ p := ⟨p / n, (Int.natCast_ediv p n).symm, Nat.div_le_self _ _⟩
        obtain ⟨z1, hz1, hzc1⟩ := hb q1 hql1
        obtain ⟨z2, hz2, hzc2⟩ := hb q2 hql2
        clear hb
        have w1 : IntKind.i64.wrap ((p : Int) * 7) = (p : Int) * 7 := IntWalk.i64_in _ ⟨by omega, by omega⟩
        have w2 : IntKind.i64.wrap ((p : Int) * 7 + 3) = (p : Int) * 7 + 3 := IntWalk.i64_in _ ⟨by omega, by omega⟩
        have w3 : IntKind.i64.wrap ((z1 : Int) * 131) = (z1 : Int) * 131 := IntWalk.i64_in _ ⟨by omega, by omega⟩
        have w4 : IntKind.i64.wrap ((z2 : Int) * 1117) = (z2 : Int) * 1117 := IntWalk.i64_in _ ⟨by omega, by omega⟩
        have w5 : IntKind.i64.wrap ((z1 : Int) * 131 + (z2 : Int) * 1117) = (z1 : Int) * 131 + (z2 : Int) * 1117 := IntWalk.i64_in _ ⟨by omega, by omega⟩
        have w6 : IntKind.i64.wrap ((p : Int) * 29) = (p : Int) * 29 := IntWalk.i64_in _ ⟨by omega, by omega⟩
        have w7 : IntKind.i64.wrap ((z1 : Int) * 131 + (z2 : Int) * 1117 + (p : Int) * 29) = (z1 : Int) * 131 + (z2 : Int) * 1117 + (p : Int) * 29 := IntWalk.i64_in _ ⟨by omega, by omega⟩
        have w8 : IntKind.i64.wrap ((dd : Int) * 53) = (dd : Int) * 53 := IntWalk.i64_in _ ⟨by omega, by omega⟩
        have w9 : IntKind.i64.wrap ((z1 : Int) * 131 + (z2 : Int) * 1117 + (p : Int) * 29 + (dd : Int) * 53) = (z1 : Int) * 131 + (z2 : Int) * 1117 + (p : Int) * 29 + (dd : Int) * 53 := IntWalk.i64_in _ ⟨by omega, by omega⟩
        go_enter Try.func37, Try.ntmps37
        go_wp2
        go_quiet (fail)
        obtain ⟨X, hX⟩ : ∃ X : Nat, (z1 : Int) * 131 + (z2 : Int) * 1117 + (p : Int) * 29 + (dd : Int) * 53 = X := ⟨z1 * 131 + z2 * 1117 + p * 29 + dd * 53, by omega⟩
        have hx : bits .xor .i64 (X : Int) ((X : Int) / 64) = ((X ^^^ X / 64 : Nat) : Int) := by
          rw [show ((X : Int) / 64) = ((X / 64 : Nat) : Int) by omega]
          exact xor_i64_nat _ _ (by omega) (by omega)
        obtain ⟨y, hy⟩ : ∃ y : Nat, bits .xor .i64 (X : Int) ((X : Int) / 64) = y := ⟨_, hx⟩
        clear hx
        go_wp2
        go_ret
        exact ⟨y % M, rfl, .inl (by have := Nat.mod_lt y hM1; omega), grown_drewN HG.out nq, HS.out.later (since_drewN (World.Since.refl _ _) nq)⟩

end Go.Proofs.Ytlgjplhffpmfpaa
end

section
namespace Go.Proofs.Ytlgjplhffpmfpaa
open Go.RowKit Go.Deep

theorem grown_new {a b c : World} {G : Nat} {row : Option Nat} (h : a.grownBy b (some G)) (k : b.grownBy c row) (hr : ∀ i, row = some i → a.heap.size ≤ i) : a.grownBy c (some G) :=
  ⟨k.os.trans h.os, k.tape.trans h.tape, k.output.trans h.output, Nat.le_trans h.size k.size, fun i hi hn => (k.block i (Nat.lt_of_lt_of_le hi h.size) (fun e => by have := hr i e.symm; omega)).trans (h.block i hi hn)⟩
theorem grown_alloc {a b : World} {G : Nat} (h : a.grownBy b (some G)) (o : Obj) : a.grownBy (b.alloc o) (some G) := grown_new h (World.grownBy_alloc b o none) (fun i e => by cases e)
theorem grown_set {a b : World} {G : Nat} (h : a.grownBy b (some G)) {g k : Nat} (hg : a.heap.size ≤ g) (v : Value) : a.grownBy (b.setCell ⟨g, k, none⟩ v) (some G) :=
  grown_new h (row := some g) ⟨rfl, rfl, rfl, by simp, fun i _ hi => Below.heap_setCell _ _ _ _ (fun e => hi (by rw [e]))⟩ (fun i e => by cases e; exact hg)
theorem cell_grown {a b : World} {G : Nat} {p : Addr} {v : Value} (h : a.cell? p = some v) (hg : a.grownBy b (some G)) (hp : p.block ≠ G) : b.cell? p = some v := hg.cell h (fun e => hp (by injection e))
theorem cell_set_far {w : World} {g j : Nat} {v : Value} {p : Addr} {u : Value} (h : w.cell? p = some u) (hne : p.block ≠ g) : (w.setCell ⟨g, j, none⟩ v).cell? p = some u := by
  rw [World.cell?_setCell_other _ _ _ _ (fun e => hne (by rw [← e]))]; exact h

theorem wpList_append_int {P : Program} (w : World) {ops : Array Oper} {rest : List Oper} {o : Oper} {a : Act} {Q : Exit → Act → World → Prop} (hgd : o.guard = none) (s x : Operand) (t : TypeId)
    (ho : o.op = .call { callee := .builtin .append, args := #[s, x], argTypes := #[t, t] }) (B : Nat) (i : TypeInfo) (ht : P.underlying t = some (.slice 3)) (hi : P.info? 3 = some i) (hz : i.zero = some (.int .i64 0)) (hsz : i.size = 1) (hby : i.bytes = 8)
    (v : Value) (xs : List Int) (hs : a.eval s = v) (h : RW B w v xs) (y : Int) (hx : a.eval x = .slice (some ⟨w.heap.size, 0, none⟩) 1 1) (hlen : xs.length ≤ 1000) (hB : B ≤ w.heap.size)
    (hK : ∀ v' w', RW B w' v' (xs ++ [y]) → w.grownBy w' v.ownBlock → wpList P ops Q rest (a.put o.dst v') w') : wpList P ops Q (o :: rest) a (w.alloc (.cells #[.int .i64 y] 3)) := by
  refine wpList_append_own _ hgd s x t ho B 3 i (.int .i64 0) 1 8 ht hi hz hsz hby rfl (by decide) v xs.length (xs.map (Value.int .i64)) hs (World.ownsRow.alloc h _) ⟨w.heap.size, 0, none⟩ 1 1 [.int .i64 y] hx rfl (cell_one_at _ _ _ rfl) (fun u hu => by simp at hu; subst hu; rfl) (by unfold maxLen; omega) (by omega) (by simp; omega) ?_
  intro v' w' hown hg _
  refine hK v' w' ?_ ⟨hg.os, hg.tape, hg.output, by have := hg.size; simp at this; omega, fun j hj hn => (hg.block j (by simp; omega) hn).trans (Below.heap_alloc _ _ _ hj)⟩
  unfold RW
  rw [List.length_append, List.map_append]
  exact hown

theorem wpList_append_row {P : Program} (w : World) {ops : Array Oper} {rest : List Oper} {o : Oper} {a : Act} {Q : Exit → Act → World → Prop} (hgd : o.guard = none) (s x : Operand) (t : TypeId)
    (ho : o.op = .call { callee := .builtin .append, args := #[s, x], argTypes := #[t, t] }) (B B' : Nat) (i : TypeInfo) (ht : P.underlying t = some (.slice 27)) (hi : P.info? 27 = some i) (hz : i.zero = some (.slice none 0 0)) (hsz : i.size = 1) (hby : i.bytes = 24)
    (v : Value) (l : List (List Int)) (A : Nat → Option Addr) (C : Nat → Nat) (hs : a.eval s = v) (h : BD B w v l A C) (g cp m : Nat) (y : List Int) (hy : y.length = m) (h0 : 0 < m) (hr : RW B' w (.slice (some ⟨g, 0, none⟩) m cp) y) (hfresh : ∀ r, r < l.length → A r ≠ some ⟨g, 0, none⟩)
    (hBB : B ≤ B') (hx : a.eval x = .slice (some ⟨w.heap.size, 0, none⟩) 1 1) (hlen : l.length ≤ 1000) (hB : B ≤ w.heap.size)
    (hK : ∀ v' w' A' C', BD B w' v' (l ++ [y]) A' C' → w.grownBy w' v.ownBlock → wpList P ops Q rest (a.put o.dst v') w') : wpList P ops Q (o :: rest) a (w.alloc (.cells #[.slice (some ⟨g, 0, none⟩) m cp] 27)) := by
  subst hy
  refine wpList_append_own _ hgd s x t ho B 27 i (.slice none 0 0) 1 24 ht hi hz hsz hby rfl (by decide) v l.length _ hs (h.own.alloc _) ⟨w.heap.size, 0, none⟩ 1 1 [.slice (some ⟨g, 0, none⟩) y.length cp] hx rfl (cell_one_at _ _ _ rfl) (fun u hu => by simp at hu; subst hu; rfl) (by unfold maxLen; omega) (by omega) (by simp; omega) ?_
  intro v' w' hown hg _
  refine hK v' w' _ _ (h.push h0 (hr.base hBB) hfresh hown hg) ⟨hg.os, hg.tape, hg.output, by have := hg.size; simp at this; omega, fun j hj hn => (hg.block j (by simp; omega) hn).trans (Below.heap_alloc _ _ _ hj)⟩

end Go.Proofs.Ytlgjplhffpmfpaa
end

section
namespace Go.Proofs.Ytlgjplhffpmfpaa
open Go.RowKit Go.Deep

theorem RW.set' {B : Nat} {w : World} {g cap k m : Nat} {x : List Int} (hm : x.length = m) (h : RW B w (.slice (some ⟨g, 0, none⟩) m cap) x) (hk : k < m) (y : Int) : RW B (w.setCell ⟨g, k, none⟩ (.int .i64 y)) (.slice (some ⟨g, 0, none⟩) m cap) (x.set k y) := by
  subst hm; exact h.set hk y
theorem RW.rowB {B : Nat} {w : World} {g k cap : Nat} {x : List Int} (h : RW B w (.slice (some ⟨g, 0, none⟩) k cap) x) (h0 : 0 < x.length) : B ≤ g ∧ RowB w g x := by
  obtain ⟨g', cap', e, h1, h2⟩ := h.form h0
  injection e with e
  injection e with e
  injection e with e
  subst e
  exact ⟨h1, h2⟩
theorem grown_set_any (w : World) (g k : Nat) (v : Value) : w.grownBy (w.setCell ⟨g, k, none⟩ v) (some g) := ⟨rfl, rfl, rfl, by simp, fun i _ hi => Below.heap_setCell _ _ _ _ (fun e => hi (by rw [e]))⟩
theorem grown_undrew' {W w' : World} {row : Option Nat} (h : W.drew.grownBy w' row) : W.grownBy w' row := ⟨h.os, h.tape, h.output, h.size, h.block⟩
theorem lens_snoc {l : List (List Int)} {x : List Int} {r m : Nat} (hl : l.length = r) (h : ∀ j, j < r → (l.getD j []).length = m) (hx : x.length = m) : ∀ j, j < r + 1 → ((l ++ [x]).getD j []).length = m := by
  intro j hj
  by_cases e : j = r
  · subst e; subst hl; simpa [List.getD] using hx
  · rw [show (l ++ [x]).getD j [] = l.getD j [] by simp [List.getD, List.getElem?_append_left (show j < l.length by omega)]]
    exact h j (by omega)

set_option maxRecDepth 100000 in
set_option maxHeartbeats 8000000 in
theorem l91Table_any (w0 w : World) (G nb c p n m : Nat) (a : Option Addr) (h : RD w0 w G a nb c 54 p) (hn : n ≤ 10) (hm1 : 1 ≤ m) (hm : m ≤ 10) (hp : p ≤ 50000) :
    Calls Try.prog 76 #[.pointer (some ⟨G, 0, none⟩), .int .i64 n, .int .i64 m] w fun e w' => ∃ v l A C p', e = .returned v ∧ l.length = n ∧ (∀ j, j < n → (l.getD j []).length = m) ∧ w.grownBy w' (some G) ∧ RD w0 w' G a nb c 54 p' ∧ p' ≤ p + 500 ∧ BD w.heap.size w' v l A C := by
  obtain ⟨i42, hi42⟩ := info42_parts
  obtain ⟨i3, hi3⟩ := info3_parts
  have HI := Lib.hid hi42
  have HJ := Lib.hid hi3
  have hG := h.lt
  have HRD := Lib.hid h
  clear h hi42 hi3
  go_enter Try.func76, Try.ntmps76
  go_wp2_with fail
  refine (pick_any w0 _ G nb c _ a _ (HRD.out.grown (World.grownBy_alloc w _ none) (fun k e => by cases e)) (by omega)).mono ?_
  rintro e w1 ⟨κ, rfl, hκ, hg, hd⟩
  have hk : κ = 0 ∨ κ = 1 ∨ κ = 2 ∨ κ = 3 := by omega
  have HST := Lib.hid ((BD.start w (fun _ => none) (fun _ => 0) (Nat.le_refl _)).kept hg hG)
  have HG1 := Lib.hid (grown_trans (World.grownBy_alloc w _ _) hg)
  have HD1 := Lib.hid hd
  clear hg hd hκ HRD
  go_wp2
  go_loopg [7, 9, 10, 11, 12, 13] n (fun g v i _ _ _ _ wr => ∃ r A C p' l, r ≤ n ∧ g = n - r ∧ i = .int .i64 (r : Nat) ∧ List.length l = r ∧ (∀ j, j < r → (List.getD l j []).length = m) ∧ w.grownBy wr (some G) ∧ RD w0 wr G a nb c 54 p' ∧ p' ≤ p + 1 + 40 * r ∧ BD w.heap.size wr v l A C)
  case atStart => exact ⟨0, _, _, _, [], Nat.zero_le _, rfl, rfl, rfl, fun j hj => by omega, HG1.out, HD1.out, by omega, HST.out⟩
  case round =>
    obtain ⟨r, A, C, p', l, hr, rfl, rfl, hl, hlm, hgw, hd, hp', hB⟩ := hrel
    clear HST HG1 HD1
    by_cases hlt : r < n
    · have HB := Lib.hid hB
      have HGW := Lib.hid hgw
      have HD := Lib.hid hd
      have hzw := hgw.size
      obtain ⟨wo, hwo⟩ : ∃ wo : World, wo = wr := ⟨_, rfl⟩
      clear hB hgw hd
      go_wp2
      subst hwo
      go_loopg [10, 11, 12] m (fun g v k _ wi => ∃ q x p'', q ≤ m ∧ g = m - q ∧ k = .int .i64 (q : Nat) ∧ List.length x = q ∧ wo.grownBy wi (some G) ∧ RD w0 wi G a nb c 54 p'' ∧ p'' ≤ p' + 2 * q ∧ RW wo.heap.size wi v x)
      case atStart => exact ⟨0, [], p', Nat.zero_le _, rfl, rfl, rfl, World.grownBy_alloc _ _ _, HD.out.grown (World.grownBy_alloc _ _ none) (fun k e => by cases e), by omega, World.ownsRow_made wo #[] 0 (Nat.le_refl _) (Nat.zero_le _) rfl⟩
      case round =>
        obtain ⟨q, x, p'', hq, rfl, rfl, hxl, hgi, hdi, hp'', hW⟩ := hrel
        clear HD
        have HD := Lib.hid hdi
        have HG := Lib.hid hgi
        have HW := Lib.hid hW
        have hz1 := hgi.size
        clear hdi hgi hW
        by_cases hlq : q < m
        · rcases hk with rfl | rfl | rfl | rfl
          all_goals
            go_wp2_with (first
              | (go_at_call 37; refine (pick_any w0 _ G nb c _ a _ HD.out (by omega)).mono ?_; rintro e w2 ⟨y, rfl, _, hg, hd⟩; have HW := Lib.hid (HW.out.kept hg (by omega)); have HG := Lib.hid (grown_trans HG.out hg); have HD := Lib.hid hd; have hz2 := HG.out.size; clear hd hg)
              | (at_builtin; (refine wpList_append_int _ rfl (.tmp 42) (.tmp 44) 27 rfl wo.heap.size i3 Try.underlying27 HJ.out.1 HJ.out.2.1 HJ.out.2.2.1 HJ.out.2.2.2 _ x rfl HW.out _ rfl (by omega) (by omega) ?_); intro v' w3 hrw hgr; have hge := fun i e => (World.ownsRow.lt HW.out i e).1; have HD := Lib.hid (HD.out.grown hgr (fun i e => by have := hge i e; omega)); have HG := Lib.hid (grown_new HG.out hgr hge); have HW := Lib.hid hrw; clear hgr hrw hge))
            go_roundg (m - (q + 1))
            case measure => omega
            case rel => exact ⟨q + 1, x ++ [_], _, by omega, rfl, by go_num, by rw [List.length_append, hxl]; rfl, HG.out, HD.out, by omega, HW.out⟩
        · have hqm : m = q := by omega
          subst hqm
          obtain ⟨g1, cp1, hv, hge, hrb⟩ := HW.out.form (by omega)
          rw [hxl] at hv
          subst hv
          clear hrb
          rcases hk with rfl | rfl | rfl | rfl
          · go_wp2_with (first
              | (at_builtin; (refine wpList_append_row _ rfl (.tmp 77) (.tmp 79) 23 rfl w.heap.size wo.heap.size i42 Try.underlying23 HI.out.1 HI.out.2.1 HI.out.2.2.1 HI.out.2.2.2 _ l A C rfl (HB.out.kept HG.out hG) g1 cp1 m x hxl (by omega) HW.out (HB.out.fresh rfl hge) hzw rfl (by omega) (by omega) ?_); intro v' w3 A' C' hbd hgr; have hbge := fun i e => (World.ownsRow.lt (HB.out.kept HG.out hG).own i e).1; have HD := Lib.hid (HD.out.grown hgr (fun i e => by have := hbge i e; omega)); have HGG := Lib.hid (grown_new (grown_trans HGW.out HG.out) hgr hbge); have HBD := Lib.hid hbd; clear hgr hbd hbge))
            go_roundg (n - (r + 1))
            case measure => omega
            case rel => exact ⟨r + 1, A', C', _, l ++ [x], by omega, rfl, by go_num, by rw [List.length_append, hl]; rfl, lens_snoc hl hlm hxl, HGG.out, HD.out, by omega, HBD.out⟩
          · go_wp2_with (first
              | (at_builtin; (refine wpList_append_row _ rfl (.tmp 77) (.tmp 79) 23 rfl w.heap.size wo.heap.size i42 Try.underlying23 HI.out.1 HI.out.2.1 HI.out.2.2.1 HI.out.2.2.2 _ l A C rfl (HB.out.kept HG.out hG) g1 cp1 m x hxl (by omega) HW.out (HB.out.fresh rfl hge) hzw rfl (by omega) (by omega) ?_); intro v' w3 A' C' hbd hgr; have hbge := fun i e => (World.ownsRow.lt (HB.out.kept HG.out hG).own i e).1; have HD := Lib.hid (HD.out.grown hgr (fun i e => by have := hbge i e; omega)); have HGG := Lib.hid (grown_new (grown_trans HGW.out HG.out) hgr hbge); have HBD := Lib.hid hbd; clear hgr hbd hbge))
            go_roundg (n - (r + 1))
            case measure => omega
            case rel => exact ⟨r + 1, A', C', _, l ++ [x], by omega, rfl, by go_num, by rw [List.length_append, hl]; rfl, lens_snoc hl hlm hxl, HGG.out, HD.out, by omega, HBD.out⟩
          · go_wp2_with (first
              | (at_builtin; (refine wpList_append_row _ rfl (.tmp 77) (.tmp 79) 23 rfl w.heap.size wo.heap.size i42 Try.underlying23 HI.out.1 HI.out.2.1 HI.out.2.2.1 HI.out.2.2.2 _ l A C rfl (HB.out.kept HG.out hG) g1 cp1 m x hxl (by omega) HW.out (HB.out.fresh rfl hge) hzw rfl (by omega) (by omega) ?_); intro v' w3 A' C' hbd hgr; have hbge := fun i e => (World.ownsRow.lt (HB.out.kept HG.out hG).own i e).1; have HD := Lib.hid (HD.out.grown hgr (fun i e => by have := hbge i e; omega)); have HGG := Lib.hid (grown_new (grown_trans HGW.out HG.out) hgr hbge); have HBD := Lib.hid hbd; clear hgr hbd hbge))
            go_roundg (n - (r + 1))
            case measure => omega
            case rel => exact ⟨r + 1, A', C', _, l ++ [x], by omega, rfl, by go_num, by rw [List.length_append, hl]; rfl, lens_snoc hl hlm hxl, HGG.out, HD.out, by omega, HBD.out⟩
          · by_cases hr0 : r = 0
            · have hr0' : decide ((0 : Int) < (r : Int)) = false := by simp; omega
              go_wp2_with (first
                | (at_builtin; (refine wpList_append_row _ rfl (.tmp 77) (.tmp 79) 23 rfl w.heap.size wo.heap.size i42 Try.underlying23 HI.out.1 HI.out.2.1 HI.out.2.2.1 HI.out.2.2.2 _ l A C rfl (HB.out.kept HG.out hG) g1 cp1 m x hxl (by omega) HW.out (HB.out.fresh rfl hge) hzw rfl (by omega) (by omega) ?_); intro v' w3 A' C' hbd hgr; have hbge := fun i e => (World.ownsRow.lt (HB.out.kept HG.out hG).own i e).1; have HD := Lib.hid (HD.out.grown hgr (fun i e => by have := hbge i e; omega)); have HGG := Lib.hid (grown_new (grown_trans HGW.out HG.out) hgr hbge); have HBD := Lib.hid hbd; clear hgr hbd hbge))
              go_roundg (n - (r + 1))
              case measure => omega
              case rel => exact ⟨r + 1, A', C', _, l ++ [x], by omega, rfl, by go_num, by rw [List.length_append, hl]; rfl, lens_snoc hl hlm hxl, HGG.out, HD.out, by omega, HBD.out⟩
            · have hr0' : decide ((0 : Int) < (r : Int)) = true := by simp; omega
              go_wp2_with fail
              refine (pick_any w0 _ G nb c _ a _ HD.out (by omega)).mono ?_
              rintro e w2 ⟨y, rfl, hy3, hg, hd⟩
              have HW := Lib.hid (HW.out.kept hg (by omega))
              have HG := Lib.hid (grown_trans HG.out hg)
              have HD := Lib.hid hd
              have hz2 := HG.out.size
              clear hd hg
              by_cases hy0 : y = 0
              · subst hy0
                obtain ⟨s, hs⟩ : ∃ s, r = s + 1 := ⟨r - 1, by omega⟩
                have hr1 : IntKind.i64.wrap ((r : Int) - 1) = (s : Int) := by rw [show (r : Int) - 1 = s by omega]; exact IntWalk.i64_in _ ⟨by omega, by omega⟩
                have hsr : s < r := by omega
                have HSS := Lib.hid hs
                clear hs
                obtain ⟨bb, cpp, cur, hv, hbb, hcur, hc⟩ := HB.out.top (by omega)
                rw [hl] at hv
                subst hv
                have ct := hc s (by omega)
                obtain ⟨g2, hA, hg2, hrb⟩ := HB.out.row (r := s) (by omega)
                rw [hlm s hsr, hA] at ct
                have t1 : wo.cell? ⟨bb, s, none⟩ = some (.slice (some ⟨g2, 0, none⟩) m (C s)) := by simp [World.cell?, hcur, ct]
                have lb : bb < wo.heap.size := (Array.getElem?_eq_some_iff.1 hcur).1
                have lg : g2 < wo.heap.size := hrb.lt
                have HT1 := Lib.hid t1
                have HRB := Lib.hid hrb
                have HA := Lib.hid hA
                have hls := hlm s hsr
                clear t1 hcur hc ct hrb hA
                go_wp2
                go_loopg [13] m (fun g k wi => ∃ q x p'', q ≤ m ∧ g = m - q ∧ k = .int .i64 (q : Nat) ∧ List.length x = m ∧ wo.grownBy wi (some G) ∧ RD w0 wi G a nb c 54 p'' ∧ p'' ≤ p' + 2 * m + 1 + q ∧ RW wo.heap.size wi (.slice (some ⟨g1, 0, none⟩) m cp1) x)
                case atStart => exact ⟨0, x, _, Nat.zero_le _, rfl, rfl, hxl, HG.out, HD.out, by omega, HW.out⟩
                case round =>
                  obtain ⟨q, x, p'', hq, rfl, rfl, hxl, hgi, hdi, hp'', hW⟩ := hrel
                  clear HD HG HW
                  have HD := Lib.hid hdi
                  have HG := Lib.hid hgi
                  have HW := Lib.hid hW
                  have hz1 := hgi.size
                  clear hdi hgi hW
                  by_cases hlq : q < m
                  · obtain ⟨z, hz⟩ : ∃ z, z = (l.getD s []).getD q 0 := ⟨_, rfl⟩
                    have q2 := HRB.out.cell (i := q) (by rw [hls]; exact hlq)
                    rw [← hz] at q2
                    have d1 := cell_grown HT1.out HG.out (show bb ≠ G by omega)
                    have d0 := cell_grown q2 HG.out (show g2 ≠ G by omega)
                    obtain ⟨hge2, hrw⟩ := HW.out.rowB (by omega)
                    have s1 := hrw.cell (i := q) (by omega)
                    have s2 := hrw.frozen q
                    clear q2 hz hrw
                    go_wp2
                    go_region_held3 (fun w' => w'.cell? ⟨bb, s, none⟩ = some (.slice (some ⟨g2, 0, none⟩) m (C s)) ∧ w'.cell? ⟨g2, q, none⟩ = some (.int .i64 z))
                      (first | exact ⟨d1, d0⟩ | exact ⟨q1, q0⟩ | exact ⟨cell_set_far q1 (by show bb ≠ g1; omega), cell_set_far q0 (by show g2 ≠ g1; omega)⟩)
                      (first
                        | (go_at_call 37; refine (pick_any w0 _ G nb c _ a _ (HD.out.later (World.Since.refl _ _).drew) (by omega)).mono ?_; rintro e w3 ⟨y3, rfl, _, hg, hd⟩; have hg := grown_undrew' hg; have HW := Lib.hid (HW.out.kept hg (by omega)); have HG := Lib.hid (grown_trans HG.out hg); have HD := Lib.hid hd; have q1 := cell_grown d1 hg (show bb ≠ G by omega); have q0 := cell_grown d0 hg (show g2 ≠ G by omega); have k1 := cell_grown s1 hg (show g1 ≠ G by omega); have k2 : w3.frozen? ⟨g1, q, none⟩ = false := (World.frozen?_of_block (hg.block g1 (World.block_lt_of_cell? _ _ s1) (fun e => by injection e with e; omega))).trans s2; clear hg hd))
                    clear d1 d0 q1 q0 k1 k2 s1 s2
                    go_wp2
                    go_roundg (m - (q + 1))
                    case measure => omega
                    case rel => exact ⟨q + 1, x.set q _, _, by omega, rfl, by go_num, by rw [List.length_set]; exact hxl, grown_set HG.out hge2 _, HD.out.grown (row := some g1) (grown_set_any _ _ _ _) (fun i e => by cases e; omega), by omega, RW.set' hxl HW.out hlq _⟩
                  · have hqm : m = q := by omega
                    subst hqm
                    go_wp2_with (first
                      | (at_builtin; (refine wpList_append_row _ rfl (.tmp 77) (.tmp 79) 23 rfl w.heap.size wo.heap.size i42 Try.underlying23 HI.out.1 HI.out.2.1 HI.out.2.2.1 HI.out.2.2.2 _ l A C rfl (HB.out.kept HG.out hG) g1 cp1 m x hxl (by omega) HW.out (HB.out.fresh rfl hge) hzw rfl (by omega) (by omega) ?_); intro v' w3 A' C' hbd hgr; have hbge := fun i e => (World.ownsRow.lt (HB.out.kept HG.out hG).own i e).1; have HD := Lib.hid (HD.out.grown hgr (fun i e => by have := hbge i e; omega)); have HGG := Lib.hid (grown_new (grown_trans HGW.out HG.out) hgr hbge); have HBD := Lib.hid hbd; clear hgr hbd hbge))
                    go_roundg (n - (r + 1))
                    case measure => omega
                    case rel => exact ⟨r + 1, A', C', _, l ++ [x], by omega, rfl, by go_num, by rw [List.length_append, hl]; rfl, lens_snoc hl hlm hxl, HGG.out, HD.out, by omega, HBD.out⟩
              · have hy0' : ((y : Int) == 0) = false := by simp; omega
                go_wp2_with (first
                  | (at_builtin; (refine wpList_append_row _ rfl (.tmp 77) (.tmp 79) 23 rfl w.heap.size wo.heap.size i42 Try.underlying23 HI.out.1 HI.out.2.1 HI.out.2.2.1 HI.out.2.2.2 _ l A C rfl (HB.out.kept HG.out hG) g1 cp1 m x hxl (by omega) HW.out (HB.out.fresh rfl hge) hzw rfl (by omega) (by omega) ?_); intro v' w3 A' C' hbd hgr; have hbge := fun i e => (World.ownsRow.lt (HB.out.kept HG.out hG).own i e).1; have HD := Lib.hid (HD.out.grown hgr (fun i e => by have := hbge i e; omega)); have HGG := Lib.hid (grown_new (grown_trans HGW.out HG.out) hgr hbge); have HBD := Lib.hid hbd; clear hgr hbd hbge))
                go_roundg (n - (r + 1))
                case measure => omega
                case rel => exact ⟨r + 1, A', C', _, l ++ [x], by omega, rfl, by go_num, by rw [List.length_append, hl]; rfl, lens_snoc hl hlm hxl, HGG.out, HD.out, by omega, HBD.out⟩
    · have : r = n := by omega
      subst this
      go_wp2
      go_ret
      exact ⟨_, l, A, C, p', rfl, hl, hlm, hgw, hd, by omega, hB⟩

end Go.Proofs.Ytlgjplhffpmfpaa
end

section
namespace Go.Proofs.Ytlgjplhffpmfpaa
open Go.RowKit Go.Deep

theorem BD.inT {B : Nat} {w : World} {v : Value} {l : List (List Int)} {A : Nat → Option Addr} {C : Nat → Nat} (h : BD B w v l A C) : ∃ a cap, v = .slice a l.length cap ∧ InT B w.heap.size w a l := by
  by_cases h0 : 0 < l.length
  · obtain ⟨b, cap, cur, e, hb, hg, hc⟩ := h.top h0
    refine ⟨_, cap, e, fun _ => ⟨b, 0, A, fun r => ((A r).getD default).block, fun _ => 0, C, rfl, ⟨hb, (Array.getElem?_eq_some_iff.1 hg).1⟩, fun r hr => ⟨?_, fun h1 => ?_⟩⟩⟩
    · rw [Nat.zero_add]; simp [World.cell?, hg, hc r hr]
    · obtain ⟨g, e, hB, hw⟩ := h.row hr
      have e' : ((A r).getD default).block = g := by rw [e]; rfl
      dsimp only
      rw [e']
      exact ⟨e, ⟨hB, hw.lt⟩, fun i hi => by rw [Nat.zero_add]; exact hw.cell hi⟩
  · rcases h.own.2 with ⟨hv, hn⟩ | ⟨g, cap, cur, e, _⟩
    · exact ⟨none, 0, by rw [hv, hn], fun h => absurd h h0⟩
    · exact ⟨_, cap, e, fun h => absurd h h0⟩

theorem BD.row_ne {B : Nat} {w : World} {l : List (List Int)} {A : Nat → Option Addr} {C : Nat → Nat} {b cap n : Nat} (h : BD B w (.slice (some ⟨b, 0, none⟩) n cap) l A C) {g : Nat} {x : List Int} (hw : RowB w g x) : g ≠ b := by
  rintro rfl
  obtain ⟨cs, hc, _⟩ := hw
  rcases h.own.2 with ⟨e, _⟩ | ⟨g', cap', cur, e, _, hgg, _⟩
  · cases e
  · injection e with e
    injection e with e
    injection e with e
    rw [← e, hc] at hgg
    injection hgg with hgg
    injection hgg with _ e2 _
    exact absurd e2 (by decide)

theorem BD.addr_ne {B : Nat} {w : World} {v : Value} {l : List (List Int)} {A : Nat → Option Addr} {C : Nat → Nat} (h : BD B w v l A C) {r j g g' : Nat} (hr : r < l.length) (hj : j < l.length) (hA : A r = some ⟨g, 0, none⟩) (hA' : A j = some ⟨g', 0, none⟩) (hne : j ≠ r) : g' ≠ g := by
  rintro rfl
  exact hne (h.apart j r hj hr (by rw [hA, hA']))

theorem BD.cellTop {B : Nat} {w : World} {l : List (List Int)} {A : Nat → Option Addr} {C : Nat → Nat} {b cap n : Nat} (h : BD B w (.slice (some ⟨b, 0, none⟩) n cap) l A C) {r : Nat} (hr : r < l.length) :
    w.cell? ⟨b, r, none⟩ = some (.slice (A r) (l.getD r []).length (C r)) ∧ w.frozen? ⟨b, r, none⟩ = false ∧ b < w.heap.size := by
  obtain ⟨b', cp', cur, hv, _, hcur, hc⟩ := h.top (by omega)
  injection hv with hv _ _
  injection hv with hv
  injection hv with hv
  subst hv
  exact ⟨by simp [World.cell?, hcur, hc r hr], by simp [World.frozen?, hcur], (Array.getElem?_eq_some_iff.1 hcur).1⟩

theorem BD.setRow {B : Nat} {w w5 : World} {l : List (List Int)} {A : Nat → Option Addr} {C : Nat → Nat} {b cap n : Nat} (h : BD B w (.slice (some ⟨b, 0, none⟩) n cap) l A C) {r g : Nat} (hr : r < l.length) (hA : A r = some ⟨g, 0, none⟩) (hg : w.grownBy w5 (some g)) {g2 cp k : Nat} {y : List Int}
    (hy : RW B w5 (.slice (some ⟨g2, 0, none⟩) k cp) y) (hk : y.length = k) (h0 : 0 < k) : InT B w5.heap.size (w5.setCell ⟨b, r, none⟩ (.slice (some ⟨g2, 0, none⟩) k cp)) (some ⟨b, 0, none⟩) (l.set r y) := by
  subst hk
  obtain ⟨b', cap', cur, e, hb, hcur, hc⟩ := h.top (by omega)
  injection e with e en _
  injection e with e
  injection e with e
  subst e
  obtain ⟨g', hA', hBg, hrb⟩ := h.row hr
  rw [hA] at hA'
  injection hA' with hA'
  injection hA' with hA'
  subst hA'
  have hgb := h.row_ne hrb
  have hbl : b < w.heap.size := (Array.getElem?_eq_some_iff.1 hcur).1
  have hcur5 : w5.heap[b]? = some (.cells cur 27 (0, 0)) := (hg.block b hbl (fun e => by injection e with e; omega)).trans hcur
  obtain ⟨hB2, hrb2⟩ := hy.rowB h0
  have hg2b : g2 ≠ b := by
    rintro rfl
    obtain ⟨cs, h1, _⟩ := hrb2
    rw [h1] at hcur5
    injection hcur5 with h2
    injection h2 with _ h2 _
    exact absurd h2 (by decide)
  have hbl5 : b < w5.heap.size := (Array.getElem?_eq_some_iff.1 hcur5).1
  intro _
  refine ⟨b, 0, fun j => if j = r then some ⟨g2, 0, none⟩ else A j, fun j => if j = r then g2 else ((A j).getD default).block, fun _ => 0, fun j => if j = r then cp else C j, rfl, ⟨hb, hbl5⟩, fun j hj => ?_⟩
  rw [List.length_set] at hj
  show (w5.setCell ⟨b, r, none⟩ _).cell? ⟨b, 0 + j, none⟩ = _ ∧ _
  rw [Nat.zero_add]
  by_cases ej : j = r
  · subst ej
    have e1 : (l.set j y).getD j [] = y := by simp [List.getD, hj]
    rw [e1]
    simp only [↓reduceIte]
    refine ⟨World.cell?_setCell_same' _ _ _ (by simp [World.cell?, hcur5, hc j hj]), fun _ => ⟨trivial, ⟨hB2, hrb2.lt⟩, fun i hi => ?_⟩⟩
    rw [Nat.zero_add]
    exact cell_set_far (hrb2.cell hi) hg2b
  · have e1 : (l.set r y).getD j [] = l.getD j [] := by simp [List.getD, List.getElem?_set_ne (Ne.symm ej)]
    rw [e1]
    simp only [if_neg ej]
    obtain ⟨gj, hAj, hBj, hrbj⟩ := h.row hj
    have hgj := h.addr_ne hr hj hA hAj ej
    have hrb5 : RowB w5 gj (l.getD j []) := hrbj.of_block (hg.block gj hrbj.lt (fun e => by injection e with e; omega))
    have hgjb := h.row_ne hrbj
    refine ⟨?_, fun _ => ?_⟩
    · rw [World.cell?_setCell_other _ _ _ _ (fun e => ej (by injection e with _ e; exact e.symm))]
      simp [World.cell?, hcur5, hc j hj]
    · have e' : ((A j).getD default).block = gj := by rw [hAj]; rfl
      rw [e']
      exact ⟨hAj, ⟨hBj, hrb5.lt⟩, fun i hi => by rw [Nat.zero_add]; exact cell_set_far (hrb5.cell hi) hgjb⟩

theorem BD.setNum {B : Nat} {w : World} {l : List (List Int)} {A : Nat → Option Addr} {C : Nat → Nat} {b cap n : Nat} (h : BD B w (.slice (some ⟨b, 0, none⟩) n cap) l A C) {r g k : Nat} (hr : r < l.length) (hA : A r = some ⟨g, 0, none⟩) (hk : k < (l.getD r []).length) (z : Int) :
    InT B w.heap.size (w.setCell ⟨g, k, none⟩ (.int .i64 z)) (some ⟨b, 0, none⟩) (l.set r ((l.getD r []).set k z)) := by
  obtain ⟨b', cap', cur, e, hb, hcur, hc⟩ := h.top (by omega)
  injection e with e en _
  injection e with e
  injection e with e
  subst e
  obtain ⟨g', hA', hBg, hrb⟩ := h.row hr
  rw [hA] at hA'
  injection hA' with hA'
  injection hA' with hA'
  subst hA'
  have hgb := h.row_ne hrb
  intro _
  refine ⟨b, 0, A, fun j => ((A j).getD default).block, fun _ => 0, C, rfl, ⟨hb, (Array.getElem?_eq_some_iff.1 hcur).1⟩, fun j hj => ?_⟩
  rw [List.length_set] at hj
  show (w.setCell ⟨g, k, none⟩ _).cell? ⟨b, 0 + j, none⟩ = _ ∧ _
  rw [Nat.zero_add]
  have hlen : ((l.set r ((l.getD r []).set k z)).getD j []).length = (l.getD j []).length := by
    by_cases ej : j = r
    · subst ej; simp [List.getD, hj]
    · simp [List.getD, List.getElem?_set_ne (Ne.symm ej)]
  rw [hlen]
  refine ⟨cell_set_far (by simp [World.cell?, hcur, hc j hj]) (Ne.symm hgb), fun _ => ?_⟩
  obtain ⟨gj, hAj, hBj, hrbj⟩ := h.row hj
  have e' : ((A j).getD default).block = gj := by rw [hAj]; rfl
  dsimp only
  rw [e']
  refine ⟨hAj, ⟨hBj, hrbj.lt⟩, fun i hi => ?_⟩
  rw [Nat.zero_add]
  by_cases ej : j = r
  · subst ej
    rw [hA] at hAj
    injection hAj with hAj
    injection hAj with hAj
    subst hAj
    have e1 : (l.set j ((l.getD j []).set k z)).getD j [] = (l.getD j []).set k z := by simp [List.getD, hj]
    rw [e1]
    by_cases ei : i = k
    · subst ei
      rw [World.cell?_setCell_same' _ _ _ (by rw [hrbj.cell hi]; rfl)]
      simp [List.getD] at hi ⊢
      simp [hi]
    · rw [World.cell?_setCell_other _ _ _ _ (fun e => ei (by injection e with _ e; exact e.symm)), hrbj.cell hi]
      simp [List.getD, List.getElem?_set_ne (Ne.symm ei)]
  · have hgj := h.addr_ne hr hj hA hAj ej
    have e1 : (l.set r ((l.getD r []).set k z)).getD j [] = l.getD j [] := by simp [List.getD, List.getElem?_set_ne (Ne.symm ej)]
    rw [e1]
    exact cell_set_far (hrbj.cell hi) hgj

theorem InT.kept {lo hi : Nat} {w w' : World} {a : Option Addr} {l : List (List Int)} {G : Nat} (h : InT lo hi w a l) (hg : w.grownBy w' (some G)) (hG : G < lo) : InT lo hi w' a l :=
  h.frame (lo' := G) (hi' := G + 1) ⟨hg.os, hg.tape, hg.output, hg.size, fun k hk ho => hg.block k hk (fun e => by injection e with e; omega)⟩ (.inr (by omega))

end Go.Proofs.Ytlgjplhffpmfpaa
end

section
namespace Go.Proofs.Ytlgjplhffpmfpaa
open Go.RowKit Go.Deep

def Drawn0 (w w' : World) (R K : Nat) (a : Option Addr) (l : List (List Int)) : Prop :=
  1 ≤ l.length ∧ l.length ≤ R ∧ (∀ j, j < l.length → 1 ≤ (l.getD j []).length ∧ (l.getD j []).length ≤ K + 1) ∧ InT w.heap.size w'.heap.size w' a l

theorem lens_set {l : List (List Int)} {r : Nat} {y : List Int} {n m K : Nat} (hl : l.length = n) (h : ∀ j, j < n → (l.getD j []).length = m) (hm : 1 ≤ m ∧ m ≤ K) (hy : 1 ≤ y.length ∧ y.length ≤ K + 1) : ∀ j, j < (l.set r y).length → 1 ≤ ((l.set r y).getD j []).length ∧ ((l.set r y).getD j []).length ≤ K + 1 := by
  intro j hj
  rw [List.length_set] at hj
  by_cases e : j = r
  · subst e
    rw [show (l.set j y).getD j [] = y by simp [List.getD, hj]]
    exact hy
  · rw [show (l.set r y).getD j [] = l.getD j [] by simp [List.getD, List.getElem?_set_ne (Ne.symm e)], h j (by omega)]
    omega

set_option maxRecDepth 100000 in
set_option maxHeartbeats 4000000 in
theorem l91Some_any (w0 w : World) (G nb c p R K : Nat) (a : Option Addr) (h : RD w0 w G a nb c 54 p) (hR1 : 1 ≤ R) (hR : R ≤ 8) (hK1 : 1 ≤ K) (hK : K ≤ 8) (hp : p ≤ 40000) :
    Calls Try.prog 59 #[.pointer (some ⟨G, 0, none⟩), .int .i64 R, .int .i64 K] w fun e w' => ∃ a' cap l p', e = .returned (.slice a' l.length cap) ∧ w.grownBy w' (some G) ∧ RD w0 w' G a nb c 54 p' ∧ p' ≤ p + 600 ∧ Drawn0 w w' R K a' l := by
  obtain ⟨i3, hi3⟩ := info3_parts
  have HJ := Lib.hid hi3
  have hG := h.lt
  have HRD := Lib.hid h
  clear h hi3
  go_enter Try.func59, Try.ntmps59
  go_wp2_with fail
  refine (pick_any w0 _ G nb c _ a _ HRD.out (by omega)).mono ?_
  rintro e w1 ⟨y1, rfl, hy1, hg1, hd1⟩
  obtain ⟨n, hn, hnn⟩ : ∃ n : Nat, IntKind.i64.wrap (1 + (y1 : Int)) = n ∧ n = y1 + 1 := ⟨y1 + 1, (IntWalk.i64_in _ ⟨by omega, by omega⟩).trans (by omega), rfl⟩
  have hn1 : 1 ≤ n ∧ n ≤ R := by omega
  have HD1 := Lib.hid hd1
  have HG1 := Lib.hid hg1
  clear hd1 hg1 hnn hy1 HRD
  go_wp2_with fail
  refine (pick_any w0 _ G nb c _ a _ HD1.out (by omega)).mono ?_
  rintro e w2 ⟨y2, rfl, hy2, hg2, hd2⟩
  obtain ⟨m, hm, hmm⟩ : ∃ m : Nat, IntKind.i64.wrap (1 + (y2 : Int)) = m ∧ m = y2 + 1 := ⟨y2 + 1, (IntWalk.i64_in _ ⟨by omega, by omega⟩).trans (by omega), rfl⟩
  have hm1 : 1 ≤ m ∧ m ≤ K := by omega
  have HD2 := Lib.hid hd2
  have HG2 := Lib.hid (grown_trans HG1.out hg2)
  clear hd2 hg2 hmm hy2 HD1 HG1
  go_wp2_with fail
  refine (l91Table_any w0 _ G nb c _ n m a HD2.out (by omega) (by omega) (by omega) (by omega)).mono ?_
  rintro e w3 ⟨v, l, A, C, p3, rfl, hl, hlm, hg3, hd3, hp3, hB⟩
  obtain ⟨b, cp, cur, hv, hbb, hcur, hc⟩ := hB.top (by omega)
  rw [hl] at hv
  subst hv
  have hG2 := HG2.out.size
  have HD3 := Lib.hid hd3
  have HG3 := Lib.hid (grown_trans HG2.out hg3)
  have HB := Lib.hid hB
  clear hd3 hg3 hcur hc hB HD2
  go_wp2_with fail
  refine (pick_any w0 _ G nb c _ a _ HD3.out (by omega)).mono ?_
  rintro e w4 ⟨y4, rfl, hy4, hg4, hd4⟩
  have HG4 := Lib.hid (grown_trans HG3.out hg4)
  have HB4 := Lib.hid (HB.out.kept hg4 (by omega))
  have HD4 := Lib.hid hd4
  have hz4 := HG4.out.size
  clear hd4 hg4 HB HG3 HD3 hy4
  obtain ⟨g0, hA0, hg0, hrb0⟩ := HB4.out.row (r := 0) (by omega)
  by_cases hy0 : y4 = 0
  · subst hy0
    obtain ⟨t1, _, _⟩ := HB4.out.cellTop (r := 0) (by omega)
    rw [hlm 0 (by omega), hA0] at t1
    have t2 := hrb0.cell (i := 0) (by rw [hlm 0 (by omega)]; omega)
    have t3 := hrb0.frozen 0
    have hIT := HB4.out.setNum (r := 0) (k := 0) (by omega) hA0 (by rw [hlm 0 (by omega)]; omega) 31
    have hll : (l.set 0 ((l.getD 0 []).set 0 31)).length = n := by rw [List.length_set]; exact hl
    have hlens := lens_set (r := 0) (y := (l.getD 0 []).set 0 31) hl hlm hm1 (by rw [List.length_set, hlm 0 (by omega)]; omega)
    have HIT := Lib.hid hIT
    have HLL := Lib.hid hll
    have HLENS := Lib.hid hlens
    have HGS := Lib.hid (grown_set HG4.out (show w.heap.size ≤ g0 by omega) (k := 0) (.int .i64 31))
    have HDS := Lib.hid (HD4.out.grown (grown_set_any w4 g0 0 (.int .i64 31)) (fun i e => by cases e; omega))
    have p1 : 0 < n := by omega
    have p2 : 0 < m := by omega
    clear hrb0 hIT hll hlens hA0 hlm hl
    go_wp2
    go_ret
    exact ⟨_, _, l.set 0 ((l.getD 0 []).set 0 31), _, by rw [HLL.out]; rfl, HGS.out, HDS.out, by omega, by rw [HLL.out]; omega, by rw [HLL.out]; omega, HLENS.out, HIT.out.mono hG2 (by simp)⟩
  · clear hrb0 hA0 hg0
    by_cases hy1 : y4 = 1
    · subst hy1
      obtain ⟨s, hs⟩ : ∃ s, n = s + 1 := ⟨n - 1, by omega⟩
      have hr1 : IntKind.i64.wrap ((n : Int) - 1) = (s : Int) := by rw [show (n : Int) - 1 = s by omega]; exact IntWalk.i64_in _ ⟨by omega, by omega⟩
      have hsr : s < n := by omega
      clear hs
      obtain ⟨g1, hA, hg1, hrb⟩ := HB4.out.row (r := s) (by omega)
      obtain ⟨t1, t2, lb⟩ := HB4.out.cellTop (r := s) (by omega)
      have hRW := (HB4.out.rows s (by omega)).2
      have hls := hlm s hsr
      rw [hls, hA] at t1 hRW
      have hgb := HB4.out.row_ne hrb
      obtain ⟨x, hx⟩ : ∃ x, x = l.getD s [] := ⟨_, rfl⟩
      rw [← hx] at hRW hls
      have HRW := Lib.hid hRW
      have HA := Lib.hid hA
      have HL := Lib.hid hl
      have HLM := Lib.hid hlm
      have t1a := fun ob => cell_alloc_l ob t1
      clear hRW hrb hA hl hlm hx
      go_wp2_with (first
        | (at_builtin; (refine wpList_append_int _ rfl (.tmp 37) (.tmp 38) 27 rfl w2.heap.size i3 Try.underlying27 HJ.out.1 HJ.out.2.1 HJ.out.2.2.1 HJ.out.2.2.2 _ x rfl HRW.out 0 rfl (by omega) (by omega) ?_); intro v' w5 hrw hgr; have hgr : w4.grownBy w5 (some g1) := hgr; obtain ⟨g2, cp2, hv2, hg2b, hrb2⟩ := hrw.form (by simp); rw [show (x ++ [(0 : Int)]).length = m + 1 by rw [List.length_append, hls]; rfl] at hv2; subst hv2; have k1 := hgr.cell t1 (fun e => hgb (by injection e with e; exact e.symm)); have k2 : w5.frozen? ⟨b, s, none⟩ = false := (World.frozen?_of_block (hgr.block b lb (fun e => hgb (by injection e with e; exact e.symm)))).trans t2; have HRW2 := Lib.hid hrw; have HGR := Lib.hid hgr; clear hrw hgr hrb2))
      have hl2 : (x ++ [(0 : Int)]).length = m + 1 := by rw [List.length_append, hls]; rfl
      have hIT := HB4.out.setRow (r := s) (by rw [HL.out]; exact hsr) HA.out HGR.out HRW2.out hl2 (by omega)
      have hll : (l.set s (x ++ [0])).length = n := by rw [List.length_set]; exact HL.out
      have hlens := lens_set (r := s) (y := x ++ [0]) HL.out HLM.out hm1 (by rw [hl2]; omega)
      have hgs := grown_set (grown_new HG4.out HGR.out (fun i e => by cases e; omega)) (show w.heap.size ≤ b by omega) (k := s) (.slice (some ⟨g2, 0, none⟩) (m + 1) cp2)
      have hds := (HD4.out.grown HGR.out (fun i e => by cases e; omega)).grown (grown_set_any w5 b s (.slice (some ⟨g2, 0, none⟩) (m + 1) cp2)) (fun i e => by cases e; omega)
      go_ret
      exact ⟨_, _, l.set s (x ++ [0]), _, by rw [hll]; rfl, hgs, hds, by omega, by rw [hll]; omega, by rw [hll]; omega, hlens, hIT.mono hG2 (by simp)⟩
    · have h1 : ((y4 : Int) == 0) = false := by simp; omega
      have h2 : ((y4 : Int) == 1) = false := by simp; omega
      obtain ⟨a', cap', hv, hIT⟩ := HB4.out.inT
      rw [hl] at hv
      injection hv with hv _ _
      subst hv
      have HL := Lib.hid hl
      have HLM := Lib.hid hlm
      have HIT := Lib.hid hIT
      clear hl hlm hIT
      go_wp2
      go_ret
      exact ⟨_, _, l, _, by rw [HL.out]; rfl, HG4.out, HD4.out, by omega, by rw [HL.out]; omega, by rw [HL.out]; omega, fun j hj => by rw [HLM.out j (by rw [← HL.out]; exact hj)]; omega, HIT.out.mono hG2 (Nat.le_refl _)⟩

end Go.Proofs.Ytlgjplhffpmfpaa
end

section
namespace Go.Proofs.Ytlgjplhffpmfpaa
open Go.RowKit Go.Deep

set_option maxHeartbeats 1000000 in
theorem l6Open_any (a : Option Addr) (nb cb : Nat) (w : World) (hc : nb ≤ cb) (h63 : cb ≤ 9223372036854775807) (hb : BytR w a nb) :
    Calls Try.prog 35 #[.slice a nb cb] w fun e w' => ∃ n' c', e = .returned (.pointer (some ⟨w.heap.size, 0, none⟩)) ∧ w.Since w.heap.size w' ∧ w'.heap.size = w.heap.size + 1 ∧ RD w w' w.heap.size a n' c' 54 0 := by
  by_cases hl : 2000 < nb
  · have hl' : decide ((2000 : Int) < (nb : Int)) = true := by simp; omega
    have h2 : (2000 : Int) ≤ (cb : Int) := by omega
    obtain ⟨b, o, rfl, hcell⟩ := hb (by omega)
    go_enter Try.func35, Try.ntmps35
    go_wp2
    go_ret
    exact ⟨_, _, rfl, (World.Since.refl _ _).alloc (Nat.le_refl _) _, by simp, ⟨heap_alloc_new _ _, Nat.le_refl _, (World.Since.refl _ _).alloc (Nat.le_refl _) _, fun _ => ⟨b, o, rfl, fun i hi => hcell i (by omega)⟩, by omega⟩⟩
  · have hl' : decide ((2000 : Int) < (nb : Int)) = false := by simp; omega
    go_enter Try.func35, Try.ntmps35
    go_wp2
    go_ret
    exact ⟨_, _, rfl, (World.Since.refl _ _).alloc (Nat.le_refl _) _, by simp, ⟨heap_alloc_new _ _, Nat.le_refl _, (World.Since.refl _ _).alloc (Nat.le_refl _) _, hb, by omega⟩⟩

def DrawnT (w w' : World) (R K : Nat) (a : Option Addr) (l : List (List Int)) : Prop :=
  1 ≤ l.length ∧ l.length ≤ R ∧ (∀ j, j < l.length → 1 ≤ (l.getD j []).length ∧ (l.getD j []).length ≤ K + 1) ∧ InT w.heap.size w'.heap.size w' a l

end Go.Proofs.Ytlgjplhffpmfpaa
end

section
namespace Go.Proofs.Ytlgjplhffpmfpaa
open Go.RowKit Go.Deep

def CW (B : Nat) (w : World) (v : Value) (cs : List RC) : Prop := w.ownsRow B 71 3 v cs.length (ch3 cs)
theorem CW.kept {B : Nat} {w w' : World} {v : Value} {cs : List RC} {G : Nat} (h : CW B w v cs) (hg : w.grownBy w' (some G)) (hG : G < B) : CW B w' v cs :=
  World.ownsRow.kept h hg (by
    cases hv : v.ownBlock with
    | none => exact .inl rfl
    | some k => exact .inr (fun e => by injection e with e; have := (World.ownsRow.lt h k hv).1; omega))
theorem CW.alloc {B : Nat} {w : World} {v : Value} {cs : List RC} (h : CW B w v cs) (o : Obj) : CW B (w.alloc o) v cs :=
  World.ownsRow.kept h (row := none) (World.grownBy_alloc w o none) (by
    cases hv : v.ownBlock with
    | none => exact .inl rfl
    | some k => exact .inr (by simp))
theorem CW.snoc {B : Nat} {w : World} {v : Value} {cs : List RC} {c : RC} {n : Nat} (hn : n = cs.length + 1) (h : w.ownsRow B 71 3 v n (ch3 cs ++ ch3 [c])) : CW B w v (cs ++ [c]) := by
  subst hn
  unfold CW
  rw [ch3_app, List.length_append]
  exact h

set_option maxHeartbeats 1000000 in
theorem of_any (w0 w : World) (G nb c p q c5 : Nat) (a : Option Addr) (h : RD w0 w G a nb c 54 p) (hp : p ≤ 100000) (hq : ∀ x, x < 5 → ∃ s, w.cell? ⟨q, x, none⟩ = some (.string s)) (hqG : q ≠ G) :
    Calls Try.prog 70 #[.pointer (some ⟨G, 0, none⟩), .slice (some ⟨q, 0, none⟩) 5 c5] w fun e w' => ∃ s, e = .returned (.string s) ∧ w.grownBy w' (some G) ∧ RD w0 w' G a nb c 54 (p + 1) := by
  have E := Lib.hid (pick_any w0 w G nb c p a 5 h hp)
  have HQ := Lib.hid hq
  clear h hq
  go_enter Try.func70, Try.ntmps70
  go_wp2_with fail
  refine (E.out).mono ?_
  rintro e w1 ⟨x, rfl, hx, hg, hd⟩
  obtain ⟨s, hs⟩ := HQ.out x (by omega)
  have hs1 := cell_grown hs hg hqG
  have hx5 : x < 5 := by omega
  have HG := Lib.hid hg
  have HD := Lib.hid hd
  clear hx hs hg hd
  go_wp2_with fail
  go_ret
  exact ⟨s, rfl, HG.out, HD.out⟩

set_option maxRecDepth 100000 in
set_option maxHeartbeats 1000000 in
theorem l91Chips_any (w0 w : World) (G nb c p n most : Nat) (a : Option Addr) (h : RD w0 w G a nb c 54 p) (hn : n ≤ 10) (hm : most ≤ 10) (hp : p ≤ 50000) :
    Calls Try.prog 56 #[.pointer (some ⟨G, 0, none⟩), .int .i64 n, .int .i64 most] w fun e w' => ∃ v cs p', e = .returned v ∧ cs.length ≤ 12 ∧ v ≠ .slice none 0 0 ∧ w.grownBy w' (some G) ∧ RD w0 w' G a nb c 54 p' ∧ p' ≤ p + 100 ∧ CW w.heap.size w' v cs := by
  obtain ⟨iC, hiC⟩ := infoChip_parts
  have HI := Lib.hid hiC
  have hGW := h.lt
  have HRD := Lib.hid h
  have hST : CW w.heap.size (w.alloc (.cells #[] 71)) (.slice (some ⟨w.heap.size, 0, none⟩) 0 0) [] := World.ownsRow_made w #[] 0 (Nat.le_refl _) (Nat.zero_le _) rfl
  have HST := Lib.hid hST
  clear h hiC hST
  go_enter Try.func56, Try.ntmps56
  go_wp2_with fail
  refine (pick_any w0 _ G nb c _ a _ (HRD.out.grown (World.grownBy_alloc w _ none) (fun k e => by cases e)) (by omega)).mono ?_
  rintro e w1 ⟨κ, rfl, hκ, hg, hd⟩
  have hk : κ ≤ 10 := by omega
  have HW1 := Lib.hid (HST.out.kept hg hGW)
  have HG1 := Lib.hid (grown_trans (World.grownBy_alloc w _ _) hg)
  have HD1 := Lib.hid hd
  clear hg hd hκ HRD HST
  go_wp2_with fail
  go_loopg [7, 9, 10, 11] κ (fun g v i _ _ wr => ∃ (r p' : Nat) (cs : List RC), r ≤ κ ∧ g = κ - r ∧ i = .int .i64 (r : Nat) ∧ cs.length = r ∧ v ≠ .slice none 0 0 ∧ w.grownBy wr (some G) ∧ RD w0 wr G a nb c 54 p' ∧ p' ≤ p + 1 + 7 * r ∧ CW w.heap.size wr v cs)
  case atStart => exact ⟨0, _, [], Nat.zero_le _, rfl, rfl, rfl, by simp, HG1.out, HD1.out, by omega, HW1.out⟩
  case round =>
    obtain ⟨r, p', cs, hr, rfl, rfl, hl, hnv, hgw, hd, hp', hW⟩ := hrel
    clear HW1 HG1 HD1
    have HW := Lib.hid hW
    have HG := Lib.hid hgw
    have HD := Lib.hid hd
    have HL := Lib.hid hl
    have HNV := Lib.hid hnv
    have hzw := hgw.size
    clear hW hgw hd hl hnv
    by_cases hlt : r < κ
    · go_wp2_with fail
      refine (of_any w0 _ G nb c _ _ _ a (HD.out.grown (World.grownBy_alloc _ _ none) (fun k e => by cases e)) (by omega) (fun x hx => ?_) (by omega)).mono ?_
      · rcases show x = 0 ∨ x = 1 ∨ x = 2 ∨ x = 3 ∨ x = 4 by omega with rfl | rfl | rfl | rfl | rfl
        all_goals exact ⟨_, by rw [World.cell?_alloc_new]; rfl⟩
      rintro e w2 ⟨K, rfl, hg2, hd2⟩
      have HW := Lib.hid ((HW.out.alloc _).kept hg2 hGW)
      have HG := Lib.hid (grown_trans (grown_alloc HG.out _) hg2)
      have HD := Lib.hid hd2
      clear hg2 hd2
      go_wp2_with fail
      refine (pick_any w0 _ G nb c _ a _ HD.out (by omega)).mono ?_
      rintro e w3 ⟨L, rfl, _, hg3, hd3⟩
      have HW := Lib.hid (HW.out.kept hg3 hGW)
      have HG := Lib.hid (grown_trans HG.out hg3)
      have HD := Lib.hid hd3
      clear hg3 hd3
      by_cases hb : K.toList = [104]
      · have hbt : (K.toList == [104]) = true := by simpa using hb
        clear hb
        go_wp2_with (first
          | (go_at_call 37; refine (pick_any w0 _ G nb c _ a _ HD.out (by omega)).mono ?_; rintro e w2 ⟨y, rfl, hy, hg, hd⟩; have HW := Lib.hid (HW.out.kept hg hGW); have HG := Lib.hid (grown_trans HG.out hg); have HD := Lib.hid hd; clear hd hg hy)
          | (at_builtin; (refine wpList_append_own _ rfl _ _ 68 rfl w.heap.size 71 iC (.agg #[.string ⟨#[]⟩, .int .i64 0, .int .i64 0]) 3 32 Try.underlying68 HI.out.1 HI.out.2.1 HI.out.2.2.1 HI.out.2.2.2 rfl (by decide) _ _ _ rfl (HW.out.alloc _) _ 1 1 (ch3 [⟨_, _, _⟩]) rfl rfl (by exact news3 _ ⟨_, _, _⟩ _) (ch3_one _) (by have := HL.out; unfold maxLen; omega) (by have := HL.out; omega) (by have := HG.out.size; simp; omega) ?_); intro v' w3 hown' hgr hnn; have hne := fun i e => (World.ownsRow.lt (HW.out.alloc (.cells #[] 0)) i e).1; have HW3 := Lib.hid (CW.snoc rfl hown'); have HG3 := Lib.hid (grown_new (grown_alloc HG.out _) hgr hne); have HD3 := Lib.hid ((HD.out.grown (World.grownBy_alloc _ _ none) (fun k e => by cases e)).grown hgr (fun i e => by have := hne i e; omega)); have HNN := Lib.hid hnn; clear hown' hgr hnn hne))
        go_roundg (κ - (r + 1))
        case measure => omega
        case rel => exact ⟨r + 1, _, _, by omega, rfl, by go_num, by rw [List.length_append, HL.out]; rfl, fun e => HNV.out (HNN.out.1 e).1, HG3.out, HD3.out, by omega, HW3.out⟩
      · have hbt : (K.toList == [104]) = false := by simpa using hb
        clear hb
        go_wp2_with (first
          | (go_at_call 37; refine (pick_any w0 _ G nb c _ a _ HD.out (by omega)).mono ?_; rintro e w2 ⟨y, rfl, hy, hg, hd⟩; have HW := Lib.hid (HW.out.kept hg hGW); have HG := Lib.hid (grown_trans HG.out hg); have HD := Lib.hid hd; clear hd hg hy)
          | (at_builtin; (refine wpList_append_own _ rfl _ _ 68 rfl w.heap.size 71 iC (.agg #[.string ⟨#[]⟩, .int .i64 0, .int .i64 0]) 3 32 Try.underlying68 HI.out.1 HI.out.2.1 HI.out.2.2.1 HI.out.2.2.2 rfl (by decide) _ _ _ rfl (HW.out.alloc _) _ 1 1 (ch3 [⟨_, _, _⟩]) rfl rfl (by exact news3 _ ⟨_, _, _⟩ _) (ch3_one _) (by have := HL.out; unfold maxLen; omega) (by have := HL.out; omega) (by have := HG.out.size; simp; omega) ?_); intro v' w3 hown' hgr hnn; have hne := fun i e => (World.ownsRow.lt (HW.out.alloc (.cells #[] 0)) i e).1; have HW3 := Lib.hid (CW.snoc rfl hown'); have HG3 := Lib.hid (grown_new (grown_alloc HG.out _) hgr hne); have HD3 := Lib.hid ((HD.out.grown (World.grownBy_alloc _ _ none) (fun k e => by cases e)).grown hgr (fun i e => by have := hne i e; omega)); have HNN := Lib.hid hnn; clear hown' hgr hnn hne))
        go_roundg (κ - (r + 1))
        case measure => omega
        case rel => exact ⟨r + 1, _, _, by omega, rfl, by go_num, by rw [List.length_append, HL.out]; rfl, fun e => HNV.out (HNN.out.1 e).1, HG3.out, HD3.out, by omega, HW3.out⟩
    · obtain rfl : r = κ := by omega
      go_wp2_with fail
      refine (pick_any w0 _ G nb c _ a _ HD.out (by omega)).mono ?_
      rintro e w2 ⟨y, rfl, _, hg2, hd2⟩
      have HW := Lib.hid (HW.out.kept hg2 hGW)
      have HG := Lib.hid (grown_trans HG.out hg2)
      have HD := Lib.hid hd2
      clear hg2 hd2
      by_cases hy : y = 0
      · subst hy
        go_wp2_with (at_builtin; (refine wpList_append_own _ rfl _ _ 68 rfl w.heap.size 71 iC (.agg #[.string ⟨#[]⟩, .int .i64 0, .int .i64 0]) 3 32 Try.underlying68 HI.out.1 HI.out.2.1 HI.out.2.2.1 HI.out.2.2.2 rfl (by decide) _ _ _ rfl (HW.out.alloc _) _ 1 1 (ch3 [⟨_, _, _⟩]) rfl rfl (by exact news3 _ ⟨_, _, _⟩ _) (ch3_one _) (by have := HL.out; unfold maxLen; omega) (by have := HL.out; omega) (by have := HG.out.size; simp; omega) ?_); intro v' w3 hown' hgr hnn; have hne := fun i e => (World.ownsRow.lt (HW.out.alloc (.cells #[] 0)) i e).1; have HW3 := Lib.hid (CW.snoc rfl hown'); have HG3 := Lib.hid (grown_new (grown_alloc HG.out _) hgr hne); have HD3 := Lib.hid ((HD.out.grown (World.grownBy_alloc _ _ none) (fun k e => by cases e)).grown hgr (fun i e => by have := hne i e; omega)); have HNN := Lib.hid hnn; clear hown' hgr hnn hne)
        go_ret
        exact ⟨_, _, _, rfl, by rw [List.length_append, HL.out]; simp; omega, fun e => HNV.out (HNN.out.1 e).1, HG3.out, HD3.out, by omega, HW3.out⟩
      · have hyb : ((y : Int) == 0) = false := by simp; omega
        go_wp2_with fail
        go_ret
        exact ⟨_, _, _, rfl, by rw [HL.out]; omega, HNV.out, HG.out, HD.out, by omega, HW.out⟩

def DrawnC (w w' : World) (a : Option Addr) (cap : Nat) (cs : List RC) : Prop :=
  cs.length ≤ 12 ∧ (∃ g, a = some ⟨g, 0, none⟩) ∧ cs.length ≤ cap ∧ cap ≤ 9223372036854775807 ∧ OwnC w.heap.size w'.heap.size w' a cs
theorem CW.drawn {w w1 w' : World} {v : Value} {cs : List RC} (h : CW w1.heap.size w' v cs) (hw : w.heap.size ≤ w1.heap.size) (hl : cs.length ≤ 12) (hv : v ≠ .slice none 0 0) : ∃ a cap, v = .slice a cs.length cap ∧ DrawnC w w' a cap cs := by
  have hm : maxLen = 9223372036854775807 := rfl
  have h' : w'.ownsRow w1.heap.size 71 3 v cs.length (ch3 cs) := h
  rcases h'.2 with ⟨hv', h0⟩ | ⟨g, cap, cur, rfl, hb, hg, hn, hmx, hs, ht⟩
  · exact absurd hv' hv
  · refine ⟨_, cap, rfl, hl, ⟨g, rfl⟩, hn, by omega, fun _ => ⟨g, rfl, ⟨by omega, (Array.getElem?_eq_some_iff.1 hg).1⟩, fun i hi => ?_⟩⟩
    obtain ⟨e1, e2, e3⟩ := ch3_get cs i hi
    have hf : ∀ j, w'.frozen? ⟨g, j, none⟩ = false := fun j => by simp [World.frozen?, hg]
    exact ⟨⟨(World.ownsRow.cellAt h' (i * 3) (by omega)).trans e1, (World.ownsRow.cellAt h' (i * 3 + 1) (by omega)).trans e2, (World.ownsRow.cellAt h' (i * 3 + 2) (by omega)).trans e3⟩, hf _, hf _, hf _⟩

end Go.Proofs.Ytlgjplhffpmfpaa
end

section
namespace Go.Proofs.Ytlgjplhffpmfpaa
open Go.RowKit Go.Deep

theorem results_four {fn : Func} {a b c d : Tmp} (h : fn.results = #[.tmp a, .tmp b, .tmp c, .tmp d]) (tmps : Array Value) (P : Program) (w : World) :
    (results fn tmps).run P w = .ok (.tuple #[tmps.getD a undef, tmps.getD b undef, tmps.getD c undef, tmps.getD d undef]) w := by
  simp [results, h]

end Go.Proofs.Ytlgjplhffpmfpaa
end

section
namespace Go.Proofs.Ytlgjplhffpmfpaa
open Go.RowKit Go.Deep

end Go.Proofs.Ytlgjplhffpmfpaa
end

section
namespace Go.Proofs.Ytlgjplhffpmfpaa
open Go.RowKit Go.Deep

theorem bitI_fin : ∀ s : Fin 32, ∀ i : Fin 6, bits BinOp.and IntKind.i64 ((s.val : Int) / 2 ^ i.val) 1 = if s.val.testBit i.val then 1 else 0 := by decide +kernel
theorem bitI (s i : Nat) (hs : s ≤ 31) (hi : i ≤ 5) : bits BinOp.and IntKind.i64 ((s : Int) / 2 ^ i) 1 = if s.testBit i then 1 else 0 := bitI_fin ⟨s, by omega⟩ ⟨i, by omega⟩
theorem xor2_fin : ∀ s : Fin 32, ∀ i k : Fin 5, bits BinOp.xor IntKind.i64 (bits BinOp.xor IntKind.i64 (s.val : Int) (2 ^ i.val)) (2 ^ k.val) = ((s.val ^^^ 2 ^ i.val ^^^ 2 ^ k.val : Nat) : Int) ∧ s.val ^^^ 2 ^ i.val ^^^ 2 ^ k.val ≤ 31 := by decide +kernel
theorem xor2 (s i k : Nat) (hs : s ≤ 31) (hi : i ≤ 4) (hk : k ≤ 4) : bits BinOp.xor IntKind.i64 (bits BinOp.xor IntKind.i64 (s : Int) (2 ^ i)) (2 ^ k) = ((s ^^^ 2 ^ i ^^^ 2 ^ k : Nat) : Int) ∧ s ^^^ 2 ^ i ^^^ 2 ^ k ≤ 31 := xor2_fin ⟨s, by omega⟩ ⟨i, by omega⟩ ⟨k, by omega⟩
theorem p2w_fin : ∀ i : Fin 6, IntKind.i64.wrap (2 ^ i.val) = 2 ^ i.val ∧ wrap64 (2 ^ i.val) = 2 ^ i.val := by decide +kernel

theorem toC_ok5 {c : RC} (h : chOk 5 (toC c)) : (toC c).2.1 ≤ 4 ∧ ((toC c).1 ≠ 2 → cFrom (toC c) ≤ 4 ∧ cTo (toC c) ≤ 4) := by
  obtain ⟨h1, h2⟩ := h
  by_cases e : (toC c).1 = 2
  · rw [if_pos e] at h2
    exact ⟨by omega, fun h => absurd e h⟩
  · rw [if_neg e] at h2
    refine ⟨by omega, fun _ => ?_⟩
    unfold cFrom cTo
    constructor <;> split <;> omega

end Go.Proofs.Ytlgjplhffpmfpaa
end

section
namespace Go.Proofs.Ytlgjplhffpmfpaa
open Go.RowKit Go.Deep

structure NetOk (n : Nat) (cs : List RC) : Prop where
  lo : 2 ≤ n
  hi : n ≤ 5
  len : cs.length ≤ 10
  ok : ∀ c ∈ cs, RCok c ∧ chOk n (toC c)
theorem chipB_ok {n : Nat} (hn : 2 ≤ n ∧ n ≤ 5) {c : RC} (h : chipB n c = true) : RCok c ∧ chOk n (toC c) := by
  obtain ⟨K, l, V⟩ := c
  unfold chipB kindB inB at h
  simp only [Bool.and_eq_true, decide_eq_true_eq] at h
  obtain ⟨h1, hv⟩ := h
  by_cases hH : K.toList = [104]
  · rw [if_pos hH] at h1
    simp only [decide_eq_true_eq] at h1
    obtain ⟨L, rfl⟩ : ∃ L : Nat, l = L := ⟨l.toNat, by omega⟩
    refine ⟨⟨.inl hH, ⟨by show (0 : Int) ≤ (L : Int); omega, by show (L : Int) ≤ 10; omega⟩, hv⟩, ?_⟩
    rw [toC_h hH]
    refine ⟨Nat.le_refl _, ?_⟩
    rw [if_pos rfl]
    show L < n
    omega
  · rw [if_neg hH] at h1
    by_cases hk : K.toList = [117] ∨ K.toList = [100]
    · rw [if_pos hk] at h1
      simp only [decide_eq_true_eq] at h1
      obtain ⟨L, rfl⟩ : ∃ L : Nat, l = L := ⟨l.toNat, by omega⟩
      have hk3 : K.toList = [104] ∨ K.toList = [117] ∨ K.toList = [100] := .inr hk
      refine ⟨⟨hk3, ⟨by show (0 : Int) ≤ (L : Int); omega, by show (L : Int) ≤ 10; omega⟩, hv⟩, ?_⟩
      obtain ⟨k, hk1, hk2, _⟩ := toC_n (L := L) (V := V) hH hk3
      rw [hk2]
      refine ⟨by show k ≤ 2; omega, ?_⟩
      rw [if_neg (by show ¬ k = 2; omega)]
      show L + 1 < n
      omega
    · rw [if_neg hk] at h1; cases h1
theorem netB_ok {n : Int} {cs : List RC} (h : netB n cs = true) : ∃ m : Nat, n = m ∧ NetOk m cs := by
  unfold netB inB at h
  simp only [Bool.and_eq_true, decide_eq_true_eq] at h
  obtain ⟨hn, hl, hc⟩ := h
  obtain ⟨m, rfl⟩ : ∃ m : Nat, n = m := ⟨n.toNat, by omega⟩
  exact ⟨m, rfl, by omega, by omega, hl, fun c hm => chipB_ok (by omega) (List.all_eq_true.1 hc c hm)⟩
theorem NetOk.rc {n : Nat} {cs : List RC} (h : NetOk n cs) : ∀ c ∈ cs, RCok c := fun c hc => (h.ok c hc).1
theorem NetOk.five {n : Nat} {cs : List RC} (h : NetOk n cs) : ∀ c ∈ cs, RCok c ∧ chOk 5 (toC c) := fun c hc => ⟨(h.ok c hc).1, by
  obtain ⟨h1, h2⟩ := (h.ok c hc).2
  have h5 := h.hi
  refine ⟨h1, ?_⟩
  by_cases e : (toC c).1 = 2
  · rw [if_pos e] at h2 ⊢; omega
  · rw [if_neg e] at h2 ⊢; omega⟩
theorem NetOk.ch {n : Nat} {cs : List RC} (h : NetOk n cs) : ∀ c ∈ cs.map toC, chOk n c := fun c hc => by
  obtain ⟨d, hd, rfl⟩ := List.mem_map.1 hc
  exact (h.ok d hd).2

noncomputable def linesB (n : Int) (cs : List RC) (i k : Int) : Bool := netB n cs && (inB i 0 (n - 1) && inB k 0 (n - 1))
noncomputable def pathsV (n : Int) (cs : List RC) (i k : Int) : Int := if linesB n cs i k = true then pathN (cs.map toC) i.toNat k.toNat else 0

theorem lines_ok {n i k : Int} {cs : List RC} (h : linesB n cs i k = true) : ∃ m j l : Nat, n = m ∧ NetOk m cs ∧ (i = j ∧ j < m) ∧ k = l ∧ l < m := by
  unfold linesB at h
  simp only [Bool.and_eq_true] at h
  obtain ⟨h1, h2, h3⟩ := h
  obtain ⟨m, rfl, hm⟩ := netB_ok h1
  unfold inB at h2 h3
  simp only [decide_eq_true_eq] at h2 h3
  exact ⟨m, i.toNat, k.toNat, rfl, hm, by omega, by omega, by omega⟩

noncomputable def famsB (n : Int) (cs : List RC) (s t : Int) : Bool := netB n cs && (inB s 0 (2 ^ n.toNat - 1) && (inB t 0 (2 ^ n.toNat - 1) && (popcS s.toNat == popcS t.toNat)))
noncomputable def famsV (n : Int) (cs : List RC) (s t : Int) : Int := if famsB n cs s t = true then famN (cs.map toC) s.toNat t.toNat else 0
theorem fams_ok {n s t : Int} {cs : List RC} (h : famsB n cs s t = true) : ∃ m j l : Nat, n = m ∧ NetOk m cs ∧ (s = j ∧ j < 2 ^ m ∧ j ≤ 31) ∧ (t = l ∧ l < 2 ^ m ∧ l ≤ 31) ∧ popcS j = popcS l := by
  unfold famsB at h
  simp only [Bool.and_eq_true, beq_iff_eq] at h
  obtain ⟨h1, h2, h3, h4⟩ := h
  obtain ⟨m, rfl, hm⟩ := netB_ok h1
  unfold inB at h2 h3
  simp only [decide_eq_true_eq, Int.toNat_natCast] at h2 h3
  have hp : 2 ^ m ≤ 2 ^ 5 := Nat.pow_le_pow_right (by omega) hm.hi
  have hc : ((2 : Int) ^ m) = ((2 ^ m : Nat) : Int) := by simp
  rw [hc] at h2 h3
  exact ⟨m, s.toNat, t.toNat, rfl, hm, by omega, by omega, h4⟩

theorem p5_fin : ∀ m : Fin 6, (wrap64 (2 ^ m.val) = ((2 ^ m.val : Nat) : Int) ∧ IntKind.i64.wrap (2 ^ m.val) = ((2 ^ m.val : Nat) : Int)) ∧ (2 : Int) ^ m.val = ((2 ^ m.val : Nat) : Int) ∧ 1 ≤ 2 ^ m.val ∧ 2 ^ m.val ≤ 32 := by decide +kernel

end Go.Proofs.Ytlgjplhffpmfpaa
end

section
namespace Go.Proofs.Ytlgjplhffpmfpaa
open Go.RowKit Go.Deep

theorem and_less : ∀ s : Fin 64, ∃ t : Fin 64, bits BinOp.and IntKind.i64 (s.val : Int) ((s.val : Int) - 1) = ((t.val : Nat) : Int) := by decide +kernel

def DF (w w1 : World) (G B nb cb : Nat) (a : Option Addr) (v : Value) (cs : List RC) (P : Nat) (wr : World) : Prop := ∃ p, p ≤ P ∧ RD w wr G a nb cb 54 p ∧ w1.grownBy wr (some G) ∧ CW B wr v cs
theorem pickF {w w1 wr : World} {G B nb cb P : Nat} {a : Option Addr} {v : Value} {cs : List RC} (m : Int) (h : DF w w1 G B nb cb a v cs P wr) (hP : P ≤ 1000) (hG : G < B) :
    Calls Try.prog 37 #[.pointer (some ⟨G, 0, none⟩), .int .i64 m] wr fun e w' => ∃ x : Nat, e = .returned (.int .i64 x) ∧ ((x : Int) < m ∨ x = 0) ∧ DF w w1 G B nb cb a v cs (P + 1) w' := by
  obtain ⟨p, hp, hd, hg, hc⟩ := h
  refine (pick_any w wr G nb cb p a m hd (by omega)).mono ?_
  rintro e w' ⟨x, e1, e2, hg2, hd2⟩
  exact ⟨x, e1, e2, p + 1, by omega, hd2, grown_trans hg hg2, hc.kept hg2 hG⟩
theorem DF.drew {w w1 wr : World} {G B nb cb P : Nat} {a : Option Addr} {v : Value} {cs : List RC} (h : DF w w1 G B nb cb a v cs P wr) : DF w w1 G B nb cb a v cs P wr.drew := by
  obtain ⟨p, hp, hd, hg, hc⟩ := h
  exact ⟨p, hp, hd.grown (row := none) (w := wr) ⟨rfl, rfl, rfl, Nat.le_refl _, fun _ _ _ => rfl⟩ (fun k e => by cases e), ⟨hg.os, hg.tape, hg.output, hg.size, hg.block⟩, hc⟩
theorem DF.mono {w w1 wr : World} {G B nb cb P P' : Nat} {a : Option Addr} {v : Value} {cs : List RC} (h : DF w w1 G B nb cb a v cs P wr) (hP : P ≤ P') : DF w w1 G B nb cb a v cs P' wr := by
  obtain ⟨p, hp, hd⟩ := h
  exact ⟨p, by omega, hd⟩
theorem le63 {y M : Nat} (h : (y : Int) < (M : Int) ∨ y = 0) (hM : M ≤ 32) : y ≤ 31 := by omega
theorem le63b {y M d : Nat} (h : (y : Int) < IntKind.i64.wrap ((M : Int) + IntKind.i64.wrap (d : Int)) ∨ y = 0) (hM : M ≤ 32) (hd : d ≤ 1) : y ≤ 63 := by
  rw [IntWalk.i64_in (d : Int) ⟨by omega, by omega⟩, IntWalk.i64_in _ ⟨by omega, by omega⟩] at h
  omega
theorem div23 {y : Nat} (h : (y : Int) < 24 ∨ y = 0) : ∃ d : Nat, (y : Int).tdiv 23 = (d : Int) ∧ d ≤ 1 := by
  refine ⟨y / 23, ?_, by omega⟩
  rw [Int.tdiv_eq_ediv_of_nonneg (by omega)]
  omega

end Go.Proofs.Ytlgjplhffpmfpaa
end

section
namespace Go.Proofs.Ytlgjplhffpmfpaa
open Go.RowKit Go.Deep

theorem OwnC.zero {lo hi : Nat} {w : World} {a : Option Addr} {cs : List RC} {r : Nat} (h : OwnC lo hi w a cs) (hr : r < cs.length) : ∃ g, a = some ⟨g, 0, none⟩ ∧ (lo ≤ g ∧ g < hi) ∧ (∃ v, w.cell? ⟨g, r * 3 + 2, none⟩ = some (.int .i64 v)) ∧ w.frozen? ⟨g, r * 3 + 2, none⟩ = false ∧
    ∃ cs' : List RC, cs'.length = cs.length ∧ OwnC lo hi (w.setCell ⟨g, r * 3 + 2, none⟩ (.int .i64 0)) a cs' := by
  obtain ⟨g, e, hg, hc⟩ := h (by omega)
  obtain ⟨⟨c1, c2, c3⟩, f1, f2, f3⟩ := hc r hr
  refine ⟨g, e, hg, ⟨_, c3⟩, f3, cs.set r ⟨(cs.getD r rc0).k, (cs.getD r rc0).l, 0⟩, by simp, fun _ => ⟨g, e, hg, fun i hi => ?_⟩⟩
  rw [List.length_set] at hi
  obtain ⟨⟨k1, k2, k3⟩, m1, m2, m3⟩ := hc i hi
  have hne : ∀ q, q ≠ r * 3 + 2 → (w.setCell ⟨g, r * 3 + 2, none⟩ (.int .i64 0)).cell? ⟨g, q, none⟩ = w.cell? ⟨g, q, none⟩ := fun q hq => World.cell?_setCell_other _ _ _ _ (fun e => hq (by injection e with _ e2; exact e2.symm))
  have hget : (cs.set r ⟨(cs.getD r rc0).k, (cs.getD r rc0).l, 0⟩).getD i rc0 = if i = r then ⟨(cs.getD r rc0).k, (cs.getD r rc0).l, 0⟩ else cs.getD i rc0 := by
    simp only [List.getD, List.getElem?_set]
    by_cases e : r = i
    · subst e; simp [hr]
    · rw [if_neg e, if_neg (fun h => e h.symm)]
  refine ⟨⟨?_, ?_, ?_⟩, by rw [World.frozen?_setCell]; exact m1, by rw [World.frozen?_setCell]; exact m2, by rw [World.frozen?_setCell]; exact m3⟩
  · rw [hne _ (by omega), k1, hget]
    by_cases e : i = r
    · rw [if_pos e, e]
    · rw [if_neg e]
  · rw [hne _ (by omega), k2, hget]
    by_cases e : i = r
    · rw [if_pos e, e]
    · rw [if_neg e]
  · rw [hget]
    by_cases e : i = r
    · subst e
      rw [World.cell?_setCell_same' _ _ _ (by rw [c3]; rfl), if_pos rfl]
    · rw [hne _ (by omega), k3, if_neg e]
theorem OwnC.far {lo hi G : Nat} {w w' : World} {a : Option Addr} {cs : List RC} (h : OwnC lo hi w a cs) (hg : w.grownBy w' (some G)) (hG : G < lo) : OwnC lo hi w' a cs := fun h0 => by
  obtain ⟨g, e, hb, hc⟩ := h h0
  have hne : some g ≠ some G := fun e => by injection e with e; omega
  refine ⟨g, e, hb, fun i hi => ?_⟩
  obtain ⟨⟨k1, k2, k3⟩, m1, m2, m3⟩ := hc i hi
  have hlt := World.block_lt_of_cell? _ _ k1
  simp only at hlt
  have hbk := hg.block g hlt hne
  have hf : ∀ j, w'.frozen? ⟨g, j, none⟩ = w.frozen? ⟨g, j, none⟩ := fun j => by simp only [World.frozen?, hbk]
  exact ⟨⟨(World.cell?_of_block (a := ⟨g, i * 3, none⟩) hbk).trans k1, (World.cell?_of_block (a := ⟨g, i * 3 + 1, none⟩) hbk).trans k2, (World.cell?_of_block (a := ⟨g, i * 3 + 2, none⟩) hbk).trans k3⟩, (hf _).trans m1, (hf _).trans m2, (hf _).trans m3⟩
def DZ (w : World) (G B H nb cb : Nat) (a a' : Option Addr) (N P : Nat) (wr : World) : Prop := (∃ p, p ≤ P ∧ RD w wr G a nb cb 54 p) ∧ w.Since w.heap.size wr ∧ H ≤ wr.heap.size ∧ ∃ cs : List RC, cs.length = N ∧ OwnC B H wr a' cs
theorem pickZ {w wr : World} {G B H nb cb N P : Nat} {a a' : Option Addr} (m : Int) (h : DZ w G B H nb cb a a' N P wr) (hP : P ≤ 1000) (hG : G < B) (hw : w.heap.size ≤ G) :
    Calls Try.prog 37 #[.pointer (some ⟨G, 0, none⟩), .int .i64 m] wr fun e w' => ∃ x : Nat, e = .returned (.int .i64 x) ∧ DZ w G B H nb cb a a' N (P + 1) w' := by
  obtain ⟨⟨p, hp, hd⟩, hs, hz, cs, hl, ho⟩ := h
  refine (pick_any w wr G nb cb p a m hd (by omega)).mono ?_
  rintro e w' ⟨x, e1, e2, hg2, hd2⟩
  exact ⟨x, e1, ⟨p + 1, by omega, hd2⟩, hs.grown hg2 hs.size (fun k e => by cases e; omega), Nat.le_trans hz hg2.size, cs, hl, ho.far hg2 hG⟩
theorem DZ.store {w wr : World} {G B H nb cb N P r : Nat} {a a' : Option Addr} (h : DZ w G B H nb cb a a' N P wr) (hr : r < N) (hG : G < B) (hw : w.heap.size ≤ G) :
    ∃ g, a' = some ⟨g, 0, none⟩ ∧ (∃ v, wr.cell? ⟨g, r * 3 + 2, none⟩ = some (.int .i64 v)) ∧ wr.frozen? ⟨g, r * 3 + 2, none⟩ = false ∧ DZ w G B H nb cb a a' N P (wr.setCell ⟨g, r * 3 + 2, none⟩ (.int .i64 0)) := by
  obtain ⟨⟨p, hp, hd⟩, hs, hz, cs, hl, ho⟩ := h
  obtain ⟨g, e, hb, hv, hf, cs', hl', ho'⟩ := ho.zero (r := r) (by omega)
  have hg : wr.grownBy (wr.setCell ⟨g, r * 3 + 2, none⟩ (.int .i64 0)) (some g) := ⟨rfl, rfl, rfl, by simp, fun k _ hk => Below.heap_setCell _ _ _ _ (fun e => hk (by rw [e]))⟩
  exact ⟨g, e, hv, hf, ⟨p, hp, hd.grown hg (fun k e => by cases e; omega)⟩, hs.grown hg hs.size (fun k e => by cases e; omega), by simpa using hz, cs', by omega, ho'⟩

end Go.Proofs.Ytlgjplhffpmfpaa
end

section
namespace Go.Proofs.Ytlgjplhffpmfpaa
open Go.RowKit Go.Deep Go.Shelf
attribute [local go_sem] Oper.semAt_some

theorem room_any (k : Nat) : Fence.wide.room k := fun d h => by cases h
theorem yieldAt_any {m m' : Nat} {P : Program} {l : Nat} {args : Array Value} {W : World} {R : Ending → World → Prop} (h : YieldAt Fence.wide m P l args W R) : YieldAt Fence.wide m' P l args W R := by
  obtain ⟨fn, tmps, assign, body, hy, hR⟩ := h
  exact ⟨fn, tmps, assign, body, hy, hR.1, fun c cs _ => hR.2 c cs (room_any _)⟩

theorem step_append_fitsG {P : Program} (w : World) {ops : Array Oper} {o : Oper} {a : Act} {K : Act → World → Prop} {Q : Exit → Act → World → Prop} {E : Prop} (hw : Region.wanted o (yielded ops a.tmps) = true) (s x : Operand) (t : TypeId)
    (hop : o.op = Op.call { callee := Callee.builtin Builtin.append, args := #[s, x], argTypes := #[t, t] })
    (base : Nat) (e : TypeId) (i : TypeInfo) (size : Nat) (h1 : P.underlying t = some (.slice e)) (h2 : P.info? e = some i) (h4 : i.size = size)
    (g k cap : Nat) (xs : List Value) (hs : a.eval s = .slice (some ⟨g, 0, none⟩) k cap) (hown : w.ownsRow base e size (.slice (some ⟨g, 0, none⟩) k cap) k xs) (ad : Addr) (m c : Nat) (news : List Value) (hx : a.eval x = .slice (some ad) m c) (hn : news.length = m * size)
    (hc : ∀ j u, news[j]? = some u → w.cell? (ad.add j) = some u) (h1c : ∀ u ∈ news, u.oneCell' = true) (b1 : k + m ≤ cap)
    (hK : ∀ w', w'.ownsRow base e size (.slice (some ⟨g, 0, none⟩) (k + m) cap) (k + m) (xs ++ news) → w.grownBy w' (some g) → K (a.put o.dst (.slice (some ⟨g, 0, none⟩) (k + m) cap)) w') :
    if Region.wanted o (yielded ops a.tmps) = true then Oper.wp P o a w K Q else E := by
  rw [if_pos hw]
  obtain ⟨w', hrun, r1, r2⟩ := run_append_fits (P := P) w base t o.type e i size h1 h2 h4 g k cap xs hown ad m c news hn hc h1c b1
  unfold Oper.wp
  simp [execOp, hop, resolve, invoke, builtin, hs, hx, hrun, Result.andThen]
  exact hK w' r1 r2

theorem grown_drewC (w : World) (n : Nat) : w.grownBy (w.drewN n) none := ⟨rfl, rfl, rfl, Nat.le_refl _, fun _ _ _ => rfl⟩
theorem undrew {a b : World} {row : Option Nat} (h : a.drew.grownBy b row) : a.grownBy b row := ⟨h.os, h.tape, h.output, h.size, h.block⟩

theorem map_snd {α : Type} (g : Nat) (L : List α) : (([] : List (Nat × α)) ++ L.map (Prod.mk g)).map (fun x => x.2) = L := by
  rw [List.nil_append]
  induction L with
  | nil => rfl
  | cons x L ih => rw [List.map_cons, List.map_cons, ih]

theorem since_rowC {w X Y : World} {row : Option Nat} (h : w.Since w.heap.size X) (hg : X.grownBy Y row) (hr : ∀ r, row = some r → w.heap.size ≤ r) : w.Since w.heap.size Y :=
  ⟨hg.os.trans h.os, hg.tape.trans h.tape, hg.output.trans h.output, Nat.le_trans h.size hg.size, fun k hk => (hg.block k (by have := h.size; omega) (fun e => by have := hr k e.symm; omega)).trans (h.block k hk)⟩

end Go.Proofs.Ytlgjplhffpmfpaa
end

section
namespace Go.Proofs.Ytlgjplhffpmfpaa
open Go.RowKit Go.Deep

theorem owns_mono {w : World} {base base' : Nat} {e : TypeId} {size : Nat} {v : Value} {n : Nat} {xs : List Value} (h : w.ownsRow base e size v n xs) (hb : base' ≤ base) : w.ownsRow base' e size v n xs := by
  refine ⟨h.1, ?_⟩
  rcases h.2 with hn | ⟨g, cap, cur, hv, hbb, rest⟩
  · exact .inl hn
  · exact .inr ⟨g, cap, cur, hv, by omega, rest⟩
theorem grown_none {w w' : World} (h : w.grownBy w' none) (row : Option Nat) : w.grownBy w' row := ⟨h.os, h.tape, h.output, h.size, fun k hk _ => h.block k hk (by simp)⟩

theorem step_append_keeps {P : Program} (w : World) {ops : Array Oper} {o : Oper} {a : Act} {K : Act → World → Prop} {Q : Exit → Act → World → Prop} {E : Prop} (hgd : o.guard = none) (s x : Operand) (t : TypeId)
    (hop : o.op = Op.call { callee := Callee.builtin Builtin.append, args := #[s, x], argTypes := #[t, t] })
    (base : Nat) (e : TypeId) (i : TypeInfo) (z : Value) (size bytes : Nat) (h1 : P.underlying t = some (.slice e)) (h2 : P.info? e = some i) (hz : i.zero = some z) (h4 : i.size = size) (h5 : i.bytes = bytes) (h6 : z.cells.size = size) (h7 : 0 < size)
    (g k cap : Nat) (xs : List Value) (hs : a.eval s = .slice (some ⟨g, 0, none⟩) k cap) (hown : w.ownsRow base e size (.slice (some ⟨g, 0, none⟩) k cap) k xs) (ad : Addr) (m c : Nat) (news : List Value) (hx : a.eval x = .slice (some ad) m c) (hn : news.length = m * size)
    (hc : ∀ j u, news[j]? = some u → w.cell? (ad.add j) = some u) (h1c : ∀ u ∈ news, u.oneCell' = true) (b1 : k + m ≤ maxLen) (b2 : (k + m) * bytes ≤ 140737488355328) (hbase : base ≤ w.heap.size)
    (hK : ∀ v' w', w'.ownsRow base e size v' (k + m) (xs ++ news) → w.grownBy w' (some g) → (∀ j u, xs[j]? = some u → w'.cell? ((⟨g, 0, none⟩ : Addr).add j) = some u) → K (a.put o.dst v') w') :
    if Region.wanted o (yielded ops a.tmps) = true then Oper.wp P o a w K Q else E := by
  have hw : Region.wanted o (yielded ops a.tmps) = true := by simp [Region.wanted, hgd]
  rw [if_pos hw]
  have hcells := hown.cells (g := g) rfl
  by_cases hroom : k + m ≤ cap
  · obtain ⟨w', hrun, r1, r2⟩ := run_append_fits (P := P) w base t o.type e i size h1 h2 h4 g k cap xs hown ad m c news hn hc h1c hroom
    unfold Oper.wp
    simp [execOp, hop, resolve, invoke, builtin, hs, hx, hrun, Result.andThen]
    exact hK _ w' r1 r2 fun j u hu => r1.cells (g := g) rfl j u (by
      rw [List.getElem?_append_left (List.getElem?_eq_some_iff.1 hu).1]
      exact hu)
  · obtain ⟨v', w', hrun, r1, r2⟩ := run_append_arg_grows (P := P) w t o.type e i z size bytes h1 h2 hz h4 h5 h6 h7 ⟨g, 0, none⟩ k cap xs hown.1 hcells ad m c news hn hc (by omega) b1 b2
    unfold Oper.wp
    simp [execOp, hop, resolve, invoke, builtin, hs, hx, hrun, Result.andThen]
    exact hK v' w' (owns_mono r1 hbase) (grown_none r2 _) fun j u hu => r2.cell (hcells j u hu) (by simp)

end Go.Proofs.Ytlgjplhffpmfpaa
end

section
namespace Go.Proofs.Ytlgjplhffpmfpaa
open Go.RowKit Go.Deep

def ListK (x : List Int) (most : Int) (k : Nat) : Prop := ∀ j, j < k → inB (x.getD j 0) (-most) most = true
open Classical in
noncomputable def l8B (x : List Int) (most : Int) : Bool := decide (ListK x most x.length) && inB x.length 1 6
theorem ListK.succ {x : List Int} {most : Int} {k : Nat} (h : ListK x most k) (hk : inB (x.getD k 0) (-most) most = true) : ListK x most (k + 1) := fun j hj => by
  rcases Nat.lt_succ_iff_lt_or_eq.1 hj with hlt | heq
  · exact h j hlt
  · rw [heq]; exact hk
theorem l8B_no {x : List Int} {most : Int} (h : ¬ ListK x most x.length) : l8B x most = false := by simp [l8B, h]
theorem l8B_all {x : List Int} {most : Int} (h : ListK x most x.length) : l8B x most = inB x.length 1 6 := by simp [l8B, h]
theorem l8B_of {x : List Int} {most : Int} (h : l8B x most = true) : ListK x most x.length ∧ 1 ≤ x.length ∧ x.length ≤ 6 := by
  simp only [l8B, Bool.and_eq_true, decide_eq_true_eq] at h
  refine ⟨h.1, ?_⟩
  have := h.2
  simp [inB] at this
  omega

set_option maxHeartbeats 1000000 in
theorem l8List_any (a : Option Addr) (cap m : Nat) (x : List Int) (most : Int) (w : World) (hmo : 0 ≤ most ∧ most ≤ 1000) (hn : x.length = m) (h63 : m ≤ 9223372036854775807) (hm : RowR w a x) :
    Calls Try.prog 75 #[.slice a m cap, .int .i64 most] w fun e w' => e = .returned (.bool (l8B x most)) ∧ w = w' := by
  have H := Lib.hid hn; clear hn
  go_enter Try.func75, Try.ntmps75
  go_wp2
  go_loopg [5] m (fun g i wr => ∃ k : Nat, k ≤ m ∧ g = m - k ∧ i = .int .i64 k ∧ w = wr ∧ ListK x most k)
  case atStart => exact ⟨0, Nat.zero_le _, rfl, rfl, rfl, fun r hr => absurd hr (Nat.not_lt_zero _)⟩
  case round =>
    obtain ⟨k, hk, rfl, rfl, rfl, hN⟩ := hrel
    by_cases hlt : k < m
    · obtain ⟨b, o, rfl, hc⟩ := hm (by rw [H.out]; omega)
      have cj := hc k (by rw [H.out]; exact hlt)
      obtain ⟨y, hy⟩ : ∃ y, y = x.getD k 0 := ⟨_, rfl⟩
      rw [← hy] at cj
      have HY := Lib.hid hy
      clear hc hy hm
      have E1 := l6In_any y (-most) most w
      cases hiy : inB y (-most) most with
      | true =>
        rw [hiy] at E1
        replace E1 := Lib.hid E1
        have HI := Lib.hid hiy
        clear hiy
        go_wp2_with fail
        refine (E1.out).mono ?_
        rintro e w' ⟨rfl, rfl⟩
        go_wp2
        go_roundg (m - (k + 1))
        case measure => omega
        case rel => exact ⟨k + 1, by omega, rfl, by go_num, rfl, hN.succ (by rw [← HY.out]; exact HI.out)⟩
      | false =>
        rw [hiy] at E1
        replace E1 := Lib.hid E1
        have HI := Lib.hid hiy
        clear hiy
        have hno := Lib.hid (l8B_no (x := x) (most := most) fun hT => by
          have := hT k (by rw [H.out]; exact hlt)
          rw [← HY.out, HI.out] at this
          exact Bool.noConfusion this)
        go_wp2_with fail
        refine (E1.out).mono ?_
        rintro e w' ⟨rfl, rfl⟩
        go_wp2
        go_ret
        exact ⟨by rw [hno.out]; rfl, rfl⟩
    · have hkm : k = m := by omega
      subst hkm
      have hal := Lib.hid (l8B_all (x := x) (most := most) (by rw [H.out]; exact hN))
      have E2 := Lib.hid (l6In_any (k : Int) 1 6 w)
      go_wp2_with fail
      refine (E2.out).mono ?_
      rintro e w' ⟨rfl, rfl⟩
      go_wp2
      go_ret
      exact ⟨by rw [hal.out, H.out]; rfl, rfl⟩

def pwRow (x : List Int) (i k : Nat) : List Int := (List.range k).map fun j => (x.getD i 0) ^ j
theorem pwRow_succ (x : List Int) (i k : Nat) : pwRow x i (k + 1) = pwRow x i k ++ [(x.getD i 0) ^ k] := by simp [pwRow, List.range_succ]
theorem pwRow_length (x : List Int) (i k : Nat) : (pwRow x i k).length = k := by simp [pwRow]
theorem pwRow_at (x : List Int) (i : Nat) {k j : Nat} (h : j < k) : (pwRow x i k).getD j 0 = (x.getD i 0) ^ j := by simp [pwRow, List.getD, h]
def pwTo (x : List Int) (m r : Nat) : List (List Int) := tabF r m fun i k => (x.getD i 0) ^ k
theorem pwTo_succ (x : List Int) (m r : Nat) : pwTo x m (r + 1) = pwTo x m r ++ [pwRow x r m] := by simp [pwTo, tabF, pwRow, List.range_succ]
theorem pwTo_length (x : List Int) (m r : Nat) : (pwTo x m r).length = r := tabF_length _ _ _
theorem pow_bd {y : Int} (h : -30 ≤ y ∧ y ≤ 30) : ∀ t : Nat, -((30 : Int) ^ t) ≤ y ^ t ∧ y ^ t ≤ (30 : Int) ^ t
  | 0 => by simp
  | t + 1 => by
    obtain ⟨i1, i2⟩ := pow_bd h t
    rw [Int.pow_succ, Int.pow_succ]
    generalize (30 : Int) ^ t = A at *
    generalize y ^ t = b at *
    have h1 : (A + b) * (30 - y) ≥ 0 := Int.mul_nonneg (by omega) (by omega)
    have h2 : (A + b) * (30 + y) ≥ 0 := Int.mul_nonneg (by omega) (by omega)
    have h3 : (A - b) * (30 + y) ≥ 0 := Int.mul_nonneg (by omega) (by omega)
    have h4 : (A - b) * (30 - y) ≥ 0 := Int.mul_nonneg (by omega) (by omega)
    simp only [Int.add_mul, Int.sub_mul, Int.mul_add, Int.mul_sub] at h1 h2 h3 h4
    omega
theorem pow30 : ∀ t : Fin 6, (30 : Int) ^ t.val ≤ 24300000 := by decide +kernel
theorem pow_bd5 {y : Int} (h : -30 ≤ y ∧ y ≤ 30) {t : Nat} (ht : t ≤ 5) : -24300000 ≤ y ^ t ∧ y ^ t ≤ 24300000 := by
  have h1 := pow_bd h t
  have h2 := pow30 ⟨t, by omega⟩
  simp only at h2
  omega
theorem rb_one (w : World) (v : Int) : RB w (w.alloc (.cells #[.int .i64 v] 3)) (.slice (some ⟨w.heap.size, 0, none⟩) 1 1) [v] :=
  ⟨(World.Since.refl _ _).alloc (Nat.le_refl _) _, by simp, .inr ⟨w.heap.size, 1, #[.int .i64 v], rfl, Nat.le_refl _, heap_alloc_new w _, Nat.le_refl _, by unfold maxLen; omega, by simp, by simp⟩⟩

set_option maxRecDepth 100000 in
set_option maxHeartbeats 4000000 in
theorem specKnownPowers_any (a : Option Addr) (cap m : Nat) (x : List Int) (w : World) (hn : x.length = m) (h63 : m ≤ 9223372036854775807) (hm : RowR w a x) :
    Calls Try.prog 58 #[.slice a m cap] w fun e w' => ∃ a' cap', e = .returned (.tuple #[.slice a' (resT (l8B x 30 && tabIn (pwTo x m m)) (pwTo x m m)).length cap', .bool (l8B x 30 && tabIn (pwTo x m m))]) ∧ w.Since w.heap.size w' ∧ InT w.heap.size w'.heap.size w' a' (resT (l8B x 30 && tabIn (pwTo x m m)) (pwTo x m m)) := by
  have E := l8List_any a cap m x 30 w ⟨by omega, by omega⟩ hn h63 hm
  cases hok : l8B x 30 with
  | false =>
    rw [hok] at E
    replace E := Lib.hid E
    simp only [Bool.false_and]
    clear hok hm hn
    go_enter Try.func58, Try.ntmps58
    go_wp2_with fail
    refine (E.out).mono ?_
    rintro e w' ⟨rfl, rfl⟩
    go_wp2_with fail
    refine (l1None_any w).mono ?_
    rintro e w2 ⟨rfl, hs2⟩
    go_wp2
    go_ret2
    exact ⟨_, _, rfl, hs2, InT.nil _ _ _ _⟩
  | true =>
    rw [hok] at E
    replace E := Lib.hid E
    simp only [Bool.true_and]
    obtain ⟨hk, h1, h6⟩ := l8B_of hok
    rw [hn] at hk h1 h6
    obtain ⟨i42, hi42⟩ := info42_parts
    obtain ⟨i3, hi3⟩ := info3_parts
    have HI := Lib.hid hi42
    have HJ := Lib.hid hi3
    obtain ⟨bx, ox, rfl, hcx⟩ := hm (by omega)
    have HX := Lib.hid (fun (W : World) (hd : w.Since w.heap.size W) (k : Nat) (hk : k < m) => by
      have c := hcx k (by omega)
      exact (hd.cell (a := ⟨bx, ox + k, none⟩) (World.block_lt_of_cell? _ _ c)).trans c)
    have hst := bt_start w (fun _ => none) (fun _ => 0) #[] rfl
    have HST := Lib.hid hst
    have HK := Lib.hid hk
    have hsz : szL (pwTo x m m) ≤ 1048576 := szL_tabF _ _ _ (by omega) (by omega)
    clear hi42 hi3 hm hcx hn hok hst hk
    go_enter Try.func58, Try.ntmps58
    go_wp2_with fail
    refine (E.out).mono ?_
    rintro e w' ⟨rfl, rfl⟩
    go_wp2
    go_loopg [4, 5, 6, 7] m (fun g v k _ _ wr => ∃ r : Nat, ∃ A C, r ≤ m ∧ g = m - r ∧ k = .int .i64 r ∧ BT w wr v (pwTo x m r) A C)
    case atStart => exact ⟨0, _, _, Nat.zero_le _, rfl, rfl, HST.out⟩
    case round =>
      obtain ⟨r, A, C, hr, rfl, rfl, hR⟩ := hrel
      clear HST
      by_cases hlt : r < m
      · have HR := Lib.hid hR
        have hrb := rb_one wr 1
        have HRB := Lib.hid (show RB wr (wr.alloc (.cells #[.int .i64 1] 3)) (.slice (some ⟨wr.heap.size, 0, none⟩) 1 1) (pwRow x r 1) by rw [show pwRow x r 1 = [1] by simp [pwRow]]; exact hrb)
        have hsz2 := hR.since.size
        have hlen := pwTo_length x m r
        obtain ⟨wo, rfl⟩ : ∃ wo : World, wo = wr := ⟨_, rfl⟩
        have hy30 := HK.out r hlt
        simp only [inB, decide_eq_true_eq] at hy30
        clear hR hrb
        go_wp2
        go_loopg [6, 7] m (fun g v i wi => ∃ t : Nat, t + 1 ≤ m ∧ g = m - t ∧ i = .int .i64 ((t : Int) + 1) ∧ RB wo wi v (pwRow x r (t + 1)))
        case atStart => exact ⟨0, by omega, rfl, rfl, HRB.out⟩
        case round =>
          obtain ⟨t, ht, rfl, rfl, hI⟩ := hrel
          clear HRB
          have hzi := hI.since.size
          have hle := pwRow_length x r (t + 1)
          by_cases htm : t + 1 < m
          · have hS := HR.out.since.trans (since_mono hI.since hsz2)
            have cx := HX.out wr hS r hlt
            obtain ⟨ra, rcp, hv, hrow⟩ := hI.slice
            rw [hle] at hv
            subst hv
            obtain ⟨G, rfl, hG, hB⟩ := hrow (by omega)
            have c1 := hB.cell (i := t) (by omega)
            rw [pwRow_at x r (by omega)] at c1
            have hp := pow_bd5 hy30 (t := t) (by omega)
            have hq := pow_bd5 hy30 (t := t + 1) (by omega)
            have HS1 := Lib.hid (pwRow_succ x r (t + 1))
            have hpq := Int.pow_succ (x.getD r 0) t
            obtain ⟨y, hy⟩ : ∃ y, x.getD r 0 = y := ⟨_, rfl⟩
            obtain ⟨p, hpp⟩ : ∃ p, (x.getD r 0) ^ t = p := ⟨_, rfl⟩
            obtain ⟨q, hqq⟩ : ∃ q, (x.getD r 0) ^ (t + 1) = q := ⟨_, rfl⟩
            rw [hqq] at hq hpq
            rw [hpp] at hp hpq c1
            rw [hy] at hpq cx
            replace HS1 := Lib.hid (hqq ▸ HS1.out)
            have hsub : IntKind.i64.wrap ((t : Int) + 1 - 1) = (t : Int) := (IntWalk.i64_in _ ⟨by omega, by omega⟩).trans (by omega)
            have hsub2 : IntKind.i64.wrap (t : Int) = (t : Int) := IntWalk.i64_in _ ⟨by omega, by omega⟩
            have htt : t < t + 1 := by omega
            have hti : (t : Int) < (t : Int) + 1 := by omega
            have htc : (t : Int) < ((t + 1 : Nat) : Int) := by omega
            have hmul : IntKind.i64.wrap (p * y) = q := by rw [← hpq]; exact IntWalk.i64_in _ ⟨by omega, by omega⟩
            have hxg : bx < wo.heap.size := by
              have h1 : bx < w.heap.size := World.block_lt_of_cell? _ _ (HX.out w (World.Since.refl _ _) r hlt)
              have := HR.out.since.size
              omega
            have HII := Lib.hid (show RB wo wr.drew (.slice (some ⟨G, 0, none⟩) (t + 1) rcp) (pwRow x r (t + 1)) from hI.drewN 1)
            have HOW := Lib.hid (show wr.drew.ownsRow wo.heap.size 3 1 (.slice (some ⟨G, 0, none⟩) (t + 1) rcp) (t + 1) ((pwRow x r (t + 1)).map (Value.int .i64)) by have := HII.out.own; rw [hle] at this; exact this)
            have HAT := Lib.hid (show ((pwRow x r (t + 1)).map (Value.int .i64))[t]? = some (.int .i64 p) by
              have h := pwRow_at x r (show t < t + 1 by omega)
              have hl : t < (pwRow x r (t + 1)).length := by omega
              rw [hpp] at h
              rw [List.getElem?_map, List.getElem?_eq_getElem hl]
              simp only [List.getD, List.getElem?_eq_getElem hl, Option.getD_some] at h
              rw [h]; rfl)
            have HLE := Lib.hid hle
            clear hI hB hrow hS hpq hy hpp hqq hle
            go_wp2
            go_region_held3 (fun w' => w'.cell? ⟨G, t, none⟩ = some (.int .i64 p) ∧ w'.cell? ⟨bx, ox + r, none⟩ = some (.int .i64 y))
              (first | exact ⟨c1, cx⟩ | exact ⟨cell_alloc_l _ c1, cell_alloc_l _ cx⟩ | exact ⟨q1, q2⟩)
              (first
                | (refine step_append_keeps _ rfl (.tmp 28) (.tmp 39) 27 rfl wo.heap.size 3 i3 (.int .i64 0) 1 8 Try.underlying27 HJ.out.1 HJ.out.2.1 HJ.out.2.2.1 HJ.out.2.2.2 rfl (by decide) G (t + 1) rcp ((pwRow x r (t + 1)).map (Value.int .i64)) rfl (HOW.out.alloc _) ⟨wr.heap.size, 0, none⟩ 1 1 [.int .i64 q] rfl rfl (cell_one_at _ _ _ rfl) (fun x hx => by simp at hx; subst hx; rfl) (by unfold maxLen; omega) (by omega) (by simp; omega) ?_; intro v' w1 hown' hgrow hcel;
                    have q1 := (show w1.cell? ⟨G, t, none⟩ = some (.int .i64 p) by have h := hcel t _ HAT.out; rw [Go.WideShapes.add_plain] at h; simpa using h); have q2 := hgrow.cell (cell_alloc_l _ cx) (fun e => by injection e with e; simp at e; omega);
                    have hP := HII.out.push (v' := v') (w1 := w1) (y := q) (by have := hown'; rw [HLE.out]; exact this) hgrow; rw [← HS1.out] at hP; have HP := Lib.hid hP; clear hP hown' hgrow hcel))
            go_wp2
            go_roundg (m - (t + 1))
            case measure => omega
            case rel => exact ⟨t + 1, by omega, rfl, by go_num, HP.out⟩
          · have htm' : t + 1 = m := by omega
            rw [htm'] at hI hle
            obtain ⟨ra, rcp, hv, hrow⟩ := hI.slice
            rw [hle] at hv
            subst hv
            have HII := Lib.hid hI
            have HROW := Lib.hid hrow
            clear hI hrow
            have hBT := HR.out.later HII.out.since
            have HBT := Lib.hid hBT
            clear hBT
            go_wp2_with (at_builtin; (refine wpList_append_own _ rfl _ _ 23 rfl w.heap.size 27 i42 (.slice none 0 0) 1 24 Try.underlying23 HI.out.1 HI.out.2.1 HI.out.2.2.1 HI.out.2.2.2 rfl (by decide) _ _ _ rfl (HBT.out.own.alloc _) ⟨wr.heap.size, 0, none⟩ 1 1 [.slice ra m rcp] rfl rfl (cell_one_at _ _ _ rfl) (fun x hx => by simp at hx; subst hx; rfl) (by unfold maxLen; omega) (by omega) (by simp; omega) ?_); intro v' w1 hown' hgrow _)
            have hP := HBT.out.push (rv := .slice ra m rcp) (x := pwRow x r m) (a := ra) (cp := rcp) (by rw [pwRow_length]) (fun h => by obtain ⟨G, e, h2, h3⟩ := HROW.out h; exact ⟨G, e, by omega, h3⟩) (fun h => by obtain ⟨G, e, h2, _⟩ := HROW.out h; exact HR.out.fresh e h2) hown' hgrow
            rw [← pwTo_succ] at hP
            have HP := Lib.hid hP
            clear hP hown' hgrow hle hlen
            go_roundg (m - (r + 1))
            case measure => omega
            case rel => exact ⟨r + 1, _, _, by omega, rfl, by go_num, HP.out⟩
      · have hrm : r = m := by omega
        subst hrm
        obtain ⟨ra, rcp, hv, hin⟩ := hR.slice
        rw [pwTo_length] at hv
        subst hv
        have HS := Lib.hid hR.since
        have hsw := hR.since.size
        have HD := Lib.hid (l1Done_any ra rcp r _ _ (pwTo x r r) wr (pwTo_length x r r) hsz hin)
        clear hR hin
        go_wp2_with fail
        refine (HD.out).mono ?_
        rintro e w2 ⟨a', c', rfl, hs2, hin2⟩
        go_wp2
        go_ret2
        exact ⟨a', c', rfl, HS.out.trans (since_mono hs2 hsw), hin2.mono (Nat.le_refl _) hs2.size⟩

end Go.Proofs.Ytlgjplhffpmfpaa
end

section
namespace Go.Proofs.Ytlgjplhffpmfpaa
open Go.RowKit Go.Deep

def oneC (q : Int) (c : RC) : RC := ⟨c.k, c.l, if c.w = 0 then q else 1⟩
theorem take_map_snoc {α : Type} (f : RC → α) (cs : List RC) (r : Nat) (h : r < cs.length) : (cs.take (r + 1)).map f = (cs.take r).map f ++ [f (cs.getD r rc0)] := by
  rw [List.take_succ_eq_append_getElem h, List.map_append]
  congr 2
  simp [List.getD, h]
theorem ChipsR.at {W : World} {a : Option Addr} {cs : List RC} (h : ChipsR W a cs) {i : Nat} (hi : i < cs.length) : ∃ b o, a = some ⟨b, o, none⟩ ∧ W.cell? ⟨b, o + i * 3, none⟩ = some (.string (cs.getD i rc0).k) ∧ W.cell? ⟨b, o + i * 3 + 1, none⟩ = some (.int .i64 (cs.getD i rc0).l) ∧ W.cell? ⟨b, o + i * 3 + 2, none⟩ = some (.int .i64 (cs.getD i rc0).w) := by
  obtain ⟨b, o, e, hc⟩ := h (by omega)
  exact ⟨b, o, e, hc i hi⟩

end Go.Proofs.Ytlgjplhffpmfpaa
end

section
namespace Go.Proofs.Ytlgjplhffpmfpaa
open Go.RowKit Go.Deep

abbrev kU : ByteArray := ⟨#[117]⟩
abbrev kD : ByteArray := ⟨#[100]⟩
noncomputable def trC (c : RC) : RC := ⟨if c.k.toList = [117] then kD else if c.k.toList = [100] then kU else c.k, c.l, c.w⟩
noncomputable def turnC (cs : List RC) : List RC := cs.reverse.map trC
theorem drop_rev (f : RC → RC) (cs : List RC) (j : Nat) (h : j < cs.length) : (cs.drop j).reverse.map f = (cs.drop (j + 1)).reverse.map f ++ [f (cs.getD j rc0)] := by
  rw [List.drop_eq_getElem_cons h, List.reverse_cons, List.map_append]
  congr 2
  simp [List.getD, h]
def resC (ok : Bool) (cs : List RC) : List RC := if ok = true then cs else []

theorem addr_add (b o i : Nat) : (⟨b, o, none⟩ : Addr).add i = ⟨b, o + i, none⟩ := by unfold Addr.add; split <;> simp_all
theorem cells_ch3 {W : World} {b o : Nat} {cs : List RC} (h : ∀ i, i < cs.length → W.cell? ⟨b, o + i * 3, none⟩ = some (.string (cs.getD i rc0).k) ∧ W.cell? ⟨b, o + i * 3 + 1, none⟩ = some (.int .i64 (cs.getD i rc0).l) ∧ W.cell? ⟨b, o + i * 3 + 2, none⟩ = some (.int .i64 (cs.getD i rc0).w)) :
    ∀ j u, (ch3 cs)[j]? = some u → W.cell? ((⟨b, o, none⟩ : Addr).add j) = some u := fun j u hj => by
  have hl : j < cs.length * 3 := by
    have := (List.getElem?_eq_some_iff.1 hj).1
    rw [ch3_length] at this; exact this
  obtain ⟨e1, e2, e3⟩ := ch3_get cs (j / 3) (by omega)
  obtain ⟨h1, h2, h3⟩ := h (j / 3) (by omega)
  rw [addr_add]
  have hj3 : j = j / 3 * 3 ∨ j = j / 3 * 3 + 1 ∨ j = j / 3 * 3 + 2 := by omega
  rcases hj3 with e | e | e
  · rw [e] at hj ⊢
    rw [e1] at hj; cases hj
    exact h1
  · rw [e] at hj ⊢
    rw [e2] at hj; cases hj
    rw [← Nat.add_assoc]
    exact h2
  · rw [e] at hj ⊢
    rw [e3] at hj; cases hj
    rw [← Nat.add_assoc]
    exact h3
theorem ChipsR.cells {w W : World} {b o : Nat} {cs : List RC} (h : ChipsR w (some ⟨b, o, none⟩) cs) (hs : w.Since w.heap.size W) : ∀ j u, (ch3 cs)[j]? = some u → W.cell? ((⟨b, o, none⟩ : Addr).add j) = some u := fun j u hj => by
  by_cases h0 : 0 < cs.length
  · obtain ⟨b', o', e, hc⟩ := h.since hs h0
    simp only [Option.some.injEq, Addr.mk.injEq, and_true] at e
    obtain ⟨rfl, rfl⟩ := e
    exact cells_ch3 hc j u hj
  · have := (List.getElem?_eq_some_iff.1 hj).1
    rw [ch3_length] at this
    omega

noncomputable def joinB (n : Int) (cs ds : List RC) : Bool := netB n cs && (netB n ds && decide (cs.length + ds.length ≤ 10))

end Go.Proofs.Ytlgjplhffpmfpaa
end

section
namespace Go.Proofs.Ytlgjplhffpmfpaa
open Go.RowKit Go.Deep Go.Shelf
attribute [local go_sem] Oper.semAt_some

def dotF (l u : List (List Int)) (i k j : Nat) : Int := at2 l i j * at2 u j k

set_option maxRecDepth 100000 in
set_option maxHeartbeats 2000000 in
theorem prodEntry_any (pu pt i k n n2 m m2 cap cap2 : Nat) (a a2 : Option Addr) (l u : List (List Int)) (w : World) (hn : l.length = n) (hu : u.length = n2) (hT : TabIn l) (hTu : TabIn u) (hmm : (l.getD 0 []).length = m) (hmm2 : (u.getD 0 []).length = m2) (hmn : m = n2)
    (hbu : w.cell? ⟨pu, 0, none⟩ = some (.slice a2 n2 cap2)) (hbt : w.cell? ⟨pt, 0, none⟩ = some (.slice a n cap)) (hm : MatR w a l) (hmu : MatR w a2 u) (hi : i < n) (hk : k < m2) :
    Calls Try.prog 87 #[.int .i64 i, .int .i64 k, .pointer (some ⟨pu, 0, none⟩), .pointer (some ⟨pt, 0, none⟩)] w fun e w' => e = .returned (.int .i64 (sumN (dotF l u i k) n2)) ∧ w.Since w.heap.size w' := by
  subst hmn
  have h6 := hT.2.1
  have g6 := hTu.2.1
  have h1 := hT.1
  have g1 := hTu.1
  have hw := hT.width
  have gw := hTu.width
  rw [hn] at h6 h1
  rw [hu] at g6 g1
  rw [hmm] at hw
  rw [hmm2] at gw
  obtain ⟨bt, ot, At, Ct, rfl, hlen, hcell⟩ := hm.grid hn hT hmm
  obtain ⟨bu, ou, Au, Cu, rfl, hlenu, hcellu⟩ := hmu.grid hu hTu hmm2
  have hpu : pu < w.heap.size := World.block_lt_of_cell? _ _ hbu
  have hpt : pt < w.heap.size := World.block_lt_of_cell? _ _ hbt
  have hbul : bu < w.heap.size := World.block_lt_of_cell? _ _ (hlenu 0 (by omega))
  have hbtl : bt < w.heap.size := World.block_lt_of_cell? _ _ (hlen 0 (by omega))
  have hpow : 2 ^ m - 1 ≤ 63 := by have : 2 ^ m ≤ 2 ^ 6 := Nat.pow_le_pow_right (by omega) g6; omega
  have HC := Lib.hid hcell
  have HCU := Lib.hid hcellu
  have HLU := Lib.hid hlenu
  obtain ⟨f, hf⟩ : ∃ f, f = dotF l u i k := ⟨_, rfl⟩
  rw [← hf]
  have HF := Lib.hid hf
  have hmix : Try.prog.follows .mixedOrders = true := by kernel_rfl
  clear hm hmu hT hTu hn hu hmm hmm2 hlen hcell hlenu hcellu hf
  refine (callsIn_wide (n := 9)).1 ?_
  refine callsIn_of_wp_marks Try.func87 rfl trivial ?_ rfl
  simp only [Try.ntmps87, List.size_toArray, List.length_cons, List.length_nil, Nat.reduceAdd, Nat.reduceSub, Array.replicate_succ, Array.replicate_zero, List.push_toArray, List.append_toArray, List.nil_append, List.cons_append]
  have hbuA := fun (o1 o2 o3 : Obj) => cell_alloc_l o3 (cell_alloc_l o2 (cell_alloc_l o1 hbu))
  gi_wp2
  gi_region_with_o (first
    | (refine ⟨trivial, ?_⟩; gi_at_call 78; refine (callsIn_wide.2 (allRows_any _ _ _ _ g6)).mono ?_; rintro e w' ⟨rfl, rfl⟩)
    | (refine ⟨trivial, ?_⟩; gi_at_call 77; refine (callsIn_wide.2 (rows_any _ _ _ _ _)).mono ?_; rintro e w' ⟨rfl, rfl⟩))
  all_goals
    gi_wp2
    obtain ⟨W0, hW0⟩ : ∃ W0, W0 = (((((w.alloc (.cells #[.int .i64 i] 3)).alloc (.cells #[.int .i64 k] 3)).alloc (.cells #[.int .i64 0] 3)).alloc (.cells #[.slice (some ⟨bu, ou, none⟩) m cap2] 42)).alloc (.cells #[.int .i64 (2 ^ m - 1 : Nat)] 3)).drew := ⟨_, rfl⟩
    rw [← hW0]
    obtain ⟨hsz0, hB0, d0, d1, d2, d2f, d3, d4⟩ := prod_world w (.int .i64 i) (.int .i64 k) (.int .i64 0) (.slice (some ⟨bu, ou, none⟩) m cap2) (.int .i64 (2 ^ m - 1 : Nat)) 42 W0 hW0
    have hc0' : ∀ j, j < m → W0.cell? ⟨bu, ou + j, none⟩ = some (.slice (Au j) m2 (Cu j)) := fun j hj => (hB0.cell (p := ⟨bu, ou + j, none⟩) hbul).trans (HLU.out j hj)
    have hstops := rows_stopsB 8 (by omega) (w.heap.size + 1 + 1) W0.heap.size (w.heap.size + 1 + 1 + 1) (w.heap.size + 1 + 1 + 1 + 1) bu ou m cap2 (2 ^ m - 1) (by omega) hpow Au (fun _ => m2) Cu W0 (Nat.le_refl _) (by omega) (by omega) (by omega) (by omega) (by omega) d3 d4 hc0'
    clear hc0' d3 d4 hbuA
    refine wpIn_rangeFunc_ownF (F := Fence.wide) (n := 9) rfl (by omega) (gf := 88) (lb := #[.pointer (some ⟨w.heap.size + 1 + 1 + 1, 0, none⟩), .pointer (some ⟨w.heap.size + 1 + 1 + 1 + 1, 0, none⟩)]) rfl trivial (enters_of Try.func88 (by kernel_rfl) rfl)
      hstops kpB_t (kpB_b (Nat.le_refl _)) (Below.refl _ _) (fun _ => rfl)
      (fun pre W => (W.cell? ⟨w.heap.size, 0, none⟩ = some (.int .i64 i) ∧ W.cell? ⟨w.heap.size + 1, 0, none⟩ = some (.int .i64 k) ∧ W.cell? ⟨w.heap.size + 1 + 1, 0, none⟩ = some (.int .i64 (lsum f pre)) ∧ W.frozen? ⟨w.heap.size + 1 + 1, 0, none⟩ = false) ∧ Below w.heap.size w W)
      (fun _ _ _ => False)
      (OwnFrom.and (Own.from (fun s A B row hs hg hr => ⟨cell_kept hs.1 hg hr, cell_kept hs.2.1 hg hr, cell_kept hs.2.2.1 hg hr, (frozen_kept hs.2.2.1 hg hr).trans hs.2.2.2⟩) _) (ownFrom_below (Nat.le_refl _) (by omega)))
      (fun c => fun s A B row hs hg hr => hs)
      ⟨⟨d0, d1, d2, d2f⟩, hB0⟩
      (fun x => { tmps := #[.int .i64 i, .int .i64 k, .pointer (some ⟨pu, 0, none⟩), .pointer (some ⟨pt, 0, none⟩), .pointer (some ⟨w.heap.size, 0, none⟩), .pointer (some ⟨w.heap.size + 1, 0, none⟩), .int .i64 0,
          .pointer (some ⟨w.heap.size + 1 + 1, 0, none⟩), .int .i64 x.1, .slice (Au x.1) m2 (Cu x.1), .slice (some ⟨bu, ou, none⟩) m cap2, .slice (some ⟨bu, ou, none⟩) m cap2, .int .i64 (2 ^ m - 1 : Nat),
          .func (.func 88) #[] #[.pointer (some ⟨w.heap.size + 1 + 1 + 1, 0, none⟩), .pointer (some ⟨w.heap.size + 1 + 1 + 1 + 1, 0, none⟩)],
          .int .i64 x.1, .slice (Au x.1) m2 (Cu x.1), undef, undef, undef, undef, undef, undef, undef, undef, undef, undef, undef, undef, undef, undef, undef], defers := [] }) ?assign ?body ?done ?stop
    case assign =>
      intro lp x W K hK
      gi_wp2
      exact hK
    case body =>
      rintro lp pre x W ⟨⟨g0, g1, g2, g2f⟩, gB⟩ hlen
      have hx2 := x.2
      obtain ⟨j, hj⟩ : ∃ j, x.1 = j := ⟨_, rfl⟩
      rw [hj] at hx2 ⊢
      obtain ⟨bi, oi, e1, e2, e3⟩ := HC.out i j hi hx2
      obtain ⟨bj, oj, f1, f2, f3⟩ := HCU.out j k hx2 hk
      have hAu : Au j = some ⟨bj, oj, none⟩ := by
        have := (HLU.out j hx2).symm.trans f1
        simp at this
        exact this
      rw [hAu]
      have hsn := lsum_snoc f pre x
      rw [hj] at hsn
      have hfj : f j = at2 l i j * at2 u j k := by rw [HF.out]; rfl
      have hlb := lsum_bd f (fun j hj => by
        obtain ⟨_, _, _, _, b1⟩ := HC.out i j hi hj
        obtain ⟨_, _, _, _, b2⟩ := HCU.out j k hj hk
        rw [HF.out]; exact mul_bd2 _ _ b1 b2) pre
      obtain ⟨p, hp⟩ : ∃ p, at2 l i j = p := ⟨_, rfl⟩
      obtain ⟨q, hq⟩ : ∃ q, at2 u j k = q := ⟨_, rfl⟩
      obtain ⟨s, hs⟩ : ∃ s, lsum f pre = s := ⟨_, rfl⟩
      rw [hp] at e2 e3 hfj
      rw [hq] at f2 f3 hfj
      rw [hs] at g2 hsn hlb
      have hpq := mul_bd2 p q e3 f3
      have hw1 : IntKind.i64.wrap (p * q) = p * q := IntWalk.i64_in _ ⟨by omega, by omega⟩
      have hw2 : IntKind.i64.wrap (s + p * q) = s + p * q := IntWalk.i64_in _ ⟨by omega, by omega⟩
      rw [hfj] at hsn
      have HSN := Lib.hid hsn
      have E0 := (gB.cell (p := ⟨pt, 0, none⟩) hpt).trans hbt
      have E1 := (gB.cell (p := ⟨bt, ot + i, none⟩) hbtl).trans e1
      have E2 := (gB.cell (p := ⟨bi, oi + j, none⟩) (World.block_lt_of_cell? _ _ e2)).trans e2
      have F2 := (gB.cell (p := ⟨bj, oj + k, none⟩) (World.block_lt_of_cell? _ _ f2)).trans f2
      clear hj hp hq hs hsn hlb hfj e1 e2 f1 f2 hAu
      gi_wp2
      refine round_still_tail 14 hmix (by kernel_rfl) (by kernel_rfl) ?hno ?_
      case hno =>
        rintro ⟨a, w, h⟩
        exact h
      simp only [List.take_succ_cons, List.take_zero, List.drop_succ_cons, List.drop_zero]
      repeat still_step
      refine wpStill_nil ?_
      go_wp2
      rw [← HSN.out] at hw2 ⊢
      have hset : ∀ v, (W.setCell ⟨w.heap.size + 1 + 1, 0, none⟩ v).frozen? ⟨w.heap.size + 1 + 1, 0, none⟩ = false := fun v => (W.frozen?_setCell _ _ _).trans g2f
      refine ⟨(KeepsOthers.setCell _ _ _).trans (KeepsOthers.drew _), ⟨?_, fun b h1 _ => ?_⟩, ⟨?_, ?_, ?_, ?_⟩, (gB.setCell (p := ⟨w.heap.size + 1 + 1, 0, none⟩) (by simp; omega) _).drew⟩
      · simp
      · exact Below.heap_setCell _ _ _ _ h1
      · exact (World.cell?_setCell_other _ _ _ _ (fun e => by injection e with e1; omega)).trans g0
      · exact (World.cell?_setCell_other _ _ _ _ (fun e => by injection e with e1; omega)).trans g1
      · exact World.cell?_setCell_same' _ _ _ (by rw [g2]; rfl)
      · exact hset _
    case done => 
      rintro D ys W hD rfl ⟨⟨g0, g1, g2, g2f⟩, gB⟩ hK
      gi_wp2
      refine ⟨by simp, .inl ⟨_, _, rfl, run_takeDeferred hK, ?_⟩⟩
      refine ⟨.int .i64 (sumN f m), ?_, rfl, below_since (gB.trans (belowK_b (w := w) (Nat.le_refl _) W D _ _ (by omega) hK rfl rfl))⟩
      have hls := lsum_sel f (2 ^ m - 1) m (fun i hi => by rw [Nat.testBit_two_pow_sub_one]; simpa using hi) m (Nat.le_refl _)
      simp [results, Try.f87, go_sem, hls]
    case stop =>
      rintro D c pre W hD hpre hF hK
      exact hF.elim

end Go.Proofs.Ytlgjplhffpmfpaa
end

section
namespace Go.Proofs.Ytlgjplhffpmfpaa
open Go.RowKit Go.Deep

def makeL (l u : List (List Int)) : List (List Int) := tabF l.length (u.getD 0 []).length fun i k => sumN (dotF l u i k) u.length
theorem makeL_length (l u : List (List Int)) : (makeL l u).length = l.length := tabF_length _ _ _

set_option maxRecDepth 100000 in
set_option maxHeartbeats 2000000 in
theorem product_any (a : Option Addr) (cap n : Nat) (l : List (List Int)) (a2 : Option Addr) (cap2 n2 : Nat) (u : List (List Int)) (w : World) (hn : l.length = n) (hT : TabIn l) (hm : MatR w a l) (hu : u.length = n2) (hTu : TabIn u) (huw : (l.getD 0 []).length = n2) (hmu : MatR w a2 u) :
    Calls Try.prog 65 #[.slice a n cap, .slice a2 n2 cap2] w fun e w' => e = .returned (.slice (some ⟨w.heap.size + 1 + 1, 0, none⟩) n n) ∧ w.Since w.heap.size w' ∧ OwnT w.heap.size w'.heap.size w' (some ⟨w.heap.size + 1 + 1, 0, none⟩) (makeL l u) := by
  have hw := hTu.width
  have h6 := hT.2.1
  rw [hn] at h6
  have g6 := hTu.2.1
  have g1 := hTu.1
  rw [hu] at g6 g1
  have hwid := fun (W : World) (hs : w.Since w.heap.size W) => width_any a2 cap2 n2 u W hu (by omega) (by omega) (hmu.since hs)
  obtain ⟨m2, hmm⟩ : ∃ m, (u.getD 0 []).length = m := ⟨_, rfl⟩
  have hnt := fun (W : World) (hs : w.Since w.heap.size W) (hb0 : W.cell? ⟨w.heap.size, 0, none⟩ = some (.slice a n cap)) (hb1 : W.cell? ⟨w.heap.size + 1, 0, none⟩ = some (.slice a2 n2 cap2)) =>
    newTable_any 87 #[.pointer (some ⟨w.heap.size + 1, 0, none⟩), .pointer (some ⟨w.heap.size, 0, none⟩)] n m2 (fun i k => sumN (dotF l u i k) n2) W (by omega) (by omega) (enters_of Try.func87 (by kernel_rfl) rfl)
      (fun W' i k hs' hi hk => prodEntry_any (w.heap.size + 1) w.heap.size i k n n2 n2 m2 cap cap2 a a2 l u W' hn hu hT hTu huw hmm rfl ((hs'.cell (a := ⟨w.heap.size + 1, 0, none⟩) (World.block_lt_of_cell? _ _ hb1)).trans hb1) ((hs'.cell (a := ⟨w.heap.size, 0, none⟩) (World.block_lt_of_cell? _ _ hb0)).trans hb0) (hm.since (hs.trans (since_mono hs' hs.size))) (hmu.since (hs.trans (since_mono hs' hs.size))) hi hk)
  have htl : makeL l u = tabF n m2 (fun i k => sumN (dotF l u i k) n2) := by unfold makeL; rw [hmm, hn, hu]
  rw [hmm] at hwid hw
  rw [htl]
  have HW := Lib.hid hwid
  have HNT := Lib.hid hnt
  have HS1 := Lib.hid (show w.Since w.heap.size ((w.alloc (.cells #[.slice a n cap] 42)).alloc (.cells #[.slice a2 n2 cap2] 42)) from (((World.Since.refl _ _).alloc (Nat.le_refl _) _).alloc (by simp) _))
  have hc0 := cell_new_l w (.slice a n cap) 42
  have hc1 := cell_new_l (w.alloc (.cells #[.slice a n cap] 42)) (.slice a2 n2 cap2) 42
  simp only [World.size_alloc] at hc1
  have hcb0 : ((w.alloc (.cells #[.slice a n cap] 42)).alloc (.cells #[.slice a2 n2 cap2] 42)).cell? ⟨w.heap.size, 0, none⟩ = some (.slice a n cap) := (cell_alloc_l _ hc0.1)
  have hcb1 : ((w.alloc (.cells #[.slice a n cap] 42)).alloc (.cells #[.slice a2 n2 cap2] 42)).cell? ⟨w.heap.size + 1, 0, none⟩ = some (.slice a2 n2 cap2) := hc1.1
  clear hwid hnt hm hT hn hmm htl hc0 hc1 hu hTu huw hmu
  go_enter Try.func65, Try.ntmps65
  go_wp2
  go_region_held3 (fun w' => w'.cell? ⟨w.heap.size, 0, none⟩ = some (.slice a n cap) ∧ w'.cell? ⟨w.heap.size + 1, 0, none⟩ = some (.slice a2 n2 cap2)) (go_keep)
    (first
      | (go_at_call 38; refine (HW.out _ ?_).mono ?_; (exact World.Since.drew HS1.out); rintro e w1 ⟨rfl, rfl⟩)
      | (go_at_call 67; refine (HNT.out _ ?_ ?_ ?_).mono ?_; (exact World.Since.drew HS1.out); (exact hcb0); (exact hcb1); rintro e w1 ⟨rfl, hs2, ho⟩; have hcc := hs2.cell (a := ⟨w.heap.size, 0, none⟩) (World.block_lt_of_cell? _ _ hcb0); simp only [World.cell?_drew, hcb0] at hcc; have hcd := hs2.cell (a := ⟨w.heap.size + 1, 0, none⟩) (World.block_lt_of_cell? _ _ hcb1); simp only [World.cell?_drew, hcb1] at hcd))
  all_goals
    go_wp2
    go_ret
    refine ⟨rfl, HS1.out.trans (since_mono (since_of_drew hs2) (by simp; omega)), ?_⟩
    have hz : ((w.alloc (.cells #[.slice a n cap] 42)).alloc (.cells #[.slice a2 n2 cap2] 42)).drew.heap.size = w.heap.size + 1 + 1 := by simp
    rw [hz] at ho
    exact ho.mono (by omega) (Nat.le_refl _)

noncomputable def makeOk (l u : List (List Int)) : Bool := tabIn l && (tabIn u && (((l.getD 0 []).length == u.length) && tabIn (makeL l u)))
theorem szL_make {l u : List (List Int)} (h : TabIn l) (hu : TabIn u) : szL (makeL l u) ≤ 1048576 := szL_tabF _ _ _ (by have := h.2.1; omega) (by have := hu.width; omega)

end Go.Proofs.Ytlgjplhffpmfpaa
end

section
namespace Go.Proofs.Ytlgjplhffpmfpaa
open Go.RowKit Go.Deep

def partF (f : Nat → Nat → Int) (n2 k j c : Nat) : Int := if c < k then sumN (f c) n2 else if c = k then sumN (f k) j else 0

structure MR (wo wr : World) (m2 : Nat) (f : Nat → Nat → Int) (n2 k j : Nat) : Prop where
  since : wo.Since wo.heap.size wr
  row : wr.rowIs wo.heap.size 3 m2 (fun c => .int .i64 (partF f n2 k j c))
theorem mr_start (wo : World) (m2 : Nat) (f : Nat → Nat → Int) (n2 : Nat) : MR wo (wo.alloc (.cells (madeCells #[.int .i64 0] m2) 3)) m2 f n2 0 0 :=
  ⟨(World.Since.refl _ _).alloc (Nat.le_refl _) _, (World.rowIs_made wo (.int .i64 0) m2 3).congr fun c _ => by
    unfold partF
    rw [if_neg (by omega)]
    by_cases e : c = 0
    · rw [if_pos e]; rfl
    · rw [if_neg e]⟩
theorem MR.facts {wo wr : World} {m2 n2 k j : Nat} {f : Nat → Nat → Int} (h : MR wo wr m2 f n2 k j) (hk : k < m2) : wr.cell? ⟨wo.heap.size, k, none⟩ = some (.int .i64 (sumN (f k) j)) ∧ wr.frozen? ⟨wo.heap.size, k, none⟩ = false := by
  refine ⟨?_, h.row.frozen k⟩
  have := h.row.cell hk
  unfold partF at this
  rw [if_neg (by omega), if_pos rfl] at this
  exact this
theorem MR.store {wo wr : World} {m2 n2 k j : Nat} {f : Nat → Nat → Int} (h : MR wo wr m2 f n2 k j) (q : Nat) (hk : k < m2) : MR wo ((wr.drewN q).setCell ⟨wo.heap.size, k, none⟩ (.int .i64 (sumN (f k) (j + 1)))) m2 f n2 k (j + 1) := by
  have hr : (wr.drewN q).rowIs wo.heap.size 3 m2 (fun c => .int .i64 (partF f n2 k j c)) := h.row
  refine ⟨(since_drewN h.since q).setCell (Nat.le_refl _) _, (hr.set k _).congr fun c _ => ?_⟩
  unfold partF
  by_cases e : c = k
  · subst e; simp
  · rw [if_neg e]
    by_cases e2 : c < k
    · rw [if_pos e2, if_pos e2]
    · rw [if_neg e2, if_neg e, if_neg e2, if_neg e]
theorem MR.next {wo wr : World} {m2 n2 k : Nat} {f : Nat → Nat → Int} (h : MR wo wr m2 f n2 k n2) : MR wo wr m2 f n2 (k + 1) 0 := by
  refine ⟨h.since, h.row.congr fun c _ => ?_⟩
  unfold partF
  by_cases e2 : c < k
  · rw [if_pos e2, if_pos (by omega)]
  · rw [if_neg e2]
    by_cases e : c = k
    · subst e; simp
    · rw [if_neg e, if_neg (by omega)]
      by_cases e3 : c = k + 1
      · rw [if_pos e3]; rfl
      · rw [if_neg e3]
theorem MR.rowB {wo wr : World} {m2 n2 : Nat} {f : Nat → Nat → Int} (h : MR wo wr m2 f n2 m2 0) : RowB wr wo.heap.size ((List.range m2).map fun c => sumN (f c) n2) :=
  RowB.of_rowIs h.row (by simp) fun i hi => by
    simp at hi
    unfold partF
    rw [if_pos hi]
    simp [List.getD, hi]

def makeTo (l u : List (List Int)) (m2 n2 i : Nat) : List (List Int) := tabF i m2 fun i k => sumN (dotF l u i k) n2
theorem makeTo_succ (l u : List (List Int)) (m2 n2 i : Nat) : makeTo l u m2 n2 (i + 1) = makeTo l u m2 n2 i ++ [(List.range m2).map fun k => sumN (dotF l u i k) n2] := by simp [makeTo, tabF, List.range_succ]
theorem makeTo_length (l u : List (List Int)) (m2 n2 i : Nat) : (makeTo l u m2 n2 i).length = i := tabF_length _ _ _
theorem sumN_bd (f : Nat → Int) : ∀ (n : Nat), (∀ j, j < n → -900 ≤ f j ∧ f j ≤ 900) → -(900 * (n : Int)) ≤ sumN f n ∧ sumN f n ≤ 900 * (n : Int)
  | 0, _ => by simp [sumN]
  | n + 1, h => by
    have h1 := sumN_bd f n (fun j hj => h j (by omega))
    have h2 := h n (by omega)
    unfold sumN
    omega

set_option maxRecDepth 100000 in
set_option maxHeartbeats 4000000 in
theorem l1Make_any (a a2 : Option Addr) (cap cap2 n n2 : Nat) (l u : List (List Int)) (w : World) (hn : l.length = n) (hu : u.length = n2) (hm : MatR w a l) (hmu : MatR w a2 u) (hT : TabIn l) (hTu : TabIn u) (hmm : (l.getD 0 []).length = n2) :
    Calls Try.prog 72 #[.slice a n cap, .slice a2 n2 cap2] w fun e w' => ∃ a' cap', e = .returned (.slice a' n cap') ∧ w.Since w.heap.size w' ∧ OwnT w.heap.size w'.heap.size w' a' (makeL l u) := by
  obtain ⟨i42, hi42⟩ := info42_parts
  have HI := Lib.hid hi42
  clear hi42
  have hst := bt_start w (fun _ => none) (fun _ => 0) #[] rfl
  have h6 := hT.2.1
  have h1 := hT.1
  have g6 := hTu.2.1
  have g1 := hTu.1
  have gw := hTu.width
  rw [hn] at h6 h1
  rw [hu] at g6 g1
  obtain ⟨m2, hmm2⟩ : ∃ m, (u.getD 0 []).length = m := ⟨_, rfl⟩
  have htl : makeL l u = makeTo l u m2 n2 n := by unfold makeL makeTo; rw [hmm2, hn, hu]
  rw [hmm2] at gw
  rw [htl]
  have hmk := run_make_row' (P := Try.prog) 27 3 (.int .i64 0) 8 Try.underlying27 Try.info3 rfl .i64 .i64 m2 (by omega) (by omega)
  obtain ⟨bt, ot, At, Ct, rfl, hlen, hcell⟩ := hm.grid hn hT hmm
  obtain ⟨bu, ou, Au, Cu, rfl, hlenu, hcellu⟩ := hmu.grid hu hTu hmm2
  have hcu0 := hlenu 0 (by omega)
  rw [Nat.add_zero] at hcu0
  have hbul : bu < w.heap.size := World.block_lt_of_cell? _ _ hcu0
  have HC := Lib.hid hcell
  have HCU := Lib.hid hcellu
  have HCU0 := Lib.hid hcu0
  have HMK := Lib.hid hmk
  have hmix : Try.prog.follows .mixedOrders = true := by kernel_rfl
  clear hm hn hmm hlen hcell hT hmu hTu hlenu hcellu hu hmm2 htl hcu0 hmk
  go_enter Try.func72, Try.ntmps72
  go_wp2
  go_loopg [5, 6, 7, 8, 9] n (fun g v i _ _ _ wr => ∃ r : Nat, ∃ A C, r ≤ n ∧ g = n - r ∧ i = .int .i64 r ∧ BT w wr v (makeTo l u m2 n2 r) A C)
  case atStart => exact ⟨0, _, _, Nat.zero_le _, rfl, rfl, hst⟩
  case round =>
    obtain ⟨r, A, C, hr, rfl, rfl, hR⟩ := hrel
    clear hst
    by_cases hlt : r < n
    · have HR := Lib.hid hR
      have hsz := hR.since.size
      have hlen := makeTo_length l u m2 n2 r
      have hc0 := HCU0.out
      rw [← hR.since.cell (a := ⟨bu, ou, none⟩) hbul] at hc0
      have hmr := mr_start wr m2 (dotF l u r) n2
      have HMR := Lib.hid hmr
      have hmk := HMK.out
      obtain ⟨wo, hwo⟩ : ∃ wo : World, wo = wr := ⟨_, rfl⟩
      clear hR hmr
      go_wp2
      clear hmk hc0
      subst hwo
      obtain ⟨g, hg⟩ : ∃ g, wo.heap.size = g := ⟨_, rfl⟩
      rw [hg]
      have HG := Lib.hid hg
      have hwg : w.heap.size ≤ g := by omega
      clear hg
      go_loopg [8, 9] m2 (fun g k _ wi => ∃ c : Nat, c ≤ m2 ∧ g = m2 - c ∧ k = .int .i64 c ∧ MR wo wi m2 (dotF l u r) n2 c 0)
      case atStart => exact ⟨0, Nat.zero_le _, rfl, rfl, HMR.out⟩
      case round =>
        obtain ⟨c, hc, rfl, rfl, hI⟩ := hrel
        clear HMR
        have hS := HR.out.since.trans (since_mono hI.since hsz)
        have hc0 := HCU0.out
        rw [← hS.cell (a := ⟨bu, ou, none⟩) hbul] at hc0
        by_cases hcm : c < m2
        · have HII := Lib.hid hI
          clear hI hS
          go_wp2
          clear hc0
          go_loopg [9] n2 (fun g j wj => ∃ j' : Nat, j' ≤ n2 ∧ g = n2 - j' ∧ j = .int .i64 j' ∧ MR wo wj m2 (dotF l u r) n2 c j')
          case atStart => exact ⟨0, Nat.zero_le _, rfl, rfl, HII.out⟩
          case round =>
            obtain ⟨j, hj, rfl, rfl, hJ⟩ := hrel
            clear HII
            by_cases hjn : j < n2
            · obtain ⟨b1, o1, e1, e2, e3⟩ := HC.out r j hlt hjn
              obtain ⟨d1, q1, f1, f2, f3⟩ := HCU.out j c hjn hcm
              have hS := HR.out.since.trans (since_mono hJ.since hsz)
              obtain ⟨k1, k2⟩ := hJ.facts hcm
              have hzz := HR.out.since.size
              have hb1 : bt < w.heap.size := World.block_lt_of_cell? _ _ e1
              have hb2 : b1 < w.heap.size := World.block_lt_of_cell? _ _ e2
              have hb4 : d1 < w.heap.size := World.block_lt_of_cell? _ _ f2
              rw [← hS.cell (a := ⟨bt, ot + r, none⟩) hb1] at e1
              rw [← hS.cell (a := ⟨b1, o1 + j, none⟩) hb2] at e2
              rw [← hS.cell (a := ⟨bu, ou + j, none⟩) hbul] at f1
              rw [← hS.cell (a := ⟨d1, q1 + c, none⟩) hb4] at f2
              have hbd := sumN_bd (dotF l u r c) j (fun j' hj' => by
                obtain ⟨_, _, _, _, b1⟩ := HC.out r j' hlt (by omega)
                obtain ⟨_, _, _, _, b2⟩ := HCU.out j' c (by omega) hcm
                exact mul_bd2 _ _ b1 b2)
              have hsu : sumN (dotF l u r c) (j + 1) = sumN (dotF l u r c) j + at2 l r j * at2 u j c := rfl
              have hN := fun q => hJ.store q hcm
              rw [hsu] at hN
              obtain ⟨p, hp⟩ : ∃ p, at2 l r j = p := ⟨_, rfl⟩
              obtain ⟨q, hq⟩ : ∃ q, at2 u j c = q := ⟨_, rfl⟩
              obtain ⟨s, hs⟩ : ∃ s, sumN (dotF l u r c) j = s := ⟨_, rfl⟩
              rw [hp] at e2 e3 hN
              rw [hq] at f2 f3 hN
              rw [hs] at k1 hbd hN
              have hpq := mul_bd2 p q e3 f3
              have hw1 : IntKind.i64.wrap (p * q) = p * q := IntWalk.i64_in _ ⟨by omega, by omega⟩
              have hw2 : IntKind.i64.wrap (s + p * q) = s + p * q := IntWalk.i64_in _ ⟨by omega, by omega⟩
              rw [HG.out] at k1 k2 hN
              have m1 := cell_set_ne (g := g) (j := c) (v := .int .i64 (s + p * q)) e1 (show bt ≠ g by omega)
              have m2' := cell_set_ne (g := g) (j := c) (v := .int .i64 (s + p * q)) e2 (show b1 ≠ g by omega)
              have m3 := cell_set_ne (g := g) (j := c) (v := .int .i64 (s + p * q)) f1 (show bu ≠ g by omega)
              have m4 := cell_set_ne (g := g) (j := c) (v := .int .i64 (s + p * q)) f2 (show d1 ≠ g by omega)
              have HN := Lib.hid (hN 1)
              clear hN hJ hp hq hs hsu hS hbd
              go_wp2
              go_still_tail 22, hmix
              go_wp2
              go_roundg (n2 - (j + 1))
              case measure => omega
              case rel => exact ⟨j + 1, by omega, rfl, by go_num, HN.out⟩
            · have hjj : j = n2 := by omega
              subst hjj
              have HNN := Lib.hid hJ.next
              clear hJ
              go_wp2
              go_roundg (m2 - (c + 1))
              case measure => omega
              case rel => exact ⟨c + 1, by omega, rfl, by go_num, HNN.out⟩
        · have hcc : c = m2 := by omega
          subst hcc
          have HII := Lib.hid hI
          have hzi := hI.since.size
          clear hI hS
          go_wp2_with (at_builtin; (refine wpList_append_own _ rfl _ _ 23 rfl w.heap.size 27 i42 (.slice none 0 0) 1 24 Try.underlying23 HI.out.1 HI.out.2.1 HI.out.2.2.1 HI.out.2.2.2 rfl (by decide) _ _ _ rfl ((HR.out.later HII.out.since).own.alloc _) ⟨wr.heap.size, 0, none⟩ 1 1 [.slice (some ⟨g, 0, none⟩) c c] rfl rfl (cell_one_at _ _ _ rfl) (fun x hx => by simp at hx; subst hx; rfl) (by unfold maxLen; omega) (by omega) (by simp; omega) ?_); intro v' w1 hown' hgrow _)
          have hP := (HR.out.later HII.out.since).push (rv := .slice (some ⟨g, 0, none⟩) c c) (x := (List.range c).map fun k => sumN (dotF l u r k) n2) (a := some ⟨g, 0, none⟩) (cp := c) (by simp)
            (fun _ => ⟨g, rfl, hwg, by rw [← HG.out]; exact HII.out.rowB⟩) (fun _ => HR.out.fresh rfl (by rw [HG.out]; exact Nat.le_refl _)) hown' hgrow
          rw [← makeTo_succ] at hP
          have HP := Lib.hid hP
          clear hP hown' hgrow hlen
          go_roundg (n - (r + 1))
          case measure => omega
          case rel => exact ⟨r + 1, _, _, by omega, rfl, by go_num, HP.out⟩
    · have : r = n := by omega
      subst this
      obtain ⟨a, cap, rfl, hin⟩ := hR.ownT
      have HS := Lib.hid hR.since
      clear hR
      go_wp2
      go_ret
      exact ⟨a, cap, by show Ending.returned (.slice a (makeTo l u m2 n2 r).length cap) = _; rw [makeTo_length], HS.out, hin⟩

theorem szL_makeOk (l u : List (List Int)) (h : makeOk l u = true) : szL (makeL l u) ≤ 1048576 := by
  unfold makeOk at h
  rw [Bool.and_eq_true, Bool.and_eq_true] at h
  exact szL_make (tabIn_of h.1) (tabIn_of h.2.1)

end Go.Proofs.Ytlgjplhffpmfpaa
end

section
namespace Go.Proofs.Ytlgjplhffpmfpaa
open Go.RowKit Go.Deep

theorem MatR.gridR {w : World} {a : Option Addr} {l : List (List Int)} {n m : Nat} (h : MatR w a l) (hn : l.length = n) (hT : Rec l) (hm : (l.getD 0 []).length = m) :
    ∃ (b o : Nat) (A : Nat → Option Addr) (C : Nat → Nat), a = some ⟨b, o, none⟩ ∧ (∀ i, i < n → w.cell? ⟨b, o + i, none⟩ = some (.slice (A i) m (C i))) ∧
      ∀ i j, i < n → j < m → ∃ b' o', w.cell? ⟨b, o + i, none⟩ = some (.slice (some ⟨b', o', none⟩) m (C i)) ∧ w.cell? ⟨b', o' + j, none⟩ = some (.int .i64 (at2 l i j)) := by
  subst hn
  have hrow : ∀ r, r < l.length → (l.getD r []).length = m := fun r hr => by rw [hT.row hr, hm]
  obtain ⟨b, o, A, C, e, hc⟩ := h hT.low
  refine ⟨b, o, A, C, e, fun i hi => by rw [(hc i hi).1, hrow i hi], fun i j hi hj => ?_⟩
  obtain ⟨hc1, hc2⟩ := hc i hi
  have hrl := hrow i hi
  obtain ⟨b', o', e', h3⟩ := hc2 (by omega)
  rw [e', hrl] at hc1
  exact ⟨b', o', hc1, h3 j (by omega)⟩

end Go.Proofs.Ytlgjplhffpmfpaa
end

section
namespace Go.Proofs.Ytlgjplhffpmfpaa
open Go.RowKit Go.Deep

set_option maxRecDepth 100000 in
set_option maxHeartbeats 4000000 in
theorem l1MakeR_any (a a2 : Option Addr) (cap cap2 n n2 : Nat) (l u : List (List Int)) (w : World) (hn : l.length = n) (hu : u.length = n2) (hm : MatR w a l) (hmu : MatR w a2 u) (hT : Rec l) (hTu : Rec u) (hmm : (l.getD 0 []).length = n2) (hB : ∀ i j k, i < n → j < n2 → k < (u.getD 0 []).length → -1000000000000 ≤ at2 l i j * at2 u j k ∧ at2 l i j * at2 u j k ≤ 1000000000000) :
    Calls Try.prog 72 #[.slice a n cap, .slice a2 n2 cap2] w fun e w' => ∃ a' cap', e = .returned (.slice a' n cap') ∧ w.Since w.heap.size w' ∧ OwnT w.heap.size w'.heap.size w' a' (makeL l u) := by
  obtain ⟨i42, hi42⟩ := info42_parts
  have HI := Lib.hid hi42
  clear hi42
  have hst := bt_start w (fun _ => none) (fun _ => 0) #[] rfl
  have h6 := hT.high
  have h1 := hT.low
  have g6 := hTu.high
  have g1 := hTu.low
  have gw := hTu.width
  rw [hn] at h6 h1
  rw [hu] at g6 g1
  obtain ⟨m2, hmm2⟩ : ∃ m, (u.getD 0 []).length = m := ⟨_, rfl⟩
  have htl : makeL l u = makeTo l u m2 n2 n := by unfold makeL makeTo; rw [hmm2, hn, hu]
  rw [hmm2] at gw hB
  have HB := Lib.hid hB
  clear hB
  rw [htl]
  have hmk := run_make_row' (P := Try.prog) 27 3 (.int .i64 0) 8 Try.underlying27 Try.info3 rfl .i64 .i64 m2 (by omega) (by omega)
  obtain ⟨bt, ot, At, Ct, rfl, hlen, hcell⟩ := hm.gridR hn hT hmm
  obtain ⟨bu, ou, Au, Cu, rfl, hlenu, hcellu⟩ := hmu.gridR hu hTu hmm2
  have hcu0 := hlenu 0 (by omega)
  rw [Nat.add_zero] at hcu0
  have hbul : bu < w.heap.size := World.block_lt_of_cell? _ _ hcu0
  have HC := Lib.hid hcell
  have HCU := Lib.hid hcellu
  have HCU0 := Lib.hid hcu0
  have HMK := Lib.hid hmk
  have hmix : Try.prog.follows .mixedOrders = true := by kernel_rfl
  clear hm hn hmm hlen hcell hT hmu hTu hlenu hcellu hu hmm2 htl hcu0 hmk
  go_enter Try.func72, Try.ntmps72
  go_wp2
  go_loopg [5, 6, 7, 8, 9] n (fun g v i _ _ _ wr => ∃ r : Nat, ∃ A C, r ≤ n ∧ g = n - r ∧ i = .int .i64 r ∧ BT w wr v (makeTo l u m2 n2 r) A C)
  case atStart => exact ⟨0, _, _, Nat.zero_le _, rfl, rfl, hst⟩
  case round =>
    obtain ⟨r, A, C, hr, rfl, rfl, hR⟩ := hrel
    clear hst
    by_cases hlt : r < n
    · have HR := Lib.hid hR
      have hsz := hR.since.size
      have hlen := makeTo_length l u m2 n2 r
      have hc0 := HCU0.out
      rw [← hR.since.cell (a := ⟨bu, ou, none⟩) hbul] at hc0
      have hmr := mr_start wr m2 (dotF l u r) n2
      have HMR := Lib.hid hmr
      have hmk := HMK.out
      obtain ⟨wo, hwo⟩ : ∃ wo : World, wo = wr := ⟨_, rfl⟩
      clear hR hmr
      go_wp2
      clear hmk hc0
      subst hwo
      obtain ⟨g, hg⟩ : ∃ g, wo.heap.size = g := ⟨_, rfl⟩
      rw [hg]
      have HG := Lib.hid hg
      have hwg : w.heap.size ≤ g := by omega
      clear hg
      go_loopg [8, 9] m2 (fun g k _ wi => ∃ c : Nat, c ≤ m2 ∧ g = m2 - c ∧ k = .int .i64 c ∧ MR wo wi m2 (dotF l u r) n2 c 0)
      case atStart => exact ⟨0, Nat.zero_le _, rfl, rfl, HMR.out⟩
      case round =>
        obtain ⟨c, hc, rfl, rfl, hI⟩ := hrel
        clear HMR
        have hS := HR.out.since.trans (since_mono hI.since hsz)
        have hc0 := HCU0.out
        rw [← hS.cell (a := ⟨bu, ou, none⟩) hbul] at hc0
        by_cases hcm : c < m2
        · have HII := Lib.hid hI
          clear hI hS
          go_wp2
          clear hc0
          go_loopg [9] n2 (fun g j wj => ∃ j' : Nat, j' ≤ n2 ∧ g = n2 - j' ∧ j = .int .i64 j' ∧ MR wo wj m2 (dotF l u r) n2 c j')
          case atStart => exact ⟨0, Nat.zero_le _, rfl, rfl, HII.out⟩
          case round =>
            obtain ⟨j, hj, rfl, rfl, hJ⟩ := hrel
            clear HII
            by_cases hjn : j < n2
            · obtain ⟨b1, o1, e1, e2⟩ := HC.out r j hlt hjn
              obtain ⟨d1, q1, f1, f2⟩ := HCU.out j c hjn hcm
              have hS := HR.out.since.trans (since_mono hJ.since hsz)
              obtain ⟨k1, k2⟩ := hJ.facts hcm
              have hzz := HR.out.since.size
              have hb1 : bt < w.heap.size := World.block_lt_of_cell? _ _ e1
              have hb2 : b1 < w.heap.size := World.block_lt_of_cell? _ _ e2
              have hb4 : d1 < w.heap.size := World.block_lt_of_cell? _ _ f2
              rw [← hS.cell (a := ⟨bt, ot + r, none⟩) hb1] at e1
              rw [← hS.cell (a := ⟨b1, o1 + j, none⟩) hb2] at e2
              rw [← hS.cell (a := ⟨bu, ou + j, none⟩) hbul] at f1
              rw [← hS.cell (a := ⟨d1, q1 + c, none⟩) hb4] at f2
              have hbd := sumN_bdB (f := dotF l u r c) (B := 1000000000000) j (fun j' hj' => HB.out r j' c hlt (by omega) hcm)
              have hpq := HB.out r j c hlt hjn hcm
              have hsu : sumN (dotF l u r c) (j + 1) = sumN (dotF l u r c) j + at2 l r j * at2 u j c := rfl
              have hN := fun q => hJ.store q hcm
              rw [hsu] at hN
              obtain ⟨p, hp⟩ : ∃ p, at2 l r j = p := ⟨_, rfl⟩
              obtain ⟨q, hq⟩ : ∃ q, at2 u j c = q := ⟨_, rfl⟩
              obtain ⟨s, hs⟩ : ∃ s, sumN (dotF l u r c) j = s := ⟨_, rfl⟩
              rw [hp] at e2 hpq hN
              rw [hq] at f2 hpq hN
              rw [hs] at k1 hbd hN
              have hw1 : IntKind.i64.wrap (p * q) = p * q := IntWalk.i64_in _ ⟨by omega, by omega⟩
              have hw2 : IntKind.i64.wrap (s + p * q) = s + p * q := IntWalk.i64_in _ ⟨by omega, by omega⟩
              rw [HG.out] at k1 k2 hN
              have m1 := cell_set_ne (g := g) (j := c) (v := .int .i64 (s + p * q)) e1 (show bt ≠ g by omega)
              have m2' := cell_set_ne (g := g) (j := c) (v := .int .i64 (s + p * q)) e2 (show b1 ≠ g by omega)
              have m3 := cell_set_ne (g := g) (j := c) (v := .int .i64 (s + p * q)) f1 (show bu ≠ g by omega)
              have m4 := cell_set_ne (g := g) (j := c) (v := .int .i64 (s + p * q)) f2 (show d1 ≠ g by omega)
              have HN := Lib.hid (hN 1)
              clear hN hJ hp hq hs hsu hS hbd
              go_wp2
              go_still_tail 22, hmix
              go_wp2
              go_roundg (n2 - (j + 1))
              case measure => omega
              case rel => exact ⟨j + 1, by omega, rfl, by go_num, HN.out⟩
            · have hjj : j = n2 := by omega
              subst hjj
              have HNN := Lib.hid hJ.next
              clear hJ
              go_wp2
              go_roundg (m2 - (c + 1))
              case measure => omega
              case rel => exact ⟨c + 1, by omega, rfl, by go_num, HNN.out⟩
        · have hcc : c = m2 := by omega
          subst hcc
          have HII := Lib.hid hI
          have hzi := hI.since.size
          clear hI hS
          go_wp2_with (at_builtin; (refine wpList_append_own _ rfl _ _ 23 rfl w.heap.size 27 i42 (.slice none 0 0) 1 24 Try.underlying23 HI.out.1 HI.out.2.1 HI.out.2.2.1 HI.out.2.2.2 rfl (by decide) _ _ _ rfl ((HR.out.later HII.out.since).own.alloc _) ⟨wr.heap.size, 0, none⟩ 1 1 [.slice (some ⟨g, 0, none⟩) c c] rfl rfl (cell_one_at _ _ _ rfl) (fun x hx => by simp at hx; subst hx; rfl) (by unfold maxLen; omega) (by omega) (by simp; omega) ?_); intro v' w1 hown' hgrow _)
          have hP := (HR.out.later HII.out.since).push (rv := .slice (some ⟨g, 0, none⟩) c c) (x := (List.range c).map fun k => sumN (dotF l u r k) n2) (a := some ⟨g, 0, none⟩) (cp := c) (by simp)
            (fun _ => ⟨g, rfl, hwg, by rw [← HG.out]; exact HII.out.rowB⟩) (fun _ => HR.out.fresh rfl (by rw [HG.out]; exact Nat.le_refl _)) hown' hgrow
          rw [← makeTo_succ] at hP
          have HP := Lib.hid hP
          clear hP hown' hgrow hlen
          go_roundg (n - (r + 1))
          case measure => omega
          case rel => exact ⟨r + 1, _, _, by omega, rfl, by go_num, HP.out⟩
    · have : r = n := by omega
      subst this
      obtain ⟨a, cap, rfl, hin⟩ := hR.ownT
      have HS := Lib.hid hR.since
      clear hR
      go_wp2
      go_ret
      exact ⟨a, cap, by show Ending.returned (.slice a (makeTo l u m2 n2 r).length cap) = _; rw [makeTo_length], HS.out, hin⟩

end Go.Proofs.Ytlgjplhffpmfpaa
end

section
namespace Go.Proofs.Ytlgjplhffpmfpaa
open Go.RowKit Go.Deep

set_option maxRecDepth 100000 in
set_option maxHeartbeats 4000000 in
theorem specUnitO_any (n : Nat) (w : World) (hn : n ≤ 1000) :
    Calls Try.prog 53 #[.int .i64 n] w fun e w' => ∃ a cap, e = .returned (.slice a n cap) ∧ w.Since w.heap.size w' ∧ OwnT w.heap.size w'.heap.size w' a (unitL n n) := by
  obtain ⟨i42, hi, hz0, hz1, hz2⟩ := info_parts Try.info27
  have hst := bt_start w (fun _ => none) (fun _ => 0) #[] rfl
  have hmk := run_make_row' (P := Try.prog) 27 3 (.int .i64 0) 8 Try.underlying27 Try.info3 rfl .i64 .i64 n (by omega) (by omega)
  have HI := Lib.hid hi
  have HZ := Lib.hid (And.intro hz0 (And.intro hz1 hz2))
  clear hi hz0 hz1 hz2
  go_enter Try.func53, Try.ntmps53
  go_wp2
  go_loopg [3, 4, 5] n (fun g v i _ wr => ∃ r : Nat, ∃ A C, r ≤ n ∧ g = n - r ∧ i = .int .i64 r ∧ BT w wr v (unitL n r) A C)
  case atStart => exact ⟨0, _, _, Nat.zero_le _, rfl, rfl, hst⟩
  case round =>
    obtain ⟨r, A, C, hr, rfl, rfl, hR⟩ := hrel
    clear hst
    by_cases hlt : r < n
    · have HR := Lib.hid hR
      have hsz := hR.since.size
      have hcell : (wr.alloc (.cells (madeCells #[.int .i64 0] n) 3)).cell? ⟨wr.heap.size, r, none⟩ = some (.int .i64 0) := (World.rowIs_made wr (.int .i64 0) n 3).cell hlt
      have hfz : (wr.alloc (.cells (madeCells #[.int .i64 0] n) 3)).frozen? ⟨wr.heap.size, r, none⟩ = false := (World.rowIs_made wr (.int .i64 0) n 3).frozen r
      have hlen := unitL_length n r
      clear hR
      go_wp2_with (at_builtin; (refine wpList_append_own _ rfl _ _ 23 rfl w.heap.size 27 i42 (.slice none 0 0) 1 24 Try.underlying23 HI.out HZ.out.1 HZ.out.2.1 HZ.out.2.2 rfl (by decide) _ _ _ rfl ((HR.out.own.alloc _).alloc _) ⟨wr.heap.size + 1, 0, none⟩ 1 1 [.slice (some ⟨wr.heap.size, 0, none⟩) n n] rfl rfl (cell_one_at _ _ _ (by simp)) (fun x hx => by simp at hx; subst hx; rfl) (by unfold maxLen; omega) (by omega) (by simp; omega) ?_); intro v' w1 hown' hgrow _)
      have hwr : wr.Since wr.heap.size (wr.alloc (.cells ((madeCells #[.int .i64 0] n).setIfInBounds r (.int .i64 1)) 3)) := (World.Since.refl _ _).alloc (Nat.le_refl _) _
      have hrow : RowB (wr.alloc (.cells ((madeCells #[.int .i64 0] n).setIfInBounds r (.int .i64 1)) 3)) wr.heap.size ((List.range n).map fun k => unitF r k) := by
        refine ⟨_, World.alloc_heap_new wr _, fun i hi => ?_⟩
        simp at hi
        rw [Array.getElem?_setIfInBounds]
        have hm : (madeCells #[Value.int .i64 0] n)[i]? = some (.int .i64 0) := by
          obtain ⟨c, h1, _, h3⟩ := World.rowIs_made wr (.int .i64 0) n 3
          have := World.alloc_heap_new wr (.cells (madeCells #[Value.int .i64 0] n) 3)
          rw [this] at h1
          simp at h1
          rw [h1]; exact h3 i hi
        have hz : (madeCells #[Value.int .i64 0] n).size = n := by
          obtain ⟨c, h1, h2, _⟩ := World.rowIs_made wr (.int .i64 0) n 3
          have := World.alloc_heap_new wr (.cells (madeCells #[Value.int .i64 0] n) 3)
          rw [this] at h1
          simp at h1
          rw [h1]; exact h2
        by_cases e : r = i
        · subst e; simp [hz, hi, unitF, List.getD]
        · simp [e, hm, unitF, List.getD, hi]
      have hP := (HR.out.later hwr).push (rv := .slice (some ⟨wr.heap.size, 0, none⟩) n n) (x := (List.range n).map fun k => unitF r k) (a := some ⟨wr.heap.size, 0, none⟩) (cp := n) (by simp)
        (fun _ => ⟨wr.heap.size, rfl, hsz, hrow⟩) (fun _ => HR.out.fresh rfl (Nat.le_refl _)) hown' hgrow
      rw [← unitL_succ] at hP
      have HP := Lib.hid hP
      clear hP hrow hwr hown' hgrow hcell hfz hlen
      go_roundg (n - (r + 1))
      case measure => omega
      case rel => exact ⟨r + 1, _, _, by omega, rfl, by go_num, HP.out⟩
    · have : r = n := by omega
      subst this
      clear hmk
      obtain ⟨a, cap, rfl, hin⟩ := hR.ownT
      go_wp2
      go_ret
      exact ⟨a, cap, by show Ending.returned (.slice a (unitL r r).length cap) = _; rw [unitL_length], hR.since, hin⟩

theorem OwnT.put {lo hi : Nat} {W : World} {a : Option Addr} {l : List (List Int)} (h : OwnT lo hi W a l) {r k : Nat} (hr : r < l.length) (hk : k < (l.getD r []).length) :
    ∃ b g c, a = some ⟨b, 0, none⟩ ∧ W.cell? ⟨b, r, none⟩ = some (.slice (some ⟨g, 0, none⟩) (l.getD r []).length c) ∧ W.cell? ⟨g, k, none⟩ = some (.int .i64 ((l.getD r []).getD k 0)) ∧ W.frozen? ⟨g, k, none⟩ = false ∧ (lo ≤ g ∧ g ≠ b) ∧
      ∀ v : Int, MatR (W.setCell ⟨g, k, none⟩ (.int .i64 v)) a (l.set r ((l.getD r []).set k v)) := by
  obtain ⟨b, A, G, C, e, hb, hc, hd⟩ := h (by omega)
  obtain ⟨c1, c2⟩ := hc r hr
  obtain ⟨d1, d2, d3⟩ := c2 (by omega)
  rw [d1] at c1
  refine ⟨b, G r, C r, e, c1, (d3 k hk).1, (d3 k hk).2, ⟨d2.1, d2.2.2⟩, fun v => ?_⟩
  subst e
  intro _
  refine ⟨b, 0, A, C, rfl, fun s hs => ?_⟩
  rw [List.length_set] at hs
  obtain ⟨s1, s2⟩ := hc s hs
  have hrow : (l.set r ((l.getD r []).set k v)).getD s [] = if s = r then (l.getD r []).set k v else l.getD s [] := by
    by_cases e : s = r
    · subst e; rw [if_pos rfl]; simp [List.getD, hs]
    · rw [if_neg e]; simp [List.getD, Ne.symm e]
  have hlen : ((l.set r ((l.getD r []).set k v)).getD s []).length = (l.getD s []).length := by
    rw [hrow]
    split
    · rename_i e; subst e; exact List.length_set
    · rfl
  rw [hlen, Nat.zero_add]
  refine ⟨cell_set_ne s1 (show b ≠ G r from fun e => d2.2.2 e.symm), fun h0 => ?_⟩
  rw [hlen] at h0
  obtain ⟨t1, t2, t3⟩ := s2 h0
  refine ⟨G s, 0, t1, fun i hi => ?_⟩
  rw [Nat.zero_add]
  rw [hlen] at hi
  by_cases e : s = r
  · subst e
    rw [hrow, if_pos rfl]
    by_cases ek : i = k
    · subst ek
      rw [World.cell?_setCell_same W _ _ (d3 i hk).1]
      have e3 : ((l.getD s []).set i v).getD i 0 = v := by
        generalize l.getD s [] = x at hk
        simp [List.getD, hk]
      rw [e3]
    · rw [World.cell?_setCell_other _ _ _ _ (by intro h; simp only [Addr.mk.injEq] at h; omega)]
      have e2 : ((l.getD s []).set k v).getD i 0 = (l.getD s []).getD i 0 := by simp [List.getD, Ne.symm ek]
      rw [e2]
      exact (d3 i hi).1
  · rw [hrow, if_neg e]
    exact cell_set_ne (t3 i hi).1 (show G s ≠ G r from fun e2 => e (hd s r hs hr h0 (by omega) e2))

def chT (n r k : Nat) (v : Int) : List (List Int) := (unitL n n).set r (((unitL n n).getD r []).set k v)
theorem unit_row {n i : Nat} (hi : i < n) : ((unitL n n).getD i []).length = n := tabF_len _ _ _ _ hi
theorem unit_at {n i j : Nat} (hi : i < n) (hj : j < n) : ((unitL n n).getD i []).getD j 0 = if i = j then 1 else 0 := by
  unfold unitL
  rw [tabF_at _ _ _ _ _ hi hj]
  unfold unitF
  by_cases e : i = j <;> simp [e]
theorem chT_length (n r k : Nat) (v : Int) : (chT n r k v).length = n := by unfold chT; rw [List.length_set, unitL_length]
theorem chT_get {n r k i : Nat} {v : Int} (hr : r < n) : (chT n r k v).getD i [] = if i = r then ((unitL n n).getD r []).set k v else (unitL n n).getD i [] := by
  unfold chT
  by_cases e : i = r
  · subst e
    rw [if_pos rfl]
    have := unitL_length n n
    simp [List.getD, this, hr]
  · rw [if_neg e]
    simp [List.getD, Ne.symm e]
theorem chT_row {n r k i : Nat} {v : Int} (hr : r < n) (hi : i < n) : ((chT n r k v).getD i []).length = n := by
  rw [chT_get hr]
  split
  · rw [List.length_set]; exact unit_row hr
  · exact unit_row hi
theorem chT_at {n r k i j : Nat} {v : Int} (hr : r < n) (hi : i < n) (hj : j < n) : at2 (chT n r k v) i j = if i = r ∧ j = k then v else if i = j then 1 else 0 := by
  unfold at2
  rw [chT_get hr]
  by_cases e : i = r
  · subst e
    rw [if_pos rfl]
    by_cases e2 : j = k
    · subst e2
      rw [if_pos ⟨rfl, rfl⟩]
      have := unit_row hi
      simp [List.getD, List.getD] at this ⊢
      simp [this, hj]
    · rw [if_neg (fun h => e2 h.2), ← unit_at hi hj]
      simp [List.getD, Ne.symm e2]
  · rw [if_neg e, if_neg (fun h => e h.1)]
    exact unit_at hi hj
def chR (c : CH) : Nat := if c.1 = 2 then c.2.1 else cFrom c
def chK (c : CH) : Nat := if c.1 = 2 then c.2.1 else cTo c
theorem chRK {n : Nat} {c : CH} (h : chOk n c) : chR c < n ∧ chK c < n := by
  unfold chR chK
  by_cases e : c.1 = 2
  · rw [if_pos e, if_pos e]
    have := h.2
    rw [if_pos e] at this
    exact ⟨this, this⟩
  · rw [if_neg e, if_neg e]
    have := ch_ft h e
    exact ⟨this.1, this.2.1⟩
theorem chT_ch {n : Nat} {c : CH} (h : chOk n c) {i j : Nat} (hi : i < n) (hj : j < n) : at2 (chT n (chR c) (chK c) c.2.2) i j = chM c i j := by
  rw [chT_at (chRK h).1 hi hj]
  unfold chM chR chK
  by_cases e : c.1 = 2
  · rw [if_pos e, if_pos e]
    by_cases e1 : i = j
    · subst e1
      by_cases e2 : i = c.2.1
      · rw [if_pos ⟨e2, e2⟩, if_pos rfl, if_pos ⟨e, e2⟩]
      · rw [if_neg (fun h => e2 h.1), if_pos rfl, if_pos rfl, if_neg (fun h => e2 h.2)]
    · rw [if_neg (fun h => e1 (h.1.trans h.2.symm)), if_neg e1, if_neg e1, if_neg (fun h => h.1 e)]
  · rw [if_neg e, if_neg e]
    have hne := (ch_ft h e).2.2
    by_cases e1 : i = j
    · subst e1
      rw [if_neg (fun h => hne (h.1.symm.trans h.2)), if_pos rfl, if_pos rfl, if_neg (fun h => e h.1)]
    · rw [if_neg e1, if_neg e1]
      by_cases e2 : i = cFrom c ∧ j = cTo c
      · rw [if_pos e2, if_pos ⟨e, e2.1, e2.2⟩]
      · rw [if_neg e2, if_neg (fun h => e2 h.2)]

def outT (n : Nat) (cs : List CH) : List (List Int) := tabF n n (netM n cs)
theorem outT_length (n : Nat) (cs : List CH) : (outT n cs).length = n := tabF_length _ _ _
theorem outT_row {n : Nat} (cs : List CH) {i : Nat} (hi : i < n) : ((outT n cs).getD i []).length = n := tabF_len _ _ _ _ hi
theorem outT_at {n : Nat} (cs : List CH) {i j : Nat} (hi : i < n) (hj : j < n) : at2 (outT n cs) i j = netM n cs i j := tabF_at _ _ _ _ _ hi hj
theorem outT_nil (n : Nat) : outT n [] = unitL n n := by
  unfold outT unitL tabF
  refine List.map_congr_left fun i _ => List.map_congr_left fun j _ => ?_
  show (if i = j then (1 : Int) else 0) = unitF i j
  unfold unitF
  by_cases e : i = j <;> simp [e]
theorem outT_snoc {n : Nat} (hn : 1 ≤ n) (xs : List CH) {c : CH} (hc : chOk n c) : makeL (outT n xs) (chT n (chR c) (chK c) c.2.2) = outT n (xs ++ [c]) := by
  unfold makeL
  rw [outT_length, chT_row (chRK hc).1 (by omega), chT_length]
  unfold outT
  unfold tabF
  refine List.map_congr_left fun i hi => List.map_congr_left fun k hk => ?_
  have hi' := List.mem_range.1 hi
  have hk' := List.mem_range.1 hk
  rw [net_app xs [c] i k hi']
  refine sumN_congr n fun j hj => ?_
  have e1 := outT_at xs hi' hj
  unfold outT tabF at e1
  unfold dotF
  rw [net_one c hk', ← chT_ch hc hj hk', ← e1]
theorem outT_rec {n : Nat} (h1 : 1 ≤ n) (h6 : n ≤ 6) (cs : List CH) : Rec (outT n cs) := ⟨by rw [outT_length]; exact h1, by rw [outT_length]; exact h6, by rw [outT_row cs (by omega)]; exact ⟨h1, h6⟩, fun hr => by rw [outT_length] at hr; rw [outT_row cs hr, outT_row cs (by omega)]⟩
theorem chT_rec {n r k : Nat} {v : Int} (h1 : 1 ≤ n) (h6 : n ≤ 6) (hr : r < n) : Rec (chT n r k v) := ⟨by rw [chT_length]; exact h1, by rw [chT_length]; exact h6, by rw [chT_row hr (by omega)]; exact ⟨h1, h6⟩, fun hi => by rw [chT_length] at hi; rw [chT_row hr hi, chT_row hr (by omega)]⟩
theorem outT_bd {n : Nat} {xs : List CH} (hc : ∀ c ∈ xs, chOk n c) (h9 : ∀ c ∈ xs, -9 ≤ c.2.2 ∧ c.2.2 ≤ 9) (hl : xs.length ≤ 10) {c : CH} (hcc : chOk n c) (hc9 : -9 ≤ c.2.2 ∧ c.2.2 ≤ 9) : ∀ i j k, i < n → j < n → k < n → -1000000000000 ≤ at2 (outT n xs) i j * at2 (chT n (chR c) (chK c) c.2.2) j k ∧ at2 (outT n xs) i j * at2 (chT n (chR c) (chK c) c.2.2) j k ≤ 1000000000000 := fun i j k hi hj hk => by
  rw [outT_at xs hi hj, ← path_net xs hc i j hi, chT_at (chRK hcc).1 hj hk, Int.mul_comm]
  have h1 := path_bd xs h9 i j
  have h2 := p10_le hl
  have h3 : -9 ≤ (if j = chR c ∧ k = chK c then c.2.2 else if j = k then 1 else 0) ∧ (if j = chR c ∧ k = chK c then c.2.2 else if j = k then 1 else 0) ≤ 9 := by
    split
    · exact hc9
    · split <;> omega
  have := mul_bd9 h3.1 h3.2 (show -10000000000 ≤ pathN xs i j by omega) (by omega)
  omega
theorem szL_outT {n : Nat} (h5 : n ≤ 5) (cs : List CH) : szL (outT n cs) ≤ 1048576 := by
  have h : ∀ r, r ≤ n → sumTo (outT n cs) r = r * n := by
    intro r
    induction r with
    | zero => intro _; simp [sumTo]
    | succ r ih =>
      intro hr
      unfold sumTo
      rw [ih (by omega), outT_row cs (by omega), Nat.succ_mul]
  unfold szL
  rw [outT_length, h n (Nat.le_refl _)]
  have : n * n ≤ 5 * 5 := Nat.mul_le_mul h5 h5
  omega

end Go.Proofs.Ytlgjplhffpmfpaa
end

section
namespace Go.Proofs.Ytlgjplhffpmfpaa
open Go.RowKit Go.Deep

set_option maxRecDepth 100000 in
set_option maxHeartbeats 400000 in
theorem cTable_h (K : ByteArray) (L n : Nat) (V : Int) (w : World) (h1 : 1 ≤ n) (h5 : n ≤ 5) (hL : L < n) (hK : K.toList = [104]) :
    Calls Try.prog 73 #[.int .i64 n, .agg #[.string K, .int .i64 L, .int .i64 V]] w fun e w' => ∃ a cap, e = .returned (.slice a n cap) ∧ w.Since w.heap.size w' ∧ MatR w' a (chT n L L V) := by
  obtain ⟨d1, d2, d3⟩ := chip_box w K L V 71
  have HS := Lib.hid ((World.Since.refl w.heap.size w).alloc (Nat.le_refl _) (.cells #[.string K, .int .i64 L, .int .i64 V] 71))
  have E := Lib.hid (fun (W : World) => specUnitO_any n W (by omega))
  have hq1 : (K.toList == [117]) = false := by rw [hK]; decide
  have hq2 : (K.toList == [100]) = false := by rw [hK]; decide
  have HUL := Lib.hid (unitL_length n n)
  have HUR := Lib.hid (unit_row (show L < n by omega))
  have hmix : Try.prog.follows .mixedOrders = true := by kernel_rfl
  go_enter Try.func73, Try.ntmps73
  go_wp2_with (go_at_call 53; refine (E.out _).mono ?_; rintro e w1 ⟨a, cap, rfl, hs1, ho1⟩; obtain ⟨b, g, c, rfl, t1, t2, t3, t4, t5⟩ := ho1.put (r := L) (k := L) (by rw [HUL.out]; omega) (by rw [HUR.out]; omega); rw [HUR.out] at t1; have HT5 := Lib.hid t5; have e2 := (hs1.cell (a := ⟨w.heap.size, 1, none⟩) (by simp)).trans d2; have e3 := (hs1.cell (a := ⟨w.heap.size, 2, none⟩) (by simp)).trans d3; have e1 := (hs1.cell (a := ⟨w.heap.size, 0, none⟩) (by simp)).trans d1; have HSA := Lib.hid (HS.out.trans (since_mono hs1 HS.out.size)); have HG := Lib.hid t4; clear hs1 ho1 t5 t4)
  go_still_tail 10, hmix
  go_wp2
  go_ret
  exact ⟨_, _, rfl, (HSA.out.setCell (a := ⟨g, L, none⟩) (by have := HG.out.1; simp at this; show w.heap.size ≤ g; omega) _).drew, HT5.out V⟩

set_option maxRecDepth 100000 in
set_option maxHeartbeats 400000 in
theorem cTable_u (K : ByteArray) (L n : Nat) (V : Int) (w : World) (h1 : 1 ≤ n) (h5 : n ≤ 5) (hL : L + 1 < n) (hK : K.toList = [117]) :
    Calls Try.prog 73 #[.int .i64 n, .agg #[.string K, .int .i64 L, .int .i64 V]] w fun e w' => ∃ a cap, e = .returned (.slice a n cap) ∧ w.Since w.heap.size w' ∧ MatR w' a (chT n L (L + 1) V) := by
  obtain ⟨d1, d2, d3⟩ := chip_box w K L V 71
  have HS := Lib.hid ((World.Since.refl w.heap.size w).alloc (Nat.le_refl _) (.cells #[.string K, .int .i64 L, .int .i64 V] 71))
  have E := Lib.hid (fun (W : World) => specUnitO_any n W (by omega))
  have hw1 : IntKind.i64.wrap ((L : Int) + 1) = (L : Int) + 1 := IntWalk.i64_in _ ⟨by omega, by omega⟩
  have hw2 : (0 : Int) ≤ (L : Int) + 1 := by omega
  have hw3 : ((L : Int) + 1).toNat = L + 1 := by omega
  have hw4 : (L : Int) + 1 < (n : Int) := by omega
  have hw5 : L < n := by omega
  have HUL := Lib.hid (unitL_length n n)
  have HUR := Lib.hid (unit_row (show L < n by omega))
  have hmix : Try.prog.follows .mixedOrders = true := by kernel_rfl
  go_enter Try.func73, Try.ntmps73
  go_wp2_with (go_at_call 53; refine (E.out _).mono ?_; rintro e w1 ⟨a, cap, rfl, hs1, ho1⟩; obtain ⟨b, g, c, rfl, t1, t2, t3, t4, t5⟩ := ho1.put (r := L) (k := (L + 1)) (by rw [HUL.out]; omega) (by rw [HUR.out]; omega); rw [HUR.out] at t1; have HT5 := Lib.hid t5; have e2 := (hs1.cell (a := ⟨w.heap.size, 1, none⟩) (by simp)).trans d2; have e3 := (hs1.cell (a := ⟨w.heap.size, 2, none⟩) (by simp)).trans d3; have e1 := (hs1.cell (a := ⟨w.heap.size, 0, none⟩) (by simp)).trans d1; have HSA := Lib.hid (HS.out.trans (since_mono hs1 HS.out.size)); have HG := Lib.hid t4; clear hs1 ho1 t5 t4)
  go_still_tail 11, hmix
  go_wp2
  go_ret
  exact ⟨_, _, rfl, (HSA.out.setCell (a := ⟨g, (L + 1), none⟩) (by have := HG.out.1; simp at this; show w.heap.size ≤ g; omega) _).drew, HT5.out V⟩

set_option maxRecDepth 100000 in
set_option maxHeartbeats 400000 in
theorem cTable_d (K : ByteArray) (L n : Nat) (V : Int) (w : World) (h1 : 1 ≤ n) (h5 : n ≤ 5) (hL : L + 1 < n) (hK : K.toList = [100]) :
    Calls Try.prog 73 #[.int .i64 n, .agg #[.string K, .int .i64 L, .int .i64 V]] w fun e w' => ∃ a cap, e = .returned (.slice a n cap) ∧ w.Since w.heap.size w' ∧ MatR w' a (chT n (L + 1) L V) := by
  obtain ⟨d1, d2, d3⟩ := chip_box w K L V 71
  have HS := Lib.hid ((World.Since.refl w.heap.size w).alloc (Nat.le_refl _) (.cells #[.string K, .int .i64 L, .int .i64 V] 71))
  have E := Lib.hid (fun (W : World) => specUnitO_any n W (by omega))
  have hq1 : (K.toList == [117]) = false := by rw [hK]; decide
  have hw1 : IntKind.i64.wrap ((L : Int) + 1) = (L : Int) + 1 := IntWalk.i64_in _ ⟨by omega, by omega⟩
  have hw2 : (0 : Int) ≤ (L : Int) + 1 := by omega
  have hw3 : ((L : Int) + 1).toNat = L + 1 := by omega
  have hw4 : (L : Int) + 1 < (n : Int) := by omega
  have hw5 : L < n := by omega
  have HUL := Lib.hid (unitL_length n n)
  have HUR := Lib.hid (unit_row (show (L + 1) < n by omega))
  have hmix : Try.prog.follows .mixedOrders = true := by kernel_rfl
  go_enter Try.func73, Try.ntmps73
  go_wp2_with (go_at_call 53; refine (E.out _).mono ?_; rintro e w1 ⟨a, cap, rfl, hs1, ho1⟩; obtain ⟨b, g, c, rfl, t1, t2, t3, t4, t5⟩ := ho1.put (r := (L + 1)) (k := L) (by rw [HUL.out]; omega) (by rw [HUR.out]; omega); rw [HUR.out] at t1; have HT5 := Lib.hid t5; have e2 := (hs1.cell (a := ⟨w.heap.size, 1, none⟩) (by simp)).trans d2; have e3 := (hs1.cell (a := ⟨w.heap.size, 2, none⟩) (by simp)).trans d3; have e1 := (hs1.cell (a := ⟨w.heap.size, 0, none⟩) (by simp)).trans d1; have HSA := Lib.hid (HS.out.trans (since_mono hs1 HS.out.size)); have HG := Lib.hid t4; clear hs1 ho1 t5 t4)
  go_still_tail 11, hmix
  go_wp2
  go_ret
  exact ⟨_, _, rfl, (HSA.out.setCell (a := ⟨g, L, none⟩) (by have := HG.out.1; simp at this; show w.heap.size ≤ g; omega) _).drew, HT5.out V⟩

theorem l6cTable_any (c : RC) (n : Nat) (w : World) (h1 : 1 ≤ n) (h5 : n ≤ 5) (hok : RCok c ∧ chOk n (toC c)) :
    Calls Try.prog 73 #[.int .i64 n, .agg #[.string c.k, .int .i64 c.l, .int .i64 c.w]] w fun e w' => ∃ a cap, e = .returned (.slice a n cap) ∧ w.Since w.heap.size w' ∧ MatR w' a (chT n (chR (toC c)) (chK (toC c)) (toC c).2.2) := by
  obtain ⟨K, l, V⟩ := c
  obtain ⟨⟨hk, hl, hv⟩, hc⟩ := hok
  simp only at hk hl hv
  obtain ⟨L, rfl⟩ : ∃ L : Nat, l = L := ⟨l.toNat, by omega⟩
  rcases hk with h | h | h
  · rw [toC_h h] at hc ⊢
    have := hc.2
    rw [if_pos rfl] at this
    exact cTable_h K L n V w h1 h5 this h
  · have e : toC ⟨K, (L : Int), V⟩ = (0, L, V) := by unfold toC; simp [h]
    rw [e] at hc ⊢
    have := hc.2
    rw [if_neg (by simp)] at this
    exact cTable_u K L n V w h1 h5 this h
  · have e : toC ⟨K, (L : Int), V⟩ = (1, L, V) := by unfold toC; simp [h]
    rw [e] at hc ⊢
    have := hc.2
    rw [if_neg (by simp)] at this
    exact cTable_d K L n V w h1 h5 this h

theorem toC_w (c : RC) : (toC c).2.2 = c.w := rfl
noncomputable def outC (n : Nat) (cs : List RC) : List (List Int) := outT n (cs.map toC)
theorem outC_step {n : Nat} {cs : List RC} (ho : NetOk n cs) {r : Nat} (hr : r < cs.length) : makeL (outC n (cs.take r)) (chT n (chR (toC (cs.getD r rc0))) (chK (toC (cs.getD r rc0))) (toC (cs.getD r rc0)).2.2) = outC n (cs.take (r + 1)) := by
  have hm : cs.getD r rc0 ∈ cs := by
    have : cs.getD r rc0 = cs[r] := by simp [List.getD, hr]
    rw [this]; exact List.getElem_mem _
  unfold outC
  rw [outT_snoc (by have := ho.lo; omega) _ (ho.ok _ hm).2]
  congr 1
  rw [List.take_succ_eq_append_getElem hr, List.map_append]
  congr 2
  simp [List.getD, hr]
theorem outC_bd {n : Nat} {cs : List RC} (ho : NetOk n cs) {r : Nat} (hr : r < cs.length) : ∀ i j k, i < n → j < n → k < n → -1000000000000 ≤ at2 (outC n (cs.take r)) i j * at2 (chT n (chR (toC (cs.getD r rc0))) (chK (toC (cs.getD r rc0))) (toC (cs.getD r rc0)).2.2) j k ∧ at2 (outC n (cs.take r)) i j * at2 (chT n (chR (toC (cs.getD r rc0))) (chK (toC (cs.getD r rc0))) (toC (cs.getD r rc0)).2.2) j k ≤ 1000000000000 := by
  have hm : cs.getD r rc0 ∈ cs := by
    have : cs.getD r rc0 = cs[r] := by simp [List.getD, hr]
    rw [this]; exact List.getElem_mem _
  have h10 := ho.len
  refine outT_bd (fun c hc => ?_) (fun c hc => ?_) (by rw [List.length_map, List.length_take]; omega) (ho.ok _ hm).2 (ho.rc _ hm).2.2
  · obtain ⟨d, hd, rfl⟩ := List.mem_map.1 hc
    exact (ho.ok d (List.mem_of_mem_take hd)).2
  · obtain ⟨d, hd, rfl⟩ := List.mem_map.1 hc
    exact (ho.rc d (List.mem_of_mem_take hd)).2.2
noncomputable def ntabB (n : Int) (cs : List RC) : Bool := netB n cs && tabIn (outC n.toNat cs)
noncomputable def ntabL (n : Int) (cs : List RC) : List (List Int) := resT (ntabB n cs) (outC n.toNat cs)

set_option maxRecDepth 100000 in
set_option maxHeartbeats 400000 in
theorem specNetTable_any (a : Option Addr) (cap N : Nat) (n : Int) (cs : List RC) (w : World) (hN : cs.length = N) (h63 : N ≤ 9223372036854775807) (hm : ChipsR w a cs) :
    Calls Try.prog 57 #[.int .i64 n, .slice a N cap] w fun e w' => ∃ a' cap', e = .returned (.tuple #[.slice a' (ntabL n cs).length cap', .bool (ntabB n cs)]) ∧ w.Since w.heap.size w' ∧ InT w.heap.size w'.heap.size w' a' (ntabL n cs) := by
  have E := specNetIn_any a cap N n cs w hN h63 hm
  cases hb : netB n cs with
  | false =>
    have hf : ntabB n cs = false := by unfold ntabB; rw [hb, Bool.false_and]
    unfold ntabL
    rw [hf]
    rw [hb] at E
    replace E := Lib.hid E
    have E2 := Lib.hid (fun (W : World) => l1None_any W)
    clear hb hm hN hf
    go_enter Try.func57, Try.ntmps57
    go_wp2_with (first
      | (go_at_call 71; refine (E.out).mono ?_; rintro e w1 ⟨rfl, hs1⟩; have HS1 := Lib.hid hs1; clear hs1)
      | (go_at_call 45; refine (E2.out _).mono ?_; rintro e w2 ⟨rfl, hs2⟩; have HS2 := Lib.hid (HS1.out.trans (since_mono hs2 HS1.out.size)); clear hs2))
    go_ret2
    exact ⟨_, _, rfl, HS2.out, InT.nil _ _ _ _⟩
  | true =>
    obtain ⟨m, rfl, ho⟩ := netB_ok hb
    rw [hb] at E
    replace E := Lib.hid E
    have hn2 := ho.lo
    have hn5 := ho.hi
    have h10 := ho.len
    rw [hN] at h10
    have hfB : ntabB m cs = tabIn (outC m cs) := by unfold ntabB; rw [hb, Bool.true_and]; rfl
    have hfL : ntabL m cs = resT (tabIn (outC m cs)) (outC m cs) := by unfold ntabL; rw [hfB]; rfl
    rw [hfB, hfL]
    have HN := Lib.hid hN
    have HM := Lib.hid hm
    have HO := Lib.hid ho
    have EU := Lib.hid (fun (W : World) => specUnitO_any m W (by omega))
    clear hb hm hN ho hfB hfL
    go_enter Try.func57, Try.ntmps57
    go_wp2_with (first
      | (go_at_call 71; refine (E.out).mono ?_; rintro e w1 ⟨rfl, hs1⟩; have HS1 := Lib.hid hs1; clear hs1)
      | (go_at_call 53; refine (EU.out _).mono ?_; rintro e w2 ⟨a0, c0, rfl, hs2, hu2⟩; have HS2 := Lib.hid (HS1.out.trans (since_mono hs2 HS1.out.size)); have HU2 := Lib.hid (hu2.mono HS1.out.size (Nat.le_refl _)); clear hs2 hu2))
    go_loopg [6, 7] N (fun g v i wr => ∃ (r : Nat) (a' : Option Addr) (cap' : Nat), r ≤ N ∧ g = N - r ∧ i = .int .i64 r ∧ v = .slice a' m cap' ∧ w.Since w.heap.size wr ∧ OwnT w.heap.size wr.heap.size wr a' (outC m (cs.take r)))
    case atStart => exact ⟨0, _, _, Nat.zero_le _, rfl, rfl, rfl, HS2.out, by show OwnT _ _ _ _ (outT m []); rw [outT_nil]; exact HU2.out⟩
    case round =>
      obtain ⟨r, a', cap', hr, rfl, rfl, rfl, hS, hT⟩ := hrel
      by_cases hlt : r < N
      · have hlt' : r < cs.length := by rw [HN.out]; exact hlt
        obtain ⟨b, o, rfl, k1, k2, k3⟩ := HM.out.at hlt'
        have c1 := (hS.cell (World.block_lt_of_cell? _ _ k1)).trans k1
        have c2 := (hS.cell (World.block_lt_of_cell? _ _ k2)).trans k2
        have c3 := (hS.cell (World.block_lt_of_cell? _ _ k3)).trans k3
        have hmem : cs.getD r rc0 ∈ cs := by
          have : cs.getD r rc0 = cs[r] := by simp [List.getD, hlt']
          rw [this]; exact List.getElem_mem _
        have ET := Lib.hid (fun (W : World) => l6cTable_any (cs.getD r rc0) m W (by omega) hn5 (HO.out.ok _ hmem))
        have hstep := outC_step HO.out hlt'
        have hrec2 := chT_rec (v := (toC (cs.getD r rc0)).2.2) (k := chK (toC (cs.getD r rc0))) (show 1 ≤ m by omega) (show m ≤ 6 by omega) (chRK (HO.out.ok _ hmem).2).1
        have hlen2 := chT_length m (chR (toC (cs.getD r rc0))) (chK (toC (cs.getD r rc0))) (toC (cs.getD r rc0)).2.2
        have hrow2 := chT_row (v := (toC (cs.getD r rc0)).2.2) (k := chK (toC (cs.getD r rc0))) (chRK (HO.out.ok _ hmem).2).1 (show 0 < m by omega)
        have hbd := outC_bd HO.out hlt'
        obtain ⟨c, hcc⟩ : ∃ c, cs.getD r rc0 = c := ⟨_, rfl⟩
        rw [hcc] at c1 c2 c3 ET hstep hrec2 hlen2 hrow2 hbd
        obtain ⟨U, hU⟩ : ∃ U, chT m (chR (toC c)) (chK (toC c)) (toC c).2.2 = U := ⟨_, rfl⟩
        rw [hU] at ET hstep hrec2 hlen2 hrow2 hbd
        have EM := Lib.hid (fun (W : World) (a2 : Option Addr) (cp2 : Nat) (h1 : wr.Since wr.heap.size W) (h2 : MatR W a2 U) => l1MakeR_any a' a2 cap' cp2 m m (outC m (cs.take r)) U W (outT_length _ _) hlen2 (hT.since h1).matR h2 (outT_rec (by omega) (by omega) _) hrec2 (outT_row _ (by omega)) (fun i j k hi hj hk => hbd i j k hi hj (by rw [hrow2] at hk; exact hk)))
        rw [hstep] at EM
        have HS' := Lib.hid hS
        clear k1 k2 k3 hstep hrec2 hlen2 hrow2 hbd hU hT hS hcc hmem hlt'
        obtain ⟨K, L, V⟩ := c
        simp only at c1 c2 c3 ET
        go_wp2_with (first
          | (go_at_call 73; refine (ET.out _).mono ?_; rintro e w3 ⟨a3, cp3, rfl, hs3, hm3⟩; have H3 := Lib.hid (And.intro hs3 hm3); clear hs3 hm3)
          | (go_at_call 72; refine (EM.out _ _ _ H3.out.1 H3.out.2).mono ?_; rintro e w4 ⟨a4, cp4, rfl, hs4, ho4⟩; have H4 := Lib.hid (And.intro (H3.out.1.trans (since_mono hs4 H3.out.1.size)) (ho4.mono H3.out.1.size (Nat.le_refl _))); clear hs4 ho4))
        go_roundg (N - (r + 1))
        case measure => omega
        case rel => exact ⟨r + 1, _, _, by omega, rfl, by go_num, rfl, HS'.out.trans (since_mono H4.out.1 HS'.out.size), H4.out.2.mono HS'.out.size (Nat.le_refl _)⟩
      · obtain rfl : r = N := by omega
        rw [List.take_of_length_le (by rw [HN.out]; exact Nat.le_refl _)] at hT
        have ED := Lib.hid (l1Done_any a' cap' m w.heap.size wr.heap.size (outC m cs) wr (outT_length _ _) (szL_outT hn5 _) hT.inT)
        have HS' := Lib.hid hS
        clear hT hS
        go_wp2_with (go_at_call 74; refine (ED.out).mono ?_; rintro e w3 ⟨a3, cp3, rfl, hs3, hm3⟩; have H3 := Lib.hid (And.intro (HS'.out.trans (since_mono hs3 HS'.out.size)) (hm3.mono (Nat.le_refl _) hs3.size)); clear hs3 hm3)
        go_ret2
        exact ⟨_, _, rfl, H3.out.1, H3.out.2⟩

end Go.Proofs.Ytlgjplhffpmfpaa
end

section
namespace Go.Proofs.Ytlgjplhffpmfpaa
open Go.RowKit Go.Deep

end Go.Proofs.Ytlgjplhffpmfpaa
end

section
namespace Go.Proofs.Ytlgjplhffpmfpaa
open Go.RowKit Go.Deep

def InR (lo hi : Nat) (w : World) (a : Option Addr) (x : List Int) : Prop :=
  0 < x.length → ∃ g o : Nat, a = some ⟨g, o, none⟩ ∧ (lo ≤ g ∧ g < hi) ∧ ∀ i, i < x.length → w.cell? ⟨g, o + i, none⟩ = some (.int .i64 (x.getD i 0))
def OwnR (lo hi : Nat) (w : World) (a : Option Addr) (x : List Int) : Prop :=
  0 < x.length → ∃ g : Nat, a = some ⟨g, 0, none⟩ ∧ (lo ≤ g ∧ g < hi) ∧ ∀ i, i < x.length → w.cell? ⟨g, i, none⟩ = some (.int .i64 (x.getD i 0)) ∧ w.frozen? ⟨g, i, none⟩ = false
theorem OwnR.inR {lo hi : Nat} {w : World} {a : Option Addr} {x : List Int} (h : OwnR lo hi w a x) : InR lo hi w a x := fun h0 => by
  obtain ⟨g, e, hg, hc⟩ := h h0
  exact ⟨g, 0, e, hg, fun i hi => by rw [Nat.zero_add]; exact (hc i hi).1⟩
theorem InR.rowR {lo hi : Nat} {w : World} {a : Option Addr} {x : List Int} (h : InR lo hi w a x) : RowR w a x := fun h0 => by
  obtain ⟨g, o, e, _, hc⟩ := h h0
  exact ⟨g, o, e, hc⟩
theorem OwnR.rowR {lo hi : Nat} {w : World} {a : Option Addr} {x : List Int} (h : OwnR lo hi w a x) : RowR w a x := h.inR.rowR
theorem InR.nil (lo hi : Nat) (w : World) (a : Option Addr) : InR lo hi w a [] := fun h => by simp at h
theorem OwnR.nil (lo hi : Nat) (w : World) (a : Option Addr) : OwnR lo hi w a [] := fun h => by simp at h
theorem InR.mono {lo hi lo' hi' : Nat} {w : World} {a : Option Addr} {x : List Int} (h : InR lo hi w a x) (h1 : lo' ≤ lo) (h2 : hi ≤ hi') : InR lo' hi' w a x := fun h0 => by
  obtain ⟨g, o, e, hg, hc⟩ := h h0
  exact ⟨g, o, e, by omega, hc⟩
theorem OwnR.mono {lo hi lo' hi' : Nat} {w : World} {a : Option Addr} {x : List Int} (h : OwnR lo hi w a x) (h1 : lo' ≤ lo) (h2 : hi ≤ hi') : OwnR lo' hi' w a x := fun h0 => by
  obtain ⟨g, e, hg, hc⟩ := h h0
  exact ⟨g, e, by omega, hc⟩
theorem InR.frame {lo hi lo' hi' : Nat} {w w' : World} {a : Option Addr} {x : List Int} (h : InR lo hi w a x) (hf : Frame lo' hi' w w') (hd : hi ≤ lo' ∨ hi' ≤ lo) : InR lo hi w' a x := fun h0 => by
  obtain ⟨g, o, e, hg, hc⟩ := h h0
  exact ⟨g, o, e, hg, fun i hi1 => hf.cell (hc i hi1) (by show g < lo' ∨ hi' ≤ g; omega)⟩
theorem OwnR.frame {lo hi lo' hi' : Nat} {w w' : World} {a : Option Addr} {x : List Int} (h : OwnR lo hi w a x) (hf : Frame lo' hi' w w') (hd : hi ≤ lo' ∨ hi' ≤ lo) : OwnR lo hi w' a x := fun h0 => by
  obtain ⟨g, e, hg, hc⟩ := h h0
  exact ⟨g, e, hg, fun i hi1 => ⟨hf.cell (hc i hi1).1 (by show g < lo' ∨ hi' ≤ g; omega), (hf.frozen (hc i hi1).1 (by show g < lo' ∨ hi' ≤ g; omega)).trans (hc i hi1).2⟩⟩
theorem InR.since {lo hi : Nat} {w w' : World} {a : Option Addr} {x : List Int} (h : InR lo hi w a x) (hs : w.Since w.heap.size w') : InR lo hi w' a x := h.frame (frame_since hs hi hi) (.inl (Nat.le_refl _))
theorem OwnR.since {lo hi : Nat} {w w' : World} {a : Option Addr} {x : List Int} (h : OwnR lo hi w a x) (hs : w.Since w.heap.size w') : OwnR lo hi w' a x := h.frame (frame_since hs hi hi) (.inl (Nat.le_refl _))
theorem RowMade.ownR {w wr : World} {l : List Int} (h : RowMade w wr l l.length) : OwnR w.heap.size wr.heap.size wr (some ⟨w.heap.size, 0, none⟩) l := fun _ => by
  have hs := h.size
  refine ⟨w.heap.size, rfl, by omega, fun i hi => ⟨?_, h.row.frozen i⟩⟩
  have := h.row.cell (i := i) hi
  rw [if_pos hi] at this
  exact this

theorem toIntR_any (a : Option Addr) (cap n : Nat) (l : List Int) (w : World) (hn : l.length = n) (hn1 : n ≤ 1048576) (hm : RowR w a l) :
    Calls Try.prog 47 #[.slice a n cap] w fun e w' => e = .returned (.slice (some ⟨w.heap.size, 0, none⟩) n n) ∧ w.Since w.heap.size w' ∧ OwnR w.heap.size w'.heap.size w' (some ⟨w.heap.size, 0, none⟩) l := by
  subst hn
  exact (toIntS_any a cap l w hn1 hm).mono fun _ _ h => ⟨h.1, h.2.since, h.2.ownR⟩

theorem markR_any (a : Option Addr) (lo hi cap m : Nat) (k : Int) (x : List Int) (w : World) (hx : x.length = m) (h0 : 0 ≤ k) (hk : k + m ≤ 4000000) (h : OwnR lo hi w a x) :
    Calls Try.prog 51 #[.slice a m cap, .int .i64 k] w fun e w' => e = .returned (.int .i64 (k + m)) ∧ OwnR lo hi w' a (markRow k m) ∧ Frame lo hi w w' ∧ w'.heap.size = w.heap.size := by
  by_cases h1 : 0 < m
  · obtain ⟨g, e, hg, hc⟩ := h (by omega)
    refine (markIntS_any a g cap m k x w hx h0 hk (fun _ => e) (fun i hi => (hc i (by omega)).1) (fun i hi => (hc i (by omega)).2)).mono ?_
    rintro r w' ⟨rfl, hM⟩
    refine ⟨rfl, fun _ => ⟨g, e, hg, fun i hi => ?_⟩, hM.frame (.inl hg), hM.size⟩
    rw [markRow_length] at hi
    refine ⟨?_, hM.frozen i hi⟩
    rw [hM.cell i hi, if_pos hi, markRow_get _ _ _ hi]
  · have hm : m = 0 := by omega
    subst hm
    have hxe : x = [] := List.length_eq_zero_iff.1 hx
    clear h
    go_enter Try.func51, Try.ntmps51
    go_wp2
    go_loopg [1, 5] 0 (fun g q i wr => q = .int .i64 k ∧ i = .int .i64 0 ∧ wr = w)
    case atStart => exact ⟨rfl, rfl, rfl⟩
    case round =>
      obtain ⟨rfl, rfl, rfl⟩ := hrel
      go_wp2
      go_ret
      exact ⟨ret_int (by simp), OwnR.nil _ _ _ _, Frame.refl _ _ _, rfl⟩

end Go.Proofs.Ytlgjplhffpmfpaa
end

section
namespace Go.Proofs.Ytlgjplhffpmfpaa
open Go.RowKit Go.Deep

theorem RW.rowR {B : Nat} {w : World} {v : Value} {x : List Int} {j : Nat} (h : RW B w v x) (hx : x.length = j) : ∃ ax cx, v = .slice ax j cx ∧ RowR w ax x := by
  by_cases h0 : 0 < x.length
  · obtain ⟨g, cp, e, hge, hrb⟩ := h.form h0
    rw [hx] at e
    exact ⟨_, cp, e, fun _ => ⟨g, 0, rfl, fun i hi => by rw [Nat.zero_add]; exact hrb.cell hi⟩⟩
  · rcases h.2 with ⟨e, _⟩ | ⟨g, cp, cur, e, _⟩
    · exact ⟨none, 0, by rw [e]; congr 1; omega, fun h => absurd h h0⟩
    · rw [hx] at e
      exact ⟨_, cp, e, fun h => absurd h h0⟩

end Go.Proofs.Ytlgjplhffpmfpaa
end

section
namespace Go.Proofs.Ytlgjplhffpmfpaa
open Go.RowKit Go.Deep

set_option maxHeartbeats 1000000 in
theorem sameInts_same (a b : Option Addr) (ca cb n : Nat) (l : List Int) (w : World) (hn : l.length = n) (h63 : n ≤ 9223372036854775807) (ha : RowR w a l) (hb : RowR w b l) :
    Calls Try.prog 14 #[.slice a n ca, .slice b n cb] w fun e w' => e = .returned (.bool true) ∧ Drawn w w' := by
  have H := Lib.hid hn; clear hn
  go_enter Try.func14, Try.ntmps14
  go_wp2
  go_loopg [5] n (fun g i wr => ∃ k : Nat, k ≤ n ∧ g = n - k ∧ i = .int .i64 k ∧ Drawn w wr)
  case atStart => exact ⟨0, Nat.zero_le _, rfl, rfl, Drawn.refl w⟩
  case round =>
    obtain ⟨k, hk, rfl, rfl, hD⟩ := hrel
    by_cases hlt : k < n
    · obtain ⟨b1, o1, rfl, hc1⟩ := ha (by rw [H.out]; omega)
      obtain ⟨b2, o2, rfl, hc2⟩ := hb (by rw [H.out]; omega)
      have c1 := hc1 k (by rw [H.out]; exact hlt)
      have c2 := hc2 k (by rw [H.out]; exact hlt)
      obtain ⟨x, hx⟩ : ∃ x, x = l.getD k 0 := ⟨_, rfl⟩
      rw [← hx] at c1 c2
      rw [← hD.cell] at c1 c2
      clear hx hc1 hc2 ha hb
      go_wp2
      go_quiet (fail)
      go_wp2
      go_roundg (n - (k + 1))
      case measure => omega
      case rel => exact ⟨k + 1, by omega, rfl, by go_num, hD.trans (Drawn.mk _ _)⟩
    · go_wp2
      go_ret
      exact ⟨rfl, hD⟩

end Go.Proofs.Ytlgjplhffpmfpaa
end

section
namespace Go.Proofs.Ytlgjplhffpmfpaa
open Go.RowKit Go.Deep

theorem szL_of {l : List (List Int)} {n k : Nat} (h1 : l.length ≤ n) (h2 : ∀ j, j < l.length → (l.getD j []).length ≤ k) (hnk : n * k + n ≤ 1048576) : szL l ≤ 1048576 := by
  have h3 := sumTo_le_mul l k h2 l.length (Nat.le_refl _)
  have h4 : l.length * k ≤ n * k := Nat.mul_le_mul_right _ h1
  have h5 : k * l.length = l.length * k := Nat.mul_comm _ _
  unfold szL
  omega
theorem rows_le {l : List (List Int)} (h : szL l ≤ 1048576) : ∀ r, r < l.length → (l.getD r []).length ≤ 9223372036854775807 := fun r hr => by
  have := row_le l hr
  unfold szL at h
  omega

theorem tab_self {l : List (List Int)} {n m : Nat} (hn : l.length = n) (hm : ∀ r, r < n → (l.getD r []).length = m) : tabF n m (at2 l) = l := by
  refine List.ext_getElem (by rw [tabF_length, hn]) fun r h1 h2 => ?_
  have hr : r < n := by rw [tabF_length] at h1; exact h1
  have e1 : (tabF n m (at2 l))[r] = (tabF n m (at2 l)).getD r [] := by simp [List.getD, h1]
  have e2 : l[r] = l.getD r [] := by simp [List.getD, h2]
  rw [e1, e2, tabF_get _ _ _ _ hr]
  refine List.ext_getElem (by rw [List.length_map, List.length_range, hm r hr]) fun k h3 h4 => ?_
  rw [List.getElem_map, List.getElem_range]
  unfold at2
  obtain ⟨x, hx⟩ : ∃ x, x = l.getD r [] := ⟨_, rfl⟩
  subst hx
  generalize l.getD r [] = x at *
  simp [List.getD, h4]

theorem turnL_turnL {l : List (List Int)} (hT : TabIn l) : turnL (turnL l) = l := by
  have h1 := hT.1
  have hw := hT.width
  have e0 : ((turnL l).getD 0 []).length = l.length := tabF_len _ _ _ _ hw.1
  have e1 : turnL (turnL l) = tabF l.length (l.getD 0 []).length fun k i => at2 (turnL l) i k := by
    show tabF ((turnL l).getD 0 []).length (turnL l).length _ = _
    rw [e0, turnL_length]
  rw [e1]
  have e2 : tabF l.length (l.getD 0 []).length (fun k i => at2 (turnL l) i k) = tabF l.length (l.getD 0 []).length (at2 l) := by
    unfold tabF
    refine List.map_congr_left fun r hr => List.map_congr_left fun k hk => ?_
    exact tabF_at _ _ _ _ _ (List.mem_range.1 hk) (List.mem_range.1 hr)
  rw [e2]
  exact tab_self rfl (fun r hr => hT.row hr)

end Go.Proofs.Ytlgjplhffpmfpaa
end

section
namespace Go.Proofs.Ytlgjplhffpmfpaa
open Go.RowKit Go.Deep

theorem OwnC.put (z : Int) {lo hi : Nat} {w : World} {a : Option Addr} {cs : List RC} {r : Nat} (h : OwnC lo hi w a cs) (hr : r < cs.length) : ∃ g, a = some ⟨g, 0, none⟩ ∧ (lo ≤ g ∧ g < hi) ∧ w.cell? ⟨g, r * 3 + 2, none⟩ = some (.int .i64 (cs.getD r rc0).w) ∧ w.frozen? ⟨g, r * 3 + 2, none⟩ = false ∧
    ∃ cs' : List RC, cs'.length = cs.length ∧ OwnC lo hi (w.setCell ⟨g, r * 3 + 2, none⟩ (.int .i64 z)) a cs' := by
  obtain ⟨g, e, hg, hc⟩ := h (by omega)
  obtain ⟨⟨c1, c2, c3⟩, f1, f2, f3⟩ := hc r hr
  refine ⟨g, e, hg, c3, f3, cs.set r ⟨(cs.getD r rc0).k, (cs.getD r rc0).l, z⟩, by simp, fun _ => ⟨g, e, hg, fun i hi => ?_⟩⟩
  rw [List.length_set] at hi
  obtain ⟨⟨k1, k2, k3⟩, m1, m2, m3⟩ := hc i hi
  have hne : ∀ q, q ≠ r * 3 + 2 → (w.setCell ⟨g, r * 3 + 2, none⟩ (.int .i64 z)).cell? ⟨g, q, none⟩ = w.cell? ⟨g, q, none⟩ := fun q hq => World.cell?_setCell_other _ _ _ _ (fun e => hq (by injection e with _ e2; exact e2.symm))
  have hget : (cs.set r ⟨(cs.getD r rc0).k, (cs.getD r rc0).l, z⟩).getD i rc0 = if i = r then ⟨(cs.getD r rc0).k, (cs.getD r rc0).l, z⟩ else cs.getD i rc0 := by
    simp only [List.getD, List.getElem?_set]
    by_cases e : r = i
    · subst e; simp [hr]
    · rw [if_neg e, if_neg (fun h => e h.symm)]
  refine ⟨⟨?_, ?_, ?_⟩, by rw [World.frozen?_setCell]; exact m1, by rw [World.frozen?_setCell]; exact m2, by rw [World.frozen?_setCell]; exact m3⟩
  · rw [hne _ (by omega), k1, hget]
    by_cases e : i = r
    · rw [if_pos e, e]
    · rw [if_neg e]
  · rw [hne _ (by omega), k2, hget]
    by_cases e : i = r
    · rw [if_pos e, e]
    · rw [if_neg e]
  · rw [hget]
    by_cases e : i = r
    · subst e
      rw [World.cell?_setCell_same' _ _ _ (by rw [c3]; rfl), if_pos rfl]
    · rw [hne _ (by omega), k3, if_neg e]
theorem DZ.put {w wr : World} {G B H nb cb N P r : Nat} {a a' : Option Addr} (h : DZ w G B H nb cb a a' N P wr) (hr : r < N) (hG : G < B) (hw : w.heap.size ≤ G) :
    ∃ g v, a' = some ⟨g, 0, none⟩ ∧ wr.cell? ⟨g, r * 3 + 2, none⟩ = some (.int .i64 v) ∧ wr.frozen? ⟨g, r * 3 + 2, none⟩ = false ∧ ∀ z : Int, DZ w G B H nb cb a a' N P (wr.setCell ⟨g, r * 3 + 2, none⟩ (.int .i64 z)) := by
  obtain ⟨⟨p, hp, hd⟩, hs, hz, cs, hl, ho⟩ := h
  obtain ⟨g, e, hb, hv, hf, _⟩ := ho.put 0 (r := r) (by omega)
  refine ⟨g, _, e, hv, hf, fun z => ?_⟩
  obtain ⟨g', e', _, _, _, cs', hl', ho'⟩ := ho.put z (r := r) (by omega)
  rw [e] at e'
  simp only [Option.some.injEq, Addr.mk.injEq, and_true] at e'
  subst e'
  have hg : wr.grownBy (wr.setCell ⟨g, r * 3 + 2, none⟩ (.int .i64 z)) (some g) := ⟨rfl, rfl, rfl, by simp, fun k _ hk => Below.heap_setCell _ _ _ _ (fun e => hk (by rw [e]))⟩
  exact ⟨⟨p, hp, hd.grown hg (fun k e => by cases e; omega)⟩, hs.grown hg hs.size (fun k e => by cases e; omega), by simpa using hz, cs', by omega, ho'⟩

def PvE (w : World) (e : Ending) (w' : World) : Prop := ∃ a' cap l, e = .returned (.slice a' (List.length l) cap) ∧ w.Since w.heap.size w' ∧ szL l ≤ 1048576 ∧ MatR w' a' l
def PvB (l : List (List Int)) : Prop := 1 ≤ l.length ∧ (l.getD 0 []).length ≤ 6
theorem PvB.tab {l : List (List Int)} (h : TabIn l) : PvB l := ⟨h.1, h.width.2⟩
def PvF (w : World) (e : Ending) (w' : World) : Prop := ∃ a' cap l, e = .returned (.slice a' (List.length l) cap) ∧ w.Since w.heap.size w' ∧ (szL l ≤ 1048576 ∧ PvB l) ∧ MatR w' a' l
theorem PvF.pv {w : World} {e : Ending} {w' : World} (h : PvF w e w') : PvE w e w' := by
  obtain ⟨a', cap, l, h1, h2, h3, h4⟩ := h
  exact ⟨a', cap, l, h1, h2, h3.1, h4⟩
theorem some_pv {w W : World} {nb c p : Nat} {a : Option Addr} (hd : RD w W w.heap.size a nb c 54 p) (hp : p ≤ 40000) (hs : w.Since w.heap.size W) :
    Calls Try.prog 59 #[.pointer (some ⟨w.heap.size, 0, none⟩), .int .i64 4, .int .i64 4] W (PvF w) := by
  refine (l91Some_any w W w.heap.size nb c p 4 4 a hd (by omega) (by omega) (by omega) (by omega) hp).mono ?_
  rintro e w' ⟨a', cap, l, p', rfl, hg, _, _, h⟩
  refine ⟨a', cap, l, rfl, hs.grown hg hs.size (fun k e => by cases e; omega), ⟨?_, ?_⟩, ?_⟩
  · exact szL_of (n := 4) (k := 5) h.2.1 (fun j hj => (h.2.2.1 j hj).2) (by decide)
  · exact ⟨h.1, by have := (h.2.2.1 0 (by have := h.1; omega)).2; omega⟩
  · exact h.2.2.2.matR

theorem lit_mat (w : World) (T : TypeId) : MatR ((((w.alloc (.cells #[.int .i64 1, .int .i64 1, .int .i64 1] 3)).alloc (.cells #[.int .i64 1, .int .i64 2, .int .i64 3] 3)).alloc (.cells #[.int .i64 1, .int .i64 3, .int .i64 6] 3)).alloc (.cells #[.slice (some ⟨w.heap.size, 0, none⟩) 3 3, .slice (some ⟨w.heap.size + 1, 0, none⟩) 3 3, .slice (some ⟨w.heap.size + 1 + 1, 0, none⟩) 3 3] T)) (some ⟨w.heap.size + 1 + 1 + 1, 0, none⟩) [[1, 1, 1], [1, 2, 3], [1, 3, 6]] := by
  intro _
  obtain ⟨o1, ho1⟩ : ∃ o, Obj.cells #[.int .i64 1, .int .i64 1, .int .i64 1] 3 = o := ⟨_, rfl⟩
  obtain ⟨o2, ho2⟩ : ∃ o, Obj.cells #[.int .i64 1, .int .i64 2, .int .i64 3] 3 = o := ⟨_, rfl⟩
  obtain ⟨o3, ho3⟩ : ∃ o, Obj.cells #[.int .i64 1, .int .i64 3, .int .i64 6] 3 = o := ⟨_, rfl⟩
  obtain ⟨o4, ho4⟩ : ∃ o, Obj.cells #[.slice (some ⟨w.heap.size, 0, none⟩) 3 3, .slice (some ⟨w.heap.size + 1, 0, none⟩) 3 3, .slice (some ⟨w.heap.size + 1 + 1, 0, none⟩) 3 3] T = o := ⟨_, rfl⟩
  rw [ho1, ho2, ho3, ho4]
  obtain ⟨W1, h1⟩ : ∃ W, w.alloc o1 = W := ⟨_, rfl⟩
  obtain ⟨W2, h2⟩ : ∃ W, W1.alloc o2 = W := ⟨_, rfl⟩
  obtain ⟨W3, h3⟩ : ∃ W, W2.alloc o3 = W := ⟨_, rfl⟩
  obtain ⟨W4, h4⟩ : ∃ W, W3.alloc o4 = W := ⟨_, rfl⟩
  rw [h1, h2, h3, h4]
  have s1 : W1.heap.size = w.heap.size + 1 := by rw [← h1]; simp
  have s2 : W2.heap.size = w.heap.size + 1 + 1 := by rw [← h2, World.size_alloc, s1]
  have s3 : W3.heap.size = w.heap.size + 1 + 1 + 1 := by rw [← h3, World.size_alloc, s2]
  have n1 := heap_alloc_new w o1
  have n2 := heap_alloc_new W1 o2
  have n3 := heap_alloc_new W2 o3
  have n4 := heap_alloc_new W3 o4
  rw [h1] at n1
  rw [h2, s1] at n2
  rw [h3, s2] at n3
  rw [h4, s3] at n4
  have e1 : W4.heap[w.heap.size]? = some o1 := by
    rw [← h4, (World.grownBy_alloc _ _ none).block _ (by omega) (by simp), ← h3, (World.grownBy_alloc _ _ none).block _ (by omega) (by simp), ← h2, (World.grownBy_alloc _ _ none).block _ (by omega) (by simp)]; exact n1
  have e2 : W4.heap[w.heap.size + 1]? = some o2 := by
    rw [← h4, (World.grownBy_alloc _ _ none).block _ (by omega) (by simp), ← h3, (World.grownBy_alloc _ _ none).block _ (by omega) (by simp)]; exact n2
  have e3 : W4.heap[w.heap.size + 1 + 1]? = some o3 := by
    rw [← h4, (World.grownBy_alloc _ _ none).block _ (by omega) (by simp)]; exact n3
  subst ho1 ho2 ho3 ho4
  have c1 := fun j => cell_of_row W4 w.heap.size j _ _ _ e1
  have c2 := fun j => cell_of_row W4 (w.heap.size + 1) j _ _ _ e2
  have c3 := fun j => cell_of_row W4 (w.heap.size + 1 + 1) j _ _ _ e3
  have c4 := fun j => cell_of_row W4 (w.heap.size + 1 + 1 + 1) j _ _ _ n4
  refine ⟨w.heap.size + 1 + 1 + 1, 0, fun r => some ⟨w.heap.size + r, 0, none⟩, fun _ => 3, rfl, fun r hr => ?_⟩
  have hr3 : r = 0 ∨ r = 1 ∨ r = 2 := by simp at hr; omega
  rcases hr3 with rfl | rfl | rfl
  · refine ⟨(c4 0).trans rfl, fun _ => ⟨w.heap.size, 0, rfl, fun k hk => ?_⟩⟩
    have hk3 : k = 0 ∨ k = 1 ∨ k = 2 := by simp at hk; omega
    rcases hk3 with rfl | rfl | rfl
    · exact (c1 0).trans rfl
    · exact (c1 1).trans rfl
    · exact (c1 2).trans rfl
  · refine ⟨(c4 1).trans rfl, fun _ => ⟨w.heap.size + 1, 0, rfl, fun k hk => ?_⟩⟩
    have hk3 : k = 0 ∨ k = 1 ∨ k = 2 := by simp at hk; omega
    rcases hk3 with rfl | rfl | rfl
    · exact (c2 0).trans rfl
    · exact (c2 1).trans rfl
    · exact (c2 2).trans rfl
  · refine ⟨(c4 2).trans rfl, fun _ => ⟨w.heap.size + 1 + 1, 0, rfl, fun k hk => ?_⟩⟩
    have hk3 : k = 0 ∨ k = 1 ∨ k = 2 := by simp at hk; omega
    rcases hk3 with rfl | rfl | rfl
    · exact (c3 0).trans rfl
    · exact (c3 1).trans rfl
    · exact (c3 2).trans rfl

set_option maxRecDepth 100000 in
set_option maxHeartbeats 4000000 in
theorem l92PositiveF_any (a : Option Addr) (nb cb : Nat) (w : World) (hc : nb ≤ cb) (h63 : cb ≤ 9223372036854775807) (hb : BytR w a nb) :
    Calls Try.prog 26 #[.slice a nb cb] w (PvF w) := by
  obtain ⟨i3, hi3⟩ := info3_parts
  have HJ := Lib.hid hi3
  have E := Lib.hid (l6Open_any a nb cb w hc h63 hb)
  clear hb hi3
  go_enter Try.func26, Try.ntmps26
  go_wp2_with fail
  refine (E.out).mono ?_
  rintro e w1 ⟨n', c', rfl, hs, hz, hd⟩
  have HD1 := Lib.hid hd
  have HS := Lib.hid hs
  have hz1 : w.heap.size < w1.heap.size := by omega
  clear hd hs hz
  go_wp2_with fail
  refine (pick_any w _ w.heap.size n' c' _ a _ HD1.out (by omega)).mono ?_
  rintro e w2 ⟨y, rfl, hy, hg2, hd2⟩
  have HD2 := Lib.hid hd2
  have HS2 := Lib.hid (HS.out.grown hg2 HS.out.size (fun k e => by cases e; omega))
  have hz2 := hg2.size
  clear hd2 hg2
  have hy4 : y = 0 ∨ y = 1 ∨ y = 2 ∨ y = 3 := by omega
  clear hy
  rcases hy4 with hy | hy | hy | hy
  · have b0 : ((y : Int) == 0) = true := by simp [hy]
    clear hy
    go_wp2_with fail
    refine (pick_any w _ w.heap.size n' c' _ a _ HD2.out (by omega)).mono ?_
    rintro e w3 ⟨y2, rfl, hy2, hg3, hd3⟩
    have HD3 := Lib.hid hd3
    have HS3 := Lib.hid (HS2.out.grown hg3 HS2.out.size (fun k e => by cases e; omega))
    have hz3 := hg3.size
    clear hd3 hg3
    obtain ⟨n, hn, hhn⟩ : ∃ n : Nat, IntKind.i64.wrap (2 + (y2 : Int)) = n ∧ n = y2 + 2 := ⟨y2 + 2, (IntWalk.i64_in _ ⟨by omega, by omega⟩).trans (by omega), rfl⟩
    have hbn : 2 ≤ n ∧ n ≤ 5 := by omega
    clear hhn hy2
    go_wp2_with fail
    refine (l91Chips_any w _ w.heap.size n' c' _ n 7 a HD3.out (by omega) (by omega) (by omega)).mono ?_
    rintro e w4 ⟨v, cs, p', rfl, hl, hnv, hg4, hd4, hp', hW⟩
    have hGW : w.heap.size < w3.heap.size := by omega
    obtain ⟨_, cap, rfl, _, ⟨g0, rfl⟩, hcp, hc63, hO⟩ := hW.drawn (w := w3) (Nat.le_refl _) hl hnv
    have hsw := HS3.out.grown hg4 HS3.out.size (fun k e => by cases e; omega)
    obtain ⟨N, hN⟩ : ∃ N, cs.length = N := ⟨_, rfl⟩
    have HZ := Lib.hid (show DZ w w.heap.size w3.heap.size w4.heap.size n' c' a (some ⟨g0, 0, none⟩) N 1000 w4 from ⟨⟨p', by omega, hd4⟩, hsw, Nat.le_refl _, cs, hN, hO⟩)
    rw [hN] at hl hcp ⊢
    clear hg4 hd4 hW hO hsw hN HD1 HD2 HD3
    go_wp2
    go_loopg [6] N (fun gg iv wr => ∃ r : Nat, r ≤ N ∧ gg = N - r ∧ iv = .int .i64 r ∧ DZ w w.heap.size w3.heap.size w4.heap.size n' c' a (some ⟨g0, 0, none⟩) N 1000 wr)
    case atStart => exact ⟨0, Nat.zero_le _, rfl, rfl, HZ.out⟩
    case round =>
      obtain ⟨r, hr, rfl, rfl, hz⟩ := hrel
      clear HZ
      by_cases hlt : r < N
      · obtain ⟨g, v, hge, hv, hf, hput⟩ := hz.put hlt hGW (Nat.le_refl _)
        simp only [Option.some.injEq, Addr.mk.injEq, and_true] at hge
        subst hge
        have HPUT := Lib.hid hput
        clear hput hz
        go_wp2
        all_goals
          go_roundg (N - (r + 1))
          case measure => omega
          case rel => exact ⟨r + 1, by omega, rfl, by go_num, HPUT.out _⟩
      · have hrn : r = N := by omega
        subst hrn
        obtain ⟨⟨p, hp, hd⟩, hsz, hzz, cs2, hl2, ho2⟩ := hz
        have hzs := hsz.size
        have HNT := Lib.hid (specNetTable_any (some ⟨g0, 0, none⟩) cap r (n : Int) cs2 wr hl2 (by omega) ho2.chips)
        obtain ⟨ok, hok⟩ : ∃ ok, ntabB (n : Int) cs2 = ok := ⟨_, rfl⟩
        obtain ⟨L, hL⟩ : ∃ L, outC (n : Int).toNat cs2 = L := ⟨_, rfl⟩
        have hLs : ok = true → szL L ≤ 1048576 ∧ PvB L := fun h => by
          rw [h] at hok
          unfold ntabB at hok
          rw [hL, Bool.and_eq_true] at hok
          exact ⟨szL_tab (tabIn_of hok.2), PvB.tab (tabIn_of hok.2)⟩
        have hLL : ntabL (n : Int) cs2 = resT ok L := by unfold ntabL; rw [hok, hL]
        rw [hok, hLL] at HNT
        have HSZ := Lib.hid hsz
        have HDZ := Lib.hid hd
        clear hsz hd ho2 hok hL hLL
        go_wp2_with fail
        refine (HNT.out).mono ?_
        rintro e w5 ⟨a5, c5, rfl, hs5, hin⟩
        have HSK := Lib.hid (HSZ.out.trans (since_mono hs5 hzs))
        have hdk := HDZ.out.grown (grown_since none hs5) (fun k e => by cases e)
        clear hs5
        cases ok with
        | true =>
          have hsz : szL L ≤ 1048576 ∧ PvB L := hLs rfl
          have hrt : resT true L = L := rfl
          rw [hrt] at hin
          have HIN := Lib.hid hin.matR
          clear hin hdk
          go_wp2
          go_ret
          exact ⟨_, _, L, rfl, HSK.out, hsz, HIN.out⟩
        | false =>
          have HDK := Lib.hid hdk
          clear hin hdk
          go_wp2_with fail
          refine (some_pv HDK.out (by omega) HSK.out).mono ?_
          rintro e w8 ⟨a8, cap8, l8, rfl, h8⟩
          have HH := Lib.hid h8
          clear h8
          go_wp2
          go_ret
          exact ⟨a8, cap8, l8, rfl, HH.out⟩
  · have b0 : ((y : Int) == 0) = false := by simp [hy]
    have b1 : ((y : Int) == 1) = true := by simp [hy]
    clear hy
    go_wp2_with fail
    refine (pick_any w _ w.heap.size n' c' _ a _ (HD2.out.grown (World.grownBy_alloc w2 (.cells #[] 3) none) (fun k e => by cases e)) (by omega)).mono ?_
    rintro e w3 ⟨y2, rfl, hy2, hg3, hd3⟩
    have HG3 := Lib.hid (show w2.grownBy w3 (some w.heap.size) from grown_trans (grown_alloc (World.grownBy_refl w2 (some w.heap.size)) (.cells #[] 3)) hg3)
    have HD3 := Lib.hid hd3
    have hGW : w.heap.size < w2.heap.size := by omega
    have HW3 := Lib.hid (show RW w2.heap.size w3 (.slice (some ⟨w2.heap.size, 0, none⟩) 0 0) [] from RW.kept (World.ownsRow_made w2 #[] 0 (Nat.le_refl _) (Nat.zero_le _) rfl) hg3 (by omega))
    clear hg3 hd3
    obtain ⟨n, hn, hhn⟩ : ∃ n : Nat, IntKind.i64.wrap (2 + (y2 : Int)) = n ∧ n = y2 + 2 := ⟨y2 + 2, (IntWalk.i64_in _ ⟨by omega, by omega⟩).trans (by omega), rfl⟩
    have hbn : 2 ≤ n ∧ n ≤ 4 := by omega
    clear hhn hy2
    go_wp2
    clear hn
    go_loopg [9, 10, 12] n (fun g v at_ i wr => ∃ (j p : Nat) (x : List Int) (t : Int), j ≤ n ∧ g = n - j ∧ i = .int .i64 (j : Nat) ∧ at_ = .int .i64 t ∧ (1 ≤ t ∧ t ≤ 1 + 3 * (j : Int)) ∧ List.length x = j ∧ w2.grownBy wr (some w.heap.size) ∧ RD w wr w.heap.size a n' c' 54 p ∧ p ≤ 1000 + 2 * j ∧ RW w2.heap.size wr v x)
    case atStart => exact ⟨0, _, [], 1, Nat.zero_le _, rfl, rfl, rfl, ⟨by omega, by omega⟩, rfl, HG3.out, HD3.out, by omega, HW3.out⟩
    case round =>
      obtain ⟨j, p, x, t, hj, rfl, rfl, rfl, htb, hxl, hgi, hdi, hpp, hW⟩ := hrel
      clear HG3 HW3 HD3
      have HD := Lib.hid hdi
      have HG := Lib.hid hgi
      have HW := Lib.hid hW
      have hz4 := hgi.size
      clear hdi hgi hW
      by_cases hjN : j < n
      · go_wp2_with (at_builtin; (refine wpList_append_own _ rfl _ _ 27 rfl w2.heap.size 3 i3 (.int .i64 0) 1 8 Try.underlying27 HJ.out.1 HJ.out.2.1 HJ.out.2.2.1 HJ.out.2.2.2 rfl (by decide) _ _ (x.map (Value.int .i64)) rfl (World.ownsRow.alloc HW.out _) ⟨wr.heap.size, 0, none⟩ 1 1 [.int .i64 t] rfl rfl (cell_one_at _ _ _ rfl) (fun x hx => by simp at hx; subst hx; rfl) (by unfold maxLen; omega) (by omega) (by simp; omega) ?_); intro v' w5 hown' hgrow _)
        have HW5 := Lib.hid (show RW w2.heap.size w5 v' (x ++ [t]) by
          have := hown'
          unfold RW
          rw [List.length_append, List.map_append]
          exact this)
        have hge := fun i e => (World.ownsRow.lt HW.out i e).1
        have HD5 := Lib.hid ((HD.out.grown (World.grownBy_alloc wr (.cells #[.int .i64 t] 3) none) (fun k e => by cases e)).grown hgrow (fun i e => by have := hge i e; omega))
        have HG5 := Lib.hid (grown_new (grown_alloc HG.out _) hgrow hge)
        clear hown' hgrow hge
        go_wp2_with fail
        refine (pick_any w _ w.heap.size n' c' _ a _ HD5.out (by omega)).mono ?_
        rintro e w6 ⟨z, rfl, hzz, hg6, hd6⟩
        have HW6 := Lib.hid (HW5.out.kept hg6 (by omega))
        have HG6 := Lib.hid (grown_trans HG5.out hg6)
        have HD6 := Lib.hid hd6
        clear hg6 hd6
        go_wp2
        go_roundg (n - (j + 1))
        case measure => omega
        case rel => exact ⟨j + 1, _, x ++ [t], t + 1 + (z : Int), by omega, rfl, by go_num, by go_num, ⟨by omega, by omega⟩, by rw [List.length_append, hxl]; rfl, HG6.out, HD6.out, by omega, HW6.out⟩
      · have hjj : j = n := by omega
        subst hjj
        obtain ⟨ax, cx, hv, hrr⟩ := HW.out.rowR hxl
        subst hv
        have hsz := HS2.out.grown HG.out HS2.out.size (fun k e => by cases e; omega)
        have hzs := hsz.size
        have HNT := Lib.hid (specKnownPowers_any ax cx j x wr hxl (by omega) hrr)
        obtain ⟨ok, hok⟩ : ∃ ok, (l8B x 30 && tabIn (pwTo x j j)) = ok := ⟨_, rfl⟩
        obtain ⟨L, hL⟩ : ∃ L, pwTo x j j = L := ⟨_, rfl⟩
        rw [hok, hL] at HNT
        have hLs : ok = true → szL L ≤ 1048576 ∧ PvB L := fun h => by
          rw [h, hL, Bool.and_eq_true] at hok
          exact ⟨szL_tab (tabIn_of hok.2), PvB.tab (tabIn_of hok.2)⟩
        have HSZ := Lib.hid hsz
        clear hsz hok hL hrr
        go_wp2_with fail
        refine (HNT.out).mono ?_
        rintro e w7 ⟨a5, c5, rfl, hs5, hin⟩
        have HSK := Lib.hid (HSZ.out.trans (since_mono hs5 hzs))
        have hdk := HD.out.grown (grown_since none hs5) (fun k e => by cases e)
        clear hs5
        cases ok with
        | true =>
          have hsz : szL L ≤ 1048576 ∧ PvB L := hLs rfl
          have hrt : resT true L = L := rfl
          rw [hrt] at hin
          have HIN := Lib.hid hin.matR
          clear hin hdk
          go_wp2
          go_ret
          exact ⟨_, _, L, rfl, HSK.out, hsz, HIN.out⟩
        | false =>
          have HDK := Lib.hid hdk
          clear hin hdk
          go_wp2_with fail
          refine (some_pv HDK.out (by omega) HSK.out).mono ?_
          rintro e w8 ⟨a8, cap8, l8, rfl, h8⟩
          have HH := Lib.hid h8
          clear h8
          go_wp2
          go_ret
          exact ⟨a8, cap8, l8, rfl, HH.out⟩
  · have b0 : ((y : Int) == 0) = false := by simp [hy]
    have b1 : ((y : Int) == 1) = false := by simp [hy]
    have b2 : ((y : Int) == 2) = true := by simp [hy]
    clear hy
    go_wp2
    go_ret
    exact ⟨_, _, [[1, 1, 1], [1, 2, 3], [1, 3, 6]], rfl, (((HS2.out.alloc HS2.out.size _).alloc (by simp; omega) _).alloc (by simp; omega) _).alloc (by simp; omega) _, ⟨by decide, by decide, by decide⟩, lit_mat w2 _⟩
  · have b0 : ((y : Int) == 0) = false := by simp [hy]
    have b1 : ((y : Int) == 1) = false := by simp [hy]
    have b2 : ((y : Int) == 2) = false := by simp [hy]
    clear hy
    go_wp2_with fail
    refine (some_pv HD2.out (by omega) HS2.out).mono ?_
    rintro e w3 ⟨a', cap, l, rfl, h⟩
    have HH := Lib.hid h
    clear h
    go_wp2
    go_ret
    exact ⟨a', cap, l, rfl, HH.out⟩

theorem l92Positive_any (a : Option Addr) (nb cb : Nat) (w : World) (hc : nb ≤ cb) (h63 : cb ≤ 9223372036854775807) (hb : BytR w a nb) :
    Calls Try.prog 26 #[.slice a nb cb] w (PvE w) :=
  (l92PositiveF_any a nb cb w hc h63 hb).mono fun _ _ h => h.pv

end Go.Proofs.Ytlgjplhffpmfpaa
end

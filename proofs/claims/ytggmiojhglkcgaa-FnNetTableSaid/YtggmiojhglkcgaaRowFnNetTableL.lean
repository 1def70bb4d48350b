import Derived.Test.YtggmiojhglkcgaaTabIn
import Derived.Test.YtggmiojhglkcgaaData
import Derived.RangeFuncRecord
import Derived.Test.YtggmiojhglkcgaaDetMul
import Derived.Test.YtggmiojhglkcgaaUnitSpec
import Derived.Deep.RegionHeld3
import Derived.Test.YtggmiojhglkcgaaOwn
import Derived.Deep.AppendLies
import Derived.Test.YtggmiojhglkcgaaTurnSpec
import Derived.Deep.QuietTactic
import Derived.Test.YtggmiojhglkcgaaRankV
import Derived.Test.YtggmiojhglkcgaaOrdDet
import Derived.Test.YtggmiojhglkcgaaHasM
import Derived.Test.YtggmiojhglkcgaaHarn2
import Derived.Test.YtggmiojhglkcgaaSwapped
import Derived.Test.YtggmiojhglkcgaaL2Square
import Derived.Test.YtggmiojhglkcgaaMinorV
import Derived.Test.YtggmiojhglkcgaaTurnImpl
import Derived.Test.YtggmiojhglkcgaaWR
import Derived.Test.YtggmiojhglkcgaaGrid
import Derived.Test.YtggmiojhglkcgaaMakeEntry
import Derived.Test.YtggmiojhglkcgaaBar
import Derived.Test.YtggmiojhglkcgaaOrdF
import Derived.Test.YtggmiojhglkcgaaPartImpl

section
namespace Go.Proofs.Ytggmiojhglkcgaa
open Go.RowKit Go.Deep

structure RC where
  k : ByteArray
  l : Int
  w : Int
def rc0 : RC := ⟨ByteArray.empty, 0, 0⟩
def ChipsR (W : World) (a : Option Addr) (cs : List RC) : Prop :=
  0 < cs.length → ∃ b o, a = some ⟨b, o, none⟩ ∧ ∀ i, i < cs.length → W.cell? ⟨b, o + i * 3, none⟩ = some (.string (cs.getD i rc0).k) ∧ W.cell? ⟨b, o + i * 3 + 1, none⟩ = some (.int .i64 (cs.getD i rc0).l) ∧ W.cell? ⟨b, o + i * 3 + 2, none⟩ = some (.int .i64 (cs.getD i rc0).w)
theorem ChipsR.since {w W : World} {a : Option Addr} {cs : List RC} (h : ChipsR w a cs) (hs : w.Since w.heap.size W) : ChipsR W a cs := fun h0 => by
  obtain ⟨b, o, e, hc⟩ := h h0
  refine ⟨b, o, e, fun i hi => ?_⟩
  obtain ⟨h1, h2, h3⟩ := hc i hi
  exact ⟨(hs.cell (World.block_lt_of_cell? _ _ h1)).trans h1, (hs.cell (World.block_lt_of_cell? _ _ h2)).trans h2, (hs.cell (World.block_lt_of_cell? _ _ h3)).trans h3⟩
noncomputable def kindB (n : Int) (c : RC) : Bool := if c.k.toList = [104] then inB c.l 0 (n - 1) else if c.k.toList = [117] ∨ c.k.toList = [100] then inB c.l 0 (n - 2) else false
noncomputable def chipB (n : Int) (c : RC) : Bool := kindB n c && inB c.w (-9) 9
noncomputable def netB (n : Int) (cs : List RC) : Bool := inB n 2 5 && (decide (cs.length ≤ 10) && cs.all (chipB n))
theorem netB_false {n : Int} {cs : List RC} {i : Nat} (hi : i < cs.length) (h : chipB n (cs.getD i rc0) = false) : netB n cs = false := by
  have : cs.all (chipB n) = false := by
    cases e : cs.all (chipB n) with
    | false => rfl
    | true =>
      have h1 := List.all_eq_true.1 e (cs.getD i rc0) (by
        have : cs.getD i rc0 = cs[i] := by simp [List.getD, hi]
        rw [this]; exact List.getElem_mem _)
      rw [h] at h1; cases h1
  unfold netB
  rw [this]
  simp
theorem netB_true {n : Int} {cs : List RC} (h1 : inB n 2 5 = true) (h2 : cs.length ≤ 10) (h : ∀ i, i < cs.length → chipB n (cs.getD i rc0) = true) : netB n cs = true := by
  have : cs.all (chipB n) = true := List.all_eq_true.2 fun c hc => by
    obtain ⟨i, hi, e⟩ := List.mem_iff_getElem.1 hc
    have := h i hi
    rw [show cs.getD i rc0 = cs[i] by simp [List.getD, hi], e] at this
    exact this
  unfold netB
  rw [h1, this, decide_eq_true h2]
  rfl

set_option maxRecDepth 100000 in
set_option maxHeartbeats 1000000 in
theorem specNetIn_any (a : Option Addr) (cap N : Nat) (n : Int) (cs : List RC) (w : World) (hN : cs.length = N) (h63 : N ≤ 9223372036854775807) (hm : ChipsR w a cs) :
    Calls Try.prog 16 #[.int .i64 n, .slice a N cap] w fun e w' => e = .returned (.bool (netB n cs)) ∧ w.Since w.heap.size w' := by
  by_cases hn : inB n 2 5 = true
  · have E := Lib.hid (fun (W : World) => l6In_at n 2 5 true W hn)
    by_cases hl : N ≤ 10
    · have hl' : decide ((10 : Int) < (N : Int)) = false := by simp; omega
      have HT := Lib.hid (fun h => netB_true (n := n) (cs := cs) hn (by omega) h)
      have HF := Lib.hid (fun (i : Nat) (hi : i < N) h => netB_false (n := n) (cs := cs) (i := i) (by omega) h)
      have HN := Lib.hid hN
      have HM := Lib.hid (show ∀ i, i < N → ∃ b o, a = some ⟨b, o, none⟩ ∧ w.cell? ⟨b, o + i * 3, none⟩ = some (.string (cs.getD i rc0).k) ∧ w.cell? ⟨b, o + i * 3 + 1, none⟩ = some (.int .i64 (cs.getD i rc0).l) ∧ w.cell? ⟨b, o + i * 3 + 2, none⟩ = some (.int .i64 (cs.getD i rc0).w) from fun i hi => by
        obtain ⟨b, o, e, h⟩ := hm (by omega)
        exact ⟨b, o, e, h i (by omega)⟩)
      have hn2 : 2 ≤ n ∧ n ≤ 5 := by unfold inB at hn; exact of_decide_eq_true hn
      clear hm hN hn
      go_enter Try.func16, Try.ntmps16
      go_wp2_with (go_at_call 60; refine (E.out _).mono ?_; rintro e w1 ⟨rfl, rfl⟩)
      go_loopg [5, 6, 7] N (fun g i _ _ wr => ∃ r : Nat, r ≤ N ∧ g = N - r ∧ i = .int .i64 r ∧ w.Since w.heap.size wr ∧ ∀ j, j < r → chipB n (cs.getD j rc0) = true)
      case atStart => exact ⟨0, Nat.zero_le _, rfl, rfl, World.Since.refl _ _, fun j hj => by omega⟩
      case round =>
        obtain ⟨r, hr, rfl, rfl, hS, hall⟩ := hrel
        by_cases hlt : r < N
        · obtain ⟨b, o, rfl, k1, k2, k3⟩ := HM.out r hlt
          have c1 := (hS.cell (World.block_lt_of_cell? _ _ k1)).trans k1
          have c2 := (hS.cell (World.block_lt_of_cell? _ _ k2)).trans k2
          have c3 := (hS.cell (World.block_lt_of_cell? _ _ k3)).trans k3
          have hcf := fun h => HF.out r hlt h
          have hct := fun (h : chipB n (cs.getD r rc0) = true) => show ∀ j, j < r + 1 → chipB n (cs.getD j rc0) = true from fun j hj => by
            by_cases e : j = r
            · subst e; exact h
            · exact hall j (by omega)
          have hcb : chipB n (cs.getD r rc0) = (kindB n (cs.getD r rc0) && inB (cs.getD r rc0).w (-9) 9) := rfl
          unfold kindB at hcb
          obtain ⟨K, hK⟩ : ∃ K, (cs.getD r rc0).k = K := ⟨_, rfl⟩
          obtain ⟨L, hL⟩ : ∃ L, (cs.getD r rc0).l = L := ⟨_, rfl⟩
          obtain ⟨V, hV⟩ : ∃ V, (cs.getD r rc0).w = V := ⟨_, rfl⟩
          rw [hK] at c1 hcb
          rw [hL] at c2 hcb
          rw [hV] at c3 hcb
          have HCF := Lib.hid hcf
          have HCT := Lib.hid hct
          have hb := World.alloc_heap_new wr (.cells #[.string K, .int .i64 L, .int .i64 V] 35)
          have d1 : (wr.alloc (.cells #[.string K, .int .i64 L, .int .i64 V] 35)).cell? ⟨wr.heap.size, 0, none⟩ = some (.string K) := by unfold World.cell?; rw [hb]; rfl
          have d2 : (wr.alloc (.cells #[.string K, .int .i64 L, .int .i64 V] 35)).cell? ⟨wr.heap.size, 1, none⟩ = some (.int .i64 L) := by unfold World.cell?; rw [hb]; rfl
          have d3 : (wr.alloc (.cells #[.string K, .int .i64 L, .int .i64 V] 35)).cell? ⟨wr.heap.size, 2, none⟩ = some (.int .i64 V) := by unfold World.cell?; rw [hb]; rfl
          have HS := Lib.hid (hS.alloc hS.size (.cells #[.string K, .int .i64 L, .int .i64 V] 35))
          have hw1 : IntKind.i64.wrap (n - 1) = n - 1 := IntWalk.i64_in _ ⟨by omega, by omega⟩
          have hw2 : IntKind.i64.wrap (n - 2) = n - 2 := IntWalk.i64_in _ ⟨by omega, by omega⟩
          clear k1 k2 k3 hb hcf hct hK hL hV hall hS
          by_cases hH : K.toList = [104]
          · rw [if_pos hH] at hcb
            obtain ⟨b1, hb1⟩ : ∃ b1, inB L 0 (n - 1) = b1 := ⟨_, rfl⟩
            obtain ⟨b2, hb2⟩ : ∃ b2, inB V (-9) 9 = b2 := ⟨_, rfl⟩
            rw [hb1, hb2] at hcb
            have HCB := Lib.hid hcb
            clear hcb
            cases b1 <;> cases b2
            all_goals
              go_wp2_with (go_at_call 60; refine (l6In_any _ _ _ _).mono ?_; rintro e w1 ⟨rfl, rfl⟩; simp only [hb1, hb2])
              first
                | (go_ret; exact ⟨by rw [HCF.out HCB.out]; rfl, HS.out⟩)
                | (go_roundg (N - (r + 1))
                   case measure => omega
                   case rel => exact ⟨r + 1, by omega, by omega, by go_num, HS.out, HCT.out HCB.out⟩)
          · rw [if_neg hH] at hcb
            by_cases hU : K.toList = [117]
            · rw [if_pos (.inl hU)] at hcb
              clear hH
              obtain ⟨b1, hb1⟩ : ∃ b1, inB L 0 (n - 2) = b1 := ⟨_, rfl⟩
              obtain ⟨b2, hb2⟩ : ∃ b2, inB V (-9) 9 = b2 := ⟨_, rfl⟩
              rw [hb1, hb2] at hcb
              have HCB := Lib.hid hcb
              clear hcb
              cases b1 <;> cases b2
              all_goals
                go_wp2_with (go_at_call 60; refine (l6In_any _ _ _ _).mono ?_; rintro e w1 ⟨rfl, rfl⟩; simp only [hb1, hb2])
                first
                  | (go_ret; exact ⟨by rw [HCF.out HCB.out]; rfl, HS.out⟩)
                  | (go_roundg (N - (r + 1))
                     case measure => omega
                     case rel => exact ⟨r + 1, by omega, by omega, by go_num, HS.out, HCT.out HCB.out⟩)
            · by_cases hD : K.toList = [100]
              · rw [if_pos (.inr hD)] at hcb
                clear hH hU
                obtain ⟨b1, hb1⟩ : ∃ b1, inB L 0 (n - 2) = b1 := ⟨_, rfl⟩
                obtain ⟨b2, hb2⟩ : ∃ b2, inB V (-9) 9 = b2 := ⟨_, rfl⟩
                rw [hb1, hb2] at hcb
                have HCB := Lib.hid hcb
                clear hcb
                cases b1 <;> cases b2
                all_goals
                  go_wp2_with (go_at_call 60; refine (l6In_any _ _ _ _).mono ?_; rintro e w1 ⟨rfl, rfl⟩; simp only [hb1, hb2])
                  first
                    | (go_ret; exact ⟨by rw [HCF.out HCB.out]; rfl, HS.out⟩)
                    | (go_roundg (N - (r + 1))
                       case measure => omega
                       case rel => exact ⟨r + 1, by omega, by omega, by go_num, HS.out, HCT.out HCB.out⟩)
              · rw [if_neg (fun h => h.elim hU hD), Bool.false_and] at hcb
                have HCB := Lib.hid hcb
                have q1 : (K.toList == [104]) = false := by simpa using hH
                have q2 : (K.toList == [117]) = false := by simpa using hU
                have q3 : (K.toList == [100]) = false := by simpa using hD
                clear hcb
                go_wp2
                go_ret
                exact ⟨by rw [HCF.out HCB.out]; rfl, HS.out⟩
        · obtain rfl : r = N := by omega
          have hfin := HT.out (fun i hi => hall i (by rw [HN.out] at hi; exact hi))
          have HFIN := Lib.hid hfin
          clear hfin hall
          go_wp2
          go_ret
          exact ⟨by rw [HFIN.out]; rfl, hS⟩
    · have hl' : decide ((10 : Int) < (N : Int)) = true := by simp; omega
      have HF := Lib.hid (show netB n cs = false from by unfold netB; rw [decide_eq_false (by omega)]; simp)
      clear hm hN hn
      go_enter Try.func16, Try.ntmps16
      go_wp2_with (go_at_call 60; refine (E.out _).mono ?_; rintro e w1 ⟨rfl, rfl⟩)
      go_ret
      exact ⟨by rw [HF.out]; rfl, World.Since.refl _ _⟩
  · have hn' : inB n 2 5 = false := by simpa using hn
    have E := Lib.hid (fun (W : World) => l6In_at n 2 5 false W hn')
    have HF := Lib.hid (show netB n cs = false from by unfold netB; rw [hn']; rfl)
    clear hm hN hn hn'
    go_enter Try.func16, Try.ntmps16
    go_wp2_with (go_at_call 60; refine (E.out _).mono ?_; rintro e w1 ⟨rfl, rfl⟩)
    go_ret
    exact ⟨by rw [HF.out]; rfl, World.Since.refl _ _⟩

end Go.Proofs.Ytggmiojhglkcgaa
end

section
namespace Go.Proofs.Ytggmiojhglkcgaa
open Go.RowKit Go.Deep

set_option maxHeartbeats 1000000 in
theorem l6cFrom_any (K : ByteArray) (L : Nat) (V : Int) (w : World) (hL : L ≤ 10) :
    Calls Try.prog 117 #[.agg #[.string K, .int .i64 L, .int .i64 V]] w fun e w' => e = .returned (if K.toList = [117] then .tuple #[.int .i64 (L : Int), .int .i64 ((L + 1 : Nat) : Int)] else .tuple #[.int .i64 ((L + 1 : Nat) : Int), .int .i64 (L : Int)]) ∧ w.Since w.heap.size w' := by
  have hw : IntKind.i64.wrap ((L : Int) + 1) = ((L + 1 : Nat) : Int) := (IntWalk.i64_in _ ⟨by omega, by omega⟩).trans (by omega)
  have hb := World.alloc_heap_new w (.cells #[.string K, .int .i64 L, .int .i64 V] 35)
  have d1 : (w.alloc (.cells #[.string K, .int .i64 L, .int .i64 V] 35)).cell? ⟨w.heap.size, 0, none⟩ = some (.string K) := by unfold World.cell?; rw [hb]; rfl
  have d2 : (w.alloc (.cells #[.string K, .int .i64 L, .int .i64 V] 35)).cell? ⟨w.heap.size, 1, none⟩ = some (.int .i64 L) := by unfold World.cell?; rw [hb]; rfl
  have HS := Lib.hid ((World.Since.refl w.heap.size w).alloc (Nat.le_refl _) (.cells #[.string K, .int .i64 L, .int .i64 V] 35))
  clear hb
  by_cases hU : K.toList = [117]
  · rw [if_pos hU]
    go_enter Try.func117, Try.ntmps117
    go_wp2
    go_region
    all_goals
      go_wp2
      go_ret2
      exact ⟨rfl, HS.out.drew⟩
  · rw [if_neg hU]
    go_enter Try.func117, Try.ntmps117
    have hU' : (K.toList == [117]) = false := by simpa using hU
    go_wp2
    go_region
    all_goals
      go_wp2
      go_ret2
      exact ⟨rfl, HS.out.drew⟩

end Go.Proofs.Ytggmiojhglkcgaa
end

section
namespace Go.Proofs.Ytggmiojhglkcgaa

abbrev CH := Nat × Nat × Int
def cFrom (c : CH) : Nat := if c.1 = 0 then c.2.1 else c.2.1 + 1
def cTo (c : CH) : Nat := if c.1 = 0 then c.2.1 + 1 else c.2.1
def chOk (n : Nat) (c : CH) : Prop := c.1 ≤ 2 ∧ (if c.1 = 2 then c.2.1 < n else c.2.1 + 1 < n)
def pathN : List CH → Nat → Nat → Int
  | [], a, t => if a = t then 1 else 0
  | c :: cs, a, t => if c.1 = 2 then (if a = c.2.1 then c.2.2 * pathN cs a t else pathN cs a t) else pathN cs a t + (if a = cFrom c then c.2.2 * pathN cs (cTo c) t else 0)
def chM (c : CH) (i j : Nat) : Int := if i = j then (if c.1 = 2 ∧ i = c.2.1 then c.2.2 else 1) else if c.1 ≠ 2 ∧ i = cFrom c ∧ j = cTo c then c.2.2 else 0
def netM (n : Nat) : List CH → Nat → Nat → Int
  | [], i, k => if i = k then 1 else 0
  | c :: cs, i, k => sumN (fun j => chM c i j * netM n cs j k) n

theorem ch_ft {n : Nat} {c : CH} (h : chOk n c) (h2 : c.1 ≠ 2) : cFrom c < n ∧ cTo c < n ∧ cFrom c ≠ cTo c := by
  unfold chOk at h
  rw [if_neg h2] at h
  unfold cFrom cTo
  split <;> omega

theorem sumN_two (f : Nat → Int) {a b n : Nat} (ha : a < n) (hb : b < n) (hab : a ≠ b) (h : ∀ j, j < n → j ≠ a → j ≠ b → f j = 0) : sumN f n = f a + f b := by
  have e : sumN f n = sumN (fun j => (if j = a then f a else 0) + (if j = b then f b else 0)) n := sumN_congr n fun j hj => by
    by_cases h1 : j = a
    · subst h1; simp [hab]
    · by_cases h2 : j = b
      · subst h2; simp [h1]
      · rw [h j hj h1 h2]; simp [h1, h2]
  rw [e, sumN_add, sumN_one _ a n ha (fun j _ hj => by simp [hj]), sumN_one _ b n hb (fun j _ hj => by simp [hj])]
  simp

theorem ch_row {n : Nat} {c : CH} (h : chOk n c) {i : Nat} (hi : i < n) (f : Nat → Int) :
    sumN (fun j => chM c i j * f j) n = if c.1 = 2 then (if i = c.2.1 then c.2.2 * f i else f i) else f i + (if i = cFrom c then c.2.2 * f (cTo c) else 0) := by
  by_cases h2 : c.1 = 2
  · rw [if_pos h2, sumN_one _ i n hi (fun j _ hj => by
      unfold chM
      rw [if_neg (fun e => hj e.symm), if_neg (fun e => e.1 h2), Int.zero_mul])]
    unfold chM
    by_cases hl : i = c.2.1 <;> simp [h2, hl]
  · obtain ⟨h3, h4, h5⟩ := ch_ft h h2
    rw [if_neg h2]
    by_cases hf : i = cFrom c
    · subst hf
      rw [if_pos rfl, sumN_two _ h3 h4 h5 (fun j _ h6 h7 => by
        unfold chM
        rw [if_neg (fun e => h6 e.symm), if_neg (fun e => h7 e.2.2), Int.zero_mul])]
      unfold chM
      rw [if_pos rfl, if_neg (fun e => h2 e.1), if_neg h5, if_pos ⟨h2, rfl, rfl⟩, Int.one_mul]
    · rw [if_neg hf, sumN_one _ i n hi (fun j _ hj => by
        unfold chM
        rw [if_neg (fun e => hj e.symm), if_neg (fun e => hf e.2.1), Int.zero_mul])]
      unfold chM
      rw [if_pos rfl, if_neg (fun e => h2 e.1)]
      omega

theorem path_net {n : Nat} : ∀ (cs : List CH), (∀ c ∈ cs, chOk n c) → ∀ a t, a < n → pathN cs a t = netM n cs a t
  | [], _, _, _, _ => rfl
  | c :: cs, h, a, t, ha => by
    have hc := h c (by simp)
    have ih := path_net cs (fun c hc => h c (by simp [hc]))
    unfold netM
    rw [ch_row hc ha (fun j => netM n cs j t)]
    unfold pathN
    by_cases h2 : c.1 = 2
    · rw [if_pos h2, if_pos h2, ih a t ha]
    · rw [if_neg h2, if_neg h2, ih a t ha, ih (cTo c) t (ch_ft hc h2).2.1]

theorem net_app {n : Nat} : ∀ (xs bs : List CH) (i k : Nat), i < n → netM n (xs ++ bs) i k = sumN (fun j => netM n xs i j * netM n bs j k) n
  | [], bs, i, k, hi => by
    rw [sumN_one _ i n hi (fun j _ hj => by
      show (if i = j then (1 : Int) else 0) * _ = 0
      rw [if_neg (fun e => hj e.symm), Int.zero_mul])]
    show _ = (if i = i then (1 : Int) else 0) * _
    rw [if_pos rfl, Int.one_mul]
    rfl
  | c :: xs, bs, i, k, hi => by
    show sumN (fun j => chM c i j * netM n (xs ++ bs) j k) n = sumN (fun j => sumN (fun m => chM c i m * netM n xs m j) n * netM n bs j k) n
    rw [sumN_congr (g := fun m => sumN (fun j => chM c i m * netM n xs m j * netM n bs j k) n) n (fun m hm => by
      rw [net_app xs bs m k hm, ← sumN_mul]
      exact sumN_congr n fun j _ => (Int.mul_assoc _ _ _).symm)]
    rw [sumN_comm]
    exact sumN_congr n fun j _ => sumN_mulR _ _ _

def swC (c : CH) : CH := (if c.1 = 0 then 1 else if c.1 = 1 then 0 else c.1, c.2.1, c.2.2)
theorem sw_ft {c : CH} (h : c.1 ≤ 2) (h2 : c.1 ≠ 2) : cFrom (swC c) = cTo c ∧ cTo (swC c) = cFrom c ∧ (swC c).1 ≠ 2 := by
  unfold cFrom cTo swC
  have : c.1 = 0 ∨ c.1 = 1 := by omega
  rcases this with e | e <;> simp [e]
theorem sw_h {c : CH} (h2 : c.1 = 2) : swC c = c := by
  unfold swC
  rw [if_neg (by omega), if_neg (by omega)]
theorem ch_turn {c : CH} (h : c.1 ≤ 2) (i j : Nat) : chM (swC c) i j = chM c j i := by
  by_cases h2 : c.1 = 2
  · rw [sw_h h2]
    unfold chM
    by_cases e : i = j
    · subst e; rfl
    · rw [if_neg e, if_neg (show ¬ j = i from fun x => e x.symm), if_neg (fun x => x.1 h2), if_neg (fun x => x.1 h2)]
  · obtain ⟨h3, h4, h5⟩ := sw_ft h h2
    unfold chM
    rw [h3, h4]
    by_cases e : i = j
    · subst e
      rw [if_pos rfl, if_pos rfl, if_neg (fun x => h5 x.1), if_neg (fun x => h2 x.1)]
    · rw [if_neg e, if_neg (show ¬ j = i from fun x => e x.symm)]
      by_cases x : i = cTo c ∧ j = cFrom c
      · rw [if_pos ⟨h5, x.1, x.2⟩, if_pos ⟨h2, x.2, x.1⟩]; rfl
      · rw [if_neg (fun y => x y.2), if_neg (fun y => x ⟨y.2.2, y.2.1⟩)]
theorem net_one {n : Nat} (c : CH) {i k : Nat} (hk : k < n) : netM n [c] i k = chM c i k := by
  show sumN (fun j => chM c i j * (if j = k then 1 else 0)) n = _
  rw [sumN_one _ k n hk (fun j _ hj => by rw [if_neg hj, Int.mul_zero]), if_pos rfl, Int.mul_one]
theorem net_turn {n : Nat} : ∀ (cs : List CH), (∀ c ∈ cs, c.1 ≤ 2) → ∀ i k, i < n → k < n → netM n ((cs.map swC).reverse) k i = netM n cs i k
  | [], _, i, k, _, _ => by
    show (if k = i then (1 : Int) else 0) = if i = k then 1 else 0
    by_cases e : i = k
    · subst e; rfl
    · rw [if_neg e, if_neg (fun x => e x.symm)]
  | c :: cs, h, i, k, hi, hk => by
    rw [List.map_cons, List.reverse_cons, net_app _ _ k i hk]
    show _ = sumN (fun j => chM c i j * netM n cs j k) n
    refine sumN_congr n fun j hj => ?_
    rw [net_turn cs (fun c hc => h c (by simp [hc])) j k hj hk, net_one _ hi, ch_turn (h c (by simp)), Int.mul_comm]

end Go.Proofs.Ytggmiojhglkcgaa
end

section
namespace Go.Proofs.Ytggmiojhglkcgaa

def famN : List CH → Nat → Nat → Int
  | [], s, t => if s = t then 1 else 0
  | c :: cs, s, t => if c.1 = 2 then (if s.testBit c.2.1 = true then c.2.2 * famN cs s t else famN cs s t)
    else famN cs s t + (if s.testBit (cFrom c) = true ∧ s.testBit (cTo c) = false then c.2.2 * famN cs (s ^^^ 2 ^ cFrom c ^^^ 2 ^ cTo c) t else 0)

theorem c_ne (c : CH) : cFrom c ≠ cTo c := by unfold cFrom cTo; split <;> omega
theorem bit_one (i j : Nat) : (2 ^ i).testBit j = decide (i = j) := Nat.testBit_two_pow
theorem fam_one : ∀ (cs : List CH) (i k : Nat), famN cs (2 ^ i) (2 ^ k) = pathN cs i k
  | [], i, k => by
    unfold famN pathN
    by_cases e : i = k
    · subst e; simp
    · rw [if_neg e, if_neg (fun h => e (by
        have h1 := congrArg (fun x => Nat.testBit x i) h
        simp only [bit_one, decide_true] at h1
        exact (of_decide_eq_true h1.symm).symm))]
  | c :: cs, i, k => by
    unfold famN pathN
    rw [fam_one cs i k, bit_one, bit_one, bit_one]
    by_cases h2 : c.1 = 2
    · rw [if_pos h2, if_pos h2]
      by_cases e : i = c.2.1 <;> simp [e]
    · rw [if_neg h2, if_neg h2]
      by_cases e : i = cFrom c
      · subst e
        rw [if_pos ⟨by simp, by simp [c_ne c]⟩, if_pos rfl, Nat.xor_self, Nat.zero_xor, fam_one cs (cTo c) k]
      · rw [if_neg (fun h => e (by simpa using h.1)), if_neg e]
theorem fam_nn : ∀ (cs : List CH), (∀ c ∈ cs, 0 ≤ c.2.2) → ∀ s t, 0 ≤ famN cs s t
  | [], _, s, t => by unfold famN; split <;> omega
  | c :: cs, h, s, t => by
    have hc := h c (by simp)
    have ih := fam_nn cs (fun c hc => h c (by simp [hc]))
    unfold famN
    split
    · split
      · exact Int.mul_nonneg hc (ih _ _)
      · exact ih _ _
    · have h1 := ih s t
      split
      · have := Int.mul_nonneg hc (ih (s ^^^ 2 ^ cFrom c ^^^ 2 ^ cTo c) t)
        omega
      · omega
theorem path_nn (cs : List CH) (h : ∀ c ∈ cs, 0 ≤ c.2.2) (i k : Nat) : 0 ≤ pathN cs i k := by
  rw [← fam_one]; exact fam_nn cs h _ _
theorem path_stay : ∀ (cs : List CH), (∀ c ∈ cs, 1 ≤ c.2.2) → ∀ i, 1 ≤ pathN cs i i
  | [], _, i => by unfold pathN; simp
  | c :: cs, h, i => by
    have hc := h c (by simp)
    have ih := path_stay cs (fun c hc => h c (by simp [hc])) i
    have hn : ∀ a, 0 ≤ pathN cs a i := fun a => path_nn cs (fun c hc => by have := h c (by simp [hc]); omega) a i
    unfold pathN
    split
    · split
      · have := Int.mul_le_mul hc ih (by omega) (by omega : (0 : Int) ≤ c.2.2)
        omega
      · exact ih
    · split
      · have := Int.mul_nonneg (by omega : (0 : Int) ≤ c.2.2) (hn (cTo c))
        omega
      · omega

def p10 : Nat → Int
  | 0 => 1
  | k + 1 => 10 * p10 k
theorem p10_pos : ∀ k, 1 ≤ p10 k
  | 0 => by decide
  | k + 1 => by have := p10_pos k; show 1 ≤ 10 * p10 k; omega
theorem p10_le {k : Nat} (h : k ≤ 10) : p10 k ≤ 10000000000 := by
  have : ∀ j : Fin 11, p10 j.val ≤ 10000000000 := by decide
  exact this ⟨k, by omega⟩
theorem mul_bd9 {a b B : Int} (h1 : -9 ≤ a) (h2 : a ≤ 9) (h3 : -B ≤ b) (h4 : b ≤ B) : -(9 * B) ≤ a * b ∧ a * b ≤ 9 * B := by
  have k1 : 0 ≤ (9 - a) * (B + b) := Int.mul_nonneg (by omega) (by omega)
  have k2 : 0 ≤ (9 + a) * (B - b) := Int.mul_nonneg (by omega) (by omega)
  have k3 : 0 ≤ (9 - a) * (B - b) := Int.mul_nonneg (by omega) (by omega)
  have k4 : 0 ≤ (9 + a) * (B + b) := Int.mul_nonneg (by omega) (by omega)
  simp only [Int.add_mul, Int.sub_mul, Int.mul_add, Int.mul_sub] at k1 k2 k3 k4
  omega
theorem fam_bd : ∀ (cs : List CH), (∀ c ∈ cs, -9 ≤ c.2.2 ∧ c.2.2 ≤ 9) → ∀ s t, -(p10 cs.length) ≤ famN cs s t ∧ famN cs s t ≤ p10 cs.length
  | [], _, s, t => by unfold famN; split <;> simp [p10]
  | c :: cs, h, s, t => by
    have hc := h c (by simp)
    have ih := fam_bd cs (fun c hc => h c (by simp [hc]))
    have hp := p10_pos cs.length
    have e : p10 (c :: cs).length = 10 * p10 cs.length := rfl
    rw [e]
    have h1 := ih s t
    have m1 := mul_bd9 hc.1 hc.2 h1.1 h1.2
    have h2 := ih (s ^^^ 2 ^ cFrom c ^^^ 2 ^ cTo c) t
    have m2 := mul_bd9 hc.1 hc.2 h2.1 h2.2
    unfold famN
    split
    · split <;> omega
    · split <;> omega
theorem path_bd (cs : List CH) (h : ∀ c ∈ cs, -9 ≤ c.2.2 ∧ c.2.2 ≤ 9) (i k : Nat) : -(p10 cs.length) ≤ pathN cs i k ∧ pathN cs i k ≤ p10 cs.length := by
  rw [← fam_one]; exact fam_bd cs h _ _

end Go.Proofs.Ytggmiojhglkcgaa
end

section
namespace Go.Proofs.Ytggmiojhglkcgaa
open Go.RowKit Go.Deep

def toC (c : RC) : CH := (if c.k.toList = [117] then 0 else if c.k.toList = [100] then 1 else 2, c.l.toNat, c.w)
def RCok (c : RC) : Prop := (c.k.toList = [104] ∨ c.k.toList = [117] ∨ c.k.toList = [100]) ∧ (0 ≤ c.l ∧ c.l ≤ 10) ∧ -9 ≤ c.w ∧ c.w ≤ 9
theorem ChipsR.tail {W : World} {b o : Nat} {c : RC} {cs : List RC} (h : ∀ i, i < (c :: cs).length → W.cell? ⟨b, o + i * 3, none⟩ = some (.string ((c :: cs).getD i rc0).k) ∧ W.cell? ⟨b, o + i * 3 + 1, none⟩ = some (.int .i64 ((c :: cs).getD i rc0).l) ∧ W.cell? ⟨b, o + i * 3 + 2, none⟩ = some (.int .i64 ((c :: cs).getD i rc0).w)) :
    ChipsR W (some ⟨b, o + 3, none⟩) cs := fun h0 => ⟨b, o + 3, rfl, fun i hi => by
  have := h (i + 1) (by simp; omega)
  rw [show o + 3 + i * 3 = o + (i + 1) * 3 by omega]
  simpa using this⟩
theorem ChipsR.split {W : World} {a : Option Addr} {c : RC} {cs : List RC} (h : ChipsR W a (c :: cs)) : ∃ b o, a = some ⟨b, o, none⟩ ∧ (W.cell? ⟨b, o, none⟩ = some (.string c.k) ∧ W.cell? ⟨b, o + 1, none⟩ = some (.int .i64 c.l) ∧ W.cell? ⟨b, o + 2, none⟩ = some (.int .i64 c.w)) ∧
    ∀ (V : World) (q cap : Nat), W.Since W.heap.size V → cs.length + 1 ≤ cap → (q = o + 3 ∨ cap = 1) → ChipsR V (some ⟨b, q, none⟩) cs := by
  obtain ⟨b, o, rfl, hc⟩ := h (by simp)
  have hc0 := hc 0 (by simp)
  simp only [Nat.zero_mul, Nat.add_zero, List.getD_cons_zero] at hc0
  refine ⟨b, o, rfl, hc0, fun V q cap hs hcap hq => ?_⟩
  by_cases h0 : 0 < cs.length
  · obtain rfl : q = o + 3 := by omega
    exact (ChipsR.tail hc).since hs
  · exact fun h => absurd h h0
theorem chip_box (w : World) (K : ByteArray) (L V : Int) (T : TypeId) :
    (w.alloc (.cells #[.string K, .int .i64 L, .int .i64 V] T)).cell? ⟨w.heap.size, 0, none⟩ = some (.string K) ∧ (w.alloc (.cells #[.string K, .int .i64 L, .int .i64 V] T)).cell? ⟨w.heap.size, 1, none⟩ = some (.int .i64 L) ∧ (w.alloc (.cells #[.string K, .int .i64 L, .int .i64 V] T)).cell? ⟨w.heap.size, 2, none⟩ = some (.int .i64 V) := by
  have hb := World.alloc_heap_new w (.cells #[.string K, .int .i64 L, .int .i64 V] T)
  refine ⟨?_, ?_, ?_⟩ <;> (unfold World.cell?; rw [hb]; rfl)
theorem toC_h {K : ByteArray} {L : Nat} {V : Int} (h : K.toList = [104]) : toC ⟨K, (L : Int), V⟩ = (2, L, V) := by unfold toC; simp [h]
theorem toC_n {K : ByteArray} {L : Nat} {V : Int} (h : ¬ K.toList = [104]) (hk : K.toList = [104] ∨ K.toList = [117] ∨ K.toList = [100]) : ∃ k, k ≤ 1 ∧ toC ⟨K, (L : Int), V⟩ = (k, L, V) ∧
    (if K.toList = [117] then Value.tuple #[.int .i64 (L : Int), .int .i64 ((L + 1 : Nat) : Int)] else .tuple #[.int .i64 ((L + 1 : Nat) : Int), .int .i64 (L : Int)]) = .tuple #[.int .i64 (cFrom (k, L, V) : Nat), .int .i64 (cTo (k, L, V) : Nat)] := by
  rcases hk with e | e | e
  · exact absurd e h
  · exact ⟨0, by omega, by unfold toC; simp [e], by unfold cFrom cTo; simp [e]⟩
  · exact ⟨1, by omega, by unfold toC; simp [e], by unfold cFrom cTo; simp [e]⟩
theorem wrap_mul9 {V P : Int} (h : -9 ≤ V ∧ V ≤ 9) (hp : -10000000000 ≤ P ∧ P ≤ 10000000000) : IntKind.i64.wrap (V * P) = V * P ∧ -90000000000 ≤ V * P ∧ V * P ≤ 90000000000 := by
  have := mul_bd9 h.1 h.2 hp.1 hp.2
  exact ⟨IntWalk.i64_in _ ⟨by omega, by omega⟩, by omega, by omega⟩

set_option maxRecDepth 100000 in
set_option maxHeartbeats 400000 in
theorem paths_h (K : ByteArray) (V : Int) (M cap t b o i : Nat) (w : World) (P : Int) (hH : K.toList = [104]) (hw1 : IntKind.i64.wrap (V * P) = V * P) (IHP : ∀ (W : World) (q c' : Nat), w.Since w.heap.size W → (q = o + 3 ∨ cap = 1) → M ≤ c' → c' ≤ cap → Calls Try.prog 76 #[.slice (some ⟨b, q, none⟩) M c', .int .i64 i, .int .i64 t] W fun e w' => e = .returned (.int .i64 P) ∧ W.Since W.heap.size w') (hM : M + 1 ≤ 10) (hcap : M + 1 ≤ cap) (hc63 : cap ≤ 9223372036854775807)
    (k1 : w.cell? ⟨b, o, none⟩ = some (.string K)) (k2 : w.cell? ⟨b, o + 1, none⟩ = some (.int .i64 i)) (k3 : w.cell? ⟨b, o + 2, none⟩ = some (.int .i64 V)) :
    Calls Try.prog 76 #[.slice (some ⟨b, o, none⟩) (M + 1) cap, .int .i64 i, .int .i64 t] w fun e w' => e = .returned (.int .i64 (V * P)) ∧ w.Since w.heap.size w' := by
  obtain ⟨d1, d2, d3⟩ := chip_box w K i V 35
  have HS := Lib.hid ((World.Since.refl w.heap.size w).alloc (Nat.le_refl _) (.cells #[.string K, .int .i64 i, .int .i64 V] 35))
  replace IHP := Lib.hid IHP
  rcases Nat.lt_or_eq_of_le (show 1 ≤ cap by omega) with hc1 | rfl
  · have hb1 : (0 : Int) ≤ (M : Int) := by omega
    have hb2 : (1 : Int) ≤ (M : Int) + 1 := by omega
    have hb3 : (M : Int) + 1 ≤ (cap : Int) := by omega
    have hc2 : ¬ cap = 1 := by omega
    have hc3 : ¬ 1 = cap := by omega
    go_enter Try.func76, Try.ntmps76
    go_wp2_with fail
    go_region_held3 (fun w' => w'.cell? ⟨w.heap.size, 2, none⟩ = some (.int .i64 V)) (first | exact d3 | exact c4)
      (first | (go_at_call 76; refine (IHP.out _ _ _ HS.out.drew (by first | exact .inr trivial | exact .inr rfl | exact .inl rfl) (by omega) (by omega)).mono ?_; rintro e w1 ⟨rfl, hs1⟩; have c4 := (hs1.cell (a := ⟨w.heap.size, 2, none⟩) (by simp)).trans d3; have HS1 := Lib.hid hs1; clear hs1))
    all_goals
      go_wp2_with fail
      go_ret
      exact ⟨rfl, HS.out.trans (since_mono (since_of_drew HS1.out) HS.out.size)⟩
  · obtain rfl : M = 0 := by omega
    clear hM hcap hc63
    go_enter Try.func76, Try.ntmps76
    go_wp2_with fail
    go_region_held3 (fun w' => w'.cell? ⟨w.heap.size, 2, none⟩ = some (.int .i64 V)) (first | exact d3 | exact c4)
      (first | (go_at_call 76; refine (IHP.out _ _ _ HS.out.drew (by first | exact .inr trivial | exact .inr rfl | exact .inl rfl) (by omega) (by omega)).mono ?_; rintro e w1 ⟨rfl, hs1⟩; have c4 := (hs1.cell (a := ⟨w.heap.size, 2, none⟩) (by simp)).trans d3; have HS1 := Lib.hid hs1; clear hs1))
    all_goals
      go_wp2_with fail
      go_ret
      exact ⟨rfl, HS.out.trans (since_mono (since_of_drew HS1.out) HS.out.size)⟩

set_option maxRecDepth 100000 in
set_option maxHeartbeats 400000 in
theorem paths_g (K : ByteArray) (V : Int) (M cap t b o L i : Nat) (w : World) (P : Int) (hH : K.toList = [104]) (hne2 : ((i : Int) == (L : Int)) = false) (IHP : ∀ (W : World) (q c' : Nat), w.Since w.heap.size W → (q = o + 3 ∨ cap = 1) → M ≤ c' → c' ≤ cap → Calls Try.prog 76 #[.slice (some ⟨b, q, none⟩) M c', .int .i64 i, .int .i64 t] W fun e w' => e = .returned (.int .i64 P) ∧ W.Since W.heap.size w') (hM : M + 1 ≤ 10) (hcap : M + 1 ≤ cap) (hc63 : cap ≤ 9223372036854775807)
    (k1 : w.cell? ⟨b, o, none⟩ = some (.string K)) (k2 : w.cell? ⟨b, o + 1, none⟩ = some (.int .i64 L)) (k3 : w.cell? ⟨b, o + 2, none⟩ = some (.int .i64 V)) :
    Calls Try.prog 76 #[.slice (some ⟨b, o, none⟩) (M + 1) cap, .int .i64 i, .int .i64 t] w fun e w' => e = .returned (.int .i64 (P)) ∧ w.Since w.heap.size w' := by
  obtain ⟨d1, d2, d3⟩ := chip_box w K L V 35
  have HS := Lib.hid ((World.Since.refl w.heap.size w).alloc (Nat.le_refl _) (.cells #[.string K, .int .i64 L, .int .i64 V] 35))
  replace IHP := Lib.hid IHP
  rcases Nat.lt_or_eq_of_le (show 1 ≤ cap by omega) with hc1 | rfl
  · have hb1 : (0 : Int) ≤ (M : Int) := by omega
    have hb2 : (1 : Int) ≤ (M : Int) + 1 := by omega
    have hb3 : (M : Int) + 1 ≤ (cap : Int) := by omega
    have hc2 : ¬ cap = 1 := by omega
    have hc3 : ¬ 1 = cap := by omega
    go_enter Try.func76, Try.ntmps76
    go_wp2_with (go_at_call 76; refine (IHP.out _ _ _ HS.out (by first | exact .inr trivial | exact .inr rfl | exact .inl rfl) (by omega) (by omega)).mono ?_; rintro e w1 ⟨rfl, hs1⟩)
    all_goals
      go_ret
      exact ⟨rfl, HS.out.trans (since_mono hs1 HS.out.size)⟩
  · obtain rfl : M = 0 := by omega
    clear hM hcap hc63
    go_enter Try.func76, Try.ntmps76
    go_wp2_with (go_at_call 76; refine (IHP.out _ _ _ HS.out (by first | exact .inr trivial | exact .inr rfl | exact .inl rfl) (by omega) (by omega)).mono ?_; rintro e w1 ⟨rfl, hs1⟩)
    all_goals
      go_ret
      exact ⟨rfl, HS.out.trans (since_mono hs1 HS.out.size)⟩

set_option maxRecDepth 100000 in
set_option maxHeartbeats 400000 in
theorem paths_n (K : ByteArray) (V : Int) (M cap t b o F L T i : Nat) (w : World) (P : Int) (hH : (K.toList == [104]) = false) (hne2 : ((i : Int) == (F : Int)) = false) (EF : ∀ W : World, Calls Try.prog 117 #[.agg #[.string K, .int .i64 L, .int .i64 V]] W fun e w' => e = .returned (.tuple #[.int .i64 F, .int .i64 T]) ∧ W.Since W.heap.size w') (IHP : ∀ (W : World) (q c' : Nat), w.Since w.heap.size W → (q = o + 3 ∨ cap = 1) → M ≤ c' → c' ≤ cap → Calls Try.prog 76 #[.slice (some ⟨b, q, none⟩) M c', .int .i64 i, .int .i64 t] W fun e w' => e = .returned (.int .i64 P) ∧ W.Since W.heap.size w') (hM : M + 1 ≤ 10) (hcap : M + 1 ≤ cap) (hc63 : cap ≤ 9223372036854775807)
    (k1 : w.cell? ⟨b, o, none⟩ = some (.string K)) (k2 : w.cell? ⟨b, o + 1, none⟩ = some (.int .i64 L)) (k3 : w.cell? ⟨b, o + 2, none⟩ = some (.int .i64 V)) :
    Calls Try.prog 76 #[.slice (some ⟨b, o, none⟩) (M + 1) cap, .int .i64 i, .int .i64 t] w fun e w' => e = .returned (.int .i64 (P)) ∧ w.Since w.heap.size w' := by
  obtain ⟨d1, d2, d3⟩ := chip_box w K L V 35
  have HS := Lib.hid ((World.Since.refl w.heap.size w).alloc (Nat.le_refl _) (.cells #[.string K, .int .i64 L, .int .i64 V] 35))
  replace IHP := Lib.hid IHP
  replace EF := Lib.hid EF
  rcases Nat.lt_or_eq_of_le (show 1 ≤ cap by omega) with hc1 | rfl
  · have hb1 : (0 : Int) ≤ (M : Int) := by omega
    have hb2 : (1 : Int) ≤ (M : Int) + 1 := by omega
    have hb3 : (M : Int) + 1 ≤ (cap : Int) := by omega
    have hc2 : ¬ cap = 1 := by omega
    have hc3 : ¬ 1 = cap := by omega
    go_enter Try.func76, Try.ntmps76
    go_wp2_with (first
      | (go_at_call 117; refine (EF.out _).mono ?_; rintro e w1 ⟨rfl, hs1⟩; have HS1 := Lib.hid (HS.out.trans (since_mono hs1 HS.out.size)); clear hs1)
      | (go_at_call 76; refine (IHP.out _ _ _ HS1.out (by first | exact .inr trivial | exact .inr rfl | exact .inl rfl) (by omega) (by omega)).mono ?_; rintro e w2 ⟨rfl, hs2⟩; have HS2 := Lib.hid (HS1.out.trans (since_mono hs2 HS1.out.size)); clear hs2))
    all_goals
      go_ret
      exact ⟨rfl, HS2.out⟩
  · obtain rfl : M = 0 := by omega
    clear hM hcap hc63
    go_enter Try.func76, Try.ntmps76
    go_wp2_with (first
      | (go_at_call 117; refine (EF.out _).mono ?_; rintro e w1 ⟨rfl, hs1⟩; have HS1 := Lib.hid (HS.out.trans (since_mono hs1 HS.out.size)); clear hs1)
      | (go_at_call 76; refine (IHP.out _ _ _ HS1.out (by first | exact .inr trivial | exact .inr rfl | exact .inl rfl) (by omega) (by omega)).mono ?_; rintro e w2 ⟨rfl, hs2⟩; have HS2 := Lib.hid (HS1.out.trans (since_mono hs2 HS1.out.size)); clear hs2))
    all_goals
      go_ret
      exact ⟨rfl, HS2.out⟩

set_option maxRecDepth 100000 in
set_option maxHeartbeats 400000 in
theorem paths_o (K : ByteArray) (V : Int) (M cap t b o F L T i : Nat) (w : World) (P R : Int) (hH : (K.toList == [104]) = false) (hiF : F = i) (hw2 : IntKind.i64.wrap (V * R) = V * R) (hw3 : IntKind.i64.wrap (P + V * R) = P + V * R) (EF : ∀ W : World, Calls Try.prog 117 #[.agg #[.string K, .int .i64 L, .int .i64 V]] W fun e w' => e = .returned (.tuple #[.int .i64 F, .int .i64 T]) ∧ W.Since W.heap.size w') (IHP : ∀ (W : World) (q c' : Nat), w.Since w.heap.size W → (q = o + 3 ∨ cap = 1) → M ≤ c' → c' ≤ cap → Calls Try.prog 76 #[.slice (some ⟨b, q, none⟩) M c', .int .i64 i, .int .i64 t] W fun e w' => e = .returned (.int .i64 P) ∧ W.Since W.heap.size w')
    (IHR : ∀ (W : World) (q c' : Nat), w.Since w.heap.size W → (q = o + 3 ∨ cap = 1) → M ≤ c' → c' ≤ cap → Calls Try.prog 76 #[.slice (some ⟨b, q, none⟩) M c', .int .i64 T, .int .i64 t] W fun e w' => e = .returned (.int .i64 R) ∧ W.Since W.heap.size w') (hM : M + 1 ≤ 10) (hcap : M + 1 ≤ cap) (hc63 : cap ≤ 9223372036854775807)
    (k1 : w.cell? ⟨b, o, none⟩ = some (.string K)) (k2 : w.cell? ⟨b, o + 1, none⟩ = some (.int .i64 L)) (k3 : w.cell? ⟨b, o + 2, none⟩ = some (.int .i64 V)) :
    Calls Try.prog 76 #[.slice (some ⟨b, o, none⟩) (M + 1) cap, .int .i64 i, .int .i64 t] w fun e w' => e = .returned (.int .i64 (P + V * R)) ∧ w.Since w.heap.size w' := by
  obtain ⟨d1, d2, d3⟩ := chip_box w K L V 35
  have HS := Lib.hid ((World.Since.refl w.heap.size w).alloc (Nat.le_refl _) (.cells #[.string K, .int .i64 L, .int .i64 V] 35))
  subst hiF
  replace IHP := Lib.hid IHP
  replace IHR := Lib.hid IHR
  replace EF := Lib.hid EF
  rcases Nat.lt_or_eq_of_le (show 1 ≤ cap by omega) with hc1 | rfl
  · have hb1 : (0 : Int) ≤ (M : Int) := by omega
    have hb2 : (1 : Int) ≤ (M : Int) + 1 := by omega
    have hb3 : (M : Int) + 1 ≤ (cap : Int) := by omega
    have hc2 : ¬ cap = 1 := by omega
    have hc3 : ¬ 1 = cap := by omega
    go_enter Try.func76, Try.ntmps76
    go_wp2_with (first
      | (go_at_call 117; refine (EF.out _).mono ?_; rintro e w1 ⟨rfl, hs1⟩; have c4 := (hs1.cell (a := ⟨w.heap.size, 2, none⟩) (by simp)).trans d3; have HS1 := Lib.hid (HS.out.trans (since_mono hs1 HS.out.size)); clear hs1)
      | (go_at_call 76; refine (IHP.out _ _ _ HS1.out (by first | exact .inr trivial | exact .inr rfl | exact .inl rfl) (by omega) (by omega)).mono ?_; rintro e w2 ⟨rfl, hs2⟩; have c5 := (hs2.cell (a := ⟨w.heap.size, 2, none⟩) (World.block_lt_of_cell? _ _ c4)).trans c4; have HS2 := Lib.hid (HS1.out.trans (since_mono hs2 HS1.out.size)); clear hs2 c4))
    all_goals
      go_region_held3 (fun w' => w'.cell? ⟨w.heap.size, 2, none⟩ = some (.int .i64 V)) (first | exact c5 | exact c6)
        (first | (go_at_call 76; refine (IHR.out _ _ _ HS2.out.drew (by first | exact .inr trivial | exact .inr rfl | exact .inl rfl) (by omega) (by omega)).mono ?_; rintro e w3 ⟨rfl, hs3⟩; have c6 := (hs3.cell (a := ⟨w.heap.size, 2, none⟩) (World.block_lt_of_cell? w2 _ c5)).trans c5; have HS3 := Lib.hid hs3; clear hs3))
    all_goals
      go_wp2_with fail
      go_ret
      exact ⟨rfl, HS2.out.trans (since_mono (since_of_drew HS3.out) HS2.out.size)⟩
  · obtain rfl : M = 0 := by omega
    clear hM hcap hc63
    go_enter Try.func76, Try.ntmps76
    go_wp2_with (first
      | (go_at_call 117; refine (EF.out _).mono ?_; rintro e w1 ⟨rfl, hs1⟩; have c4 := (hs1.cell (a := ⟨w.heap.size, 2, none⟩) (by simp)).trans d3; have HS1 := Lib.hid (HS.out.trans (since_mono hs1 HS.out.size)); clear hs1)
      | (go_at_call 76; refine (IHP.out _ _ _ HS1.out (by first | exact .inr trivial | exact .inr rfl | exact .inl rfl) (by omega) (by omega)).mono ?_; rintro e w2 ⟨rfl, hs2⟩; have c5 := (hs2.cell (a := ⟨w.heap.size, 2, none⟩) (World.block_lt_of_cell? _ _ c4)).trans c4; have HS2 := Lib.hid (HS1.out.trans (since_mono hs2 HS1.out.size)); clear hs2 c4))
    all_goals
      go_region_held3 (fun w' => w'.cell? ⟨w.heap.size, 2, none⟩ = some (.int .i64 V)) (first | exact c5 | exact c6)
        (first | (go_at_call 76; refine (IHR.out _ _ _ HS2.out.drew (by first | exact .inr trivial | exact .inr rfl | exact .inl rfl) (by omega) (by omega)).mono ?_; rintro e w3 ⟨rfl, hs3⟩; have c6 := (hs3.cell (a := ⟨w.heap.size, 2, none⟩) (World.block_lt_of_cell? w2 _ c5)).trans c5; have HS3 := Lib.hid hs3; clear hs3))
    all_goals
      go_wp2_with fail
      go_ret
      exact ⟨rfl, HS2.out.trans (since_mono (since_of_drew HS3.out) HS2.out.size)⟩

set_option maxRecDepth 100000 in
set_option maxHeartbeats 400000 in
theorem l6cPaths_any : ∀ (cs : List RC) (a : Option Addr) (N cap : Nat) (i t : Nat) (w : World), cs.length = N → N ≤ 10 → N ≤ cap → cap ≤ 9223372036854775807 → (∀ c ∈ cs, RCok c) → i ≤ 11 → ChipsR w a cs →
    Calls Try.prog 76 #[.slice a N cap, .int .i64 i, .int .i64 t] w fun e w' => e = .returned (.int .i64 (pathN (cs.map toC) i t)) ∧ w.Since w.heap.size w'
  | [], a, N, cap, i, t, w, hN, _, _, _, _, _, _ => by
    obtain rfl : N = 0 := hN.symm
    clear hN
    by_cases e : i = t
    · subst e
      have hp : pathN (([] : List RC).map toC) i i = 1 := by show (if i = i then (1 : Int) else 0) = 1; rw [if_pos rfl]
      rw [hp]
      go_enter Try.func76, Try.ntmps76
      go_wp2_with fail
      go_ret
      exact ⟨rfl, World.Since.refl _ _⟩
    · have hp : pathN (([] : List RC).map toC) i t = 0 := by show (if i = t then (1 : Int) else 0) = 0; rw [if_neg e]
      rw [hp]
      have he : (i == t) = false := by simp; omega
      have he2 : ((i : Int) == (t : Int)) = false := by simp; omega
      go_enter Try.func76, Try.ntmps76
      go_wp2_with fail
      go_ret
      exact ⟨rfl, World.Since.refl _ _⟩
  | ⟨K, l, V⟩ :: cs, a, N, cap, i, t, w, hN, h10, hcap, hc63, hok, hi, hm => by
    obtain ⟨b, o, rfl, ⟨k1, k2, k3⟩, ht⟩ := hm.split
    have hc1 := hok ⟨K, l, V⟩ (by simp)
    obtain ⟨M, rfl⟩ : ∃ M, N = M + 1 := ⟨cs.length, by simpa using hN.symm⟩
    have hM : cs.length = M := by simpa using hN
    have IH := fun (j : Nat) (hj : j ≤ 11) (W : World) (q c' : Nat) (hs : w.Since w.heap.size W) (hq : q = o + 3 ∨ cap = 1) (h1 : M ≤ c') (h2 : c' ≤ cap) => l6cPaths_any cs (some ⟨b, q, none⟩) M c' j t W hM (by omega) h1 (by omega) (fun c hc => hok c (by simp [hc])) hj (ht W q cap hs (by omega) hq)
    have hbd := fun (j : Nat) => path_bd (cs.map toC) (fun d hd => by
      rw [List.mem_map] at hd
      obtain ⟨e, he, rfl⟩ := hd
      exact (hok e (by simp [he])).2.2) j t
    have hp10 : p10 (cs.map toC).length ≤ 10000000000 := p10_le (by rw [List.length_map]; omega)
    rw [List.map_cons]
    obtain ⟨hk, hl, hv⟩ := hc1
    simp only at hk hl hv k1 k2 k3
    obtain ⟨L, rfl⟩ : ∃ L : Nat, l = L := ⟨l.toNat, by omega⟩
    have hPb : -10000000000 ≤ pathN (cs.map toC) i t ∧ pathN (cs.map toC) i t ≤ 10000000000 := by have := hbd i; omega
    obtain ⟨hw1, hb1, hb2⟩ := wrap_mul9 hv hPb
    by_cases hH : K.toList = [104]
    · rw [toC_h hH]
      by_cases e2 : i = L
      · subst e2
        have hpc : pathN ((2, i, V) :: cs.map toC) i t = V * pathN (cs.map toC) i t := by
          show (if 2 = 2 then (if i = i then _ else _) else _) = _
          rw [if_pos rfl, if_pos rfl]
        rw [hpc]
        exact paths_h K V M cap t b o i w _ hH hw1 (IH i hi) h10 hcap hc63 k1 k2 k3
      · have hpc : pathN ((2, L, V) :: cs.map toC) i t = pathN (cs.map toC) i t := by
          show (if 2 = 2 then (if i = L then _ else _) else _) = _
          rw [if_pos rfl, if_neg e2]
        rw [hpc]
        exact paths_g K V M cap t b o L i w _ hH (by simp; omega) (IH i hi) h10 hcap hc63 k1 k2 k3
    · have hHb : (K.toList == [104]) = false := by simpa using hH
      have EF := fun (W : World) => l6cFrom_any K L V W (by omega)
      obtain ⟨k, hk1, hk2, hft⟩ := toC_n (L := L) (V := V) hH hk
      rw [hk2]
      rw [hft] at EF
      have hcf : cFrom (k, L, V) ≤ 11 ∧ cTo (k, L, V) ≤ 11 := by unfold cFrom cTo; simp only; constructor <;> split <;> omega
      have hpc : pathN ((k, L, V) :: cs.map toC) i t = pathN (cs.map toC) i t + (if i = cFrom (k, L, V) then V * pathN (cs.map toC) (cTo (k, L, V)) t else 0) := by
        show (if k = 2 then _ else _) = _
        rw [if_neg (by omega)]
      rw [hpc]
      by_cases e2 : i = cFrom (k, L, V)
      · rw [if_pos e2]
        have hRb : -10000000000 ≤ pathN (cs.map toC) (cTo (k, L, V)) t ∧ pathN (cs.map toC) (cTo (k, L, V)) t ≤ 10000000000 := by have := hbd (cTo (k, L, V)); omega
        obtain ⟨hw2, hb3, hb4⟩ := wrap_mul9 hv hRb
        exact paths_o K V M cap t b o _ L _ i w _ _ hHb e2.symm hw2 (IntWalk.i64_in _ ⟨by omega, by omega⟩) EF (IH i hi) (IH _ hcf.2) h10 hcap hc63 k1 k2 k3
      · rw [if_neg e2, Int.add_zero]
        exact paths_n K V M cap t b o _ L _ i w _ hHb (by simp; omega) EF (IH i hi) h10 hcap hc63 k1 k2 k3

end Go.Proofs.Ytggmiojhglkcgaa
end

section
namespace Go.Proofs.Ytggmiojhglkcgaa
open Go.RowKit Go.Deep

theorem infoChip : (Try.prog.info? 35).map (fun i => (i.size, i.bytes)) = some (3, 32) := by kernel_rfl
theorem zeroChip : ((Try.prog.info? 35).bind (·.zero)) = some (.agg #[.string ⟨#[]⟩, .int .i64 0, .int .i64 0]) := by kernel_rfl
theorem infoChip_parts : ∃ i, Try.prog.info? 35 = some i ∧ i.zero = some (.agg #[.string ⟨#[]⟩, .int .i64 0, .int .i64 0]) ∧ i.size = 3 ∧ i.bytes = 32 := by
  have h := infoChip
  have hz := zeroChip
  cases e : Try.prog.info? 35 with
  | none => rw [e] at h; cases h
  | some i =>
    rw [e] at h hz
    simp only [Option.map_some, Option.some.injEq, Prod.mk.injEq] at h
    exact ⟨i, rfl, hz, h.1, h.2⟩

def ch3 (cs : List RC) : List Value := cs.flatMap fun c => [.string c.k, .int .i64 c.l, .int .i64 c.w]
theorem ch3_length : ∀ cs, (ch3 cs).length = cs.length * 3
  | [] => rfl
  | c :: cs => by
    have := ch3_length cs
    unfold ch3 at this ⊢
    rw [List.flatMap_cons, List.length_append, this, List.length_cons]
    simp only [List.length_cons, List.length_nil]
    omega
theorem ch3_app (xs ys : List RC) : ch3 (xs ++ ys) = ch3 xs ++ ch3 ys := by simp [ch3]
theorem ch3_snoc (cs : List RC) (c : RC) : ch3 (cs ++ [c]) = ch3 cs ++ [.string c.k, .int .i64 c.l, .int .i64 c.w] := by simp [ch3]
theorem ch3_get : ∀ (cs : List RC) (i : Nat), i < cs.length → (ch3 cs)[i * 3]? = some (.string (cs.getD i rc0).k) ∧ (ch3 cs)[i * 3 + 1]? = some (.int .i64 (cs.getD i rc0).l) ∧ (ch3 cs)[i * 3 + 2]? = some (.int .i64 (cs.getD i rc0).w)
  | [], i, h => by simp at h
  | c :: cs, 0, _ => ⟨rfl, rfl, rfl⟩
  | c :: cs, i + 1, h => by
    have := ch3_get cs i (by simp at h; omega)
    rw [show (i + 1) * 3 = i * 3 + 3 by omega]
    exact this
theorem ch3_one (cs : List RC) : ∀ u ∈ ch3 cs, u.oneCell' = true := fun u hu => by
  obtain ⟨c, _, hc⟩ := List.mem_flatMap.1 hu
  simp at hc
  rcases hc with rfl | rfl | rfl <;> rfl

def InC (lo hi : Nat) (w : World) (a : Option Addr) (cs : List RC) : Prop :=
  0 < cs.length → ∃ g o : Nat, a = some ⟨g, o, none⟩ ∧ (lo ≤ g ∧ g < hi) ∧ ∀ i, i < cs.length → w.cell? ⟨g, o + i * 3, none⟩ = some (.string (cs.getD i rc0).k) ∧ w.cell? ⟨g, o + i * 3 + 1, none⟩ = some (.int .i64 (cs.getD i rc0).l) ∧ w.cell? ⟨g, o + i * 3 + 2, none⟩ = some (.int .i64 (cs.getD i rc0).w)
def OwnC (lo hi : Nat) (w : World) (a : Option Addr) (cs : List RC) : Prop :=
  0 < cs.length → ∃ g : Nat, a = some ⟨g, 0, none⟩ ∧ (lo ≤ g ∧ g < hi) ∧ ∀ i, i < cs.length → (w.cell? ⟨g, i * 3, none⟩ = some (.string (cs.getD i rc0).k) ∧ w.cell? ⟨g, i * 3 + 1, none⟩ = some (.int .i64 (cs.getD i rc0).l) ∧ w.cell? ⟨g, i * 3 + 2, none⟩ = some (.int .i64 (cs.getD i rc0).w)) ∧
    (w.frozen? ⟨g, i * 3, none⟩ = false ∧ w.frozen? ⟨g, i * 3 + 1, none⟩ = false ∧ w.frozen? ⟨g, i * 3 + 2, none⟩ = false)
theorem OwnC.inC {lo hi : Nat} {w : World} {a : Option Addr} {x : List RC} (h : OwnC lo hi w a x) : InC lo hi w a x := fun h0 => by
  obtain ⟨g, e, hg, hc⟩ := h h0
  exact ⟨g, 0, e, hg, fun i hi => by rw [Nat.zero_add]; exact (hc i hi).1⟩
theorem InC.chips {lo hi : Nat} {w : World} {a : Option Addr} {x : List RC} (h : InC lo hi w a x) : ChipsR w a x := fun h0 => by
  obtain ⟨g, o, e, _, hc⟩ := h h0
  exact ⟨g, o, e, hc⟩
theorem OwnC.chips {lo hi : Nat} {w : World} {a : Option Addr} {x : List RC} (h : OwnC lo hi w a x) : ChipsR w a x := h.inC.chips
theorem InC.nil (lo hi : Nat) (w : World) (a : Option Addr) : InC lo hi w a [] := fun h => by simp at h
theorem OwnC.nil (lo hi : Nat) (w : World) (a : Option Addr) : OwnC lo hi w a [] := fun h => by simp at h
theorem InC.mono {lo hi lo' hi' : Nat} {w : World} {a : Option Addr} {x : List RC} (h : InC lo hi w a x) (h1 : lo' ≤ lo) (h2 : hi ≤ hi') : InC lo' hi' w a x := fun h0 => by
  obtain ⟨g, o, e, hg, hc⟩ := h h0
  exact ⟨g, o, e, by omega, hc⟩
theorem OwnC.mono {lo hi lo' hi' : Nat} {w : World} {a : Option Addr} {x : List RC} (h : OwnC lo hi w a x) (h1 : lo' ≤ lo) (h2 : hi ≤ hi') : OwnC lo' hi' w a x := fun h0 => by
  obtain ⟨g, e, hg, hc⟩ := h h0
  exact ⟨g, e, by omega, hc⟩
theorem InC.frame {lo hi lo' hi' : Nat} {w w' : World} {a : Option Addr} {x : List RC} (h : InC lo hi w a x) (hf : Frame lo' hi' w w') (hd : hi ≤ lo' ∨ hi' ≤ lo) : InC lo hi w' a x := fun h0 => by
  obtain ⟨g, o, e, hg, hc⟩ := h h0
  exact ⟨g, o, e, hg, fun i hi1 => ⟨hf.cell (hc i hi1).1 (by show g < lo' ∨ hi' ≤ g; omega), hf.cell (hc i hi1).2.1 (by show g < lo' ∨ hi' ≤ g; omega), hf.cell (hc i hi1).2.2 (by show g < lo' ∨ hi' ≤ g; omega)⟩⟩
theorem OwnC.frame {lo hi lo' hi' : Nat} {w w' : World} {a : Option Addr} {x : List RC} (h : OwnC lo hi w a x) (hf : Frame lo' hi' w w') (hd : hi ≤ lo' ∨ hi' ≤ lo) : OwnC lo hi w' a x := fun h0 => by
  obtain ⟨g, e, hg, hc⟩ := h h0
  refine ⟨g, e, hg, fun i hi1 => ?_⟩
  obtain ⟨⟨c1, c2, c3⟩, f1, f2, f3⟩ := hc i hi1
  exact ⟨⟨hf.cell c1 (by show g < lo' ∨ hi' ≤ g; omega), hf.cell c2 (by show g < lo' ∨ hi' ≤ g; omega), hf.cell c3 (by show g < lo' ∨ hi' ≤ g; omega)⟩,
    (hf.frozen c1 (by show g < lo' ∨ hi' ≤ g; omega)).trans f1, (hf.frozen c2 (by show g < lo' ∨ hi' ≤ g; omega)).trans f2, (hf.frozen c3 (by show g < lo' ∨ hi' ≤ g; omega)).trans f3⟩
theorem InC.since {lo hi : Nat} {w w' : World} {a : Option Addr} {x : List RC} (h : InC lo hi w a x) (hs : w.Since w.heap.size w') : InC lo hi w' a x := h.frame (frame_since hs hi hi) (.inl (Nat.le_refl _))
theorem OwnC.since {lo hi : Nat} {w w' : World} {a : Option Addr} {x : List RC} (h : OwnC lo hi w a x) (hs : w.Since w.heap.size w') : OwnC lo hi w' a x := h.frame (frame_since hs hi hi) (.inl (Nat.le_refl _))

structure CB (w wr : World) (v : Value) (cs : List RC) : Prop where
  since : w.Since w.heap.size wr
  own : wr.ownsRow w.heap.size 35 3 v cs.length (ch3 cs)
theorem cb_none (w : World) : CB w w (.slice none 0 0) [] := ⟨World.Since.refl _ _, World.ownsRow_nil _ _ _ _⟩
theorem cb_start (w : World) (cs : Array Value) (hc : cs.size = 0) : CB w (w.alloc (.cells cs 35)) (.slice (some ⟨w.heap.size, 0, none⟩) 0 0) [] :=
  ⟨(World.Since.refl _ _).alloc (Nat.le_refl _) _, World.ownsRow_made w cs 0 (Nat.le_refl _) (Nat.zero_le _) (by simpa using hc)⟩
theorem CB.ownC {w wr : World} {v : Value} {cs : List RC} (h : CB w wr v cs) : ∃ a cap, v = .slice a cs.length cap ∧ OwnC w.heap.size wr.heap.size wr a cs ∧ cs.length ≤ cap ∧ cap ≤ 9223372036854775807 := by
  have hm : maxLen = 9223372036854775807 := rfl
  rcases h.own.2 with ⟨hv, h0⟩ | ⟨g, cap, cur, rfl, hb, hg, hn, hmx, hs, ht⟩
  · have : cs = [] := List.length_eq_zero_iff.1 h0
    subst this
    exact ⟨none, 0, hv, OwnC.nil _ _ _ _, Nat.le_refl _, by omega⟩
  · refine ⟨_, cap, rfl, fun _ => ⟨g, rfl, ⟨hb, (Array.getElem?_eq_some_iff.1 hg).1⟩, fun i hi => ?_⟩, hn, by omega⟩
    obtain ⟨e1, e2, e3⟩ := ch3_get cs i hi
    have hf : ∀ j, wr.frozen? ⟨g, j, none⟩ = false := fun j => by simp [World.frozen?, hg]
    exact ⟨⟨(World.ownsRow.cellAt h.own (i * 3) (by omega)).trans e1, (World.ownsRow.cellAt h.own (i * 3 + 1) (by omega)).trans e2, (World.ownsRow.cellAt h.own (i * 3 + 2) (by omega)).trans e3⟩, hf _, hf _, hf _⟩
theorem CB.later {w wr w1 : World} {v : Value} {cs : List RC} (h : CB w wr v cs) (hs : wr.Since wr.heap.size w1) : CB w w1 v cs :=
  ⟨h.since.trans (since_mono hs h.since.size), h.own.kept (row := none) ⟨hs.os, hs.tape, hs.output, hs.size, fun k hk _ => hs.block k hk⟩ (by
      cases hv : v.ownBlock with
      | none => exact .inl rfl
      | some k => exact .inr (by simp))⟩
theorem CB.push {w wr w1 W : World} {v v' : Value} {cs ds : List RC} {n : Nat} (h : CB w wr v cs) (hn : n = cs.length + ds.length) (hs : wr.Since wr.heap.size W) (hown : w1.ownsRow w.heap.size 35 3 v' n (ch3 cs ++ ch3 ds)) (hg : W.grownBy w1 v.ownBlock) :
    CB w w1 v' (cs ++ ds) := by
  have hB : w.heap.size ≤ wr.heap.size := h.since.size
  have hBW := hs.size
  subst hn
  refine ⟨(h.since.trans (since_mono hs hB)).grown hg (by omega) (fun k e => (h.own.lt k e).1), ?_⟩
  rw [ch3_app, List.length_append]
  exact hown

theorem news3 (w : World) (c : RC) (T : TypeId) : ∀ j u, (ch3 [c])[j]? = some u → (w.alloc (.cells #[.string c.k, .int .i64 c.l, .int .i64 c.w] T)).cell? ((⟨w.heap.size, 0, none⟩ : Addr).add j) = some u :=
  World.news_of_block (World.alloc_heap_new w (.cells #[.string c.k, .int .i64 c.l, .int .i64 c.w] T))

end Go.Proofs.Ytggmiojhglkcgaa
end

section
namespace Go.Proofs.Ytggmiojhglkcgaa
open Go.RowKit Go.Deep

theorem World.grownBy_refl (w : World) (row : Option Nat) : w.grownBy w row := ⟨rfl, rfl, rfl, Nat.le_refl _, fun _ _ _ => rfl⟩
theorem grown_trans {a b c : World} {row : Option Nat} (h : a.grownBy b row) (k : b.grownBy c row) : a.grownBy c row :=
  ⟨k.os.trans h.os, k.tape.trans h.tape, k.output.trans h.output, Nat.le_trans h.size k.size, fun i hi hn => (k.block i (Nat.lt_of_lt_of_le hi h.size) hn).trans (h.block i hi hn)⟩
theorem grown_since {a b : World} (row : Option Nat) (h : a.Since a.heap.size b) : a.grownBy b row := ⟨h.os, h.tape, h.output, h.size, fun i hi _ => h.block i hi⟩
theorem grown_of {a b : World} {row row' : Option Nat} (h : a.grownBy b row) (hr : ∀ k, row = some k → a.heap.size ≤ k ∨ some k = row') : a.grownBy b row' :=
  ⟨h.os, h.tape, h.output, h.size, fun i hi hn => h.block i hi (fun e => by
    rcases hr i e.symm with h1 | h1
    · omega
    · exact hn h1)⟩
theorem since_grown {a b : World} {G B : Nat} (h : a.grownBy b (some G)) (hG : B ≤ G) (hB : B ≤ a.heap.size) : a.Since B b :=
  ⟨h.os, h.tape, h.output, h.size, fun i hi => h.block i (by omega) (fun e => by injection e with e; omega)⟩

def BytR (w : World) (a : Option Addr) (n : Nat) : Prop :=
  0 < n → ∃ b o, a = some ⟨b, o, none⟩ ∧ ∀ i, i < n → ∃ z : Nat, z ≤ 255 ∧ w.cell? ⟨b, o + i, none⟩ = some (.int .u8 z)
theorem BytR.since {w w' : World} {a : Option Addr} {n : Nat} (h : BytR w a n) (hs : w.Since w.heap.size w') : BytR w' a n := by
  intro h0
  obtain ⟨b, o, e, hc⟩ := h h0
  refine ⟨b, o, e, fun i hi => ?_⟩
  obtain ⟨z, h1, h2⟩ := hc i hi
  exact ⟨z, h1, (hs.cell (a := ⟨b, o + i, none⟩) (World.block_lt_of_cell? _ _ h2)).trans h2⟩

structure RD (w0 w : World) (G : Nat) (a : Option Addr) (n c : Nat) (tr : TypeId) (p : Nat) : Prop where
  blk : w.heap[G]? = some (.cells #[.slice a n c, .int .i64 p] tr (0, 0))
  base : w0.heap.size ≤ G
  since : w0.Since w0.heap.size w
  bytes : BytR w0 a n
  small : n ≤ 2000
theorem RD.lt {w0 w : World} {G : Nat} {a : Option Addr} {n c : Nat} {tr : TypeId} {p : Nat} (h : RD w0 w G a n c tr p) : G < w.heap.size := (Array.getElem?_eq_some_iff.1 h.blk).1
theorem RD.cell0 {w0 w : World} {G : Nat} {a : Option Addr} {n c : Nat} {tr : TypeId} {p : Nat} (h : RD w0 w G a n c tr p) : w.cell? ⟨G, 0, none⟩ = some (.slice a n c) := by simp [World.cell?, h.blk]
theorem RD.cell1 {w0 w : World} {G : Nat} {a : Option Addr} {n c : Nat} {tr : TypeId} {p : Nat} (h : RD w0 w G a n c tr p) : w.cell? ⟨G, 1, none⟩ = some (.int .i64 p) := by simp [World.cell?, h.blk]
theorem RD.free1 {w0 w : World} {G : Nat} {a : Option Addr} {n c : Nat} {tr : TypeId} {p : Nat} (h : RD w0 w G a n c tr p) : w.frozen? ⟨G, 1, none⟩ = false := by simp [World.frozen?, h.blk]
theorem RD.set {w0 w : World} {G : Nat} {a : Option Addr} {n c : Nat} {tr : TypeId} {p : Nat} (h : RD w0 w G a n c tr p) (q : Nat) : RD w0 (w.setCell ⟨G, 1, none⟩ (.int .i64 q)) G a n c tr q :=
  ⟨by simp [World.setCell, Array.getElem?_modify, h.blk], h.base, h.since.setCell h.base _, h.bytes, h.small⟩
theorem RD.later {w0 w w' : World} {G : Nat} {a : Option Addr} {n c : Nat} {tr : TypeId} {p : Nat} (h : RD w0 w G a n c tr p) (hs : w.Since w.heap.size w') : RD w0 w' G a n c tr p :=
  ⟨(hs.block G h.lt).trans h.blk, h.base, h.since.trans (since_mono hs h.since.size), h.bytes, h.small⟩
theorem RD.grown {w0 w w' : World} {G : Nat} {a : Option Addr} {n c : Nat} {tr : TypeId} {p : Nat} {row : Option Nat} (h : RD w0 w G a n c tr p) (hg : w.grownBy w' row) (hr : ∀ k, row = some k → G < k) : RD w0 w' G a n c tr p :=
  ⟨(hg.block G h.lt (fun e => by have := hr G e.symm; omega)).trans h.blk, h.base, h.since.grown hg h.since.size (fun k e => by have := hr k e; have := h.base; omega), h.bytes, h.small⟩

def RW (B : Nat) (w : World) (v : Value) (x : List Int) : Prop := w.ownsRow B 3 1 v x.length (x.map (Value.int .i64))
theorem RW.kept {B : Nat} {w w' : World} {v : Value} {x : List Int} {G : Nat} (h : RW B w v x) (hg : w.grownBy w' (some G)) (hG : G < B) : RW B w' v x :=
  World.ownsRow.kept h hg (by
    cases hv : v.ownBlock with
    | none => exact .inl rfl
    | some k => exact .inr (fun e => by injection e with e; have := (World.ownsRow.lt h k hv).1; omega))
theorem RW.base {B B' : Nat} {w : World} {v : Value} {x : List Int} (h : RW B w v x) (hB : B' ≤ B) : RW B' w v x := by
  refine ⟨h.1, ?_⟩
  rcases h.2 with h1 | ⟨g, cap, cur, e, hb, hr⟩
  · exact .inl h1
  · exact .inr ⟨g, cap, cur, e, by omega, hr⟩
theorem RW.form {B : Nat} {w : World} {v : Value} {x : List Int} (h : RW B w v x) (h0 : 0 < x.length) : ∃ g cap, v = .slice (some ⟨g, 0, none⟩) x.length cap ∧ B ≤ g ∧ RowB w g x := RowB.of_owns h h0
theorem RW.set {B : Nat} {w : World} {g cap k : Nat} {x : List Int} (h : RW B w (.slice (some ⟨g, 0, none⟩) x.length cap) x) (_hk : k < x.length) (y : Int) : RW B (w.setCell ⟨g, k, none⟩ (.int .i64 y)) (.slice (some ⟨g, 0, none⟩) x.length cap) (x.set k y) := by
  rcases h.2 with ⟨e, _⟩ | ⟨g', cap', cur, e, hb, hg, hn, hm, hs, ht⟩
  · cases e
  · injection e with e1 e2 e3
    injection e1 with e1
    injection e1 with e1
    subst e1; subst e3
    refine ⟨by simp, .inr ⟨g, cap, cur.setIfInBounds k (.int .i64 y), by rw [List.length_set], hb, ?_, by rw [List.length_set]; exact hn, hm, by simpa using hs, ?_⟩⟩
    · simp [World.setCell, Array.getElem?_modify, hg]
    · rw [List.length_set, Nat.mul_one]
      rw [Nat.mul_one] at ht
      rw [List.map_set, ← ht]
      simp [List.take_set]

structure BD (B : Nat) (w : World) (v : Value) (l : List (List Int)) (A : Nat → Option Addr) (C : Nat → Nat) : Prop where
  own : w.ownsRow B 37 1 v l.length ((List.range l.length).map fun r => .slice (A r) (l.getD r []).length (C r))
  rows : ∀ r, r < l.length → 0 < (l.getD r []).length ∧ RW B w (.slice (A r) (l.getD r []).length (C r)) (l.getD r [])
  apart : ∀ r r', r < l.length → r' < l.length → A r = A r' → r = r'
theorem BD.start (w : World) (A : Nat → Option Addr) (C : Nat → Nat) {B : Nat} (hB : B ≤ w.heap.size) : BD B (w.alloc (.cells #[] 37)) (.slice (some ⟨w.heap.size, 0, none⟩) 0 0) [] A C :=
  ⟨World.ownsRow_made w #[] 0 hB (Nat.zero_le _) rfl, fun r hr => by simp at hr, fun r _ hr => by simp at hr⟩
theorem BD.kept {B : Nat} {w w' : World} {v : Value} {l : List (List Int)} {A : Nat → Option Addr} {C : Nat → Nat} {G : Nat} (h : BD B w v l A C) (hg : w.grownBy w' (some G)) (hG : G < B) : BD B w' v l A C :=
  ⟨World.ownsRow.kept h.own hg (by
      cases hv : v.ownBlock with
      | none => exact .inl rfl
      | some k => exact .inr (fun e => by injection e with e; have := (h.own.lt k hv).1; omega)),
    fun r hr => ⟨(h.rows r hr).1, (h.rows r hr).2.kept hg hG⟩, h.apart⟩
theorem BD.later {B : Nat} {w w' : World} {v : Value} {l : List (List Int)} {A : Nat → Option Addr} {C : Nat → Nat} (h : BD B w v l A C) (hs : w.Since w.heap.size w') : BD B w' v l A C := by
  have hg : w.grownBy w' none := grown_since none hs
  refine ⟨World.ownsRow.kept h.own hg ?_, fun r hr => ⟨(h.rows r hr).1, World.ownsRow.kept (h.rows r hr).2 hg ?_⟩, h.apart⟩
  · cases hv : v.ownBlock <;> simp
  · cases hv : (Value.slice (A r) (l.getD r []).length (C r)).ownBlock <;> simp
theorem BD.row {B : Nat} {w : World} {v : Value} {l : List (List Int)} {A : Nat → Option Addr} {C : Nat → Nat} (h : BD B w v l A C) {r : Nat} (hr : r < l.length) : ∃ g, A r = some ⟨g, 0, none⟩ ∧ B ≤ g ∧ RowB w g (l.getD r []) := by
  obtain ⟨g, cap, e, hb, hw⟩ := (h.rows r hr).2.form (h.rows r hr).1
  injection e with e _ _
  exact ⟨g, e, hb, hw⟩
theorem BD.top {B : Nat} {w : World} {v : Value} {l : List (List Int)} {A : Nat → Option Addr} {C : Nat → Nat} (h : BD B w v l A C) (h0 : 0 < l.length) : ∃ b cap cur, v = .slice (some ⟨b, 0, none⟩) l.length cap ∧ B ≤ b ∧ w.heap[b]? = some (.cells cur 37 (0, 0)) ∧ ∀ r, r < l.length → cur[r]? = some (.slice (A r) (l.getD r []).length (C r)) := by
  rcases h.own.2 with ⟨_, hn⟩ | ⟨g, cap, cur, e, hb, hg, hn, _, hs, ht⟩
  · omega
  · refine ⟨g, cap, cur, e, hb, hg, fun r hr => ?_⟩
    have h1 : (cur.toList.take (l.length * 1))[r]? = some (.slice (A r) (l.getD r []).length (C r)) := by rw [ht]; simp [hr]
    rw [List.getElem?_take] at h1
    have h2 : r < l.length ∧ cur[r]? = some (.slice (A r) (l.getD r []).length (C r)) := by simpa using h1
    exact h2.2
theorem BD.push {B : Nat} {w w1 : World} {v v' : Value} {l : List (List Int)} {A : Nat → Option Addr} {C : Nat → Nat} {x : List Int} {a : Option Addr} {cp : Nat} (h : BD B w v l A C) (h0 : 0 < x.length) (hx : RW B w (.slice a x.length cp) x)
    (hfresh : ∀ r, r < l.length → A r ≠ a)
    (hown : w1.ownsRow B 37 1 v' (l.length + 1) (((List.range l.length).map fun r => .slice (A r) (l.getD r []).length (C r)) ++ [.slice a x.length cp])) (hg : (w.alloc (.cells #[.slice a x.length cp] 37)).grownBy w1 v.ownBlock) :
    BD B w1 v' (l ++ [x]) (fun r => if r = l.length then a else A r) (fun r => if r = l.length then cp else C r) := by
  have hkeep : ∀ (u : Value) (y : List Int), 0 < y.length → RW B w u y → RW B w1 u y := by
    intro u y hy hu
    refine World.ownsRow.kept (World.ownsRow.alloc hu _) hg ?_
    obtain ⟨g, cap, e, _, cs, hc, _⟩ := hu.form hy
    subst e
    refine .inr fun e => ?_
    rcases h.own.2 with ⟨rfl, _⟩ | ⟨g', cap', cur, rfl, _, hgg, _⟩
    · cases e
    · injection e with e
      have e : g = g' := e
      rw [← e, hc] at hgg
      injection hgg with hgg
      injection hgg with _ e2 _
      exact absurd e2 (by decide)
  have e4 : ∀ q, q < l.length → (l ++ [x]).getD q [] = l.getD q [] := fun q hq => by simp [List.getD, List.getElem?_append_left hq]
  have e5 : (l ++ [x]).getD l.length [] = x := by simp [List.getD]
  have e6 : (l ++ [x]).length = l.length + 1 := by simp
  refine ⟨?_, fun r hr => ?_, fun r r' hr hr' e => ?_⟩
  · rw [e6, List.range_succ, List.map_append]
    have e2 : (List.range l.length).map (fun r => Value.slice (if r = l.length then a else A r) ((l ++ [x]).getD r []).length (if r = l.length then cp else C r)) = (List.range l.length).map fun r => .slice (A r) (l.getD r []).length (C r) := by
      refine List.map_congr_left fun r hr => ?_
      have hr' := List.mem_range.1 hr
      rw [if_neg (by omega), if_neg (by omega), e4 r hr']
    rw [e2]
    simpa [e5] using hown
  · by_cases e : r = l.length
    · subst e
      rw [e5, if_pos rfl, if_pos rfl]
      exact ⟨h0, hkeep _ _ h0 hx⟩
    · rw [e6] at hr
      rw [e4 r (by omega), if_neg e, if_neg e]
      exact ⟨(h.rows r (by omega)).1, hkeep _ _ (h.rows r (by omega)).1 (h.rows r (by omega)).2⟩
  · rw [e6] at hr hr'
    by_cases e1 : r = l.length <;> by_cases e2 : r' = l.length
    · omega
    · rw [if_pos e1, if_neg e2] at e
      exact absurd e.symm (hfresh r' (by omega))
    · rw [if_neg e1, if_pos e2] at e
      exact absurd e (hfresh r (by omega))
    · rw [if_neg e1, if_neg e2] at e
      exact h.apart r r' (by omega) (by omega) e
theorem BD.fresh {B : Nat} {w : World} {v : Value} {l : List (List Int)} {A : Nat → Option Addr} {C : Nat → Nat} (h : BD B w v l A C) {a : Option Addr} {g : Nat} (ha : a = some ⟨g, 0, none⟩) (hg : w.heap.size ≤ g) : ∀ r, r < l.length → A r ≠ a := by
  intro r hr e
  obtain ⟨g', e', _, hw⟩ := h.row hr
  have := hw.lt
  rw [e', ha] at e
  injection e with e; injection e with e
  omega
theorem BD.matR {B : Nat} {w : World} {v : Value} {l : List (List Int)} {A : Nat → Option Addr} {C : Nat → Nat} (h : BD B w v l A C) : ∃ a cap, v = .slice a l.length cap ∧ MatR w a l := by
  by_cases h0 : 0 < l.length
  · obtain ⟨b, cap, cur, e, _, hg, hc⟩ := h.top h0
    refine ⟨_, cap, e, fun _ => ⟨b, 0, A, C, rfl, fun r hr => ⟨?_, fun h1 => ?_⟩⟩⟩
    · rw [Nat.zero_add]; simp [World.cell?, hg, hc r hr]
    · obtain ⟨g, e, _, hw⟩ := h.row hr
      exact ⟨g, 0, e, fun i hi => by rw [Nat.zero_add]; exact hw.cell hi⟩
  · rcases h.own.2 with ⟨hv, hn⟩ | ⟨g, cap, cur, e, _⟩
    · exact ⟨none, 0, by rw [hv, hn], fun h => absurd h h0⟩
    · exact ⟨_, cap, e, fun h => absurd h h0⟩

end Go.Proofs.Ytggmiojhglkcgaa
end

section
namespace Go.Proofs.Ytggmiojhglkcgaa
open Go.RowKit Go.Deep

theorem grown_drewN {a b : World} {row : Option Nat} (h : a.grownBy b row) (q : Nat) : a.grownBy (b.drewN q) row := ⟨h.os, h.tape, h.output, h.size, h.block⟩
theorem xor_i64_nat (a b : Nat) (ha : a < 2 ^ 62) (hb : b < 2 ^ 62) : bits .xor .i64 (a : Int) (b : Int) = ((a ^^^ b : Nat) : Int) := by
  have hx : a ^^^ b < 2 ^ 62 := Nat.xor_lt_two_pow ha hb
  have h1 : (BitVec.ofInt 64 (a : Int)).toNat = a := by
    rw [BitVec.ofInt_natCast, BitVec.toNat_ofNat]; exact Nat.mod_eq_of_lt (by omega)
  have h2 : (BitVec.ofInt 64 (b : Int)).toNat = b := by
    rw [BitVec.ofInt_natCast, BitVec.toNat_ofNat]; exact Nat.mod_eq_of_lt (by omega)
  show IntKind.i64.wrap ((BitVec.ofInt 64 (a : Int) ^^^ BitVec.ofInt 64 (b : Int)).toNat : Int) = _
  rw [BitVec.toNat_xor, h1, h2]
  exact IntWalk.i64_in _ ⟨by omega, by omega⟩

set_option maxRecDepth 100000 in
set_option maxHeartbeats 2000000 in
theorem pick_any (w0 w : World) (G n c p : Nat) (a : Option Addr) (m : Int) (h : RD w0 w G a n c 116 p) (hp : p ≤ 100000) :
    Calls Try.prog 83 #[.pointer (some ⟨G, 0, none⟩), .int .i64 m] w fun e w' => ∃ x : Nat, e = .returned (.int .i64 x) ∧ ((x : Int) < m ∨ x = 0) ∧ w.grownBy w' (some G) ∧ RD w0 w' G a n c 116 (p + 1) := by
  have e0 := h.cell0
  have e1 := h.cell1
  have e2 := h.free1
  have hs := h.set (p + 1)
  have hwp : IntKind.i64.wrap ((p : Int) + 1) = (p : Int) + 1 := IntWalk.i64_in _ ⟨by omega, by omega⟩
  have hc : ((p + 1 : Nat) : Int) = (p : Int) + 1 := by omega
  have hgr : w.grownBy (w.setCell ⟨G, 1, none⟩ (.int .i64 (p + 1 : Nat))) (some G) := ⟨rfl, rfl, rfl, by simp, fun k _ hk => Below.heap_setCell _ _ _ _ (fun e => hk (by rw [e]))⟩
  rw [hc] at hs hgr
  have s0 := hs.cell0
  have s1 := hs.cell1
  rw [hc] at s1
  have hsm := hs.small
  have hbb := hs.bytes.since hs.since
  have HS := Lib.hid hs
  have HG := Lib.hid hgr
  have HB := Lib.hid hbb
  clear hs hgr h hbb hc
  by_cases hm : m < 1
  · go_enter Try.func83, Try.ntmps83
    go_wp2
    go_wp2
    go_ret
    exact ⟨0, rfl, .inr rfl, HG.out, HS.out⟩
  · obtain ⟨M, rfl⟩ := Int.eq_ofNat_of_zero_le (show 0 ≤ m by omega)
    have hM1 : 1 ≤ M := by omega
    have hd : decide ((M : Int) < 1) = false := by simp; omega
    by_cases hn : n = 0
    · subst hn
      go_enter Try.func83, Try.ntmps83
      go_wp2
      go_wp2
      go_ret
      exact ⟨0, rfl, .inr rfl, HG.out, HS.out⟩
    · have hn1 : 1 ≤ n := by omega
      have hnb : ((n : Int) == 0) = false := by simp; omega
      obtain ⟨b, o, rfl, hb⟩ := HB.out (by omega)
      have hwm : IntKind.i64.wrap ((p : Int) + 1 - 1) = (p : Int) := by rw [show (p : Int) + 1 - 1 = p by omega]; exact IntWalk.i64_in _ ⟨by omega, by omega⟩
      by_cases hlt : p < n
      · obtain ⟨z, hz, hzc⟩ := hb p hlt
        have hl : decide ((p : Int) < n) = true := by simp; omega
        clear hb
        go_enter Try.func83, Try.ntmps83
        go_wp2
        go_ret
        exact ⟨z % M, rfl, .inl (by have := Nat.mod_lt z hM1; omega), HG.out, HS.out⟩
      · have hl : decide ((p : Int) < n) = false := by simp; omega
        obtain ⟨q1, hq1, hql1⟩ : ∃ q : Nat, (p : Int) % (n : Int) = q ∧ q < n := ⟨p % n, (Int.natCast_emod p n).symm, Nat.mod_lt _ (by omega)⟩
        obtain ⟨q2, hq2, hql2⟩ : ∃ q : Nat, ((p : Int) * 7 + 3) % (n : Int) = q ∧ q < n := ⟨(p * 7 + 3) % n, by rw [Int.natCast_emod]; simp, Nat.mod_lt _ (by omega)⟩
        obtain ⟨dd, hdd, hdl⟩ : ∃ q : Nat, (p : Int) / (n : Int) = q ∧ q ≤ p := ⟨p / n, (Int.natCast_ediv p n).symm, Nat.div_le_self _ _⟩
        obtain ⟨z1, hz1, hzc1⟩ := hb q1 hql1
        obtain ⟨z2, hz2, hzc2⟩ := hb q2 hql2
        clear hb
        have w1 : IntKind.i64.wrap ((p : Int) * 7) = (p : Int) * 7 := IntWalk.i64_in _ ⟨by omega, by omega⟩
        have w2 : IntKind.i64.wrap ((p : Int) * 7 + 3) = (p : Int) * 7 + 3 := IntWalk.i64_in _ ⟨by omega, by omega⟩
        have w3 : IntKind.i64.wrap ((z1 : Int) * 131) = (z1 : Int) * 131 := IntWalk.i64_in _ ⟨by omega, by omega⟩
        have w4 : IntKind.i64.wrap ((z2 : Int) * 1117) = (z2 : Int) * 1117 := IntWalk.i64_in _ ⟨by omega, by omega⟩
        have w5 : IntKind.i64.wrap ((z1 : Int) * 131 + (z2 : Int) * 1117) = (z1 : Int) * 131 + (z2 : Int) * 1117 := IntWalk.i64_in _ ⟨by omega, by omega⟩
        have w6 : IntKind.i64.wrap ((p : Int) * 29) = (p : Int) * 29 := IntWalk.i64_in _ ⟨by omega, by omega⟩
        have w7 : IntKind.i64.wrap ((z1 : Int) * 131 + (z2 : Int) * 1117 + (p : Int) * 29) = (z1 : Int) * 131 + (z2 : Int) * 1117 + (p : Int) * 29 := IntWalk.i64_in _ ⟨by omega, by omega⟩
        have w8 : IntKind.i64.wrap ((dd : Int) * 53) = (dd : Int) * 53 := IntWalk.i64_in _ ⟨by omega, by omega⟩
        have w9 : IntKind.i64.wrap ((z1 : Int) * 131 + (z2 : Int) * 1117 + (p : Int) * 29 + (dd : Int) * 53) = (z1 : Int) * 131 + (z2 : Int) * 1117 + (p : Int) * 29 + (dd : Int) * 53 := IntWalk.i64_in _ ⟨by omega, by omega⟩
        go_enter Try.func83, Try.ntmps83
        go_wp2
        go_quiet (fail)
        obtain ⟨X, hX⟩ : ∃ X : Nat, (z1 : Int) * 131 + (z2 : Int) * 1117 + (p : Int) * 29 + (dd : Int) * 53 = X := ⟨z1 * 131 + z2 * 1117 + p * 29 + dd * 53, by omega⟩
        have hx : bits .xor .i64 (X : Int) ((X : Int) / 64) = ((X ^^^ X / 64 : Nat) : Int) := by
          rw [show ((X : Int) / 64) = ((X / 64 : Nat) : Int) by omega]
          exact xor_i64_nat _ _ (by omega) (by omega)
        obtain ⟨y, hy⟩ : ∃ y : Nat, bits .xor .i64 (X : Int) ((X : Int) / 64) = y := ⟨_, hx⟩
        clear hx
        go_wp2
        go_ret
        exact ⟨y % M, rfl, .inl (by have := Nat.mod_lt y hM1; omega), grown_drewN HG.out nq, HS.out.later (since_drewN (World.Since.refl _ _) nq)⟩

end Go.Proofs.Ytggmiojhglkcgaa
end

section
namespace Go.Proofs.Ytggmiojhglkcgaa
open Go.RowKit Go.Deep

theorem grown_new {a b c : World} {G : Nat} {row : Option Nat} (h : a.grownBy b (some G)) (k : b.grownBy c row) (hr : ∀ i, row = some i → a.heap.size ≤ i) : a.grownBy c (some G) :=
  ⟨k.os.trans h.os, k.tape.trans h.tape, k.output.trans h.output, Nat.le_trans h.size k.size, fun i hi hn => (k.block i (Nat.lt_of_lt_of_le hi h.size) (fun e => by have := hr i e.symm; omega)).trans (h.block i hi hn)⟩
theorem grown_alloc {a b : World} {G : Nat} (h : a.grownBy b (some G)) (o : Obj) : a.grownBy (b.alloc o) (some G) := grown_new h (World.grownBy_alloc b o none) (fun i e => by cases e)
theorem grown_set {a b : World} {G : Nat} (h : a.grownBy b (some G)) {g k : Nat} (hg : a.heap.size ≤ g) (v : Value) : a.grownBy (b.setCell ⟨g, k, none⟩ v) (some G) :=
  grown_new h (row := some g) ⟨rfl, rfl, rfl, by simp, fun i _ hi => Below.heap_setCell _ _ _ _ (fun e => hi (by rw [e]))⟩ (fun i e => by cases e; exact hg)
theorem cell_grown {a b : World} {G : Nat} {p : Addr} {v : Value} (h : a.cell? p = some v) (hg : a.grownBy b (some G)) (hp : p.block ≠ G) : b.cell? p = some v := hg.cell h (fun e => hp (by injection e))
theorem cell_set_far {w : World} {g j : Nat} {v : Value} {p : Addr} {u : Value} (h : w.cell? p = some u) (hne : p.block ≠ g) : (w.setCell ⟨g, j, none⟩ v).cell? p = some u := by
  rw [World.cell?_setCell_other _ _ _ _ (fun e => hne (by rw [← e]))]; exact h

theorem wpList_append_int {P : Program} (w : World) {ops : Array Oper} {rest : List Oper} {o : Oper} {a : Act} {Q : Exit → Act → World → Prop} (hgd : o.guard = none) (s x : Operand) (t : TypeId)
    (ho : o.op = .call { callee := .builtin .append, args := #[s, x], argTypes := #[t, t] }) (B : Nat) (i : TypeInfo) (ht : P.underlying t = some (.slice 3)) (hi : P.info? 3 = some i) (hz : i.zero = some (.int .i64 0)) (hsz : i.size = 1) (hby : i.bytes = 8)
    (v : Value) (xs : List Int) (hs : a.eval s = v) (h : RW B w v xs) (y : Int) (hx : a.eval x = .slice (some ⟨w.heap.size, 0, none⟩) 1 1) (hlen : xs.length ≤ 1000) (hB : B ≤ w.heap.size)
    (hK : ∀ v' w', RW B w' v' (xs ++ [y]) → w.grownBy w' v.ownBlock → wpList P ops Q rest (a.put o.dst v') w') : wpList P ops Q (o :: rest) a (w.alloc (.cells #[.int .i64 y] 3)) := by
  refine wpList_append_own _ hgd s x t ho B 3 i (.int .i64 0) 1 8 ht hi hz hsz hby rfl (by decide) v xs.length (xs.map (Value.int .i64)) hs (World.ownsRow.alloc h _) ⟨w.heap.size, 0, none⟩ 1 1 [.int .i64 y] hx rfl (cell_one_at _ _ _ rfl) (fun u hu => by simp at hu; subst hu; rfl) (by unfold maxLen; omega) (by omega) (by simp; omega) ?_
  intro v' w' hown hg _
  refine hK v' w' ?_ ⟨hg.os, hg.tape, hg.output, by have := hg.size; simp at this; omega, fun j hj hn => (hg.block j (by simp; omega) hn).trans (Below.heap_alloc _ _ _ hj)⟩
  unfold RW
  rw [List.length_append, List.map_append]
  exact hown

theorem wpList_append_row {P : Program} (w : World) {ops : Array Oper} {rest : List Oper} {o : Oper} {a : Act} {Q : Exit → Act → World → Prop} (hgd : o.guard = none) (s x : Operand) (t : TypeId)
    (ho : o.op = .call { callee := .builtin .append, args := #[s, x], argTypes := #[t, t] }) (B B' : Nat) (i : TypeInfo) (ht : P.underlying t = some (.slice 37)) (hi : P.info? 37 = some i) (hz : i.zero = some (.slice none 0 0)) (hsz : i.size = 1) (hby : i.bytes = 24)
    (v : Value) (l : List (List Int)) (A : Nat → Option Addr) (C : Nat → Nat) (hs : a.eval s = v) (h : BD B w v l A C) (g cp m : Nat) (y : List Int) (hy : y.length = m) (h0 : 0 < m) (hr : RW B' w (.slice (some ⟨g, 0, none⟩) m cp) y) (hfresh : ∀ r, r < l.length → A r ≠ some ⟨g, 0, none⟩)
    (hBB : B ≤ B') (hx : a.eval x = .slice (some ⟨w.heap.size, 0, none⟩) 1 1) (hlen : l.length ≤ 1000) (hB : B ≤ w.heap.size)
    (hK : ∀ v' w' A' C', BD B w' v' (l ++ [y]) A' C' → w.grownBy w' v.ownBlock → wpList P ops Q rest (a.put o.dst v') w') : wpList P ops Q (o :: rest) a (w.alloc (.cells #[.slice (some ⟨g, 0, none⟩) m cp] 37)) := by
  subst hy
  refine wpList_append_own _ hgd s x t ho B 37 i (.slice none 0 0) 1 24 ht hi hz hsz hby rfl (by decide) v l.length _ hs (h.own.alloc _) ⟨w.heap.size, 0, none⟩ 1 1 [.slice (some ⟨g, 0, none⟩) y.length cp] hx rfl (cell_one_at _ _ _ rfl) (fun u hu => by simp at hu; subst hu; rfl) (by unfold maxLen; omega) (by omega) (by simp; omega) ?_
  intro v' w' hown hg _
  refine hK v' w' _ _ (h.push h0 (hr.base hBB) hfresh hown hg) ⟨hg.os, hg.tape, hg.output, by have := hg.size; simp at this; omega, fun j hj hn => (hg.block j (by simp; omega) hn).trans (Below.heap_alloc _ _ _ hj)⟩

end Go.Proofs.Ytggmiojhglkcgaa
end

section
namespace Go.Proofs.Ytggmiojhglkcgaa
open Go.RowKit Go.Deep

theorem RW.set' {B : Nat} {w : World} {g cap k m : Nat} {x : List Int} (hm : x.length = m) (h : RW B w (.slice (some ⟨g, 0, none⟩) m cap) x) (hk : k < m) (y : Int) : RW B (w.setCell ⟨g, k, none⟩ (.int .i64 y)) (.slice (some ⟨g, 0, none⟩) m cap) (x.set k y) := by
  subst hm; exact h.set hk y
theorem RW.rowB {B : Nat} {w : World} {g k cap : Nat} {x : List Int} (h : RW B w (.slice (some ⟨g, 0, none⟩) k cap) x) (h0 : 0 < x.length) : B ≤ g ∧ RowB w g x := by
  obtain ⟨g', cap', e, h1, h2⟩ := h.form h0
  injection e with e
  injection e with e
  injection e with e
  subst e
  exact ⟨h1, h2⟩
theorem grown_set_any (w : World) (g k : Nat) (v : Value) : w.grownBy (w.setCell ⟨g, k, none⟩ v) (some g) := ⟨rfl, rfl, rfl, by simp, fun i _ hi => Below.heap_setCell _ _ _ _ (fun e => hi (by rw [e]))⟩
theorem grown_undrew' {W w' : World} {row : Option Nat} (h : W.drew.grownBy w' row) : W.grownBy w' row := ⟨h.os, h.tape, h.output, h.size, h.block⟩
theorem lens_snoc {l : List (List Int)} {x : List Int} {r m : Nat} (hl : l.length = r) (h : ∀ j, j < r → (l.getD j []).length = m) (hx : x.length = m) : ∀ j, j < r + 1 → ((l ++ [x]).getD j []).length = m := by
  intro j hj
  by_cases e : j = r
  · subst e; subst hl; simpa [List.getD] using hx
  · rw [show (l ++ [x]).getD j [] = l.getD j [] by simp [List.getD, List.getElem?_append_left (show j < l.length by omega)]]
    exact h j (by omega)

end Go.Proofs.Ytggmiojhglkcgaa
end

section
namespace Go.Proofs.Ytggmiojhglkcgaa
open Go.RowKit Go.Deep

theorem BD.inT {B : Nat} {w : World} {v : Value} {l : List (List Int)} {A : Nat → Option Addr} {C : Nat → Nat} (h : BD B w v l A C) : ∃ a cap, v = .slice a l.length cap ∧ InT B w.heap.size w a l := by
  by_cases h0 : 0 < l.length
  · obtain ⟨b, cap, cur, e, hb, hg, hc⟩ := h.top h0
    refine ⟨_, cap, e, fun _ => ⟨b, 0, A, fun r => ((A r).getD default).block, fun _ => 0, C, rfl, ⟨hb, (Array.getElem?_eq_some_iff.1 hg).1⟩, fun r hr => ⟨?_, fun h1 => ?_⟩⟩⟩
    · rw [Nat.zero_add]; simp [World.cell?, hg, hc r hr]
    · obtain ⟨g, e, hB, hw⟩ := h.row hr
      have e' : ((A r).getD default).block = g := by rw [e]; rfl
      dsimp only
      rw [e']
      exact ⟨e, ⟨hB, hw.lt⟩, fun i hi => by rw [Nat.zero_add]; exact hw.cell hi⟩
  · rcases h.own.2 with ⟨hv, hn⟩ | ⟨g, cap, cur, e, _⟩
    · exact ⟨none, 0, by rw [hv, hn], fun h => absurd h h0⟩
    · exact ⟨_, cap, e, fun h => absurd h h0⟩

theorem BD.row_ne {B : Nat} {w : World} {l : List (List Int)} {A : Nat → Option Addr} {C : Nat → Nat} {b cap n : Nat} (h : BD B w (.slice (some ⟨b, 0, none⟩) n cap) l A C) {g : Nat} {x : List Int} (hw : RowB w g x) : g ≠ b := by
  rintro rfl
  obtain ⟨cs, hc, _⟩ := hw
  rcases h.own.2 with ⟨e, _⟩ | ⟨g', cap', cur, e, _, hgg, _⟩
  · cases e
  · injection e with e
    injection e with e
    injection e with e
    rw [← e, hc] at hgg
    injection hgg with hgg
    injection hgg with _ e2 _
    exact absurd e2 (by decide)

theorem BD.addr_ne {B : Nat} {w : World} {v : Value} {l : List (List Int)} {A : Nat → Option Addr} {C : Nat → Nat} (h : BD B w v l A C) {r j g g' : Nat} (hr : r < l.length) (hj : j < l.length) (hA : A r = some ⟨g, 0, none⟩) (hA' : A j = some ⟨g', 0, none⟩) (hne : j ≠ r) : g' ≠ g := by
  rintro rfl
  exact hne (h.apart j r hj hr (by rw [hA, hA']))

theorem BD.cellTop {B : Nat} {w : World} {l : List (List Int)} {A : Nat → Option Addr} {C : Nat → Nat} {b cap n : Nat} (h : BD B w (.slice (some ⟨b, 0, none⟩) n cap) l A C) {r : Nat} (hr : r < l.length) :
    w.cell? ⟨b, r, none⟩ = some (.slice (A r) (l.getD r []).length (C r)) ∧ w.frozen? ⟨b, r, none⟩ = false ∧ b < w.heap.size := by
  obtain ⟨b', cp', cur, hv, _, hcur, hc⟩ := h.top (by omega)
  injection hv with hv _ _
  injection hv with hv
  injection hv with hv
  subst hv
  exact ⟨by simp [World.cell?, hcur, hc r hr], by simp [World.frozen?, hcur], (Array.getElem?_eq_some_iff.1 hcur).1⟩

theorem BD.setRow {B : Nat} {w w5 : World} {l : List (List Int)} {A : Nat → Option Addr} {C : Nat → Nat} {b cap n : Nat} (h : BD B w (.slice (some ⟨b, 0, none⟩) n cap) l A C) {r g : Nat} (hr : r < l.length) (hA : A r = some ⟨g, 0, none⟩) (hg : w.grownBy w5 (some g)) {g2 cp k : Nat} {y : List Int}
    (hy : RW B w5 (.slice (some ⟨g2, 0, none⟩) k cp) y) (hk : y.length = k) (h0 : 0 < k) : InT B w5.heap.size (w5.setCell ⟨b, r, none⟩ (.slice (some ⟨g2, 0, none⟩) k cp)) (some ⟨b, 0, none⟩) (l.set r y) := by
  subst hk
  obtain ⟨b', cap', cur, e, hb, hcur, hc⟩ := h.top (by omega)
  injection e with e en _
  injection e with e
  injection e with e
  subst e
  obtain ⟨g', hA', hBg, hrb⟩ := h.row hr
  rw [hA] at hA'
  injection hA' with hA'
  injection hA' with hA'
  subst hA'
  have hgb := h.row_ne hrb
  have hbl : b < w.heap.size := (Array.getElem?_eq_some_iff.1 hcur).1
  have hcur5 : w5.heap[b]? = some (.cells cur 37 (0, 0)) := (hg.block b hbl (fun e => by injection e with e; omega)).trans hcur
  obtain ⟨hB2, hrb2⟩ := hy.rowB h0
  have hg2b : g2 ≠ b := by
    rintro rfl
    obtain ⟨cs, h1, _⟩ := hrb2
    rw [h1] at hcur5
    injection hcur5 with h2
    injection h2 with _ h2 _
    exact absurd h2 (by decide)
  have hbl5 : b < w5.heap.size := (Array.getElem?_eq_some_iff.1 hcur5).1
  intro _
  refine ⟨b, 0, fun j => if j = r then some ⟨g2, 0, none⟩ else A j, fun j => if j = r then g2 else ((A j).getD default).block, fun _ => 0, fun j => if j = r then cp else C j, rfl, ⟨hb, hbl5⟩, fun j hj => ?_⟩
  rw [List.length_set] at hj
  show (w5.setCell ⟨b, r, none⟩ _).cell? ⟨b, 0 + j, none⟩ = _ ∧ _
  rw [Nat.zero_add]
  by_cases ej : j = r
  · subst ej
    have e1 : (l.set j y).getD j [] = y := by simp [List.getD, hj]
    rw [e1]
    simp only [↓reduceIte]
    refine ⟨World.cell?_setCell_same' _ _ _ (by simp [World.cell?, hcur5, hc j hj]), fun _ => ⟨trivial, ⟨hB2, hrb2.lt⟩, fun i hi => ?_⟩⟩
    rw [Nat.zero_add]
    exact cell_set_far (hrb2.cell hi) hg2b
  · have e1 : (l.set r y).getD j [] = l.getD j [] := by simp [List.getD, List.getElem?_set_ne (Ne.symm ej)]
    rw [e1]
    simp only [if_neg ej]
    obtain ⟨gj, hAj, hBj, hrbj⟩ := h.row hj
    have hgj := h.addr_ne hr hj hA hAj ej
    have hrb5 : RowB w5 gj (l.getD j []) := hrbj.of_block (hg.block gj hrbj.lt (fun e => by injection e with e; omega))
    have hgjb := h.row_ne hrbj
    refine ⟨?_, fun _ => ?_⟩
    · rw [World.cell?_setCell_other _ _ _ _ (fun e => ej (by injection e with _ e; exact e.symm))]
      simp [World.cell?, hcur5, hc j hj]
    · have e' : ((A j).getD default).block = gj := by rw [hAj]; rfl
      rw [e']
      exact ⟨hAj, ⟨hBj, hrb5.lt⟩, fun i hi => by rw [Nat.zero_add]; exact cell_set_far (hrb5.cell hi) hgjb⟩

theorem BD.setNum {B : Nat} {w : World} {l : List (List Int)} {A : Nat → Option Addr} {C : Nat → Nat} {b cap n : Nat} (h : BD B w (.slice (some ⟨b, 0, none⟩) n cap) l A C) {r g k : Nat} (hr : r < l.length) (hA : A r = some ⟨g, 0, none⟩) (hk : k < (l.getD r []).length) (z : Int) :
    InT B w.heap.size (w.setCell ⟨g, k, none⟩ (.int .i64 z)) (some ⟨b, 0, none⟩) (l.set r ((l.getD r []).set k z)) := by
  obtain ⟨b', cap', cur, e, hb, hcur, hc⟩ := h.top (by omega)
  injection e with e en _
  injection e with e
  injection e with e
  subst e
  obtain ⟨g', hA', hBg, hrb⟩ := h.row hr
  rw [hA] at hA'
  injection hA' with hA'
  injection hA' with hA'
  subst hA'
  have hgb := h.row_ne hrb
  intro _
  refine ⟨b, 0, A, fun j => ((A j).getD default).block, fun _ => 0, C, rfl, ⟨hb, (Array.getElem?_eq_some_iff.1 hcur).1⟩, fun j hj => ?_⟩
  rw [List.length_set] at hj
  show (w.setCell ⟨g, k, none⟩ _).cell? ⟨b, 0 + j, none⟩ = _ ∧ _
  rw [Nat.zero_add]
  have hlen : ((l.set r ((l.getD r []).set k z)).getD j []).length = (l.getD j []).length := by
    by_cases ej : j = r
    · subst ej; simp [List.getD, hj]
    · simp [List.getD, List.getElem?_set_ne (Ne.symm ej)]
  rw [hlen]
  refine ⟨cell_set_far (by simp [World.cell?, hcur, hc j hj]) (Ne.symm hgb), fun _ => ?_⟩
  obtain ⟨gj, hAj, hBj, hrbj⟩ := h.row hj
  have e' : ((A j).getD default).block = gj := by rw [hAj]; rfl
  dsimp only
  rw [e']
  refine ⟨hAj, ⟨hBj, hrbj.lt⟩, fun i hi => ?_⟩
  rw [Nat.zero_add]
  by_cases ej : j = r
  · subst ej
    rw [hA] at hAj
    injection hAj with hAj
    injection hAj with hAj
    subst hAj
    have e1 : (l.set j ((l.getD j []).set k z)).getD j [] = (l.getD j []).set k z := by simp [List.getD, hj]
    rw [e1]
    by_cases ei : i = k
    · subst ei
      rw [World.cell?_setCell_same' _ _ _ (by rw [hrbj.cell hi]; rfl)]
      simp [List.getD] at hi ⊢
      simp [hi]
    · rw [World.cell?_setCell_other _ _ _ _ (fun e => ei (by injection e with _ e; exact e.symm)), hrbj.cell hi]
      simp [List.getD, List.getElem?_set_ne (Ne.symm ei)]
  · have hgj := h.addr_ne hr hj hA hAj ej
    have e1 : (l.set r ((l.getD r []).set k z)).getD j [] = l.getD j [] := by simp [List.getD, List.getElem?_set_ne (Ne.symm ej)]
    rw [e1]
    exact cell_set_far (hrbj.cell hi) hgj

theorem InT.kept {lo hi : Nat} {w w' : World} {a : Option Addr} {l : List (List Int)} {G : Nat} (h : InT lo hi w a l) (hg : w.grownBy w' (some G)) (hG : G < lo) : InT lo hi w' a l :=
  h.frame (lo' := G) (hi' := G + 1) ⟨hg.os, hg.tape, hg.output, hg.size, fun k hk ho => hg.block k hk (fun e => by injection e with e; omega)⟩ (.inr (by omega))

end Go.Proofs.Ytggmiojhglkcgaa
end

section
namespace Go.Proofs.Ytggmiojhglkcgaa
open Go.RowKit Go.Deep

def Drawn0 (w w' : World) (R K : Nat) (a : Option Addr) (l : List (List Int)) : Prop :=
  1 ≤ l.length ∧ l.length ≤ R ∧ (∀ j, j < l.length → 1 ≤ (l.getD j []).length ∧ (l.getD j []).length ≤ K + 1) ∧ InT w.heap.size w'.heap.size w' a l

theorem lens_set {l : List (List Int)} {r : Nat} {y : List Int} {n m K : Nat} (hl : l.length = n) (h : ∀ j, j < n → (l.getD j []).length = m) (hm : 1 ≤ m ∧ m ≤ K) (hy : 1 ≤ y.length ∧ y.length ≤ K + 1) : ∀ j, j < (l.set r y).length → 1 ≤ ((l.set r y).getD j []).length ∧ ((l.set r y).getD j []).length ≤ K + 1 := by
  intro j hj
  rw [List.length_set] at hj
  by_cases e : j = r
  · subst e
    rw [show (l.set j y).getD j [] = y by simp [List.getD, hj]]
    exact hy
  · rw [show (l.set r y).getD j [] = l.getD j [] by simp [List.getD, List.getElem?_set_ne (Ne.symm e)], h j (by omega)]
    omega

end Go.Proofs.Ytggmiojhglkcgaa
end

section
namespace Go.Proofs.Ytggmiojhglkcgaa
open Go.RowKit Go.Deep

set_option maxHeartbeats 1000000 in
theorem l6Open_any (a : Option Addr) (nb cb : Nat) (w : World) (hc : nb ≤ cb) (h63 : cb ≤ 9223372036854775807) (hb : BytR w a nb) :
    Calls Try.prog 82 #[.slice a nb cb] w fun e w' => ∃ n' c', e = .returned (.pointer (some ⟨w.heap.size, 0, none⟩)) ∧ w.Since w.heap.size w' ∧ w'.heap.size = w.heap.size + 1 ∧ RD w w' w.heap.size a n' c' 116 0 := by
  by_cases hl : 2000 < nb
  · have hl' : decide ((2000 : Int) < (nb : Int)) = true := by simp; omega
    have h2 : (2000 : Int) ≤ (cb : Int) := by omega
    obtain ⟨b, o, rfl, hcell⟩ := hb (by omega)
    go_enter Try.func82, Try.ntmps82
    go_wp2
    go_ret
    exact ⟨_, _, rfl, (World.Since.refl _ _).alloc (Nat.le_refl _) _, by simp, ⟨heap_alloc_new _ _, Nat.le_refl _, (World.Since.refl _ _).alloc (Nat.le_refl _) _, fun _ => ⟨b, o, rfl, fun i hi => hcell i (by omega)⟩, by omega⟩⟩
  · have hl' : decide ((2000 : Int) < (nb : Int)) = false := by simp; omega
    go_enter Try.func82, Try.ntmps82
    go_wp2
    go_ret
    exact ⟨_, _, rfl, (World.Since.refl _ _).alloc (Nat.le_refl _) _, by simp, ⟨heap_alloc_new _ _, Nat.le_refl _, (World.Since.refl _ _).alloc (Nat.le_refl _) _, hb, by omega⟩⟩

def DrawnT (w w' : World) (R K : Nat) (a : Option Addr) (l : List (List Int)) : Prop :=
  1 ≤ l.length ∧ l.length ≤ R ∧ (∀ j, j < l.length → 1 ≤ (l.getD j []).length ∧ (l.getD j []).length ≤ K + 1) ∧ InT w.heap.size w'.heap.size w' a l

end Go.Proofs.Ytggmiojhglkcgaa
end

section
namespace Go.Proofs.Ytggmiojhglkcgaa
open Go.RowKit Go.Deep

def CW (B : Nat) (w : World) (v : Value) (cs : List RC) : Prop := w.ownsRow B 35 3 v cs.length (ch3 cs)
theorem CW.kept {B : Nat} {w w' : World} {v : Value} {cs : List RC} {G : Nat} (h : CW B w v cs) (hg : w.grownBy w' (some G)) (hG : G < B) : CW B w' v cs :=
  World.ownsRow.kept h hg (by
    cases hv : v.ownBlock with
    | none => exact .inl rfl
    | some k => exact .inr (fun e => by injection e with e; have := (World.ownsRow.lt h k hv).1; omega))
theorem CW.alloc {B : Nat} {w : World} {v : Value} {cs : List RC} (h : CW B w v cs) (o : Obj) : CW B (w.alloc o) v cs :=
  World.ownsRow.kept h (row := none) (World.grownBy_alloc w o none) (by
    cases hv : v.ownBlock with
    | none => exact .inl rfl
    | some k => exact .inr (by simp))
theorem CW.snoc {B : Nat} {w : World} {v : Value} {cs : List RC} {c : RC} {n : Nat} (hn : n = cs.length + 1) (h : w.ownsRow B 35 3 v n (ch3 cs ++ ch3 [c])) : CW B w v (cs ++ [c]) := by
  subst hn
  unfold CW
  rw [ch3_app, List.length_append]
  exact h

set_option maxHeartbeats 1000000 in
theorem of_any (w0 w : World) (G nb c p q c5 : Nat) (a : Option Addr) (h : RD w0 w G a nb c 116 p) (hp : p ≤ 100000) (hq : ∀ x, x < 5 → ∃ s, w.cell? ⟨q, x, none⟩ = some (.string s)) (hqG : q ≠ G) :
    Calls Try.prog 122 #[.pointer (some ⟨G, 0, none⟩), .slice (some ⟨q, 0, none⟩) 5 c5] w fun e w' => ∃ s, e = .returned (.string s) ∧ w.grownBy w' (some G) ∧ RD w0 w' G a nb c 116 (p + 1) := by
  have E := Lib.hid (pick_any w0 w G nb c p a 5 h hp)
  have HQ := Lib.hid hq
  clear h hq
  go_enter Try.func122, Try.ntmps122
  go_wp2_with fail
  refine (E.out).mono ?_
  rintro e w1 ⟨x, rfl, hx, hg, hd⟩
  obtain ⟨s, hs⟩ := HQ.out x (by omega)
  have hs1 := cell_grown hs hg hqG
  have hx5 : x < 5 := by omega
  have HG := Lib.hid hg
  have HD := Lib.hid hd
  clear hx hs hg hd
  go_wp2_with fail
  go_ret
  exact ⟨s, rfl, HG.out, HD.out⟩

set_option maxRecDepth 100000 in
set_option maxHeartbeats 1000000 in
theorem l91Chips_any (w0 w : World) (G nb c p n most : Nat) (a : Option Addr) (h : RD w0 w G a nb c 116 p) (hn : n ≤ 10) (hm : most ≤ 10) (hp : p ≤ 50000) :
    Calls Try.prog 84 #[.pointer (some ⟨G, 0, none⟩), .int .i64 n, .int .i64 most] w fun e w' => ∃ v cs p', e = .returned v ∧ cs.length ≤ 12 ∧ v ≠ .slice none 0 0 ∧ w.grownBy w' (some G) ∧ RD w0 w' G a nb c 116 p' ∧ p' ≤ p + 100 ∧ CW w.heap.size w' v cs := by
  obtain ⟨iC, hiC⟩ := infoChip_parts
  have HI := Lib.hid hiC
  have hGW := h.lt
  have HRD := Lib.hid h
  have hST : CW w.heap.size (w.alloc (.cells #[] 35)) (.slice (some ⟨w.heap.size, 0, none⟩) 0 0) [] := World.ownsRow_made w #[] 0 (Nat.le_refl _) (Nat.zero_le _) rfl
  have HST := Lib.hid hST
  clear h hiC hST
  go_enter Try.func84, Try.ntmps84
  go_wp2_with fail
  refine (pick_any w0 _ G nb c _ a _ (HRD.out.grown (World.grownBy_alloc w _ none) (fun k e => by cases e)) (by omega)).mono ?_
  rintro e w1 ⟨κ, rfl, hκ, hg, hd⟩
  have hk : κ ≤ 10 := by omega
  have HW1 := Lib.hid (HST.out.kept hg hGW)
  have HG1 := Lib.hid (grown_trans (World.grownBy_alloc w _ _) hg)
  have HD1 := Lib.hid hd
  clear hg hd hκ HRD HST
  go_wp2_with fail
  go_loopg [7, 9, 10, 11] κ (fun g v i _ _ wr => ∃ (r p' : Nat) (cs : List RC), r ≤ κ ∧ g = κ - r ∧ i = .int .i64 (r : Nat) ∧ cs.length = r ∧ v ≠ .slice none 0 0 ∧ w.grownBy wr (some G) ∧ RD w0 wr G a nb c 116 p' ∧ p' ≤ p + 1 + 7 * r ∧ CW w.heap.size wr v cs)
  case atStart => exact ⟨0, _, [], Nat.zero_le _, rfl, rfl, rfl, by simp, HG1.out, HD1.out, by omega, HW1.out⟩
  case round =>
    obtain ⟨r, p', cs, hr, rfl, rfl, hl, hnv, hgw, hd, hp', hW⟩ := hrel
    clear HW1 HG1 HD1
    have HW := Lib.hid hW
    have HG := Lib.hid hgw
    have HD := Lib.hid hd
    have HL := Lib.hid hl
    have HNV := Lib.hid hnv
    have hzw := hgw.size
    clear hW hgw hd hl hnv
    by_cases hlt : r < κ
    · go_wp2_with fail
      refine (of_any w0 _ G nb c _ _ _ a (HD.out.grown (World.grownBy_alloc _ _ none) (fun k e => by cases e)) (by omega) (fun x hx => ?_) (by omega)).mono ?_
      · rcases show x = 0 ∨ x = 1 ∨ x = 2 ∨ x = 3 ∨ x = 4 by omega with rfl | rfl | rfl | rfl | rfl
        all_goals exact ⟨_, by rw [World.cell?_alloc_new]; rfl⟩
      rintro e w2 ⟨K, rfl, hg2, hd2⟩
      have HW := Lib.hid ((HW.out.alloc _).kept hg2 hGW)
      have HG := Lib.hid (grown_trans (grown_alloc HG.out _) hg2)
      have HD := Lib.hid hd2
      clear hg2 hd2
      go_wp2_with fail
      refine (pick_any w0 _ G nb c _ a _ HD.out (by omega)).mono ?_
      rintro e w3 ⟨L, rfl, _, hg3, hd3⟩
      have HW := Lib.hid (HW.out.kept hg3 hGW)
      have HG := Lib.hid (grown_trans HG.out hg3)
      have HD := Lib.hid hd3
      clear hg3 hd3
      by_cases hb : K.toList = [104]
      · have hbt : (K.toList == [104]) = true := by simpa using hb
        clear hb
        go_wp2_with (first
          | (go_at_call 83; refine (pick_any w0 _ G nb c _ a _ HD.out (by omega)).mono ?_; rintro e w2 ⟨y, rfl, hy, hg, hd⟩; have HW := Lib.hid (HW.out.kept hg hGW); have HG := Lib.hid (grown_trans HG.out hg); have HD := Lib.hid hd; clear hd hg hy)
          | (at_builtin; (refine wpList_append_own _ rfl _ _ 23 rfl w.heap.size 35 iC (.agg #[.string ⟨#[]⟩, .int .i64 0, .int .i64 0]) 3 32 Try.underlying23 HI.out.1 HI.out.2.1 HI.out.2.2.1 HI.out.2.2.2 rfl (by decide) _ _ _ rfl (HW.out.alloc _) _ 1 1 (ch3 [⟨_, _, _⟩]) rfl rfl (by exact news3 _ ⟨_, _, _⟩ _) (ch3_one _) (by have := HL.out; unfold maxLen; omega) (by have := HL.out; omega) (by have := HG.out.size; simp; omega) ?_); intro v' w3 hown' hgr hnn; have hne := fun i e => (World.ownsRow.lt (HW.out.alloc (.cells #[] 0)) i e).1; have HW3 := Lib.hid (CW.snoc rfl hown'); have HG3 := Lib.hid (grown_new (grown_alloc HG.out _) hgr hne); have HD3 := Lib.hid ((HD.out.grown (World.grownBy_alloc _ _ none) (fun k e => by cases e)).grown hgr (fun i e => by have := hne i e; omega)); have HNN := Lib.hid hnn; clear hown' hgr hnn hne))
        go_roundg (κ - (r + 1))
        case measure => omega
        case rel => exact ⟨r + 1, _, _, by omega, rfl, by go_num, by rw [List.length_append, HL.out]; rfl, fun e => HNV.out (HNN.out.1 e).1, HG3.out, HD3.out, by omega, HW3.out⟩
      · have hbt : (K.toList == [104]) = false := by simpa using hb
        clear hb
        go_wp2_with (first
          | (go_at_call 83; refine (pick_any w0 _ G nb c _ a _ HD.out (by omega)).mono ?_; rintro e w2 ⟨y, rfl, hy, hg, hd⟩; have HW := Lib.hid (HW.out.kept hg hGW); have HG := Lib.hid (grown_trans HG.out hg); have HD := Lib.hid hd; clear hd hg hy)
          | (at_builtin; (refine wpList_append_own _ rfl _ _ 23 rfl w.heap.size 35 iC (.agg #[.string ⟨#[]⟩, .int .i64 0, .int .i64 0]) 3 32 Try.underlying23 HI.out.1 HI.out.2.1 HI.out.2.2.1 HI.out.2.2.2 rfl (by decide) _ _ _ rfl (HW.out.alloc _) _ 1 1 (ch3 [⟨_, _, _⟩]) rfl rfl (by exact news3 _ ⟨_, _, _⟩ _) (ch3_one _) (by have := HL.out; unfold maxLen; omega) (by have := HL.out; omega) (by have := HG.out.size; simp; omega) ?_); intro v' w3 hown' hgr hnn; have hne := fun i e => (World.ownsRow.lt (HW.out.alloc (.cells #[] 0)) i e).1; have HW3 := Lib.hid (CW.snoc rfl hown'); have HG3 := Lib.hid (grown_new (grown_alloc HG.out _) hgr hne); have HD3 := Lib.hid ((HD.out.grown (World.grownBy_alloc _ _ none) (fun k e => by cases e)).grown hgr (fun i e => by have := hne i e; omega)); have HNN := Lib.hid hnn; clear hown' hgr hnn hne))
        go_roundg (κ - (r + 1))
        case measure => omega
        case rel => exact ⟨r + 1, _, _, by omega, rfl, by go_num, by rw [List.length_append, HL.out]; rfl, fun e => HNV.out (HNN.out.1 e).1, HG3.out, HD3.out, by omega, HW3.out⟩
    · obtain rfl : r = κ := by omega
      go_wp2_with fail
      refine (pick_any w0 _ G nb c _ a _ HD.out (by omega)).mono ?_
      rintro e w2 ⟨y, rfl, _, hg2, hd2⟩
      have HW := Lib.hid (HW.out.kept hg2 hGW)
      have HG := Lib.hid (grown_trans HG.out hg2)
      have HD := Lib.hid hd2
      clear hg2 hd2
      by_cases hy : y = 0
      · subst hy
        go_wp2_with (at_builtin; (refine wpList_append_own _ rfl _ _ 23 rfl w.heap.size 35 iC (.agg #[.string ⟨#[]⟩, .int .i64 0, .int .i64 0]) 3 32 Try.underlying23 HI.out.1 HI.out.2.1 HI.out.2.2.1 HI.out.2.2.2 rfl (by decide) _ _ _ rfl (HW.out.alloc _) _ 1 1 (ch3 [⟨_, _, _⟩]) rfl rfl (by exact news3 _ ⟨_, _, _⟩ _) (ch3_one _) (by have := HL.out; unfold maxLen; omega) (by have := HL.out; omega) (by have := HG.out.size; simp; omega) ?_); intro v' w3 hown' hgr hnn; have hne := fun i e => (World.ownsRow.lt (HW.out.alloc (.cells #[] 0)) i e).1; have HW3 := Lib.hid (CW.snoc rfl hown'); have HG3 := Lib.hid (grown_new (grown_alloc HG.out _) hgr hne); have HD3 := Lib.hid ((HD.out.grown (World.grownBy_alloc _ _ none) (fun k e => by cases e)).grown hgr (fun i e => by have := hne i e; omega)); have HNN := Lib.hid hnn; clear hown' hgr hnn hne)
        go_ret
        exact ⟨_, _, _, rfl, by rw [List.length_append, HL.out]; simp; omega, fun e => HNV.out (HNN.out.1 e).1, HG3.out, HD3.out, by omega, HW3.out⟩
      · have hyb : ((y : Int) == 0) = false := by simp; omega
        go_wp2_with fail
        go_ret
        exact ⟨_, _, _, rfl, by rw [HL.out]; omega, HNV.out, HG.out, HD.out, by omega, HW.out⟩

def DrawnC (w w' : World) (a : Option Addr) (cap : Nat) (cs : List RC) : Prop :=
  cs.length ≤ 12 ∧ (∃ g, a = some ⟨g, 0, none⟩) ∧ cs.length ≤ cap ∧ cap ≤ 9223372036854775807 ∧ OwnC w.heap.size w'.heap.size w' a cs
theorem CW.drawn {w w1 w' : World} {v : Value} {cs : List RC} (h : CW w1.heap.size w' v cs) (hw : w.heap.size ≤ w1.heap.size) (hl : cs.length ≤ 12) (hv : v ≠ .slice none 0 0) : ∃ a cap, v = .slice a cs.length cap ∧ DrawnC w w' a cap cs := by
  have hm : maxLen = 9223372036854775807 := rfl
  have h' : w'.ownsRow w1.heap.size 35 3 v cs.length (ch3 cs) := h
  rcases h'.2 with ⟨hv', h0⟩ | ⟨g, cap, cur, rfl, hb, hg, hn, hmx, hs, ht⟩
  · exact absurd hv' hv
  · refine ⟨_, cap, rfl, hl, ⟨g, rfl⟩, hn, by omega, fun _ => ⟨g, rfl, ⟨by omega, (Array.getElem?_eq_some_iff.1 hg).1⟩, fun i hi => ?_⟩⟩
    obtain ⟨e1, e2, e3⟩ := ch3_get cs i hi
    have hf : ∀ j, w'.frozen? ⟨g, j, none⟩ = false := fun j => by simp [World.frozen?, hg]
    exact ⟨⟨(World.ownsRow.cellAt h' (i * 3) (by omega)).trans e1, (World.ownsRow.cellAt h' (i * 3 + 1) (by omega)).trans e2, (World.ownsRow.cellAt h' (i * 3 + 2) (by omega)).trans e3⟩, hf _, hf _, hf _⟩

set_option maxHeartbeats 1000000 in
theorem l92Net_any (a : Option Addr) (nb cb : Nat) (w : World) (hc : nb ≤ cb) (h63 : cb ≤ 9223372036854775807) (hb : BytR w a nb) :
    Calls Try.prog 55 #[.slice a nb cb] w fun e w' => ∃ (n : Nat) (a' : Option Addr) (cap : Nat) (cs : List RC), e = .returned (.tuple #[.int .i64 n, .slice a' cs.length cap]) ∧ w.Since w.heap.size w' ∧ (2 ≤ n ∧ n ≤ 5) ∧ DrawnC w w' a' cap cs := by
  have E := Lib.hid (l6Open_any a nb cb w hc h63 hb)
  clear hb
  go_enter Try.func55, Try.ntmps55
  go_wp2_with fail
  refine (E.out).mono ?_
  rintro e w1 ⟨n', c', rfl, hs, hz, hd⟩
  have HD1 := Lib.hid hd
  have HS := Lib.hid hs
  have hz1 : w.heap.size < w1.heap.size := by omega
  clear hd hs hz
  go_wp2_with fail
  refine (pick_any w _ w.heap.size n' c' _ a _ HD1.out (by omega)).mono ?_
  rintro e w2 ⟨y2, rfl, hy2, hg2, hd2⟩
  have HD2 := Lib.hid hd2
  have HG2 := Lib.hid hg2
  clear hd2 hg2
  obtain ⟨n, hn, hhn⟩ : ∃ n : Nat, IntKind.i64.wrap (2 + (y2 : Int)) = n ∧ n = y2 + 2 := ⟨y2 + 2, (IntWalk.i64_in _ ⟨by omega, by omega⟩).trans (by omega), rfl⟩
  have hbn : 2 ≤ n ∧ n ≤ 5 := by omega
  clear hhn hy2
  go_wp2_with fail
  refine (l91Chips_any w _ w.heap.size n' c' _ n 8 a HD2.out (by omega) (by omega) (by omega)).mono ?_
  rintro e w3 ⟨v, cs, p', rfl, hl, hnv, hg3, hd3, hp', hW⟩
  have hz2 := HG2.out.size
  obtain ⟨a', cap, rfl, hD⟩ := hW.drawn (w := w) (by omega) hl hnv
  have HD := Lib.hid hD
  have HS3 := Lib.hid (HS.out.trans (since_grown (grown_trans HG2.out hg3) (Nat.le_refl _) (by omega)))
  clear hl hnv hg3 hd3 hW hD
  go_wp2_with fail
  go_ret2
  exact ⟨_, _, _, _, rfl, HS3.out, hbn, HD.out⟩

end Go.Proofs.Ytggmiojhglkcgaa
end

section
namespace Go.Proofs.Ytggmiojhglkcgaa
open Go.RowKit Go.Deep

theorem drawNetIn_any (a : Option Addr) (nb cb : Nat) (w : World) (hc : nb ≤ cb) (h63 : cb ≤ 9223372036854775807) (hb : BytR w a nb) :
    Calls Try.prog 14 #[.slice a nb cb] w fun e w' => ∃ (n : Nat) (a' : Option Addr) (cap : Nat) (cs : List RC), e = .returned (.tuple #[.int .i64 n, .slice a' cs.length cap]) ∧ w.Since w.heap.size w' ∧ (2 ≤ n ∧ n ≤ 5) ∧ DrawnC w w' a' cap cs := by
  have E := Lib.hid (l92Net_any a nb cb w hc h63 hb)
  clear hb
  go_enter Try.func14, Try.ntmps14
  go_wp2_with fail
  refine (E.out).mono ?_
  rintro e w1 ⟨n, a', cap, cs, rfl, hs, hn, hd⟩
  have HS := Lib.hid hs
  have HD := Lib.hid hd
  clear hs hd
  go_wp2_with fail
  go_ret2
  exact ⟨_, _, _, _, rfl, HS.out, hn, HD.out⟩

theorem drawNetTable_any (a : Option Addr) (nb cb : Nat) (w : World) (hc : nb ≤ cb) (h63 : cb ≤ 9223372036854775807) (hb : BytR w a nb) :
    Calls Try.prog 17 #[.slice a nb cb] w fun e w' => ∃ (n : Nat) (a' : Option Addr) (cap : Nat) (cs : List RC), e = .returned (.tuple #[.int .i64 n, .slice a' cs.length cap]) ∧ w.Since w.heap.size w' ∧ (2 ≤ n ∧ n ≤ 5) ∧ DrawnC w w' a' cap cs := by
  have E := Lib.hid (l92Net_any a nb cb w hc h63 hb)
  clear hb
  go_enter Try.func17, Try.ntmps17
  go_wp2_with fail
  refine (E.out).mono ?_
  rintro e w1 ⟨n, a', cap, cs, rfl, hs, hn, hd⟩
  have HS := Lib.hid hs
  have HD := Lib.hid hd
  clear hs hd
  go_wp2_with fail
  go_ret2
  exact ⟨_, _, _, _, rfl, HS.out, hn, HD.out⟩

theorem drawNetTurn_any (a : Option Addr) (nb cb : Nat) (w : World) (hc : nb ≤ cb) (h63 : cb ≤ 9223372036854775807) (hb : BytR w a nb) :
    Calls Try.prog 31 #[.slice a nb cb] w fun e w' => ∃ (n : Nat) (a' : Option Addr) (cap : Nat) (cs : List RC), e = .returned (.tuple #[.int .i64 n, .slice a' cs.length cap]) ∧ w.Since w.heap.size w' ∧ (2 ≤ n ∧ n ≤ 5) ∧ DrawnC w w' a' cap cs := by
  have E := Lib.hid (l92Net_any a nb cb w hc h63 hb)
  clear hb
  go_enter Try.func31, Try.ntmps31
  go_wp2_with fail
  refine (E.out).mono ?_
  rintro e w1 ⟨n, a', cap, cs, rfl, hs, hn, hd⟩
  have HS := Lib.hid hs
  have HD := Lib.hid hd
  clear hs hd
  go_wp2_with fail
  go_ret2
  exact ⟨_, _, _, _, rfl, HS.out, hn, HD.out⟩

end Go.Proofs.Ytggmiojhglkcgaa
end

section
namespace Go.Proofs.Ytggmiojhglkcgaa
open Go.RowKit Go.Deep

def nzM (l : List (List Int)) (r c : Nat) : Prop := popcS r = popcS c ∧ ordF (partL l r c) (popcS r) (popcS r) 0 ≠ 0
theorem stepR_ge (l : List (List Int)) (r c b : Nat) : b ≤ stepR l r c b := by
  unfold stepR
  split
  · omega
  · omega
theorem stepR_yes {l : List (List Int)} {r c : Nat} (h : nzM l r c) (b : Nat) : popcS r ≤ stepR l r c b := by
  unfold stepR
  by_cases hb : b < popcS r
  · rw [if_pos ⟨h.1, hb, h.2⟩]; omega
  · have := stepR_ge l r c b
    unfold stepR at this
    omega
theorem stepR_ex (l : List (List Int)) (r c b : Nat) : stepR l r c b = b ∨ (stepR l r c b = popcS r ∧ nzM l r c) := by
  unfold stepR
  split
  · rename_i h; exact .inr ⟨rfl, h.1, h.2.2⟩
  · exact .inl rfl
theorem rkC_step (l : List (List Int)) (r b : Nat) : ∀ c, 1 ≤ c → b ≤ rkC l r b c ∧ (∀ c', 1 ≤ c' → c' < c → nzM l r c' → popcS r ≤ rkC l r b c) ∧ (rkC l r b c = b ∨ (rkC l r b c = popcS r ∧ ∃ c', c' < c ∧ nzM l r c'))
  | 0, h => by omega
  | 1, _ => by rw [rkC_one]; exact ⟨by omega, fun c' h1 h2 => by omega, .inl rfl⟩
  | c + 2, _ => by
    obtain ⟨i1, i2, i3⟩ := rkC_step l r b (c + 1) (by omega)
    rw [rkC_succ l r b (by omega)]
    have g := stepR_ge l r (c + 1) (rkC l r b (c + 1))
    refine ⟨by omega, fun c' h1 h2 hn => ?_, ?_⟩
    · by_cases e : c' = c + 1
      · subst e; exact stepR_yes hn _
      · have := i2 c' h1 (by omega) hn
        omega
    · rcases stepR_ex l r (c + 1) (rkC l r b (c + 1)) with e | ⟨e, hn⟩
      · rw [e]
        rcases i3 with e2 | ⟨e2, c', h1, h2⟩
        · exact .inl e2
        · exact .inr ⟨e2, c', by omega, h2⟩
      · exact .inr ⟨e, c + 1, by omega, hn⟩
theorem rkR_step (l : List (List Int)) (C : Nat) (hC : 1 ≤ C) : ∀ r, 1 ≤ r → (∀ r' c', 1 ≤ r' → r' < r → 1 ≤ c' → c' < C → nzM l r' c' → popcS r' ≤ rkR l C r) ∧ (rkR l C r = 0 ∨ ∃ r' c', r' < r ∧ c' < C ∧ nzM l r' c' ∧ rkR l C r = popcS r')
  | 0, h => by omega
  | 1, _ => by rw [rkR_one]; exact ⟨fun r' c' h1 h2 => by omega, .inl rfl⟩
  | r + 2, _ => by
    obtain ⟨i1, i2⟩ := rkR_step l C hC (r + 1) (by omega)
    rw [rkR_succ l C (by omega)]
    obtain ⟨j1, j2, j3⟩ := rkC_step l (r + 1) (rkR l C (r + 1)) C hC
    refine ⟨fun r' c' h1 h2 h3 h4 hn => ?_, ?_⟩
    · by_cases e : r' = r + 1
      · subst e; exact j2 c' h3 h4 hn
      · have := i1 r' c' h1 (by omega) h3 h4 hn
        omega
    · rcases j3 with e | ⟨e, c', h1, h2⟩
      · rw [e]
        rcases i2 with e2 | ⟨r', c', h1, h2, h3, h4⟩
        · exact .inl e2
        · exact .inr ⟨r', c', by omega, h2, h3, h4⟩
      · exact .inr ⟨r + 1, c', by omega, h1, h2, e⟩
theorem popc_le_n : ∀ n : Fin 7, ∀ s : Fin 64, s.val < 2 ^ n.val → popcS s.val ≤ n.val := by decide +kernel
theorem hasB_iff {l : List (List Int)} {k M1 M2 : Nat} : hasB l k M1 M2 = true ↔ ∃ r c, (r < M1 ∧ popcS r = k) ∧ (c < M2 ∧ popcS c = k) ∧ dt k (at2 (partL l r c)) ≠ 0 := by
  unfold hasB hasR
  rw [List.any_eq_true]
  constructor
  · rintro ⟨r, hr, h⟩
    obtain ⟨c, hc, h⟩ := List.any_eq_true.1 h
    exact ⟨r, c, (setsTo_mem k).1 hr, (setsTo_mem k).1 hc, by simpa using h⟩
  · rintro ⟨r, c, hr, hc, h⟩
    exact ⟨r, (setsTo_mem k).2 hr, List.any_eq_true.2 ⟨c, (setsTo_mem k).2 hc, by simpa using h⟩⟩
theorem rank_down {l : List (List Int)} {n m : Nat} (hn : n ≤ 6) (hm : m ≤ 6) :
    rkR l (2 ^ m) (2 ^ n) ≤ n ∧ rkR l (2 ^ m) (2 ^ n) ≤ m ∧ ∀ k, 1 ≤ k → (hasB l k (2 ^ n) (2 ^ m) = true → k ≤ rkR l (2 ^ m) (2 ^ n)) ∧ (hasB l k (2 ^ n) (2 ^ m) = false → rkR l (2 ^ m) (2 ^ n) ≠ k) := by
  have p1 : 2 ^ n ≤ 2 ^ 6 := Nat.pow_le_pow_right (by omega) hn
  have p2 : 2 ^ m ≤ 2 ^ 6 := Nat.pow_le_pow_right (by omega) hm
  have q1 : 1 ≤ 2 ^ n := Nat.pow_pos (by omega)
  have q2 : 1 ≤ 2 ^ m := Nat.pow_pos (by omega)
  obtain ⟨s1, s2⟩ := rkR_step l (2 ^ m) q2 (2 ^ n) q1
  have hle : rkR l (2 ^ m) (2 ^ n) ≤ n ∧ rkR l (2 ^ m) (2 ^ n) ≤ m := by
    rcases s2 with e | ⟨r, c, h1, h2, h3, h4⟩
    · omega
    · have e1 := popc_le_n ⟨n, by omega⟩ ⟨r, by omega⟩ h1
      have e2 := popc_le_n ⟨m, by omega⟩ ⟨c, by omega⟩ h2
      have := h3.1
      simp only at e1 e2
      omega
  refine ⟨hle.1, hle.2, fun k hk => ⟨fun h => ?_, fun h e => ?_⟩⟩
  · obtain ⟨r, c, ⟨r1, r2⟩, ⟨c1, c2⟩, hd⟩ := hasB_iff.1 h
    have g1 := popcS_pos ⟨r, by omega⟩ (by rw [r2]; exact hk)
    have g2 := popcS_pos ⟨c, by omega⟩ (by rw [c2]; exact hk)
    have hk6 : k ≤ 6 := by rw [← r2]; exact popcS_le r
    have := s1 r c g1 r1 g2 c1 ⟨by omega, by rw [r2, ordF_all _ hk6]; exact hd⟩
    omega
  · rcases s2 with e2 | ⟨r, c, h1, h2, h3, h4⟩
    · omega
    · have hk6 : k ≤ 6 := by rw [← e, h4]; exact popcS_le r
      have hr : popcS r = k := by omega
      have : hasB l k (2 ^ n) (2 ^ m) = true := hasB_iff.2 ⟨r, c, ⟨h1, hr⟩, ⟨h2, by rw [← h3.1]; exact hr⟩, by
        have := h3.2
        rw [hr, ordF_all _ hk6] at this
        exact this⟩
      rw [h] at this
      cases this

end Go.Proofs.Ytggmiojhglkcgaa
end

section
namespace Go.Proofs.Ytggmiojhglkcgaa
open Go.RowKit Go.Deep

set_option maxHeartbeats 1000000 in
theorem sameInts_same (a b : Option Addr) (ca cb n : Nat) (l : List Int) (w : World) (hn : l.length = n) (h63 : n ≤ 9223372036854775807) (ha : RowR w a l) (hb : RowR w b l) :
    Calls Try.prog 70 #[.slice a n ca, .slice b n cb] w fun e w' => e = .returned (.bool true) ∧ Drawn w w' := by
  have H := Lib.hid hn; clear hn
  go_enter Try.func70, Try.ntmps70
  go_wp2
  go_loopg [5] n (fun g i wr => ∃ k : Nat, k ≤ n ∧ g = n - k ∧ i = .int .i64 k ∧ Drawn w wr)
  case atStart => exact ⟨0, Nat.zero_le _, rfl, rfl, Drawn.refl w⟩
  case round =>
    obtain ⟨k, hk, rfl, rfl, hD⟩ := hrel
    by_cases hlt : k < n
    · obtain ⟨b1, o1, rfl, hc1⟩ := ha (by rw [H.out]; omega)
      obtain ⟨b2, o2, rfl, hc2⟩ := hb (by rw [H.out]; omega)
      have c1 := hc1 k (by rw [H.out]; exact hlt)
      have c2 := hc2 k (by rw [H.out]; exact hlt)
      obtain ⟨x, hx⟩ : ∃ x, x = l.getD k 0 := ⟨_, rfl⟩
      rw [← hx] at c1 c2
      rw [← hD.cell] at c1 c2
      clear hx hc1 hc2 ha hb
      go_wp2
      go_quiet (fail)
      go_wp2
      go_roundg (n - (k + 1))
      case measure => omega
      case rel => exact ⟨k + 1, by omega, rfl, by go_num, hD.trans (Drawn.mk _ _)⟩
    · go_wp2
      go_ret
      exact ⟨rfl, hD⟩

set_option maxHeartbeats 1000000 in
theorem sameRows_same (a b : Option Addr) (ca cb n : Nat) (l : List (List Int)) (w : World) (hn : l.length = n) (h63 : n ≤ 9223372036854775807) (hl : ∀ r, r < l.length → (l.getD r []).length ≤ 9223372036854775807)
    (ha : MatR w a l) (hb : MatR w b l) :
    Calls Try.prog 20 #[.slice a n ca, .slice b n cb] w fun e w' => e = .returned (.bool true) ∧ Drawn w w' := by
  have H := Lib.hid hn; clear hn
  go_enter Try.func20, Try.ntmps20
  go_wp2
  go_loopg [5] n (fun g i wr => ∃ k : Nat, k ≤ n ∧ g = n - k ∧ i = .int .i64 k ∧ Drawn w wr)
  case atStart => exact ⟨0, Nat.zero_le _, rfl, rfl, Drawn.refl w⟩
  case round =>
    obtain ⟨k, hk, rfl, rfl, hD⟩ := hrel
    by_cases hlt : k < n
    · obtain ⟨b1, o1, A1, C1, rfl, hc1⟩ := ha (by rw [H.out]; omega)
      obtain ⟨b2, o2, A2, C2, rfl, hc2⟩ := hb (by rw [H.out]; omega)
      obtain ⟨c1, r1⟩ := hc1 k (by rw [H.out]; exact hlt)
      obtain ⟨c2, r2⟩ := hc2 k (by rw [H.out]; exact hlt)
      have hlk := hl k (by rw [H.out]; exact hlt)
      obtain ⟨x, hx⟩ : ∃ x, x = l.getD k [] := ⟨_, rfl⟩
      rw [← hx] at c1 c2 r1 r2 hlk
      obtain ⟨m, hm⟩ : ∃ m, x.length = m := ⟨_, rfl⟩
      rw [hm] at c1 c2 hlk
      have HM := Lib.hid hm
      clear hx hc1 hc2 ha hb hl hm
      have r1 := r1.drawn hD
      have r2 := r2.drawn hD
      rw [← hD.cell] at c1 c2
      have e1 := fun (p : Nat) => sameInts_same (A1 k) (A2 k) (C1 k) (C2 k) m x (wr.drewN p) HM.out hlk r1 r2
      have E1 := Lib.hid e1; clear e1 r1 r2
      go_wp2
      go_quiet ((go_at_call 70; exact Calls.quiet_of (E1.out _)))
      go_wp2
      go_roundg (n - (k + 1))
      case measure => omega
      case rel => exact ⟨k + 1, by omega, rfl, by go_num, hD.trans (Drawn.mk _ _)⟩
    · go_wp2
      go_ret
      exact ⟨rfl, hD⟩

end Go.Proofs.Ytggmiojhglkcgaa
end

section
namespace Go.Proofs.Ytggmiojhglkcgaa
open Go.RowKit Go.Deep

theorem szL_of {l : List (List Int)} {n k : Nat} (h1 : l.length ≤ n) (h2 : ∀ j, j < l.length → (l.getD j []).length ≤ k) (hnk : n * k + n ≤ 1048576) : szL l ≤ 1048576 := by
  have h3 := sumTo_le_mul l k h2 l.length (Nat.le_refl _)
  have h4 : l.length * k ≤ n * k := Nat.mul_le_mul_right _ h1
  have h5 : k * l.length = l.length * k := Nat.mul_comm _ _
  unfold szL
  omega
theorem rows_le {l : List (List Int)} (h : szL l ≤ 1048576) : ∀ r, r < l.length → (l.getD r []).length ≤ 9223372036854775807 := fun r hr => by
  have := row_le l hr
  unfold szL at h
  omega

theorem tab_self {l : List (List Int)} {n m : Nat} (hn : l.length = n) (hm : ∀ r, r < n → (l.getD r []).length = m) : tabF n m (at2 l) = l := by
  refine List.ext_getElem (by rw [tabF_length, hn]) fun r h1 h2 => ?_
  have hr : r < n := by rw [tabF_length] at h1; exact h1
  have e1 : (tabF n m (at2 l))[r] = (tabF n m (at2 l)).getD r [] := by simp [List.getD, h1]
  have e2 : l[r] = l.getD r [] := by simp [List.getD, h2]
  rw [e1, e2, tabF_get _ _ _ _ hr]
  refine List.ext_getElem (by rw [List.length_map, List.length_range, hm r hr]) fun k h3 h4 => ?_
  rw [List.getElem_map, List.getElem_range]
  unfold at2
  obtain ⟨x, hx⟩ : ∃ x, x = l.getD r [] := ⟨_, rfl⟩
  subst hx
  generalize l.getD r [] = x at *
  simp [List.getD, h4]

theorem turnL_turnL {l : List (List Int)} (hT : TabIn l) : turnL (turnL l) = l := by
  have h1 := hT.1
  have hw := hT.width
  have e0 : ((turnL l).getD 0 []).length = l.length := tabF_len _ _ _ _ hw.1
  have e1 : turnL (turnL l) = tabF l.length (l.getD 0 []).length fun k i => at2 (turnL l) i k := by
    show tabF ((turnL l).getD 0 []).length (turnL l).length _ = _
    rw [e0, turnL_length]
  rw [e1]
  have e2 : tabF l.length (l.getD 0 []).length (fun k i => at2 (turnL l) i k) = tabF l.length (l.getD 0 []).length (at2 l) := by
    unfold tabF
    refine List.map_congr_left fun r hr => List.map_congr_left fun k hk => ?_
    exact tabF_at _ _ _ _ _ (List.mem_range.1 hk) (List.mem_range.1 hr)
  rw [e2]
  exact tab_self rfl (fun r hr => hT.row hr)

end Go.Proofs.Ytggmiojhglkcgaa
end

section
namespace Go.Proofs.Ytggmiojhglkcgaa
open Go.RowKit Go.Deep

theorem selN_lt {s n i : Nat} (h : i < (sel s n n).length) : selN s n i < n := by
  unfold selN
  have e : ((sel s n n).map (·.1)).getD i 0 = ((sel s n n)[i]).1 := by simp [List.getD, h]
  rw [e]
  exact ((sel s n n)[i]).2
theorem has_turn {l : List (List Int)} {n m k : Nat} (hT : TabIn l) (hn : l.length = n) (hmm : (l.getD 0 []).length = m) (h : hasB l k (2 ^ n) (2 ^ m) = true) : hasB (turnL l) k (2 ^ m) (2 ^ n) = true := by
  have h6 := hT.2.1
  have hw := hT.width
  have p1 : 2 ^ n ≤ 2 ^ 6 := Nat.pow_le_pow_right (by omega) (by omega)
  have p2 : 2 ^ m ≤ 2 ^ 6 := Nat.pow_le_pow_right (by omega) (by omega)
  obtain ⟨r, c, ⟨r1, r2⟩, ⟨c1, c2⟩, hd⟩ := hasB_iff.1 h
  refine hasB_iff.2 ⟨c, r, ⟨c1, c2⟩, ⟨r1, r2⟩, ?_⟩
  have e0 : ((turnL l).getD 0 []).length = n := (tabF_len _ _ _ _ (by omega)).trans hn
  have e1 : (turnL l).length = m := (turnL_length l).trans hmm
  have g1 := popcS_sel ⟨n, by omega⟩ ⟨r, by omega⟩ r1
  have g2 := popcS_sel ⟨m, by omega⟩ ⟨c, by omega⟩ c1
  simp only at g1 g2
  have e : dt k (at2 (partL (turnL l) c r)) = dt k (fun i j => at2 (partL l r c) j i) := dt_congr k fun i j hi hj => by
    rw [partL_at (turnL l) c r (by rw [e1]; omega) (by rw [e0]; omega), partL_at l r c (by rw [hn]; omega) (by rw [hmm]; omega), e0, e1, hn, hmm]
    exact tabF_at _ _ _ _ _ (by rw [hmm]; exact selN_lt (by omega)) (by rw [hn]; exact selN_lt (by omega))
  rw [e, dt_turn]
  exact hd
theorem turn_turn {l : List (List Int)} (hT : TabIn l) : TabIn (turnL l) ∧ (turnL l).length = (l.getD 0 []).length ∧ ((turnL l).getD 0 []).length = l.length :=
  ⟨tabIn_of (tabIn_turn hT), turnL_length l, tabF_len _ _ _ _ (by have := hT.width; omega)⟩
theorem turnL_back {l : List (List Int)} {n m k : Nat} (hT : TabIn l) (hn : l.length = n) (hmm : (l.getD 0 []).length = m) (h : hasB (turnL l) k (2 ^ m) (2 ^ n) = true) : hasB l k (2 ^ n) (2 ^ m) = true := by
  obtain ⟨h1, h2, h3⟩ := turn_turn hT
  have := has_turn h1 (h2.trans hmm) (h3.trans hn) h
  rw [turnL_turnL hT] at this
  exact this
theorem rank_turn {l : List (List Int)} {n m : Nat} (hT : TabIn l) (hn : l.length = n) (hmm : (l.getD 0 []).length = m) : rkR (turnL l) (2 ^ n) (2 ^ m) = rkR l (2 ^ m) (2 ^ n) := by
  have h6 := hT.2.1
  have hw := hT.width
  obtain ⟨_, _, a3⟩ := rank_down (l := l) (n := n) (m := m) (by omega) (by omega)
  obtain ⟨_, _, b3⟩ := rank_down (l := turnL l) (n := m) (m := n) (by omega) (by omega)
  have q1 : rkR l (2 ^ m) (2 ^ n) ≤ rkR (turnL l) (2 ^ n) (2 ^ m) := by
    by_cases h0 : 1 ≤ rkR l (2 ^ m) (2 ^ n)
    · cases hb : hasB l (rkR l (2 ^ m) (2 ^ n)) (2 ^ n) (2 ^ m) with
      | false => exact absurd rfl ((a3 _ h0).2 hb)
      | true => exact (b3 _ h0).1 (has_turn hT hn hmm hb)
    · omega
  have q2 : rkR (turnL l) (2 ^ n) (2 ^ m) ≤ rkR l (2 ^ m) (2 ^ n) := by
    by_cases h0 : 1 ≤ rkR (turnL l) (2 ^ n) (2 ^ m)
    · cases hb : hasB (turnL l) (rkR (turnL l) (2 ^ n) (2 ^ m)) (2 ^ m) (2 ^ n) with
      | false => exact absurd rfl ((b3 _ h0).2 hb)
      | true => exact (a3 _ h0).1 (turnL_back hT hn hmm hb)
    · omega
  omega
theorem popc_full : ∀ n : Fin 7, ∀ s : Fin 64, s.val < 2 ^ n.val → popcS s.val = n.val → s.val = 2 ^ n.val - 1 := by decide +kernel
theorem popc_all : ∀ n : Fin 7, popcS (2 ^ n.val - 1) = n.val := by decide +kernel
theorem rank_full {l : List (List Int)} {n : Nat} (h : sqB l = true) (hn : l.length = n) : rkR l (2 ^ n) (2 ^ n) = n ↔ ordF l n n 0 ≠ 0 := by
  obtain ⟨hT, hw⟩ := sqB_of h
  have h6 := hT.2.1
  have h1 := hT.1
  have p1 : 2 ^ n ≤ 2 ^ 6 := Nat.pow_le_pow_right (by omega) (by omega)
  have q1 : 1 ≤ 2 ^ n := Nat.pow_pos (by omega)
  obtain ⟨a1, _, a3⟩ := rank_down (l := l) (n := n) (m := n) (by omega) (by omega)
  obtain ⟨c1, c2⟩ := a3 n (by omega)
  have hf : partL l (2 ^ n - 1) (2 ^ n - 1) = l := by
    have := partL_full hT.rec
    rw [← hw, hn] at this
    exact this
  rw [ordF_all _ (by omega)]
  have e : hasB l n (2 ^ n) (2 ^ n) = true ↔ dt n (at2 l) ≠ 0 := by
    rw [hasB_iff]
    constructor
    · rintro ⟨r, c, ⟨r1, r2⟩, ⟨s1, s2⟩, hd⟩
      have e1 := popc_full ⟨n, by omega⟩ ⟨r, by omega⟩ r1 r2
      have e2 := popc_full ⟨n, by omega⟩ ⟨c, by omega⟩ s1 s2
      simp only at e1 e2
      rw [e1, e2, hf] at hd
      exact hd
    · intro hd
      have e3 := popc_all ⟨n, by omega⟩
      exact ⟨2 ^ n - 1, 2 ^ n - 1, ⟨by omega, e3⟩, ⟨by omega, e3⟩, by rw [hf]; exact hd⟩
  constructor
  · intro hr
    cases hb : hasB l n (2 ^ n) (2 ^ n) with
    | false => exact absurd hr (c2 hb)
    | true => exact e.1 hb
  · intro hd
    have := c1 (e.2 hd)
    omega

end Go.Proofs.Ytggmiojhglkcgaa
end

section
namespace Go.Proofs.Ytggmiojhglkcgaa
open Go.RowKit Go.Deep

theorem popcS_but : ∀ n : Fin 7, ∀ k : Fin 6, k.val < n.val → popcS (2 ^ n.val - 1 - 2 ^ k.val) = n.val - 1 := by decide +kernel
theorem but_lt : ∀ n : Fin 7, ∀ k : Fin 6, k.val < n.val → 2 ^ n.val - 1 - 2 ^ k.val < 2 ^ n.val ∧ 2 ^ n.val - 1 - 2 ^ k.val ≤ 63 := by decide +kernel

def othF (l : List (List Int)) (n i k : Nat) : Int := sg (i + k) (ordF (partL l (2 ^ n - 1 - 2 ^ k) (2 ^ n - 1 - 2 ^ i)) (n - 1) (n - 1) 0)
def otherR (l : List (List Int)) (n i j : Nat) : List Int := (List.range j).map fun k => othF l n i k
theorem otherR_succ (l : List (List Int)) (n i j : Nat) : otherR l n i (j + 1) = otherR l n i j ++ [othF l n i j] := by simp [otherR, List.range_succ]
theorem otherR_length (l : List (List Int)) (n i j : Nat) : (otherR l n i j).length = j := by simp [otherR]
def otherTo (l : List (List Int)) (n r : Nat) : List (List Int) := (List.range r).map fun i => otherR l n i n
theorem otherTo_succ (l : List (List Int)) (n r : Nat) : otherTo l n (r + 1) = otherTo l n r ++ [otherR l n r n] := by simp [otherTo, List.range_succ]
theorem otherTo_length (l : List (List Int)) (n r : Nat) : (otherTo l n r).length = r := by simp [otherTo]
theorem otherTo_all (l : List (List Int)) (n : Nat) : otherTo l n n = tabF n n (othF l n) := rfl
theorem RB.later {wo wr w1 : World} {v : Value} {x : List Int} (h : RB wo wr v x) (hs : wr.Since wr.heap.size w1) : RB wo w1 v x :=
  ⟨h.since.trans (since_mono hs h.since.size), World.ownsRow.kept h.own (row := none) ⟨hs.os, hs.tape, hs.output, hs.size, fun k hk _ => hs.block k hk⟩ (by cases hv : v.ownBlock <;> simp)⟩

end Go.Proofs.Ytggmiojhglkcgaa
end

section
namespace Go.Proofs.Ytggmiojhglkcgaa
open Go.RowKit Go.Deep

def timesL (l : List (List Int)) (f : Int) : List (List Int) := tabF l.length (l.getD 0 []).length fun i k => at2 l i k * f
theorem timesL_length (l : List (List Int)) (f : Int) : (timesL l f).length = l.length := tabF_length _ _ _
theorem mul_bd {a b : Int} (h1 : -30 ≤ a) (h2 : a ≤ 30) (h3 : -30 ≤ b) (h4 : b ≤ 30) : -900 ≤ a * b ∧ a * b ≤ 900 := by
  have h : ∀ x : Nat, ∀ y : Nat, x ≤ 30 → y ≤ 30 → x * y ≤ 900 := fun x y hx hy => Nat.le_trans (Nat.mul_le_mul hx hy) (by decide)
  have h5 := h a.natAbs b.natAbs (by omega) (by omega)
  rw [← Int.natAbs_mul] at h5
  omega

noncomputable def timesOk (l : List (List Int)) (f : Int) : Bool := tabIn l && (inB f (-30) 30 && tabIn (timesL l f))
theorem szL_times {l : List (List Int)} (f : Int) (h : TabIn l) : szL (timesL l f) ≤ 1048576 := szL_tabF _ _ _ (by have := h.2.1; omega) (by have := h.width; omega)

end Go.Proofs.Ytggmiojhglkcgaa
end

section
namespace Go.Proofs.Ytggmiojhglkcgaa
open Go.RowKit Go.Deep

theorem szL_timesOk (l : List (List Int)) (f : Int) (h : timesOk l f = true) : szL (timesL l f) ≤ 1048576 := by
  unfold timesOk at h
  rw [Bool.and_eq_true] at h
  exact szL_times f (tabIn_of h.1)

end Go.Proofs.Ytggmiojhglkcgaa
end

section
namespace Go.Proofs.Ytggmiojhglkcgaa
open Go.RowKit Go.Deep

def sumL (l u : List (List Int)) : List (List Int) := tabF l.length (l.getD 0 []).length fun i k => at2 l i k + at2 u i k
theorem sumL_length (l u : List (List Int)) : (sumL l u).length = l.length := tabF_length _ _ _

def alikeB (l u : List (List Int)) : Bool := (l.length == u.length) && ((l.getD 0 []).length == (u.getD 0 []).length)
noncomputable def sumOk (l u : List (List Int)) : Bool := tabIn l && (tabIn u && (alikeB l u && tabIn (sumL l u)))
theorem szL_sum {l : List (List Int)} (u : List (List Int)) (h : TabIn l) : szL (sumL l u) ≤ 1048576 := szL_tabF _ _ _ (by have := h.2.1; omega) (by have := h.width; omega)

end Go.Proofs.Ytggmiojhglkcgaa
end

section
namespace Go.Proofs.Ytggmiojhglkcgaa
open Go.RowKit Go.Deep

end Go.Proofs.Ytggmiojhglkcgaa
end

section
namespace Go.Proofs.Ytggmiojhglkcgaa
open Go.RowKit Go.Deep

theorem szL_sumOk (l u : List (List Int)) (h : sumOk l u = true) : szL (sumL l u) ≤ 1048576 := by
  unfold sumOk at h
  rw [Bool.and_eq_true] at h
  exact szL_sum u (tabIn_of h.1)

end Go.Proofs.Ytggmiojhglkcgaa
end

section
namespace Go.Proofs.Ytggmiojhglkcgaa
open Go.RowKit Go.Deep

def makeL (l u : List (List Int)) : List (List Int) := tabF l.length (u.getD 0 []).length fun i k => sumN (dotF l u i k) u.length
theorem makeL_length (l u : List (List Int)) : (makeL l u).length = l.length := tabF_length _ _ _

set_option maxRecDepth 100000 in
set_option maxHeartbeats 2000000 in
theorem product_any (a : Option Addr) (cap n : Nat) (l : List (List Int)) (a2 : Option Addr) (cap2 n2 : Nat) (u : List (List Int)) (w : World) (hn : l.length = n) (hT : TabIn l) (hm : MatR w a l) (hu : u.length = n2) (hTu : TabIn u) (huw : (l.getD 0 []).length = n2) (hmu : MatR w a2 u) :
    Calls Try.prog 62 #[.slice a n cap, .slice a2 n2 cap2] w fun e w' => e = .returned (.slice (some ⟨w.heap.size + 1 + 1, 0, none⟩) n n) ∧ w.Since w.heap.size w' ∧ OwnT w.heap.size w'.heap.size w' (some ⟨w.heap.size + 1 + 1, 0, none⟩) (makeL l u) := by
  have hw := hTu.width
  have h6 := hT.2.1
  rw [hn] at h6
  have g6 := hTu.2.1
  have g1 := hTu.1
  rw [hu] at g6 g1
  have hwid := fun (W : World) (hs : w.Since w.heap.size W) => width_any a2 cap2 n2 u W hu (by omega) (by omega) (hmu.since hs)
  obtain ⟨m2, hmm⟩ : ∃ m, (u.getD 0 []).length = m := ⟨_, rfl⟩
  have hnt := fun (W : World) (hs : w.Since w.heap.size W) (hb0 : W.cell? ⟨w.heap.size, 0, none⟩ = some (.slice a n cap)) (hb1 : W.cell? ⟨w.heap.size + 1, 0, none⟩ = some (.slice a2 n2 cap2)) =>
    newTable_any 108 #[.pointer (some ⟨w.heap.size + 1, 0, none⟩), .pointer (some ⟨w.heap.size, 0, none⟩)] n m2 (fun i k => sumN (dotF l u i k) n2) W (by omega) (by omega) (enters_of Try.func108 (by kernel_rfl) rfl)
      (fun W' i k hs' hi hk => prodEntry_any (w.heap.size + 1) w.heap.size i k n n2 n2 m2 cap cap2 a a2 l u W' hn hu hT hTu huw hmm rfl ((hs'.cell (a := ⟨w.heap.size + 1, 0, none⟩) (World.block_lt_of_cell? _ _ hb1)).trans hb1) ((hs'.cell (a := ⟨w.heap.size, 0, none⟩) (World.block_lt_of_cell? _ _ hb0)).trans hb0) (hm.since (hs.trans (since_mono hs' hs.size))) (hmu.since (hs.trans (since_mono hs' hs.size))) hi hk)
  have htl : makeL l u = tabF n m2 (fun i k => sumN (dotF l u i k) n2) := by unfold makeL; rw [hmm, hn, hu]
  rw [hmm] at hwid hw
  rw [htl]
  have HW := Lib.hid hwid
  have HNT := Lib.hid hnt
  have HS1 := Lib.hid (show w.Since w.heap.size ((w.alloc (.cells #[.slice a n cap] 59)).alloc (.cells #[.slice a2 n2 cap2] 59)) from (((World.Since.refl _ _).alloc (Nat.le_refl _) _).alloc (by simp) _))
  have hc0 := cell_new_l w (.slice a n cap) 59
  have hc1 := cell_new_l (w.alloc (.cells #[.slice a n cap] 59)) (.slice a2 n2 cap2) 59
  simp only [World.size_alloc] at hc1
  have hcb0 : ((w.alloc (.cells #[.slice a n cap] 59)).alloc (.cells #[.slice a2 n2 cap2] 59)).cell? ⟨w.heap.size, 0, none⟩ = some (.slice a n cap) := (cell_alloc_l _ hc0.1)
  have hcb1 : ((w.alloc (.cells #[.slice a n cap] 59)).alloc (.cells #[.slice a2 n2 cap2] 59)).cell? ⟨w.heap.size + 1, 0, none⟩ = some (.slice a2 n2 cap2) := hc1.1
  clear hwid hnt hm hT hn hmm htl hc0 hc1 hu hTu huw hmu
  go_enter Try.func62, Try.ntmps62
  go_wp2
  go_region_held3 (fun w' => w'.cell? ⟨w.heap.size, 0, none⟩ = some (.slice a n cap) ∧ w'.cell? ⟨w.heap.size + 1, 0, none⟩ = some (.slice a2 n2 cap2)) (go_keep)
    (first
      | (go_at_call 88; refine (HW.out _ ?_).mono ?_; (exact World.Since.drew HS1.out); rintro e w1 ⟨rfl, rfl⟩)
      | (go_at_call 106; refine (HNT.out _ ?_ ?_ ?_).mono ?_; (exact World.Since.drew HS1.out); (exact hcb0); (exact hcb1); rintro e w1 ⟨rfl, hs2, ho⟩; have hcc := hs2.cell (a := ⟨w.heap.size, 0, none⟩) (World.block_lt_of_cell? _ _ hcb0); simp only [World.cell?_drew, hcb0] at hcc; have hcd := hs2.cell (a := ⟨w.heap.size + 1, 0, none⟩) (World.block_lt_of_cell? _ _ hcb1); simp only [World.cell?_drew, hcb1] at hcd))
  all_goals
    go_wp2
    go_ret
    refine ⟨rfl, HS1.out.trans (since_mono (since_of_drew hs2) (by simp; omega)), ?_⟩
    have hz : ((w.alloc (.cells #[.slice a n cap] 59)).alloc (.cells #[.slice a2 n2 cap2] 59)).drew.heap.size = w.heap.size + 1 + 1 := by simp
    rw [hz] at ho
    exact ho.mono (by omega) (Nat.le_refl _)

noncomputable def makeOk (l u : List (List Int)) : Bool := tabIn l && (tabIn u && (((l.getD 0 []).length == u.length) && tabIn (makeL l u)))
theorem szL_make {l u : List (List Int)} (h : TabIn l) (hu : TabIn u) : szL (makeL l u) ≤ 1048576 := szL_tabF _ _ _ (by have := h.2.1; omega) (by have := hu.width; omega)

end Go.Proofs.Ytggmiojhglkcgaa
end

section
namespace Go.Proofs.Ytggmiojhglkcgaa
open Go.RowKit Go.Deep

def mv (r i : Nat) : Nat := if i = 0 then r else if i ≤ r then i - 1 else i
theorem mv_zero (i : Nat) : mv 0 i = i := by unfold mv; repeat (first | split | omega)
theorem mv_succ (r i : Nat) : ex r (r + 1) (mv r i) = mv (r + 1) i := by unfold mv ex; repeat (first | split | omega)
theorem mv_skip (r i : Nat) : mv r (i + 1) = skip r i := by unfold mv skip; repeat (first | split | omega)
theorem dt_mv {n : Nat} : ∀ (r : Nat) (f : Nat → Nat → Int), r < n → dt n (fun i j => f (mv r i) j) = sn r * dt n f
  | 0, f, _ => by
    rw [sn_zero, Int.one_mul]
    exact dt_congr n fun i j _ _ => by rw [mv_zero]
  | r + 1, f, h => by
    have e : (fun i j => f (mv (r + 1) i) j) = fun i j => (fun i j => f (ex r (r + 1) i) j) (mv r i) j := by
      funext i j
      show _ = f (ex r (r + 1) (mv r i)) j
      rw [mv_succ]
    rw [e, dt_mv r (fun i j => f (ex r (r + 1) i) j) (by omega), dt_exR f (by omega) (by omega) h, sn_succ]
    rw [Int.mul_neg, Int.neg_mul]
theorem dt_row {n r : Nat} (f : Nat → Nat → Int) (h : r < n + 1) : dt (n + 1) f = sumN (fun k => f r k * (sn (r + k) * dt n (fun i j => f (skip r i) (skip k j)))) (n + 1) := by
  have e := dt_mv r f h
  have e2 : sn r * (sn r * dt (n + 1) f) = dt (n + 1) f := by rw [← Int.mul_assoc, sn_sq, Int.one_mul]
  rw [← e2, ← e, dt_succ, ← sumN_mul]
  refine sumN_congr _ fun k _ => ?_
  have e3 : dr k (fun i j => f (mv r i) j) = fun i j => f (skip r i) (skip k j) := by
    funext i j
    show f (mv r (i + 1)) (skip k j) = _
    rw [mv_skip]
  rw [e3, sn_add]
  show sn r * (sn k * (f (mv r 0) k * _)) = _
  have e4 : mv r 0 = r := rfl
  rw [e4]
  grind
theorem dt_alien {n r s : Nat} (f : Nat → Nat → Int) (hr : r < n + 1) (hs : s < n + 1) : sumN (fun k => f s k * (sn (r + k) * dt n (fun i j => f (skip r i) (skip k j)))) (n + 1) = if s = r then dt (n + 1) f else 0 := by
  by_cases e : s = r
  · subst e
    rw [if_pos rfl, ← dt_row f hs]
  · rw [if_neg e, ← dt_sameR (n := n + 1) (setR f r (f s)) (p := s) (q := r) e hs hr (fun j _ => by unfold setR; rw [if_neg e, if_pos rfl]), dt_row _ hr]
    refine sumN_congr _ fun k _ => ?_
    have e3 : (fun i j => setR f r (f s) (skip r i) (skip k j)) = fun i j => f (skip r i) (skip k j) := by
      funext i j
      unfold setR
      rw [if_neg (by unfold skip; split <;> omega)]
    rw [e3]
    unfold setR
    rw [if_pos rfl]
theorem othF_dt {l : List (List Int)} {n i k : Nat} (hT : TabIn l) (hn : l.length = n) (hw : (l.getD 0 []).length = n) (hi : i < n) (hk : k < n) : othF l n i k = sn (k + i) * dt (n - 1) (fun a b => at2 l (skip k a) (skip i b)) := by
  have h6 := hT.2.1
  unfold othF
  rw [sg_sn, ordF_all _ (by omega), Nat.add_comm i k]
  congr 1
  exact dt_congr _ fun a b ha hb => partL_but hn hw (by omega) hk hi (by omega) (by omega)
theorem other_left {l : List (List Int)} {n i k : Nat} (hT : TabIn l) (hn : l.length = n) (hw : (l.getD 0 []).length = n) (hi : i < n) (hk : k < n) :
    sumN (fun j => at2 l i j * othF l n j k) n = if i = k then dt n (at2 l) else 0 := by
  obtain ⟨m, rfl⟩ : ∃ m, n = m + 1 := ⟨n - 1, by omega⟩
  rw [← dt_alien (at2 l) hk hi]
  exact sumN_congr _ fun j hj => by rw [othF_dt hT hn hw hj hk]; rfl
theorem other_right {l : List (List Int)} {n i k : Nat} (hT : TabIn l) (hn : l.length = n) (hw : (l.getD 0 []).length = n) (hi : i < n) (hk : k < n) :
    sumN (fun j => othF l n i j * at2 l j k) n = if i = k then dt n (at2 l) else 0 := by
  obtain ⟨m, rfl⟩ : ∃ m, n = m + 1 := ⟨n - 1, by omega⟩
  have h := dt_alien (fun a b => at2 l b a) (r := i) (s := k) hi hk
  rw [dt_turn] at h
  have e : (if i = k then dt (m + 1) (at2 l) else 0) = if k = i then dt (m + 1) (at2 l) else 0 := by
    by_cases e : i = k
    · rw [if_pos e, if_pos e.symm]
    · rw [if_neg e, if_neg (fun h => e h.symm)]
  rw [e, ← h]
  refine sumN_congr _ fun j hj => ?_
  rw [othF_dt hT hn hw hi hj, Nat.add_comm j i, Int.mul_comm]
  show at2 l j k * _ = at2 l j k * (sn (i + j) * dt m (fun a b => at2 l (skip j b) (skip i a)))
  rw [← dt_turn m (fun a b => at2 l (skip j b) (skip i a))]
  rfl
theorem othF_bd {l : List (List Int)} {n i k : Nat} (hT : TabIn l) (hn : l.length = n) (hw : (l.getD 0 []).length = n) (hi : i < n) (hk : k < n) : -10000000000 ≤ othF l n i k ∧ othF l n i k ≤ 10000000000 := by
  have h6 := hT.2.1
  rw [othF_dt hT hn hw hi hk, ← sg_sn]
  refine sg_bd ?_
  have hb := dt_bd (n - 1) (fun a b => at2 l (skip k a) (skip i b)) (by omega) (fun a b ha hb => hT.at (by have := skip_bd (k := k) ha; omega) (by have := skip_bd (k := i) hb; omega))
  have hB : bdN (n - 1) ≤ 10000000000 := by
    have : n - 1 ≤ 5 := by omega
    match n - 1, this with
    | 0, _ => decide
    | 1, _ => decide
    | 2, _ => decide
    | 3, _ => decide
    | 4, _ => decide
    | 5, _ => decide
  omega
theorem rec_tabF {n m : Nat} (f : Nat → Nat → Int) (hn : 1 ≤ n ∧ n ≤ 6) (hm : 1 ≤ m ∧ m ≤ 6) : Rec (tabF n m f) := by
  have h0 : ((tabF n m f).getD 0 []).length = m := tabF_len _ _ _ _ (by omega)
  exact ⟨by rw [tabF_length]; omega, by rw [tabF_length]; omega, by rw [h0]; exact hm, fun hr => by rw [h0]; rw [tabF_length] at hr; exact tabF_len _ _ _ _ hr⟩
structure OtherM (l M : List (List Int)) (n : Nat) (v : Int) : Prop where
  len : M.length = n
  wid : (M.getD 0 []).length = n
  rec1 : Rec M
  b1 : ∀ i j k, i < n → j < n → k < (M.getD 0 []).length → -1000000000000 ≤ at2 l i j * at2 M j k ∧ at2 l i j * at2 M j k ≤ 1000000000000
  b2 : ∀ i j k, i < n → j < n → k < (l.getD 0 []).length → -1000000000000 ≤ at2 M i j * at2 l j k ∧ at2 M i j * at2 l j k ≤ 1000000000000
  l1 : (makeL l M).length = n
  l2 : (makeL M l).length = n
  w1 : ((makeL l M).getD 0 []).length = n
  w2 : ((makeL M l).getD 0 []).length = n
  r1 : Rec (makeL l M)
  r2 : Rec (makeL M l)
  e1 : ∀ i k, i < n → k < n → at2 (makeL l M) i k = if i = k then v else 0
  e2 : ∀ i k, i < n → k < n → at2 (makeL M l) i k = if i = k then v else 0
theorem otherM_of {l : List (List Int)} {n : Nat} (h : sqB l = true) (hn : l.length = n) : OtherM l (tabF n n (othF l n)) n (ordF l n n 0) := by
  obtain ⟨hT, hw⟩ := sqB_of h
  have h1 := hT.1
  have h6 := hT.2.1
  have hwn : (l.getD 0 []).length = n := by omega
  have hl : (tabF n n (othF l n)).length = n := tabF_length _ _ _
  have hmw : ((tabF n n (othF l n)).getD 0 []).length = n := tabF_len _ _ _ _ (by omega)
  have hat : ∀ i j, i < n → j < n → at2 (tabF n n (othF l n)) i j = othF l n i j := fun i j hi hj => tabF_at _ _ _ i j hi hj
  have hp : ∀ i j k, i < n → j < n → k < n → -1000000000000 ≤ at2 l i j * othF l n j k ∧ at2 l i j * othF l n j k ≤ 1000000000000 := fun i j k hi hj hk => by
    have b := hT.at (i := i) (k := j) (by omega) (by omega)
    have c := othF_bd hT hn hwn hj hk
    have := mul_bdB b.1 b.2 c.1 c.2
    omega
  have hp2 : ∀ i j k, i < n → j < n → k < n → -1000000000000 ≤ othF l n i j * at2 l j k ∧ othF l n i j * at2 l j k ≤ 1000000000000 := fun i j k hi hj hk => by
    have b := hT.at (i := j) (k := k) (by omega) (by omega)
    have c := othF_bd hT hn hwn hi hj
    have := mul_bdB b.1 b.2 c.1 c.2
    rw [Int.mul_comm]
    omega
  have g1 : 1 ≤ n ∧ n ≤ 6 := by omega
  have q1 : makeL l (tabF n n (othF l n)) = tabF n n fun i k => sumN (dotF l (tabF n n (othF l n)) i k) n := by unfold makeL; rw [hn, hl, hmw]
  have q2 : makeL (tabF n n (othF l n)) l = tabF n n fun i k => sumN (dotF (tabF n n (othF l n)) l i k) n := by unfold makeL; rw [hn, hl, hwn]
  refine ⟨hl, hmw, rec_tabF _ g1 g1, fun i j k hi hj hk => ?_, fun i j k hi hj hk => ?_, by rw [q1, tabF_length], by rw [q2, tabF_length], by rw [q1]; exact tabF_len _ _ _ _ (by omega), by rw [q2]; exact tabF_len _ _ _ _ (by omega), by rw [q1]; exact rec_tabF _ g1 g1, by rw [q2]; exact rec_tabF _ g1 g1, fun i k hi hk => ?_, fun i k hi hk => ?_⟩
  · rw [hmw] at hk
    rw [hat j k hj hk]
    exact hp i j k hi hj hk
  · rw [hwn] at hk
    rw [hat i j hi hj]
    exact hp2 i j k hi hj hk
  · rw [q1, show at2 (tabF n n fun i k => sumN (dotF l (tabF n n (othF l n)) i k) n) i k = sumN (dotF l (tabF n n (othF l n)) i k) n from tabF_at _ _ _ i k hi hk, ordF_all _ (by omega), ← other_left hT hn hwn hi hk]
    exact sumN_congr _ fun j hj => by show at2 l i j * at2 _ j k = _; rw [hat j k hj hk]
  · rw [q2, show at2 (tabF n n fun i k => sumN (dotF (tabF n n (othF l n)) l i k) n) i k = sumN (dotF (tabF n n (othF l n)) l i k) n from tabF_at _ _ _ i k hi hk, ordF_all _ (by omega), ← other_right hT hn hwn hi hk]
    exact sumN_congr _ fun j hj => by show at2 _ i j * at2 l j k = _; rw [hat i j hi hj]

end Go.Proofs.Ytggmiojhglkcgaa
end

section
namespace Go.Proofs.Ytggmiojhglkcgaa
open Go.RowKit Go.Deep

theorem sumN_some {f : Nat → Int} {n : Nat} (h : sumN f n ≠ 0) : ∃ i, i < n ∧ f i ≠ 0 :=
  Classical.byContradiction fun hno => h (sumN_none n fun j hj => Classical.byContradiction fun h2 => hno ⟨j, hj, h2⟩)
theorem dt_sumR {k r : Nat} (f : Nat → Nat → Int) (c : Nat → Int) (u : Nat → Nat → Int) (hr : r < k) : ∀ N, dt k (setR f r (fun j => sumN (fun m => c m * u m j) N)) = sumN (fun m => c m * dt k (setR f r (u m))) N
  | 0 => by
    have e := dt_lin k r f 0 0 (u 0) (u 0) hr
    rw [dt_congr k (g := setR f r (fun j => 0 * u 0 j + 0 * u 0 j)) (fun i j _ _ => by unfold setR; split <;> simp [sumN]), e]
    simp [sumN]
  | N + 1 => by
    have e := dt_lin k r f 1 (c N) (fun j => sumN (fun m => c m * u m j) N) (u N) hr
    rw [dt_congr k (g := setR f r (fun j => 1 * sumN (fun m => c m * u m j) N + c N * u N j)) (fun i j _ _ => by
      unfold setR
      split
      · have e2 : sumN (fun m => c m * u m j) (N + 1) = sumN (fun m => c m * u m j) N + c N * u N j := rfl
        dsimp only
        rw [e2]; omega
      · rfl), e, dt_sumR f c u hr N]
    have e3 : sumN (fun m => c m * dt k (setR f r (u m))) (N + 1) = sumN (fun m => c m * dt k (setR f r (u m))) N + c N * dt k (setR f r (u N)) := rfl
    rw [e3]
    omega

theorem dt_pickR {k N : Nat} (X Y : Nat → Nat → Int) (h : dt k (fun i j => sumN (fun m => X i m * Y m j) N) ≠ 0) : ∃ g : Nat → Nat, (∀ i, i < k → g i < N) ∧ dt k (fun i j => Y (g i) j) ≠ 0 := by
  have key : ∀ q, q ≤ k → ∃ g : Nat → Nat, (∀ i, i < q → g i < N) ∧ dt k (fun i j => if i < q then Y (g i) j else sumN (fun m => X i m * Y m j) N) ≠ 0 := by
    intro q
    induction q with
    | zero => exact fun _ => ⟨fun _ => 0, fun i hi => absurd hi (Nat.not_lt_zero _), by rw [dt_congr k (g := fun i j => sumN (fun m => X i m * Y m j) N) (fun i j _ _ => if_neg (Nat.not_lt_zero _))]; exact h⟩
    | succ q ih =>
      intro hq
      obtain ⟨g, hg, hd⟩ := ih (by omega)
      obtain ⟨M, hM⟩ : ∃ M : Nat → Nat → Int, M = fun i j => if i < q then Y (g i) j else sumN (fun m => X i m * Y m j) N := ⟨_, rfl⟩
      rw [← hM] at hd
      have e : dt k M = dt k (setR M q (fun j => sumN (fun m => X q m * Y m j) N)) := dt_congr k fun i j _ _ => by
        unfold setR
        split
        · rename_i hi; rw [hM, hi]; exact if_neg (Nat.lt_irrefl _)
        · rfl
      rw [e, dt_sumR M (X q) Y (by omega)] at hd
      obtain ⟨m, hm, hd2⟩ := sumN_some hd
      refine ⟨fun i => if i = q then m else g i, fun i hi => ?_, ?_⟩
      · show (if i = q then m else g i) < N
        split
        · exact hm
        · exact hg i (by omega)
      · rw [dt_congr k (g := setR M q (Y m)) (fun i j _ _ => by
          unfold setR
          dsimp only
          by_cases hi : i = q
          · rw [if_pos (by omega), if_pos hi, if_pos hi]
          · rw [if_neg hi, if_neg hi, hM]
            by_cases h2 : i < q
            · rw [if_pos (by omega)]; exact (if_pos h2).symm
            · rw [if_neg (by omega)]; exact (if_neg h2).symm)]
        exact fun h0 => hd2 (by rw [h0, Int.mul_zero])
  obtain ⟨g, hg, hd⟩ := key k (Nat.le_refl _)
  exact ⟨g, hg, by rw [dt_congr k (g := fun i j => if i < k then Y (g i) j else sumN (fun m => X i m * Y m j) N) (fun i j hi _ => (if_pos hi).symm)]; exact hd⟩
theorem mul_right_some {k n : Nat} {X Y : Nat → Nat → Int} {R C : Nat → Nat} (h : dt k (fun i j => mulF n X Y (R i) (C j)) ≠ 0) : ∃ g : Nat → Nat, (∀ i, i < k → g i < n) ∧ dt k (fun i j => Y (g i) (C j)) ≠ 0 :=
  dt_pickR (fun i m => X (R i) m) (fun m j => Y m (C j)) h
theorem mul_left_some {k n : Nat} {X Y : Nat → Nat → Int} {R C : Nat → Nat} (h : dt k (fun i j => mulF n X Y (R i) (C j)) ≠ 0) : ∃ g : Nat → Nat, (∀ i, i < k → g i < n) ∧ dt k (fun i j => X (R i) (g j)) ≠ 0 := by
  rw [← dt_turn] at h
  obtain ⟨g, hg, hd⟩ := dt_pickR (fun i m => Y m (C i)) (fun m j => X (R j) m) (by
    rw [dt_congr k (g := fun i j => mulF n X Y (R j) (C i)) (fun i j _ _ => sumN_congr n fun m _ => Int.mul_comm _ _)]
    exact h)
  rw [← dt_turn] at hd
  exact ⟨g, hg, hd⟩

theorem dt_someRC {k r : Nat} (M : Nat → Nat → Int) (h : dt (k + 1) M ≠ 0) (hr : r < k + 1) : ∃ c, c < k + 1 ∧ dt k (fun i j => M (skip r i) (skip c j)) ≠ 0 := by
  rw [dt_row M hr] at h
  obtain ⟨c, hc, hd⟩ := sumN_some h
  exact ⟨c, hc, fun h0 => hd (by rw [h0, Int.mul_zero, Int.mul_zero])⟩
theorem dt_zeroR {k r : Nat} (M : Nat → Nat → Int) (hr : r < k) (h : ∀ j, j < k → M r j = 0) : dt k M = 0 := by
  obtain ⟨m, rfl⟩ : ∃ m, k = m + 1 := ⟨k - 1, by omega⟩
  rw [dt_row M hr]
  exact sumN_none _ fun j hj => by rw [h j hj, Int.zero_mul]
theorem dt_zeroC {k c : Nat} (M : Nat → Nat → Int) (hc : c < k) (h : ∀ i, i < k → M i c = 0) : dt k M = 0 := by
  rw [← dt_turn]
  exact dt_zeroR (fun i j => M j i) hc h

theorem low_rows (M : Nat → Nat → Int) : ∀ (v k : Nat) (g h : Nat → Nat), dt k (fun i j => M (g i) (h j)) ≠ 0 →
    ∃ (t : Nat) (g' h' : Nat → Nat), k ≤ t + v ∧ (∀ i, i < t → v ≤ g' i ∧ ∃ i0, i0 < k ∧ g' i = g i0) ∧ (∀ j, j < t → ∃ j0, j0 < k ∧ h' j = h j0) ∧ dt t (fun i j => M (g' i) (h' j)) ≠ 0
  | 0, k, g, h, hd => ⟨k, g, h, by omega, fun i hi => ⟨Nat.zero_le _, i, hi, rfl⟩, fun j hj => ⟨j, hj, rfl⟩, hd⟩
  | v + 1, k, g, h, hd => by
    obtain ⟨t, g', h', h1, h2, h3, h4⟩ := low_rows M v k g h hd
    by_cases hex : ∃ i0, i0 < t ∧ g' i0 = v
    · obtain ⟨i0, hi0, hv⟩ := hex
      obtain ⟨t1, rfl⟩ : ∃ t1, t = t1 + 1 := ⟨t - 1, by omega⟩
      obtain ⟨c, hc, hd2⟩ := dt_someRC (fun i j => M (g' i) (h' j)) h4 hi0
      refine ⟨t1, fun i => g' (skip i0 i), fun j => h' (skip c j), by omega, fun i hi => ?_, fun j hj => h3 _ (skip_bd hj), hd2⟩
      have hs := skip_bd (k := i0) hi
      obtain ⟨a1, a2⟩ := h2 _ hs
      refine ⟨?_, a2⟩
      have hne : g' (skip i0 i) ≠ g' i0 := fun e => h4 (dt_sameR (fun i j => M (g' i) (h' j)) (p := skip i0 i) (q := i0) (by unfold skip; split <;> omega) hs hi0 (fun j _ => by show M (g' _) _ = M (g' _) _; rw [e]))
      show v + 1 ≤ g' (skip i0 i)
      omega
    · refine ⟨t, g', h', by omega, fun i hi => ?_, h3, h4⟩
      obtain ⟨a1, a2⟩ := h2 i hi
      exact ⟨by have : g' i ≠ v := fun e => hex ⟨i, hi, e⟩
                omega, a2⟩

def sylR (n b : Nat) (A B : Nat → Nat → Int) (R C : Nat → Nat) (i j : Nat) : Int := if i < n then (if j < b then B i (C j) else if i = j - b then 1 else 0) else (if j < b then -(mulF n A B (R (i - n)) (C j)) else 0)
def sylP (n : Nat) (A : Nat → Nat → Int) (R : Nat → Nat) (i m : Nat) : Int := if i < n then (if i = m then 1 else 0) else (if m < n then A (R (i - n)) m else if i = m then 1 else 0)
theorem syl_top {n a b : Nat} {A B : Nat → Nat → Int} {R C : Nat → Nat} {i j : Nat} (hi : i < n) : mulF (n + a) (sylP n A R) (sylR n b A B R C) i j = sylR n b A B R C i j := by
  unfold mulF
  rw [sumN_one _ i (n + a) (by omega) (fun m _ hm => by unfold sylP; rw [if_pos hi, if_neg (fun e => hm e.symm), Int.zero_mul])]
  unfold sylP
  rw [if_pos hi, if_pos rfl, Int.one_mul]
theorem sumN_splitM (f : Nat → Int) (n : Nat) : ∀ m, sumN f (n + m) = sumN f n + sumN (fun j => f (n + j)) m
  | 0 => by simp [sumN]
  | m + 1 => by
    show sumN f (n + m) + f (n + m) = sumN f n + (sumN (fun j => f (n + j)) m + f (n + m))
    rw [sumN_splitM f n m]; omega
theorem syl_low {n a b : Nat} {A B : Nat → Nat → Int} {R C : Nat → Nat} {i j : Nat} (hi : i < a) : mulF (n + a) (sylP n A R) (sylR n b A B R C) (n + i) j = sumN (fun m => A (R i) m * sylR n b A B R C m j) n + sylR n b A B R C (n + i) j := by
  unfold mulF
  rw [sumN_splitM, sumN_one (fun q => sylP n A R (n + i) (n + q) * sylR n b A B R C (n + q) j) i a hi (fun m _ hm => by
    unfold sylP; rw [if_neg (by omega), if_neg (by omega), if_neg (by omega), Int.zero_mul])]
  congr 1
  · exact sumN_congr n fun m hm => by unfold sylP; rw [if_neg (by omega), if_pos hm, show n + i - n = i by omega]
  · unfold sylP; rw [if_neg (by omega), if_neg (by omega), if_pos rfl, Int.one_mul]
theorem syl_low0 {n a b : Nat} {A B : Nat → Nat → Int} {R C : Nat → Nat} {i j : Nat} (hi : i < a) (hj : j < b) : mulF (n + a) (sylP n A R) (sylR n b A B R C) (n + i) j = 0 := by
  rw [syl_low hi]
  have e : sumN (fun m => A (R i) m * sylR n b A B R C m j) n = mulF n A B (R i) (C j) := sumN_congr n fun m hm => by unfold sylR; rw [if_pos hm, if_pos hj]
  rw [e]
  unfold sylR
  rw [if_neg (by omega), if_pos hj, show n + i - n = i by omega]
  omega
theorem syl_low1 {n a b : Nat} {A B : Nat → Nat → Int} {R C : Nat → Nat} {i j : Nat} (hi : i < a) (hj : j < n) : mulF (n + a) (sylP n A R) (sylR n b A B R C) (n + i) (b + j) = A (R i) j := by
  rw [syl_low hi, sumN_one _ j n hj (fun m hm hmj => by unfold sylR; rw [if_pos hm, if_neg (by omega), if_neg (by omega), Int.mul_zero])]
  unfold sylR
  rw [if_pos hj, if_neg (by omega), if_pos (by omega), if_neg (by omega), if_neg (by omega)]
  omega

theorem syl_rank {A B : Nat → Nat → Int} {n a b : Nat} {R J K C : Nat → Nat} (hJ : ∀ j, j < a → J j < n) (hK : ∀ i, i < b → K i < n) (hA : dt a (fun i j => A (R i) (J j)) ≠ 0) (hB : dt b (fun i j => B (K i) (C j)) ≠ 0) :
    ∃ (t : Nat) (g h : Nat → Nat), a + b ≤ t + n ∧ (∀ i, i < t → g i < a) ∧ (∀ j, j < t → h j < b) ∧ dt t (fun i j => mulF n A B (R (g i)) (C (h j))) ≠ 0 := by
  obtain ⟨ρ, hρ⟩ : ∃ ρ : Nat → Nat, ρ = fun i => if i < b then K i else n + (i - b) := ⟨_, rfl⟩
  obtain ⟨γ, hγ⟩ : ∃ γ : Nat → Nat, γ = fun j => if j < b then j else b + J (j - b) := ⟨_, rfl⟩
  have r1 : ∀ i, i < b → ρ i = K i := fun i hi => by rw [hρ]; exact if_pos hi
  have r2 : ∀ i, ρ (b + i) = n + i := fun i => by rw [hρ]; show (if b + i < b then _ else _) = _; rw [if_neg (by omega)]; omega
  have c1 : ∀ j, j < b → γ j = j := fun j hj => by rw [hγ]; exact if_pos hj
  have c2 : ∀ j, γ (b + j) = b + J j := fun j => by rw [hγ]; show (if b + j < b then _ else b + J (b + j - b)) = _; rw [if_neg (by omega), show b + j - b = j by omega]
  have hdet : dt (b + a) (fun i j => mulF (n + a) (sylP n A R) (sylR n b A B R C) (ρ i) (γ j)) = dt b (fun i j => B (K i) (C j)) * dt a (fun i j => A (R i) (J j)) := by
    rw [← dt_turn, dt_block a b _ (fun i j hi hj hN => by
      obtain ⟨j', rfl⟩ : ∃ j', j = b + j' := ⟨j - b, by omega⟩
      rw [r2, c1 i hi]
      exact syl_low0 (by omega) hi)]
    rw [← dt_turn b (fun i j => B (K i) (C j)), ← dt_turn a (fun i j => A (R i) (J j))]
    congr 1
    · exact dt_congr b fun i j hi hj => by
        rw [r1 j hj, c1 i hi, syl_top (hK j hj)]
        unfold sylR
        rw [if_pos (hK j hj), if_pos hi]
    · exact dt_congr a fun i j hi hj => by
        rw [r2, c2]
        exact syl_low1 hj (hJ i hi)
  obtain ⟨g, hg, hd⟩ := mul_right_some (n := n + a) (X := sylP n A R) (Y := sylR n b A B R C) (R := ρ) (C := γ) (k := b + a) (by rw [hdet]; exact Int.mul_ne_zero hB hA)
  obtain ⟨t, g', h', e1, e2, e3, e4⟩ := low_rows (sylR n b A B R C) n (b + a) g γ hd
  have hg' : ∀ i, i < t → n ≤ g' i ∧ g' i < n + a := fun i hi => by
    obtain ⟨x1, i0, x2, x3⟩ := e2 i hi
    have := hg i0 x2
    omega
  have hcol : ∀ j, j < t → h' j < b := fun j hj => Classical.byContradiction fun hno => e4 (dt_zeroC _ hj fun i hi => by
    have := hg' i hi
    show sylR n b A B R C (g' i) (h' j) = 0
    unfold sylR
    rw [if_neg (by omega), if_neg hno])
  refine ⟨t, fun i => g' i - n, h', by omega, fun i hi => by have := hg' i hi; show g' i - n < a; omega, hcol, fun h0 => e4 ?_⟩
  rw [dt_congr t (g := fun i j => (-1) * mulF n A B (R (g' i - n)) (C (h' j))) (fun i j hi hj => by
    have := hg' i hi
    unfold sylR
    rw [if_neg (by omega), if_pos (hcol j hj)]
    omega), dt_scale, h0, Int.mul_zero]

theorem add_bit : ∀ s : Fin 64, ∀ x : Fin 6, s.val.testBit x.val = false → popcS (s.val + 2 ^ x.val) = popcS s.val + 1 ∧ s.val + 2 ^ x.val < 64 ∧ (∀ y : Fin 6, (s.val + 2 ^ x.val).testBit y.val = (s.val.testBit y.val || decide (y = x))) := by decide +kernel
theorem in_pow : ∀ n : Fin 7, ∀ s : Fin 64, (∀ y : Fin 6, s.val.testBit y.val = true → y.val < n.val) → s.val < 2 ^ n.val := by decide +kernel
theorem selN_in : ∀ n : Fin 7, ∀ s : Fin 64, s.val < 2 ^ n.val → ∀ y : Fin 6, s.val.testBit y.val = true → ∃ i : Fin 6, i.val < popcS s.val ∧ selN s.val n.val i.val = y.val := by decide +kernel
theorem selN_inj : ∀ n : Fin 7, ∀ s : Fin 64, s.val < 2 ^ n.val → ∀ i j : Fin 6, i.val < popcS s.val → j.val < popcS s.val → selN s.val n.val i.val = selN s.val n.val j.val → i = j := by decide +kernel

theorem set_of {n : Nat} (hn : n ≤ 6) (R : Nat → Nat) : ∀ k, (∀ i, i < k → R i < n) → (∀ i j, i < k → j < k → R i = R j → i = j) → ∃ s, s < 64 ∧ popcS s = k ∧ (∀ i, i < k → s.testBit (R i) = true) ∧ ∀ y, y < 6 → s.testBit y = true → ∃ i, i < k ∧ R i = y
  | 0, _, _ => ⟨0, by omega, by decide, fun i hi => absurd hi (Nat.not_lt_zero _), fun y _ h => by simp at h⟩
  | k + 1, h1, h2 => by
    obtain ⟨s, s1, s2, s3, s4⟩ := set_of hn R k (fun i hi => h1 i (by omega)) (fun i j hi hj e => h2 i j (by omega) (by omega) e)
    have hk := h1 k (by omega)
    have hb : s.testBit (R k) = false := by
      cases hb : s.testBit (R k) with
      | false => rfl
      | true =>
        obtain ⟨i, hi, e⟩ := s4 (R k) (by omega) hb
        have := h2 i k (by omega) (by omega) e
        omega
    obtain ⟨a1, a2, a3⟩ := add_bit ⟨s, s1⟩ ⟨R k, by omega⟩ hb
    simp only at a1 a2 a3
    refine ⟨s + 2 ^ R k, a2, by omega, fun i hi => ?_, fun y hy h => ?_⟩
    · have hi6 := h1 i hi
      have := a3 ⟨R i, by omega⟩
      simp only at this
      rw [this]
      by_cases e : i = k
      · subst e; simp
      · rw [s3 i (by omega)]; simp
    · have := a3 ⟨y, hy⟩
      simp only at this
      rw [this, Bool.or_eq_true] at h
      rcases h with h | h
      · obtain ⟨i, hi, e⟩ := s4 y hy h
        exact ⟨i, by omega, e⟩
      · have e : (⟨y, hy⟩ : Fin 6) = ⟨R k, by omega⟩ := of_decide_eq_true h
        injection e with e
        exact ⟨k, by omega, e.symm⟩

theorem rows_set {n k : Nat} (hn : n ≤ 6) (f : Nat → Nat → Int) (R : Nat → Nat) (hR : ∀ i, i < k → R i < n) (h : dt k (fun i j => f (R i) j) ≠ 0) : ∃ s, s < 2 ^ n ∧ popcS s = k ∧ dt k (fun i j => f (selN s n i) j) ≠ 0 := by
  have hinj : ∀ i j, i < k → j < k → R i = R j → i = j := fun i j hi hj e => Classical.byContradiction fun hne => h (dt_sameR (fun i j => f (R i) j) hne hi hj (fun q _ => by show f (R i) q = f (R j) q; rw [e]))
  obtain ⟨s, s1, s2, s3, s4⟩ := set_of hn R k hR hinj
  have hs := in_pow ⟨n, by omega⟩ ⟨s, s1⟩ (fun y hy => by
    obtain ⟨i, hi, e⟩ := s4 y.val y.2 hy
    have := hR i hi
    show y.val < n
    omega)
  have hk6 := popcS_le s
  have hin : ∀ i, i < k → ∃ q, q < k ∧ selN s n q = R i := fun i hi => by
    have := hR i hi
    obtain ⟨q, q1, q2⟩ := selN_in ⟨n, by omega⟩ ⟨s, s1⟩ hs ⟨R i, by omega⟩ (s3 i hi)
    simp only at q1 q2
    exact ⟨q.val, by omega, q2⟩
  have hsj : ∀ i j, i < k → j < k → selN s n i = selN s n j → i = j := fun i j hi hj e => by
    have := selN_inj ⟨n, by omega⟩ ⟨s, s1⟩ hs ⟨i, by omega⟩ ⟨j, by omega⟩ (by show i < popcS s; omega) (by show j < popcS s; omega) e
    injection this
  refine ⟨s, hs, s2, fun h0 => h ?_⟩
  have e : dt k (fun i j => f (R i) j) = dt k (mulF k (fun i q => if R i = selN s n q then 1 else 0) (fun q j => f (selN s n q) j)) := dt_congr k fun i j hi hj => by
    obtain ⟨q, hq, e⟩ := hin i hi
    unfold mulF
    dsimp only
    rw [sumN_one _ q k hq (fun p hp hpq => by rw [if_neg (fun e2 => hpq (hsj p q hp hq (by rw [e, ← e2]))), Int.zero_mul]), if_pos e.symm, Int.one_mul, e]
  rw [e, dt_mul, h0, Int.mul_zero]

theorem rank_fun {l : List (List Int)} {n m k : Nat} (hT : TabIn l) (hn : l.length = n) (hm : (l.getD 0 []).length = m) {R C : Nat → Nat} (hR : ∀ i, i < k → R i < n) (hC : ∀ j, j < k → C j < m) (h : dt k (fun i j => at2 l (R i) (C j)) ≠ 0) : k ≤ rkR l (2 ^ m) (2 ^ n) := by
  have h6 := hT.2.1
  have hw := hT.width
  rw [hn] at h6
  rw [hm] at hw
  obtain ⟨r, r1, r2, hd⟩ := rows_set h6 (fun x j => at2 l x (C j)) R hR h
  rw [← dt_turn] at hd
  obtain ⟨c, c1, c2, hd2⟩ := rows_set hw.2 (fun y i => at2 l (selN r n i) y) C hC hd
  rw [← dt_turn] at hd2
  by_cases h0 : 1 ≤ k
  · obtain ⟨_, _, a3⟩ := rank_down (l := l) (n := n) (m := m) h6 hw.2
    have p1 : 2 ^ n ≤ 2 ^ 6 := Nat.pow_le_pow_right (by omega) h6
    have p2 : 2 ^ m ≤ 2 ^ 6 := Nat.pow_le_pow_right (by omega) hw.2
    have g1 := popcS_sel ⟨n, by omega⟩ ⟨r, by omega⟩ r1
    have g2 := popcS_sel ⟨m, by omega⟩ ⟨c, by omega⟩ c1
    simp only at g1 g2
    refine (a3 k h0).1 (hasB_iff.2 ⟨r, c, ⟨r1, r2⟩, ⟨c1, c2⟩, ?_⟩)
    rw [dt_congr k (g := fun i j => at2 l (selN r n i) (selN c m j)) (fun i j hi hj => by
      rw [partL_at l r c (by rw [hn]; omega) (by rw [hm]; omega), hn, hm])]
    exact hd2
  · omega
theorem rank_fun_of {l : List (List Int)} {n m : Nat} (hT : TabIn l) (hn : l.length = n) (hm : (l.getD 0 []).length = m) : ∃ R C : Nat → Nat, (∀ i, i < rkR l (2 ^ m) (2 ^ n) → R i < n) ∧ (∀ j, j < rkR l (2 ^ m) (2 ^ n) → C j < m) ∧ dt (rkR l (2 ^ m) (2 ^ n)) (fun i j => at2 l (R i) (C j)) ≠ 0 := by
  have h6 := hT.2.1
  have hw := hT.width
  rw [hn] at h6
  rw [hm] at hw
  by_cases h0 : 1 ≤ rkR l (2 ^ m) (2 ^ n)
  · obtain ⟨_, _, a3⟩ := rank_down (l := l) (n := n) (m := m) h6 hw.2
    cases hb : hasB l (rkR l (2 ^ m) (2 ^ n)) (2 ^ n) (2 ^ m) with
    | false => exact absurd rfl ((a3 _ h0).2 hb)
    | true =>
      obtain ⟨r, c, ⟨r1, r2⟩, ⟨c1, c2⟩, hd⟩ := hasB_iff.1 hb
      have p1 : 2 ^ n ≤ 2 ^ 6 := Nat.pow_le_pow_right (by omega) h6
      have p2 : 2 ^ m ≤ 2 ^ 6 := Nat.pow_le_pow_right (by omega) hw.2
      have g1 := popcS_sel ⟨n, by omega⟩ ⟨r, by omega⟩ r1
      have g2 := popcS_sel ⟨m, by omega⟩ ⟨c, by omega⟩ c1
      simp only at g1 g2
      refine ⟨selN r n, selN c m, fun i hi => selN_lt (by omega), fun j hj => selN_lt (by omega), ?_⟩
      rw [dt_congr _ (g := at2 (partL l r c)) (fun i j hi hj => by
        rw [partL_at l r c (by rw [hn]; omega) (by rw [hm]; omega), hn, hm])]
      exact hd
  · have e : rkR l (2 ^ m) (2 ^ n) = 0 := by omega
    rw [e]
    exact ⟨fun _ => 0, fun _ => 0, fun i hi => absurd hi (Nat.not_lt_zero _), fun i hi => absurd hi (Nat.not_lt_zero _), by rw [dt_zero]; omega⟩

theorem rank_mul {l u M : List (List Int)} {p n q : Nat} (hT : TabIn l) (hU : TabIn u) (hM : TabIn M) (hl : l.length = p) (hlw : (l.getD 0 []).length = n) (hu : u.length = n) (huw : (u.getD 0 []).length = q) (hMl : M.length = p) (hMw : (M.getD 0 []).length = q)
    (hat : ∀ i j, i < p → j < q → at2 M i j = mulF n (at2 l) (at2 u) i j) :
    rkR M (2 ^ q) (2 ^ p) ≤ rkR l (2 ^ n) (2 ^ p) ∧ rkR M (2 ^ q) (2 ^ p) ≤ rkR u (2 ^ q) (2 ^ n) ∧ rkR l (2 ^ n) (2 ^ p) + rkR u (2 ^ q) (2 ^ n) ≤ rkR M (2 ^ q) (2 ^ p) + n := by
  obtain ⟨R, C, hR, hC, hd⟩ := rank_fun_of hM hMl hMw
  have hd' : dt (rkR M (2 ^ q) (2 ^ p)) (fun i j => mulF n (at2 l) (at2 u) (R i) (C j)) ≠ 0 := by
    rw [dt_congr _ (g := fun i j => at2 M (R i) (C j)) (fun i j hi hj => (hat _ _ (hR i hi) (hC j hj)).symm)]
    exact hd
  refine ⟨?_, ?_, ?_⟩
  · obtain ⟨g, hg, h⟩ := mul_left_some hd'
    exact rank_fun hT hl hlw hR hg h
  · obtain ⟨g, hg, h⟩ := mul_right_some hd'
    exact rank_fun hU hu huw hg hC h
  · obtain ⟨R1, J, a1, a2, a3⟩ := rank_fun_of hT hl hlw
    obtain ⟨K, C1, b1, b2, b3⟩ := rank_fun_of hU hu huw
    obtain ⟨t, g, h, e1, e2, e3, e4⟩ := syl_rank (n := n) a2 b1 a3 b3
    have := rank_fun hM hMl hMw (k := t) (R := fun i => R1 (g i)) (C := fun j => C1 (h j)) (fun i hi => a1 _ (e2 i hi)) (fun j hj => b2 _ (e3 j hj)) (by
      rw [dt_congr t (g := fun i j => mulF n (at2 l) (at2 u) (R1 (g i)) (C1 (h j))) (fun i j hi hj => hat _ _ (a1 _ (e2 i hi)) (b2 _ (e3 j hj)))]
      exact e4)
    omega

end Go.Proofs.Ytggmiojhglkcgaa
end

section
namespace Go.Proofs.Ytggmiojhglkcgaa

theorem seln_in : ∀ n : Fin 6, ∀ s : Fin 32, s.val < 2 ^ n.val → ∀ i : Fin 6, i.val < popcS s.val → selN s.val n.val i.val < n.val ∧ s.val.testBit (selN s.val n.val i.val) = true := by decide +kernel
theorem seln_on : ∀ n : Fin 6, ∀ s : Fin 32, s.val < 2 ^ n.val → ∀ a : Fin 6, a.val < n.val → s.val.testBit a.val = true → ∃ r : Fin 6, r.val < popcS s.val ∧ selN s.val n.val r.val = a.val := by decide +kernel
theorem seln_inj : ∀ n : Fin 6, ∀ s : Fin 32, s.val < 2 ^ n.val → ∀ i j : Fin 6, i.val < popcS s.val → j.val < popcS s.val → selN s.val n.val i.val = selN s.val n.val j.val → i = j := by decide +kernel
theorem seln_up : ∀ n : Fin 6, ∀ s : Fin 32, s.val < 2 ^ n.val → ∀ a : Fin 6, a.val + 1 < n.val → s.val.testBit a.val = true → s.val.testBit (a.val + 1) = false →
    s.val ^^^ 2 ^ a.val ^^^ 2 ^ (a.val + 1) < 2 ^ n.val ∧ popcS (s.val ^^^ 2 ^ a.val ^^^ 2 ^ (a.val + 1)) = popcS s.val ∧ ∀ i : Fin 6, i.val < popcS s.val → selN (s.val ^^^ 2 ^ a.val ^^^ 2 ^ (a.val + 1)) n.val i.val = if selN s.val n.val i.val = a.val then a.val + 1 else selN s.val n.val i.val := by decide +kernel
theorem seln_dn : ∀ n : Fin 6, ∀ s : Fin 32, s.val < 2 ^ n.val → ∀ a : Fin 6, a.val + 1 < n.val → s.val.testBit (a.val + 1) = true → s.val.testBit a.val = false →
    s.val ^^^ 2 ^ (a.val + 1) ^^^ 2 ^ a.val < 2 ^ n.val ∧ popcS (s.val ^^^ 2 ^ (a.val + 1) ^^^ 2 ^ a.val) = popcS s.val ∧ ∀ i : Fin 6, i.val < popcS s.val → selN (s.val ^^^ 2 ^ (a.val + 1) ^^^ 2 ^ a.val) n.val i.val = if selN s.val n.val i.val = a.val + 1 then a.val else selN s.val n.val i.val := by decide +kernel
theorem popc_le5 : ∀ n : Fin 6, ∀ s : Fin 32, s.val < 2 ^ n.val → popcS s.val ≤ n.val := by decide +kernel
theorem seln_out : ∀ s t : Fin 32, s ≠ t → popcS s.val = popcS t.val → ∃ a : Fin 5, s.val.testBit a.val = true ∧ t.val.testBit a.val = false := by decide +kernel

theorem setR_selfH (f : Nat → Nat → Int) (k r : Nat) : dt k (setR f r (f r)) = dt k f := dt_congr k fun i j _ _ => by
  unfold setR
  by_cases e : i = r
  · subst e; rw [if_pos rfl]
  · rw [if_neg e]

theorem fam_minor {n : Nat} (h5 : n ≤ 5) : ∀ (cs : List CH), (∀ c ∈ cs, chOk n c) → ∀ (s t : Nat), s < 2 ^ n → t < 2 ^ n → popcS s = popcS t →
    famN cs s t = dt (popcS s) (fun i j => netM n cs (selN s n i) (selN t n j))
  | [], _, s, t, hs, ht, hp => by
    have p5 : 2 ^ n ≤ 2 ^ 5 := Nat.pow_le_pow_right (by omega) h5
    have hk := popc_le5 ⟨n, by omega⟩ ⟨s, by omega⟩ hs
    simp only at hk
    unfold famN
    by_cases e : s = t
    · subst e
      rw [if_pos rfl, ← dt_oneF (popcS s)]
      refine dt_congr _ fun i j hi hj => ?_
      show _ = if selN s n i = selN s n j then (1 : Int) else 0
      unfold oneF
      by_cases e2 : i = j
      · subst e2; simp
      · rw [if_neg e2, if_neg (fun h => e2 (by
          have := seln_inj ⟨n, by omega⟩ ⟨s, by omega⟩ hs ⟨i, by omega⟩ ⟨j, by omega⟩ hi hj h
          simpa using this))]
    · rw [if_neg e]
      obtain ⟨a, ha, hb⟩ := seln_out ⟨s, by omega⟩ ⟨t, by omega⟩ (by simpa using e) hp
      simp only at ha hb
      have han : a.val < n := by
        by_cases h : a.val < n
        · exact h
        · rw [Nat.testBit_lt_two_pow (Nat.lt_of_lt_of_le hs (Nat.pow_le_pow_right (by omega) (by omega)))] at ha
          cases ha
      obtain ⟨r, hr, hra⟩ := seln_on ⟨n, by omega⟩ ⟨s, by omega⟩ hs ⟨a.val, by omega⟩ han ha
      simp only at hr hra
      refine (dt_zeroR _ hr fun j hj => ?_).symm
      show (if selN s n r.val = selN t n j then (1 : Int) else 0) = 0
      rw [hra, if_neg (fun h => by
        have := (seln_in ⟨n, by omega⟩ ⟨t, by omega⟩ ht ⟨j, by omega⟩ (by simp only; omega)).2
        simp only at this
        rw [← h, hb] at this
        cases this)]
  | c :: cs, h, s, t, hs, ht, hp => by
    have hc := h c (by simp)
    have ih := fam_minor h5 cs (fun c hc => h c (by simp [hc]))
    have p5 : 2 ^ n ≤ 2 ^ 5 := Nat.pow_le_pow_right (by omega) h5
    have hk := popc_le5 ⟨n, by omega⟩ ⟨s, by omega⟩ hs
    simp only at hk
    have hin := fun i (hi : i < popcS s) => seln_in ⟨n, by omega⟩ ⟨s, by omega⟩ hs ⟨i, by omega⟩ hi
    simp only at hin
    have hinj := fun i j (hi : i < popcS s) (hj : j < popcS s) (e : selN s n i = selN s n j) => seln_inj ⟨n, by omega⟩ ⟨s, by omega⟩ hs ⟨i, by omega⟩ ⟨j, by omega⟩ hi hj e
    simp only [Fin.mk.injEq] at hinj
    obtain ⟨g, hg⟩ : ∃ g : Nat → Nat → Int, (fun i j => netM n cs (selN s n i) (selN t n j)) = g := ⟨_, rfl⟩
    have ihs := ih s t hs ht hp
    rw [hg] at ihs
    have hgv : ∀ i j, g i j = netM n cs (selN s n i) (selN t n j) := fun i j => by rw [← hg]
    have key : ∀ i j, i < popcS s → netM n (c :: cs) (selN s n i) (selN t n j) = if c.1 = 2 then (if selN s n i = c.2.1 then c.2.2 * g i j else g i j) else g i j + (if selN s n i = cFrom c then c.2.2 * netM n cs (cTo c) (selN t n j) else 0) := fun i j hi => by
      show sumN (fun m => chM c (selN s n i) m * netM n cs m (selN t n j)) n = _
      rw [ch_row hc (hin i hi).1 (fun m => netM n cs m (selN t n j)), hgv]
    unfold famN
    by_cases h2 : c.1 = 2
    · rw [if_pos h2]
      have hl : c.2.1 < n := by have := hc.2; rw [if_pos h2] at this; exact this
      by_cases hb : s.testBit c.2.1 = true
      · rw [if_pos hb, ihs]
        obtain ⟨r, hr, hra⟩ := seln_on ⟨n, by omega⟩ ⟨s, by omega⟩ hs ⟨c.2.1, by omega⟩ hl hb
        simp only at hr hra
        have e : dt (popcS s) (fun i j => netM n (c :: cs) (selN s n i) (selN t n j)) = dt (popcS s) (setR g r.val (fun j => c.2.2 * g r.val j + 0 * g r.val j)) := dt_congr _ fun i j hi hj => by
          rw [key i j hi, if_pos h2]
          unfold setR
          by_cases e : i = r.val
          · subst e; rw [if_pos hra, if_pos rfl]; show c.2.2 * g r.val j = c.2.2 * g r.val j + 0 * g r.val j; omega
          · rw [if_neg e, if_neg (fun x => e (hinj i r.val hi hr (x.trans hra.symm)))]
        rw [e, dt_lin _ _ _ _ _ _ _ hr, setR_selfH]
        omega
      · rw [if_neg hb, ihs]
        refine dt_congr _ fun i j hi hj => ?_
        rw [key i j hi, if_pos h2, if_neg (fun x => hb (by rw [← x]; exact (hin i hi).2))]
    · rw [if_neg h2]
      obtain ⟨h3, h4, h6⟩ := ch_ft hc h2
      have hl : c.2.1 + 1 < n := by have := hc.2; rw [if_neg h2] at this; exact this
      by_cases hb : s.testBit (cFrom c) = true
      · obtain ⟨r, hr, hra⟩ := seln_on ⟨n, by omega⟩ ⟨s, by omega⟩ hs ⟨cFrom c, by omega⟩ h3 hb
        simp only at hr hra
        have e : dt (popcS s) (fun i j => netM n (c :: cs) (selN s n i) (selN t n j)) = dt (popcS s) (setR g r.val (fun j => 1 * g r.val j + c.2.2 * netM n cs (cTo c) (selN t n j))) := dt_congr _ fun i j hi hj => by
          rw [key i j hi, if_neg h2]
          unfold setR
          by_cases e : i = r.val
          · subst e; rw [if_pos hra, if_pos rfl]; show g r.val j + c.2.2 * netM n cs (cTo c) (selN t n j) = 1 * g r.val j + c.2.2 * netM n cs (cTo c) (selN t n j); omega
          · rw [if_neg e, if_neg (fun x => e (hinj i r.val hi hr (x.trans hra.symm)))]; omega
        rw [e, dt_lin _ _ _ _ _ _ _ hr, setR_selfH, Int.one_mul, ← ihs]
        by_cases hb2 : s.testBit (cTo c) = true
        · rw [if_neg (fun x => by rw [hb2] at x; cases x.2)]
          obtain ⟨q, hq, hqa⟩ := seln_on ⟨n, by omega⟩ ⟨s, by omega⟩ hs ⟨cTo c, by omega⟩ h4 hb2
          simp only at hq hqa
          have hqr : r.val ≠ q.val := fun x => h6 (by rw [← hra, ← hqa, x])
          rw [dt_sameR _ hqr hr hq (fun j hj => by
            unfold setR
            rw [if_pos rfl, if_neg (fun x => hqr x.symm), hgv, hqa])]
          omega
        · have hb3 : s.testBit (cTo c) = false := by simpa using hb2
          rw [if_pos ⟨hb, hb3⟩]
          have F : (s ^^^ 2 ^ cFrom c ^^^ 2 ^ cTo c) < 2 ^ n ∧ popcS (s ^^^ 2 ^ cFrom c ^^^ 2 ^ cTo c) = popcS s ∧ ∀ i, i < popcS s → selN (s ^^^ 2 ^ cFrom c ^^^ 2 ^ cTo c) n i = if selN s n i = cFrom c then cTo c else selN s n i := by
            by_cases h0 : c.1 = 0
            · have e1 : cFrom c = c.2.1 := if_pos h0
              have e2 : cTo c = c.2.1 + 1 := if_pos h0
              rw [e1] at hb ⊢
              rw [e2] at hb3 ⊢
              obtain ⟨f1, f2, f3⟩ := seln_up ⟨n, by omega⟩ ⟨s, by omega⟩ hs ⟨c.2.1, by omega⟩ hl hb hb3
              exact ⟨f1, f2, fun i hi => f3 ⟨i, by omega⟩ hi⟩
            · have e1 : cFrom c = c.2.1 + 1 := if_neg h0
              have e2 : cTo c = c.2.1 := if_neg h0
              rw [e1] at hb ⊢
              rw [e2] at hb3 ⊢
              obtain ⟨f1, f2, f3⟩ := seln_dn ⟨n, by omega⟩ ⟨s, by omega⟩ hs ⟨c.2.1, by omega⟩ hl hb hb3
              exact ⟨f1, f2, fun i hi => f3 ⟨i, by omega⟩ hi⟩
          obtain ⟨f1, f2, f3⟩ := F
          rw [ih _ t f1 ht (f2.trans hp), f2]
          have e4 : dt (popcS s) (setR g r.val (fun j => netM n cs (cTo c) (selN t n j))) = dt (popcS s) (fun i j => netM n cs (selN (s ^^^ 2 ^ cFrom c ^^^ 2 ^ cTo c) n i) (selN t n j)) := dt_congr _ fun i j hi hj => by
            rw [f3 i hi]
            unfold setR
            by_cases e : i = r.val
            · subst e; rw [if_pos rfl, if_pos hra]
            · rw [if_neg e, if_neg (fun x => e (hinj i r.val hi hr (x.trans hra.symm))), hgv]
          rw [e4]
      · rw [if_neg (fun x => hb x.1), ihs, Int.add_zero]
        refine dt_congr _ fun i j hi hj => ?_
        rw [key i j hi, if_neg h2, if_neg (fun x => hb (by rw [← x]; exact (hin i hi).2)), Int.add_zero]

end Go.Proofs.Ytggmiojhglkcgaa
end

section
namespace Go.Proofs.Ytggmiojhglkcgaa

def allH : List CH → Int
  | [] => 1
  | c :: cs => if c.1 = 2 then c.2.2 * allH cs else allH cs
theorem full_bit {n i : Nat} (h : i < n) : (2 ^ n - 1).testBit i = true := by
  rw [Nat.testBit_two_pow_sub_one]; simpa using h
theorem fam_full {n : Nat} : ∀ (cs : List CH), (∀ c ∈ cs, chOk n c) → famN cs (2 ^ n - 1) (2 ^ n - 1) = allH cs
  | [], _ => by unfold famN allH; rw [if_pos rfl]
  | c :: cs, h => by
    have hc := h c (by simp)
    have ih := fam_full cs (fun c hc => h c (by simp [hc]))
    unfold famN allH
    by_cases h2 : c.1 = 2
    · have hl : c.2.1 < n := by have := hc.2; rw [if_pos h2] at this; exact this
      rw [if_pos h2, if_pos h2, if_pos (full_bit hl), ih]
    · obtain ⟨h3, h4, _⟩ := ch_ft hc h2
      rw [if_neg h2, if_neg h2, if_neg (fun x => by rw [full_bit h4] at x; cases x.2), ih, Int.add_zero]
theorem seln_full : ∀ n : Fin 6, popcS (2 ^ n.val - 1) = n.val ∧ ∀ i : Fin 6, i.val < n.val → selN (2 ^ n.val - 1) n.val i.val = i.val := by decide +kernel
theorem net_value {n : Nat} (h5 : n ≤ 5) (cs : List CH) (h : ∀ c ∈ cs, chOk n c) : dt n (netM n cs) = allH cs := by
  have hp := Nat.two_pow_pos n
  have e := fam_minor h5 cs h (2 ^ n - 1) (2 ^ n - 1) (by omega) (by omega) rfl
  obtain ⟨k1, k2⟩ := seln_full ⟨n, by omega⟩
  simp only at k1 k2
  rw [fam_full cs h, k1] at e
  rw [e]
  refine dt_congr n fun i j hi hj => ?_
  have e1 := k2 ⟨i, by omega⟩ hi
  have e2 := k2 ⟨j, by omega⟩ hj
  simp only at e1 e2
  rw [e1, e2]

def oneZ (c : CH) : CH := (c.1, c.2.1, if c.2.2 = 0 then 0 else 1)
theorem oneZ_nn (cs : List CH) : ∀ c ∈ cs.map oneZ, 0 ≤ c.2.2 := by
  intro c hc
  rw [List.mem_map] at hc
  obtain ⟨d, _, rfl⟩ := hc
  unfold oneZ
  simp only
  split <;> omega
theorem fam_some : ∀ (cs : List CH) (s t : Nat), famN cs s t ≠ 0 → 0 < famN (cs.map oneZ) s t
  | [], s, t, h => by
    unfold famN at h
    by_cases e : s = t
    · subst e; show 0 < famN [] s s; unfold famN; rw [if_pos rfl]; decide
    · rw [if_neg e] at h; exact absurd rfl h
  | c :: cs, s, t, h => by
    have ih := fam_some cs
    have hn := fam_nn (cs.map oneZ) (oneZ_nn cs)
    unfold famN at h
    show 0 < famN (oneZ c :: cs.map oneZ) s t
    unfold famN
    have e1 : (oneZ c).1 = c.1 := rfl
    have e2 : (oneZ c).2.1 = c.2.1 := rfl
    have e3 : cFrom (oneZ c) = cFrom c := rfl
    have e4 : cTo (oneZ c) = cTo c := rfl
    have hw : ∀ x : Int, c.2.2 * x ≠ 0 → (oneZ c).2.2 = 1 ∧ x ≠ 0 := fun x hx => by
      by_cases e0 : c.2.2 = 0
      · rw [e0, Int.zero_mul] at hx; exact absurd rfl hx
      · exact ⟨by unfold oneZ; simp only; rw [if_neg e0], fun e => hx (by rw [e, Int.mul_zero])⟩
    have h0 : 0 ≤ (oneZ c).2.2 := by unfold oneZ; simp only; split <;> omega
    rw [e1, e2, e3, e4]
    by_cases h2 : c.1 = 2
    · rw [if_pos h2] at h ⊢
      by_cases hb : s.testBit c.2.1 = true
      · rw [if_pos hb] at h ⊢
        obtain ⟨k1, k2⟩ := hw _ h
        rw [k1, Int.one_mul]
        exact ih _ _ k2
      · rw [if_neg hb] at h ⊢
        exact ih _ _ h
    · rw [if_neg h2] at h ⊢
      by_cases hb : s.testBit (cFrom c) = true ∧ s.testBit (cTo c) = false
      · rw [if_pos hb] at h ⊢
        have n1 := hn s t
        have n2 := hn (s ^^^ 2 ^ cFrom c ^^^ 2 ^ cTo c) t
        by_cases e5 : famN cs s t = 0
        · rw [e5, Int.zero_add] at h
          obtain ⟨k1, k2⟩ := hw _ h
          have := ih _ _ k2
          rw [k1, Int.one_mul]
          omega
        · have := ih _ _ e5
          have := Int.mul_nonneg h0 n2
          omega
      · rw [if_neg hb, Int.add_zero] at h ⊢
        exact ih _ _ h
theorem fam_plain : ∀ (cs : List CH), (∀ c ∈ cs, 0 ≤ c.2.2) → ∀ s t, 0 < famN (cs.map oneZ) s t → 0 < famN cs s t
  | [], _, s, t, h => h
  | c :: cs, hp, s, t, h => by
    have hc := hp c (by simp)
    have ih := fam_plain cs (fun c hc => hp c (by simp [hc]))
    have hn := fam_nn cs (fun c hc => hp c (by simp [hc]))
    have hz := fam_nn (cs.map oneZ) (oneZ_nn cs)
    have hw : ∀ x y : Int, (0 < y → 0 < x) → 0 ≤ y → 0 < (oneZ c).2.2 * y → 0 < c.2.2 * x := fun x y hxy hy hx => by
      by_cases e0 : c.2.2 = 0
      · have : (oneZ c).2.2 = 0 := by unfold oneZ; simp only; rw [if_pos e0]
        rw [this, Int.zero_mul] at hx; omega
      · have : (oneZ c).2.2 = 1 := by unfold oneZ; simp only; rw [if_neg e0]
        rw [this, Int.one_mul] at hx
        exact Int.mul_pos (by omega) (hxy hx)
    have h' : 0 < famN (oneZ c :: cs.map oneZ) s t := h
    unfold famN at h' ⊢
    have e1 : (oneZ c).1 = c.1 := rfl
    have e2 : (oneZ c).2.1 = c.2.1 := rfl
    have e3 : cFrom (oneZ c) = cFrom c := rfl
    have e4 : cTo (oneZ c) = cTo c := rfl
    rw [e1, e2, e3, e4] at h'
    by_cases h2 : c.1 = 2
    · rw [if_pos h2] at h' ⊢
      by_cases hb : s.testBit c.2.1 = true
      · rw [if_pos hb] at h' ⊢
        exact hw _ _ (ih s t) (hz s t) h'
      · rw [if_neg hb] at h' ⊢
        exact ih _ _ h'
    · rw [if_neg h2] at h' ⊢
      by_cases hb : s.testBit (cFrom c) = true ∧ s.testBit (cTo c) = false
      · rw [if_pos hb] at h' ⊢
        have n1 := hn s t
        have n2 := Int.mul_nonneg hc (hn (s ^^^ 2 ^ cFrom c ^^^ 2 ^ cTo c) t)
        by_cases e5 : 0 < famN (cs.map oneZ) s t
        · have := ih _ _ e5; omega
        · have z1 := hz s t
          have := hw _ _ (ih (s ^^^ 2 ^ cFrom c ^^^ 2 ^ cTo c) t) (hz _ t) (by omega)
          omega
      · rw [if_neg hb, Int.add_zero] at h' ⊢
        exact ih _ _ h'

end Go.Proofs.Ytggmiojhglkcgaa
end

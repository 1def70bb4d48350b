/- Chips in memory, and the contract of spec.NetIn. -/
import Derived.Test.YtbclpbgomkfabaaTabIn
import Derived.Test.YtbclpbgomkfabaaData
import Derived.RangeFuncRecord
namespace Go.Proofs.Ytbclpbgomkfabaa
open Go.RowKit Go.Deep

/-- A chip as it lies: its kind's letters, its line, its weight. -/
structure RC where
  k : ByteArray
  l : Int
  w : Int
def rc0 : RC := ⟨ByteArray.empty, 0, 0⟩
/-- A slice value that reads as a list of chips. -/
def ChipsR (W : World) (a : Option Addr) (cs : List RC) : Prop :=
  0 < cs.length → ∃ b o, a = some ⟨b, o, none⟩ ∧ ∀ i, i < cs.length → W.cell? ⟨b, o + i * 3, none⟩ = some (.string (cs.getD i rc0).k) ∧ W.cell? ⟨b, o + i * 3 + 1, none⟩ = some (.int .i64 (cs.getD i rc0).l) ∧ W.cell? ⟨b, o + i * 3 + 2, none⟩ = some (.int .i64 (cs.getD i rc0).w)
theorem ChipsR.since {w W : World} {a : Option Addr} {cs : List RC} (h : ChipsR w a cs) (hs : w.Since w.heap.size W) : ChipsR W a cs := fun h0 => by
  obtain ⟨b, o, e, hc⟩ := h h0
  refine ⟨b, o, e, fun i hi => ?_⟩
  obtain ⟨h1, h2, h3⟩ := hc i hi
  exact ⟨(hs.cell (World.block_lt_of_cell? _ _ h1)).trans h1, (hs.cell (World.block_lt_of_cell? _ _ h2)).trans h2, (hs.cell (World.block_lt_of_cell? _ _ h3)).trans h3⟩
noncomputable def kindB (n : Int) (c : RC) : Bool := if c.k.toList = [104] then inB c.l 0 (n - 1) else if c.k.toList = [117] ∨ c.k.toList = [100] then inB c.l 0 (n - 2) else false
noncomputable def chipB (n : Int) (c : RC) : Bool := kindB n c && inB c.w (-9) 9
noncomputable def netB (n : Int) (cs : List RC) : Bool := inB n 2 5 && (decide (cs.length ≤ 10) && cs.all (chipB n))
theorem netB_false {n : Int} {cs : List RC} {i : Nat} (hi : i < cs.length) (h : chipB n (cs.getD i rc0) = false) : netB n cs = false := by
  have : cs.all (chipB n) = false := by
    cases e : cs.all (chipB n) with
    | false => rfl
    | true =>
      have h1 := List.all_eq_true.1 e (cs.getD i rc0) (by
        have : cs.getD i rc0 = cs[i] := by simp [List.getD, hi]
        rw [this]; exact List.getElem_mem _)
      rw [h] at h1; cases h1
  unfold netB
  rw [this]
  simp
theorem netB_true {n : Int} {cs : List RC} (h1 : inB n 2 5 = true) (h2 : cs.length ≤ 10) (h : ∀ i, i < cs.length → chipB n (cs.getD i rc0) = true) : netB n cs = true := by
  have : cs.all (chipB n) = true := List.all_eq_true.2 fun c hc => by
    obtain ⟨i, hi, e⟩ := List.mem_iff_getElem.1 hc
    have := h i hi
    rw [show cs.getD i rc0 = cs[i] by simp [List.getD, hi], e] at this
    exact this
  unfold netB
  rw [h1, this, decide_eq_true h2]
  rfl

set_option maxRecDepth 100000 in
set_option maxHeartbeats 1000000 in
theorem specNetIn_any (a : Option Addr) (cap N : Nat) (n : Int) (cs : List RC) (w : World) (hN : cs.length = N) (h63 : N ≤ 9223372036854775807) (hm : ChipsR w a cs) :
    Calls Try.prog 60 #[.int .i64 n, .slice a N cap] w fun e w' => e = .returned (.bool (netB n cs)) ∧ w.Since w.heap.size w' := by
  by_cases hn : inB n 2 5 = true
  · have E := Lib.hid (fun (W : World) => l6In_at n 2 5 true W hn)
    by_cases hl : N ≤ 10
    · have hl' : decide ((10 : Int) < (N : Int)) = false := by simp; omega
      have HT := Lib.hid (fun h => netB_true (n := n) (cs := cs) hn (by omega) h)
      have HF := Lib.hid (fun (i : Nat) (hi : i < N) h => netB_false (n := n) (cs := cs) (i := i) (by omega) h)
      have HN := Lib.hid hN
      have HM := Lib.hid (show ∀ i, i < N → ∃ b o, a = some ⟨b, o, none⟩ ∧ w.cell? ⟨b, o + i * 3, none⟩ = some (.string (cs.getD i rc0).k) ∧ w.cell? ⟨b, o + i * 3 + 1, none⟩ = some (.int .i64 (cs.getD i rc0).l) ∧ w.cell? ⟨b, o + i * 3 + 2, none⟩ = some (.int .i64 (cs.getD i rc0).w) from fun i hi => by
        obtain ⟨b, o, e, h⟩ := hm (by omega)
        exact ⟨b, o, e, h i (by omega)⟩)
      have hn2 : 2 ≤ n ∧ n ≤ 5 := by unfold inB at hn; exact of_decide_eq_true hn
      clear hm hN hn
      go_enter Try.func60, Try.ntmps60
      go_wp2_with (go_at_call 61; refine (E.out _).mono ?_; rintro e w1 ⟨rfl, rfl⟩)
      go_loopg [5, 6, 7] N (fun g i _ _ wr => ∃ r : Nat, r ≤ N ∧ g = N - r ∧ i = .int .i64 r ∧ w.Since w.heap.size wr ∧ ∀ j, j < r → chipB n (cs.getD j rc0) = true)
      case atStart => exact ⟨0, Nat.zero_le _, rfl, rfl, World.Since.refl _ _, fun j hj => by omega⟩
      case round =>
        obtain ⟨r, hr, rfl, rfl, hS, hall⟩ := hrel
        by_cases hlt : r < N
        · obtain ⟨b, o, rfl, k1, k2, k3⟩ := HM.out r hlt
          have c1 := (hS.cell (World.block_lt_of_cell? _ _ k1)).trans k1
          have c2 := (hS.cell (World.block_lt_of_cell? _ _ k2)).trans k2
          have c3 := (hS.cell (World.block_lt_of_cell? _ _ k3)).trans k3
          have hcf := fun h => HF.out r hlt h
          have hct := fun (h : chipB n (cs.getD r rc0) = true) => show ∀ j, j < r + 1 → chipB n (cs.getD j rc0) = true from fun j hj => by
            by_cases e : j = r
            · subst e; exact h
            · exact hall j (by omega)
          have hcb : chipB n (cs.getD r rc0) = (kindB n (cs.getD r rc0) && inB (cs.getD r rc0).w (-9) 9) := rfl
          unfold kindB at hcb
          obtain ⟨K, hK⟩ : ∃ K, (cs.getD r rc0).k = K := ⟨_, rfl⟩
          obtain ⟨L, hL⟩ : ∃ L, (cs.getD r rc0).l = L := ⟨_, rfl⟩
          obtain ⟨V, hV⟩ : ∃ V, (cs.getD r rc0).w = V := ⟨_, rfl⟩
          rw [hK] at c1 hcb
          rw [hL] at c2 hcb
          rw [hV] at c3 hcb
          have HCF := Lib.hid hcf
          have HCT := Lib.hid hct
          have hb := World.alloc_heap_new wr (.cells #[.string K, .int .i64 L, .int .i64 V] 36)
          have d1 : (wr.alloc (.cells #[.string K, .int .i64 L, .int .i64 V] 36)).cell? ⟨wr.heap.size, 0, none⟩ = some (.string K) := by unfold World.cell?; rw [hb]; rfl
          have d2 : (wr.alloc (.cells #[.string K, .int .i64 L, .int .i64 V] 36)).cell? ⟨wr.heap.size, 1, none⟩ = some (.int .i64 L) := by unfold World.cell?; rw [hb]; rfl
          have d3 : (wr.alloc (.cells #[.string K, .int .i64 L, .int .i64 V] 36)).cell? ⟨wr.heap.size, 2, none⟩ = some (.int .i64 V) := by unfold World.cell?; rw [hb]; rfl
          have HS := Lib.hid (hS.alloc hS.size (.cells #[.string K, .int .i64 L, .int .i64 V] 36))
          have hw1 : IntKind.i64.wrap (n - 1) = n - 1 := IntWalk.i64_in _ ⟨by omega, by omega⟩
          have hw2 : IntKind.i64.wrap (n - 2) = n - 2 := IntWalk.i64_in _ ⟨by omega, by omega⟩
          clear k1 k2 k3 hb hcf hct hK hL hV hall hS
          by_cases hH : K.toList = [104]
          · rw [if_pos hH] at hcb
            obtain ⟨b1, hb1⟩ : ∃ b1, inB L 0 (n - 1) = b1 := ⟨_, rfl⟩
            obtain ⟨b2, hb2⟩ : ∃ b2, inB V (-9) 9 = b2 := ⟨_, rfl⟩
            rw [hb1, hb2] at hcb
            have HCB := Lib.hid hcb
            clear hcb
            cases b1 <;> cases b2
            all_goals
              go_wp2_with (go_at_call 61; refine (l6In_any _ _ _ _).mono ?_; rintro e w1 ⟨rfl, rfl⟩; simp only [hb1, hb2])
              first
                | (go_ret; exact ⟨by rw [HCF.out HCB.out]; rfl, HS.out⟩)
                | (go_roundg (N - (r + 1))
                   case measure => omega
                   case rel => exact ⟨r + 1, by omega, by omega, by go_num, HS.out, HCT.out HCB.out⟩)
          · rw [if_neg hH] at hcb
            by_cases hU : K.toList = [117]
            · rw [if_pos (.inl hU)] at hcb
              clear hH
              obtain ⟨b1, hb1⟩ : ∃ b1, inB L 0 (n - 2) = b1 := ⟨_, rfl⟩
              obtain ⟨b2, hb2⟩ : ∃ b2, inB V (-9) 9 = b2 := ⟨_, rfl⟩
              rw [hb1, hb2] at hcb
              have HCB := Lib.hid hcb
              clear hcb
              cases b1 <;> cases b2
              all_goals
                go_wp2_with (go_at_call 61; refine (l6In_any _ _ _ _).mono ?_; rintro e w1 ⟨rfl, rfl⟩; simp only [hb1, hb2])
                first
                  | (go_ret; exact ⟨by rw [HCF.out HCB.out]; rfl, HS.out⟩)
                  | (go_roundg (N - (r + 1))
                     case measure => omega
                     case rel => exact ⟨r + 1, by omega, by omega, by go_num, HS.out, HCT.out HCB.out⟩)
            · by_cases hD : K.toList = [100]
              · rw [if_pos (.inr hD)] at hcb
                clear hH hU
                obtain ⟨b1, hb1⟩ : ∃ b1, inB L 0 (n - 2) = b1 := ⟨_, rfl⟩
                obtain ⟨b2, hb2⟩ : ∃ b2, inB V (-9) 9 = b2 := ⟨_, rfl⟩
                rw [hb1, hb2] at hcb
                have HCB := Lib.hid hcb
                clear hcb
                cases b1 <;> cases b2
                all_goals
                  go_wp2_with (go_at_call 61; refine (l6In_any _ _ _ _).mono ?_; rintro e w1 ⟨rfl, rfl⟩; simp only [hb1, hb2])
                  first
                    | (go_ret; exact ⟨by rw [HCF.out HCB.out]; rfl, HS.out⟩)
                    | (go_roundg (N - (r + 1))
                       case measure => omega
                       case rel => exact ⟨r + 1, by omega, by omega, by go_num, HS.out, HCT.out HCB.out⟩)
              · rw [if_neg (fun h => h.elim hU hD), Bool.false_and] at hcb
                have HCB := Lib.hid hcb
                have q1 : (K.toList == [104]) = false := by simpa using hH
                have q2 : (K.toList == [117]) = false := by simpa using hU
                have q3 : (K.toList == [100]) = false := by simpa using hD
                clear hcb
                go_wp2
                go_ret
                exact ⟨by rw [HCF.out HCB.out]; rfl, HS.out⟩
        · obtain rfl : r = N := by omega
          have hfin := HT.out (fun i hi => hall i (by rw [HN.out] at hi; exact hi))
          have HFIN := Lib.hid hfin
          clear hfin hall
          go_wp2
          go_ret
          exact ⟨by rw [HFIN.out]; rfl, hS⟩
    · have hl' : decide ((10 : Int) < (N : Int)) = true := by simp; omega
      have HF := Lib.hid (show netB n cs = false from by unfold netB; rw [decide_eq_false (by omega)]; simp)
      clear hm hN hn
      go_enter Try.func60, Try.ntmps60
      go_wp2_with (go_at_call 61; refine (E.out _).mono ?_; rintro e w1 ⟨rfl, rfl⟩)
      go_ret
      exact ⟨by rw [HF.out]; rfl, World.Since.refl _ _⟩
  · have hn' : inB n 2 5 = false := by simpa using hn
    have E := Lib.hid (fun (W : World) => l6In_at n 2 5 false W hn')
    have HF := Lib.hid (show netB n cs = false from by unfold netB; rw [hn']; rfl)
    clear hm hN hn hn'
    go_enter Try.func60, Try.ntmps60
    go_wp2_with (go_at_call 61; refine (E.out _).mono ?_; rintro e w1 ⟨rfl, rfl⟩)
    go_ret
    exact ⟨by rw [HF.out]; rfl, World.Since.refl _ _⟩

end Go.Proofs.Ytbclpbgomkfabaa

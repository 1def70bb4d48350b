/- The contract of crossings. -/
import Derived.Test.YtpimdgijjljejaaDoorPairsC
namespace Go.Proofs.YtpimdgijjljejaaDoor
open Go.RowKit Go.Deep

theorem crN_snoc (p : Nat × Nat) : ∀ (qs : List (Nat × Nat)) (q : Nat × Nat), crN p (qs ++ [q]) = crN p qs + (if crB p q = true then 1 else 0)
  | [], q => by simp [crN]
  | x :: qs, q => by simp only [List.cons_append, crN, crN_snoc p qs q]; omega
theorem crN_le (p : Nat × Nat) : ∀ qs : List (Nat × Nat), crN p qs ≤ qs.length
  | [] => by simp [crN]
  | x :: qs => by have := crN_le p qs; simp only [crN, List.length_cons]; split <;> omega
/-- The crossings of the first k pairs with later ones. -/
def crA (ps : List (Nat × Nat)) : Nat → Nat
  | 0 => 0
  | k + 1 => crA ps k + crN (ps.getD k (0, 0)) (ps.drop (k + 1))
theorem crA_cons (p : Nat × Nat) (ps : List (Nat × Nat)) : ∀ k, crA (p :: ps) (k + 1) = crN p ps + crA ps k
  | 0 => by simp [crA]
  | k + 1 => by
    show crA (p :: ps) (k + 1) + crN (ps.getD k (0, 0)) (ps.drop (k + 1)) = _
    rw [crA_cons p ps k]
    show _ = crN p ps + (crA ps k + crN (ps.getD k (0, 0)) (ps.drop (k + 1)))
    omega
theorem crA_all : ∀ ps : List (Nat × Nat), crA ps ps.length = crs ps
  | [] => rfl
  | p :: ps => by rw [List.length_cons, crA_cons, crA_all ps]; rfl
theorem crA_le (ps : List (Nat × Nat)) : ∀ k, crA ps k ≤ k * ps.length
  | 0 => by simp [crA]
  | k + 1 => by
    have h1 := crA_le ps k
    have h2 := crN_le (ps.getD k (0, 0)) (ps.drop (k + 1))
    have h3 : (ps.drop (k + 1)).length ≤ ps.length := by simp
    unfold crA
    rw [Nat.add_mul]
    omega

/-- A block of two numbers. -/
structure Boxed2 (W : World) (P : Nat) (x y : Nat) : Prop where
  c0 : W.cell? ⟨P, 0, none⟩ = some (.int .i64 (x : Int))
  c1 : W.cell? ⟨P, 1, none⟩ = some (.int .i64 (y : Int))
  f0 : W.frozen? ⟨P, 0, none⟩ = false
  lt : P < W.heap.size
theorem Boxed2.new (W : World) (x y : Nat) : Boxed2 (W.alloc (.cells #[.int .i64 (x : Int), .int .i64 (y : Int)] 72)) W.heap.size x y := by
  have h := World.alloc_heap_new W (.cells #[.int .i64 (x : Int), .int .i64 (y : Int)] 72)
  exact ⟨by unfold World.cell?; rw [h]; rfl, by unfold World.cell?; rw [h]; rfl, by unfold World.frozen?; rw [h]; rfl, by simp⟩
theorem Boxed2.alloc {W : World} {P x y : Nat} (h : Boxed2 W P x y) (o : Obj) : Boxed2 (W.alloc o) P x y :=
  ⟨cell_alloc_l _ h.c0, cell_alloc_l _ h.c1, frozen_alloc_l _ h.c0 h.f0, by have := h.lt; simp; omega⟩

set_option maxRecDepth 100000 in
set_option maxHeartbeats 2000000 in
theorem crossings_any (g cap m : Nat) (ps : List (Nat × Nat)) (W : World) (hm : ps.length = m) (h3 : m ≤ 3) (hcap : m ≤ cap) (hc6 : cap ≤ 3) (hr : PairsR W g ps) :
    Calls Tryd.prog 64 #[.slice (some ⟨g, 0, none⟩) m cap] W fun e w' => e = .returned (.int .i64 (crs ps)) ∧ W.Since W.heap.size w' := by
  have HX := Lib.hid hm
  have HR := Lib.hid hr
  rw [← crA_all ps, hm]
  have HB := Lib.hid (fun k => crA_le ps k)
  clear hm hr
  go_enter Tryd.func64, Tryd.ntmps64
  go_wp2
  go_loopg [3, 4, 5, 7, 10] m (fun q s _ _ _ i wr => ∃ k : Nat, k ≤ m ∧ q = m - k ∧ i = .int .i64 k ∧ s = .int .i64 (crA ps k) ∧ W.Since W.heap.size wr)
  case atStart => exact ⟨0, Nat.zero_le _, rfl, rfl, rfl, World.Since.refl _ _⟩
  case round =>
    obtain ⟨k, hk, rfl, rfl, rfl, hS⟩ := hrel
    by_cases hlt : k < m
    · obtain ⟨r1, r2⟩ := HR.out k (by rw [HX.out]; exact hlt)
      have c1 := (hS.cell (a := ⟨g, k * 2, none⟩) (World.block_lt_of_cell? _ _ r1)).trans r1
      have c2 := (hS.cell (a := ⟨g, k * 2 + 1, none⟩) (World.block_lt_of_cell? _ _ r2)).trans r2
      obtain ⟨pa, hpa⟩ : ∃ x, (ps.getD k (0, 0)).1 = x := ⟨_, rfl⟩
      obtain ⟨pb, hpb⟩ : ∃ x, (ps.getD k (0, 0)).2 = x := ⟨_, rfl⟩
      rw [hpa] at c1
      rw [hpb] at c2
      have HPA := Lib.hid hpa
      have HPB := Lib.hid hpb
      clear r1 r2 hpa hpb
      have hak : crA ps (k + 1) = crA ps k + crN (pa, pb) (ps.drop (k + 1)) := by rw [← HPA.out, ← HPB.out]; rfl
      have HAK := Lib.hid hak
      have hal := HB.out k
      rw [HX.out] at hal
      have hal2 : k * m ≤ 3 * 3 := Nat.mul_le_mul (by omega) h3
      obtain ⟨A, hA⟩ : ∃ A, crA ps k = A := ⟨_, rfl⟩
      rw [hA] at hak hal ⊢
      have HA := Lib.hid hA
      have hwk : IntKind.i64.wrap ((k : Int) + 1) = (k : Int) + 1 := IntWalk.i64_in _ ⟨by omega, by omega⟩
      have HS := Lib.hid hS
      clear hak hA
      by_cases hcc : cap = k + 1
      · have hmk : m = k + 1 := by omega
        subst hmk
        subst hcc
        have he : crA ps (k + 1) = A := by
          rw [HAK.out, HA.out, List.drop_eq_nil_of_le (by rw [HX.out]; exact Nat.le_refl _)]; rfl
        have HE := Lib.hid he
        clear he hS
        go_wp2
        go_loopg [3, 7, 20] 0 (fun q s _ i wi => q = 0 ∧ i = .int .i64 0 ∧ s = .int .i64 A ∧ W.Since W.heap.size wi)
        case atStart => exact ⟨rfl, rfl, rfl, HS.out.alloc HS.out.size _⟩
        case round =>
          obtain ⟨rfl, rfl, rfl, hSi⟩ := hrel
          go_wp2
          go_roundg 0
          case measure => omega
          case rel => exact ⟨k + 1, by omega, by omega, by go_num, by rw [HE.out], hSi⟩
      · have hn1 := Boxed2.new wr pa pb
        obtain ⟨P, hP⟩ : ∃ P, wr.heap.size = P := ⟨_, rfl⟩
        rw [hP] at hn1
        have HN1 := Lib.hid hn1
        have HS1 := Lib.hid (HS.out.alloc HS.out.size (.cells #[.int .i64 pa, .int .i64 pb] 72))
        have hPl : W.heap.size ≤ P := by rw [← hP]; exact HS.out.size
        clear hn1 hS
        go_wp2
        clear hP c1 c2
        go_loopg [3, 7, 20] (m - (k + 1)) (fun q s _ i wi => ∃ j : Nat, j ≤ m - (k + 1) ∧ q = m - (k + 1) - j ∧ i = .int .i64 j ∧ s = .int .i64 ((A + crN (pa, pb) ((ps.drop (k + 1)).take j) : Nat) : Int) ∧ W.Since W.heap.size wi ∧ Boxed2 wi P pa pb)
        case atStart => exact ⟨0, Nat.zero_le _, rfl, rfl, by simp [crN], HS1.out, HN1.out⟩
        case round =>
          obtain ⟨j, hj, rfl, rfl, rfl, hSi, hBi⟩ := hrel
          by_cases hjl : j < m - (k + 1)
          · obtain ⟨r1, r2⟩ := HR.out (k + 1 + j) (by rw [HX.out]; omega)
            have d1 := (hSi.cell (a := ⟨g, (k + 1 + j) * 2, none⟩) (World.block_lt_of_cell? _ _ r1)).trans r1
            have d2 := (hSi.cell (a := ⟨g, (k + 1 + j) * 2 + 1, none⟩) (World.block_lt_of_cell? _ _ r2)).trans r2
            rw [show (k + 1 + j) * 2 = (k + 1) * 2 + j * 2 by omega] at d1 d2
            have ht : (ps.drop (k + 1)).take (j + 1) = (ps.drop (k + 1)).take j ++ [ps.getD (k + 1 + j) (0, 0)] := by
              rw [List.take_add_one]
              simp [List.getD, show k + 1 + j < ps.length by rw [HX.out]; omega]
            have hcn := crN_snoc (pa, pb) ((ps.drop (k + 1)).take j) (ps.getD (k + 1 + j) (0, 0))
            rw [← ht] at hcn
            have hcl := crN_le (pa, pb) ((ps.drop (k + 1)).take j)
            have hcl2 : ((ps.drop (k + 1)).take j).length ≤ j := by simp; omega
            obtain ⟨qp, hqp⟩ : ∃ x, ps.getD (k + 1 + j) (0, 0) = x := ⟨_, rfl⟩
            rw [hqp] at d1 d2 hcn
            obtain ⟨qa, qb⟩ := qp
            simp only at d1 d2
            have hcr : crB (pa, pb) (qa, qb) = (decide (qa < pb) && decide (pb < qb)) := rfl
            rw [hcr] at hcn
            obtain ⟨S, hSS⟩ : ∃ S, A + crN (pa, pb) ((ps.drop (k + 1)).take j) = S := ⟨_, rfl⟩
            rw [hSS]
            have hSb : S ≤ 20 := by omega
            have hwS : IntKind.i64.wrap ((S : Int) + 1) = ((S + 1 : Nat) : Int) := (IntWalk.i64_in _ ⟨by omega, by omega⟩).trans (by omega)
            have hwj : IntKind.i64.wrap ((j : Int) + 1) = ((j + 1 : Nat) : Int) := (IntWalk.i64_in _ ⟨by omega, by omega⟩).trans (by omega)
            obtain ⟨b1, b2, _, _⟩ := hBi.alloc (.cells #[.int .i64 qa, .int .i64 qb] 72)
            have hjl2 : (j : Int) < ((m - (k + 1) : Nat) : Int) := by omega
            have HF1 := Lib.hid (hSi.alloc hSi.size (.cells #[.int .i64 qa, .int .i64 qb] 72))
            have HF2 := Lib.hid (hBi.alloc (.cells #[.int .i64 qa, .int .i64 qb] 72))
            by_cases h1 : qa < pb
            · have h1' : (qa : Int) < (pb : Int) := by omega
              by_cases h2 : pb < qb
              · have h2' : (pb : Int) < (qb : Int) := by omega
                have hN : A + crN (pa, pb) ((ps.drop (k + 1)).take (j + 1)) = S + 1 := by rw [hcn, if_pos (by simp [h1, h2])]; omega
                have HN := Lib.hid hN
                clear hN hcn hSS hcl hcl2 ht r1 r2 hSi hBi hqp
                go_wp2
                go_roundg (m - (k + 1) - (j + 1))
                case measure => omega
                case rel => exact ⟨j + 1, by omega, rfl, by go_num, by rw [HN.out]; go_num, HF1.out, HF2.out⟩
              · have h2' : ¬ (pb : Int) < (qb : Int) := by omega
                have hN : A + crN (pa, pb) ((ps.drop (k + 1)).take (j + 1)) = S := by rw [hcn, if_neg (by simp [h2])]; omega
                have HN := Lib.hid hN
                clear hN hcn hSS hcl hcl2 ht r1 r2 hSi hBi hqp
                go_wp2
                go_roundg (m - (k + 1) - (j + 1))
                case measure => omega
                case rel => exact ⟨j + 1, by omega, rfl, by go_num, by rw [HN.out], HF1.out, HF2.out⟩
            · have h1' : ¬ (qa : Int) < (pb : Int) := by omega
              have hN : A + crN (pa, pb) ((ps.drop (k + 1)).take (j + 1)) = S := by rw [hcn, if_neg (by simp [h1])]; omega
              have HN := Lib.hid hN
              clear hN hcn hSS hcl hcl2 ht r1 r2 hSi hBi hqp
              go_wp2
              go_roundg (m - (k + 1) - (j + 1))
              case measure => omega
              case rel => exact ⟨j + 1, by omega, rfl, by go_num, by rw [HN.out], HF1.out, HF2.out⟩
          · have hje : j = m - (k + 1) := by omega
            have hjl2 : ¬ (j : Int) < ((m - (k + 1) : Nat) : Int) := by omega
            have he : A + crN (pa, pb) ((ps.drop (k + 1)).take j) = crA ps (k + 1) := by
              rw [HAK.out, HA.out, List.take_of_length_le (by rw [List.length_drop, HX.out]; omega)]
            rw [he]
            go_wp2
            go_roundg (m - (k + 1))
            case measure => omega
            case rel => exact ⟨k + 1, by omega, rfl, by go_num, rfl, hSi⟩
    · have : m = k := by omega
      subst this
      go_wp2
      go_ret
      exact ⟨rfl, hS⟩

end Go.Proofs.YtpimdgijjljejaaDoor

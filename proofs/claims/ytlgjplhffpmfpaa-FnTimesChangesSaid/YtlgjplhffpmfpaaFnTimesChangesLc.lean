import Derived.Test.YtlgjplhffpmfpaaFnTimesChangesLb
import Derived.LoopNIn
import Derived.Test.YtlgjplhffpmfpaaRound
import Derived.OrdersHeld
import Derived.Test.YtlgjplhffpmfpaaTabInImpl
import Derived.Test.YtlgjplhffpmfpaaFnTimesChangesLa
import Derived.Test.YtlgjplhffpmfpaaImpl1
import Derived.Test.YtlgjplhffpmfpaaPartImpl
import Derived.Test.YtlgjplhffpmfpaaSwapped
import Derived.Test.YtlgjplhffpmfpaaAddImpl
import Derived.Test.YtlgjplhffpmfpaaAddSpec
import Derived.Test.YtlgjplhffpmfpaaTimesSpec
import Derived.Test.YtlgjplhffpmfpaaSumSpec
import Derived.Test.YtlgjplhffpmfpaaHarn2
import Derived.Test.YtlgjplhffpmfpaaRows
import Derived.Test.YtlgjplhffpmfpaaData
import Derived.ProofKit
import Derived.Deep.Matrix

section
namespace Go.Proofs.Ytlgjplhffpmfpaa
open Go.RowKit Go.Deep Go.Shelf
attribute [local go_sem] Oper.semAt_some

set_option maxHeartbeats 400000 in
theorem hasKth_any (a : Option Addr) (cap n m k : Nat) (l : List (List Int)) (w : World) (hn : l.length = n) (hT : TabIn l) (hmm : (l.getD 0 []).length = m) (hm : MatR w a l) :
    Calls Try.prog 85 #[.slice a n cap, .int .i64 k] w fun e w' => e = .returned (.bool (inB k 0 (min n m : Nat))) ∧ w = w' := by
  have h6 := hT.2.1
  have h1 := hT.1
  rw [hn] at h6 h1
  have EW := width_any a cap n l w hn (by omega) (by omega) hm
  rw [hmm] at EW
  have EI := Lib.hid (fun x => inRange_any k 0 x w)
  replace EW := Lib.hid EW
  clear hn hT hmm hm
  have hmi : ((min n m : Nat) : Int) = min (n : Int) (m : Int) := by omega
  rw [hmi]
  go_enter Try.func85, Try.ntmps85
  go_wp2_with fail
  refine (EW.out).mono ?_
  rintro e w2 ⟨rfl, rfl⟩
  go_wp2_with fail
  all_goals
    refine (EI.out _).mono ?_
    rintro e w3 ⟨rfl, rfl⟩
    go_wp2
    go_ret
    first
      | (have e : min (n : Int) (m : Int) = m := by omega
         rw [e]; exact ⟨rfl, rfl⟩)
      | (have e : min (n : Int) (m : Int) = n := by omega
         rw [e]; exact ⟨rfl, rfl⟩)

def mkD (Ds : List Nat) : List Deferred := Ds.map fun D => { target := .collected D, args := #[] }
def MK (B C : Nat) (Ds : List Nat) (W : World) : Prop := Ds.Nodup ∧ ∀ D ∈ Ds, B ≤ D ∧ D < C ∧ W.heap[D]? = some (.deferred (some []))
theorem MK.grown {B C : Nat} {Ds : List Nat} {X Y : World} {row : Option Nat} (h : MK B C Ds X) (hg : X.grownBy Y row) (hr : ∀ r, row = some r → C ≤ r) : MK B C Ds Y :=
  ⟨h.1, fun D hD => by
    obtain ⟨h1, h2, h3⟩ := h.2 D hD
    exact ⟨h1, h2, (hg.block D (Array.getElem?_eq_some_iff.1 h3).1 (fun e => by have := hr D e.symm; omega)).trans h3⟩⟩
theorem MK.keeps {B C : Nat} {Ds : List Nat} {X Y : World} {own : Nat → Prop} (h : MK B C Ds X) (hk : Keeps own X Y) (ho : ∀ q, own q → q < B) : MK B C Ds Y :=
  ⟨h.1, fun D hD => by
    obtain ⟨h1, h2, h3⟩ := h.2 D hD
    exact ⟨h1, h2, hk.same D _ (fun e => by have := ho D e; omega) h3⟩⟩
theorem MK.mono {B C C' : Nat} {Ds : List Nat} {X : World} (h : MK B C Ds X) (hc : C ≤ C') : MK B C' Ds X := ⟨h.1, fun D hD => by
  obtain ⟨h1, h2, h3⟩ := h.2 D hD
  exact ⟨h1, by omega, h3⟩⟩
theorem MK.cons {B C C' D : Nat} {Ds : List Nat} {X : World} (h : MK B C Ds X) (hB : B ≤ C) (hD : C ≤ D) (hD2 : D < C') (hK : X.heap[D]? = some (.deferred (some []))) : MK B C' (D :: Ds) X :=
  ⟨List.nodup_cons.2 ⟨fun e => by have := (h.2 D e).2.1; omega, h.1⟩, fun E hE => by
    rcases List.mem_cons.1 hE with e | e
    · subst e; exact ⟨by omega, hD2, hK⟩
    · obtain ⟨h1, h2, h3⟩ := h.2 E e
      exact ⟨h1, by omega, h3⟩⟩
theorem leaves_marks {F : Fence} {n : Nat} {P : Program} {fn : Func} {tmps : Array Value} {R : Ending → World → Prop} {B C : Nat} (T : World → Prop) (hT : ∀ X D, T X → B ≤ D → T (X.putObj D (.deferred none))) (hfin : ∀ X, T X → LeavesIn F n P fn tmps R [] .returning X) :
    ∀ (Ds : List Nat) (W : World), MK B C Ds W → T W → LeavesInM F n P fn tmps R (mkD Ds) .returning W
  | [], W, _, h => hfin W h
  | D :: Ds, W, hm, h => by
    obtain ⟨h1, h2⟩ := hm
    rw [List.nodup_cons] at h1
    obtain ⟨g1, _, g2⟩ := h2 D (by simp)
    refine ⟨by simp, .inl ⟨_, _, rfl, run_takeDeferred g2, ?_⟩⟩
    refine leaves_marks (C := C) T hT hfin Ds _ (⟨h1.2, fun E hE => ?_⟩ : MK B C Ds _) (hT _ _ h g1)
    obtain ⟨q1, q3, q2⟩ := h2 E (by simp [hE])
    exact ⟨q1, q3, (World.putObj_heap_other (fun e => h1.1 (by first | exact e ▸ hE | (subst e; exact hE)))).trans q2⟩
structure AB (n₀ : Nat) (w0 : World) (Bt By lp : Nat) (a : Option Addr) (n cap : Nat) (X : World) : Prop where
  bt : X.cell? ⟨Bt, 0, none⟩ = some (.slice a n cap)
  yb : X.cell? ⟨By, 0, none⟩ = some (.func (.yield lp) #[] #[])
  old : OldT n₀ w0 X
theorem AB.grown {n₀ : Nat} {w0 : World} {Bt By lp : Nat} {a : Option Addr} {n cap : Nat} {X Y : World} {row : Option Nat} {B : Nat} (h : AB n₀ w0 Bt By lp a n cap X) (hz : n₀ ≤ X.heap.size) (h1 : n₀ ≤ B ∧ Bt < B ∧ By < B) (hg : X.grownBy Y row) (hr : ∀ r, row = some r → B ≤ r) : AB n₀ w0 Bt By lp a n cap Y :=
  ⟨cell_own h.bt h1.2.1 hg hr, cell_own h.yb h1.2.2 hg hr, h.old.grown hz hg (fun r e => by have := hr r e; omega)⟩
theorem AB.keeps {n₀ : Nat} {w0 : World} {Bt By lp : Nat} {a : Option Addr} {n cap : Nat} {X Y : World} {own : Nat → Prop} (h : AB n₀ w0 Bt By lp a n cap X) (hz : n₀ ≤ X.heap.size) (hk : Keeps own X Y) (ho : ∀ q, own q → n₀ ≤ q ∧ q ≠ Bt ∧ q ≠ By) : AB n₀ w0 Bt By lp a n cap Y :=
  ⟨hk.cell (a := ⟨Bt, 0, none⟩) (fun e => (ho _ e).2.1 rfl) h.bt, hk.cell (a := ⟨By, 0, none⟩) (fun e => (ho _ e).2.2 rfl) h.yb, h.old.keeps hz hk (fun q e => (ho q e).1)⟩

theorem partsTo_len {n m : Nat} (h6 : n ≤ 6) (hm : m ≤ 6) : ∀ j, (partsTo n m j).length ≤ j * 4096
  | 0 => by simp [partsTo]
  | j + 1 => by
    have h1 := partsTo_len h6 hm j
    have h2 := flat_len (j + 1) m hm (setsTo (j + 1) (2 ^ n))
    have h3 := setsTo_len (j + 1) (2 ^ n)
    have p : 2 ^ n ≤ 2 ^ 6 := Nat.pow_le_pow_right (by omega) h6
    have h4 : (setsTo (j + 1) (2 ^ n)).length * 64 ≤ 64 * 64 := Nat.mul_le_mul_right 64 (by omega)
    show (partsTo n m j ++ partsK (j + 1) n m).length ≤ _
    rw [List.length_append]
    have e : (partsK (j + 1) n m).length = ((setsTo (j + 1) (2 ^ n)).flatMap (prow (j + 1) m)).length := rfl
    omega

set_option maxRecDepth 100000 in
set_option maxHeartbeats 2000000 in
theorem all_seqE (f : Nat) (hf : 16 ≤ f) (Bt n m cap : Nat) (a : Option Addr) (l : List (List Int)) (w0 w : World) (hn : l.length = n) (hT : TabIn l) (hmm : (l.getD 0 []).length = m) (hm : MatR w0 a l) (hold : OldT w0.heap.size w0 w) (_hz0 : w0.heap.size ≤ w.heap.size) (hBt : w0.heap.size ≤ Bt) (ct : w.cell? ⟨Bt, 0, none⟩ = some (.slice a n cap)) :
    SeqE Fence.wide f Try.prog 84 #[.pointer (some ⟨Bt, 0, none⟩)] encP (fun x _ => x ∈ partsA n m) (fun q => q < w0.heap.size ∨ q = Bt) (fun ys => ys = partsA n m) (fun _ => True) 32768 w := by
  intro lp J Jx own W hW hown hJ hJx hY hj
  have h6 := hT.2.1
  have h1 := hT.1
  have hw := hT.width
  rw [hn] at h6 h1
  rw [hmm] at hw
  have lt := World.block_lt_of_cell? _ _ ct
  simp only at lt
  have c1 := (hW.cell (p := ⟨Bt, 0, none⟩) lt).trans ct
  have hWz := hW.size
  have hOW : OldT w0.heap.size w0 W := fun q hq => (hW.block q (by omega)).trans (hold q hq)
  have hso : ∀ q, own q → w0.heap.size ≤ q ∧ q ≠ Bt ∧ q < W.heap.size := fun q hq => by
    obtain ⟨g1, g2⟩ := hown q hq
    exact ⟨by
      by_cases e : q < w0.heap.size
      · exact absurd (.inl e) g2
      · omega, fun e => g2 (.inr e), g1⟩
  have EK := Lib.hid (fun (k : Nat) (V : World) (h : OldT w0.heap.size w0 V) => hasKth_any a cap n m k l V hn hT hmm (hm.oldT h))
  have HSEQ := Lib.hid (fun (g : Nat) (hg : 12 ≤ g) (Bt' Bk' k : Nat) (V : World) => kth_seqE g hg Bt' Bk' n m cap k a l w0 V hn hT hmm hm)
  clear hold ct hm hmm hT hn
  refine callsIn_of_wp_marks Try.func84 rfl trivial ?_ rfl
  simp only [Try.ntmps84, List.size_toArray, List.length_cons, List.length_nil, Nat.reduceAdd, Nat.reduceSub, Array.replicate_succ, Array.replicate_zero, List.push_toArray, List.append_toArray, List.nil_append, List.cons_append]
  have c2 : (W.alloc (.cells #[.func (.yield lp) #[] #[]] 89)).cell? ⟨Bt, 0, none⟩ = _ := cell_alloc_l _ c1
  have y0 : (W.alloc (.cells #[.func (.yield lp) #[] #[]] 89)).cell? ⟨W.heap.size, 0, none⟩ = _ := (cell_new_l W _ _).1
  have hg1 := World.grownBy_alloc W (.cells #[.func (.yield lp) #[] #[]] 89) none
  have hA1 : AB w0.heap.size w0 Bt W.heap.size lp a n cap (W.alloc (.cells #[.func (.yield lp) #[] #[]] 89)) := ⟨c2, y0, hOW.grown (by omega) hg1 (fun r e => by cases e)⟩
  have hj1 := hJ.alloc (.cells #[.func (.yield lp) #[] #[]] 89) hj
  have hso3 : ∀ q, own q → w0.heap.size ≤ q ∧ q ≠ Bt ∧ q ≠ W.heap.size := fun q hq => by have := hso q hq; omega
  gi_wp2
  refine wpIn_loop (fun a' X => ∃ (j : Nat) (Ds : List Nat) (u6 u7 u8 u9 u10 u11 u12 u13 : Value), 1 ≤ j ∧ j ≤ min n m + 1 ∧ a' = { tmps := #[.func (.yield lp) #[] #[], .pointer (some ⟨Bt, 0, none⟩), .pointer (some ⟨W.heap.size, 0, none⟩), .int .i64 (j : Int), undef, undef, u6, u7, u8, u9, u10, u11, u12, u13, undef, undef, undef, undef, undef, undef, undef], defers := mkD Ds } ∧ J (partsTo n m (j - 1)) X ∧ AB w0.heap.size w0 Bt W.heap.size lp a n cap X ∧ MK W.heap.size X.heap.size Ds X ∧ W.heap.size + 1 ≤ X.heap.size)
    (fun a' _ => 8 - (intOf (a'.tmps.getD 3 undef)).toNat) ⟨1, [], _, _, _, _, _, _, _, _, Nat.le_refl _, by omega, rfl, hj1, hA1, ⟨List.nodup_nil, fun D hD => by cases hD⟩, by simp⟩ ?_
  rintro a' X ⟨j, Ds, u6, u7, u8, u9, u10, u11, u12, u13, hj1', hj2, rfl, hjx, hAX, hMK, hzX⟩
  have EKj := Lib.hid (EK.out j X hAX.old)
  have cT := hAX.bt
  by_cases hjm : j ≤ min n m
  · have hin : inB (j : Int) 0 (min n m : Nat) = true := by simp [inB]; omega
    rw [hin] at EKj
    gi_wp2_with (first
      | (refine ⟨trivial, fun _ => by omega, ?_⟩; gi_at_call 85; refine (callsIn_wide.2 EKj.out).mono ?_; rintro e w' ⟨rfl, rfl⟩)
      | (refine ⟨trivial, fun _ => by omega, ?_⟩; gi_at_call 86; refine (kthParts_in _ _ _ _ _ _).mono ?_; rintro e w' ⟨rfl, rfl⟩))
    have hg2 := (World.grownBy_alloc X (.cells #[.slice a n cap] 42) none).trans (World.grownBy_alloc _ (.cells #[.int .i64 (j : Int)] 3) none)
    have bt2 : ((X.alloc (.cells #[.slice a n cap] 42)).alloc (.cells #[.int .i64 (j : Int)] 3)).cell? ⟨X.heap.size, 0, none⟩ = some (.slice a n cap) := cell_alloc_l _ (cell_new_l X _ _).1
    have bk2 : ((X.alloc (.cells #[.slice a n cap] 42)).alloc (.cells #[.int .i64 (j : Int)] 3)).cell? ⟨X.heap.size + 1, 0, none⟩ = some (.int .i64 (j : Int)) := by
      have := (cell_new_l (X.alloc (.cells #[.slice a n cap] 42)) (.int .i64 (j : Int)) 3).1
      rw [World.size_alloc] at this
      exact this
    have zV : ((X.alloc (.cells #[.slice a n cap] 42)).alloc (.cells #[.int .i64 (j : Int)] 3)).heap.size = X.heap.size + 2 := by simp
    obtain ⟨V, hV⟩ : ∃ V, (X.alloc (.cells #[.slice a n cap] 42)).alloc (.cells #[.int .i64 (j : Int)] 3) = V := ⟨_, rfl⟩
    rw [hV] at hg2 bt2 bk2 zV ⊢
    clear hV
    have hBX : w0.heap.size ≤ X.heap.size ∧ Bt < X.heap.size ∧ W.heap.size < X.heap.size := by omega
    have hAV := hAX.grown (by omega) hBX hg2 (fun r e => by cases e)
    have hMV := hMK.grown hg2 (fun r e => by cases e)
    have hpl := partsTo_len h6 hw.2 (j - 1)
    refine rangeF (F := Fence.wide) (n := f) rfl (by omega) (gf := 93) (lb := #[.pointer (some ⟨X.heap.size, 0, none⟩), .pointer (some ⟨X.heap.size + 1, 0, none⟩)]) rfl trivial (enters_of Try.func93 (by kernel_rfl) rfl)
      (HSEQ.out (f - 1) (by omega) X.heap.size (X.heap.size + 1) j V hAV.old (by omega) (by omega) (by omega) bt2 bk2) (fun _ => rfl) own (fun q hq => ⟨by have := hso q hq; omega, by have := hso q hq; omega⟩) (fun q hq => by omega)
      (fun (ps : List (Nat × Nat)) Y => (J (partsTo n m (j - 1) ++ ps) Y ∧ AB w0.heap.size w0 Bt W.heap.size lp a n cap Y ∧ MK W.heap.size X.heap.size Ds Y) ∧ V.heap.size ≤ Y.heap.size)
      (fun c _ Y => c = .ret ∧ (∃ q, Jx q Y) ∧ MK W.heap.size X.heap.size Ds Y)
      (fun ps Y Z row hs hg hr => ⟨⟨hJ _ Y Z row hs.1.1 hg (fun r e => by have := hr r e; omega), hs.1.2.1.grown (by have := hs.2; omega) hBX hg (fun r e => by have := hr r e; omega), hs.1.2.2.grown hg (fun r e => by have := hr r e; omega)⟩, Nat.le_trans hs.2 hg.size⟩)
      (fun c ps Y Z row hs hg hr => ⟨hs.1, by
        obtain ⟨q, hq⟩ := hs.2.1
        exact ⟨q, hJx _ Y Z row hq hg (fun r e => by have := hr r e; omega)⟩, hs.2.2.grown hg (fun r e => by have := hr r e; omega)⟩)
      ⟨⟨by rw [List.append_nil]; exact hJ _ X V none hjx hg2 (fun r e => by cases e), hAV, hMV⟩, Nat.le_refl _⟩
      (fun x a'' _ => a'' = { tmps := #[.func (.yield lp) #[] #[], .pointer (some ⟨Bt, 0, none⟩), .pointer (some ⟨W.heap.size, 0, none⟩), .int .i64 (j : Int), .int .i64 (x.1 : Int), .int .i64 (x.2 : Int), .slice a n cap, .int .i64 (j : Int), .bool true, u9, u10, .slice a n cap, .int .i64 (j : Int), .func (.func 93) #[] #[.pointer (some ⟨X.heap.size, 0, none⟩), .pointer (some ⟨X.heap.size + 1, 0, none⟩)], .int .i64 (x.1 : Int), .int .i64 (x.2 : Int), undef, undef, undef, undef, undef], defers := [] })
      (fun _ _ _ _ _ _ hA _ _ => hA)
      ?assign ?body ?done ?stop
    case assign =>
      rintro lq ps x Y K _ hi _ hK
      simp only [encP]
      gi_wp2
      exact hK _ _ (Keeps.refl _ _) hi rfl
    case body =>
      rintro lq ps x a'' Y hlq hzY _ ⟨⟨hjy, hAY, hMY⟩, _⟩ hpx rfl hlen
      have cY := hAY.yb
      have hxA : x ∈ partsA n m := by
        obtain ⟨⟨g1, g2⟩, g3, g4⟩ := partsK_mem.1 hpx
        exact (partsTo_mem _).2 ⟨by omega, by omega, by omega, g1, g3⟩
      have hl4 : (partsTo n m (j - 1) ++ ps).length < 32768 := by
        rw [List.length_append]
        omega
      obtain ⟨fn, tmps, assign, body, hy, hR⟩ := yieldAt_any (m' := f - 1 - 1 - 1) (hY _ x Y hjy hxA hl4)
      dsimp only [encP] at hy
      have HKEEP := Lib.hid (show ∀ Z, Keeps own Y Z → AB w0.heap.size w0 Bt W.heap.size lp a n cap Z ∧ MK W.heap.size X.heap.size Ds Z ∧ V.heap.size ≤ Z.heap.size from fun Z hk =>
        ⟨hAY.keeps (by omega) hk hso3, hMY.keeps hk (fun q hq => (hso q hq).2.2), by have := hk.size; omega⟩)
      clear hjy hAY hMY hxA
      obtain ⟨x1, x2⟩ := x
      simp only at hy hR ⊢
      gi_wp2
      refine ⟨fun h => by omega, ?_⟩
      refine RoundIn.mono (F := Fence.wide.inRound lq) hR ?_
      rintro e W3 (⟨rfl, hJ3, hk3⟩ | ⟨rfl, hx3, hk3⟩)
      · obtain ⟨q1, q2, q3⟩ := HKEEP.out _ hk3
        gi_wp2
        exact ⟨hk3, ⟨by rw [← List.append_assoc]; exact hJ3, q1, q2⟩, q3⟩
      · obtain ⟨q1, q2, q3⟩ := HKEEP.out _ hk3
        gi_wp2
        exact ⟨hk3, rfl, ⟨_, hx3⟩, q2⟩
    case done =>
      rintro D ps Y hD rfl ⟨⟨hjy, hAY, hMY⟩, hzY⟩ hK
      have hDY := (Array.getElem?_eq_some_iff.1 hK).1
      have hMC := hMY.cons (C' := Y.heap.size) (by omega) (by omega) hDY hK
      have hwj : IntKind.i64.wrap ((j : Int) + 1) = ((j + 1 : Nat) : Int) := by rw [IntWalk.i64_in _ ⟨by omega, by omega⟩]; omega
      have hnext : partsTo n m j = partsTo n m (j - 1) ++ partsK j n m := by
        obtain ⟨i, rfl⟩ : ∃ i, j = i + 1 := ⟨j - 1, by omega⟩
        rfl
      gi_wp2
      exact ⟨⟨j + 1, D :: Ds, _, _, _, _, _, _, _, _, by omega, by omega, rfl, by rw [Nat.add_sub_cancel, hnext]; exact hjy, hAY, hMC, by omega⟩, by simp [intOf]; omega⟩
    case stop =>
      rintro D c ps Y hD _ ⟨rfl, ⟨q, hq⟩, hMY⟩ hK
      have hDY := (Array.getElem?_eq_some_iff.1 hK).1
      have hMC := hMY.cons (C' := Y.heap.size) (by omega) (by omega) hDY hK
      gi_wp2
      refine leaves_marks (B := W.heap.size) (fun Z => Jx q Z) (fun Z E h hE => hJx.put _ h hE) (fun Z h => ?_) (D :: Ds) Y hMC hq
      refine ⟨.tuple #[], ?_, ⟨_, rfl⟩, .inr ⟨q, trivial, h⟩⟩
      simp [results, Try.f84, go_sem]
  · have hin : inB (j : Int) 0 (min n m : Nat) = false := by simp [inB]; omega
    rw [hin] at EKj
    obtain rfl : j = min n m + 1 := by omega
    gi_wp2_with (refine ⟨trivial, fun _ => by omega, ?_⟩; gi_at_call 85; refine (callsIn_wide.2 EKj.out).mono ?_; rintro e w' ⟨rfl, rfl⟩)
    refine leaves_marks (B := W.heap.size) (fun Z => J (partsA n m) Z) (fun Z E h hE => hJ.put _ h hE) (fun Z h => ?_) Ds _ hMK hjx
    refine ⟨.tuple #[], ?_, ⟨_, rfl⟩, .inl ⟨_, rfl, h⟩⟩
    simp [results, Try.f84, go_sem]

end Go.Proofs.Ytlgjplhffpmfpaa
end

section
namespace Go.Proofs.Ytlgjplhffpmfpaa
open Go.RowKit Go.Deep Go.Shelf

attribute [local go_sem] Oper.semAt_some

def hasR (l : List (List Int)) (k M2 : Nat) (r : Nat) : Bool := (setsTo k M2).any fun c => decide (dt k (at2 (partL l r c)) ≠ 0)
def hasB (l : List (List Int)) (k M1 M2 : Nat) : Bool := (setsTo k M1).any (hasR l k M2)
theorem hasB_yes {l : List (List Int)} {k n m : Nat} {x : Nat × Nat} (hx : x ∈ partsK k n m) (h : mnP l x ≠ 0) : hasB l k (2 ^ n) (2 ^ m) = true := by
  obtain ⟨⟨g1, g2⟩, g3⟩ := partsK_mem.1 hx
  refine List.any_eq_true.2 ⟨x.1, (setsTo_mem k).2 ⟨g1, g2⟩, List.any_eq_true.2 ⟨x.2, (setsTo_mem k).2 g3, ?_⟩⟩
  unfold mnP at h
  rw [g2] at h
  simpa using h
theorem hasB_no {l : List (List Int)} {k n m : Nat} (h : ∀ x ∈ partsK k n m, mnP l x = 0) : hasB l k (2 ^ n) (2 ^ m) = false := by
  cases e : hasB l k (2 ^ n) (2 ^ m) with
  | false => rfl
  | true =>
    obtain ⟨r, hr, e2⟩ := List.any_eq_true.1 e
    obtain ⟨c, hc, e3⟩ := List.any_eq_true.1 e2
    have g1 := (setsTo_mem k).1 hr
    have g2 := (setsTo_mem k).1 hc
    have := h (r, c) (partsK_mem.2 ⟨g1, g2⟩)
    unfold mnP at this
    rw [show popcS (r, c).1 = k from g1.2] at this
    exact absurd this (of_decide_eq_true e3)

theorem oldT_since {w W : World} (h : w.Since w.heap.size W) : OldT w.heap.size w W := fun k hk => h.block k hk
theorem grownSH {w w' : World} (h : w.Since w.heap.size w') : w.grownBy w' none := ⟨h.os, h.tape, h.output, h.size, fun k hk _ => h.block k hk⟩
structure HS (w : World) (tv : Value) (W : World) : Prop where
  bt : Boxed W w.heap.size 42 tv
  br : Boxed W (w.heap.size + 1) 4 (.bool false)
  sn : w.Since w.heap.size W
theorem since_row {lo : Nat} {w W W' : World} {row : Option Nat} (h : w.Since lo W) (hlo : lo ≤ w.heap.size) (hg : W.grownBy W' row) (hr : ∀ r, row = some r → lo ≤ r) : w.Since lo W' :=
  ⟨hg.os.trans h.os, hg.tape.trans h.tape, hg.output.trans h.output, Nat.le_trans h.size hg.size, fun k hk => (hg.block k (by have := h.size; omega) (fun e => by have := hr k e.symm; omega)).trans (h.block k hk)⟩
theorem HS.kept {w W W' : World} {tv : Value} {row : Option Nat} (h : HS w tv W) (hg : W.grownBy W' row) (hr : ∀ r, row = some r → w.heap.size + 2 ≤ r) : HS w tv W' :=
  ⟨h.bt.kept hg (fun e => by have := hr _ e.symm; omega), h.br.kept hg (fun e => by have := hr _ e.symm; omega), since_row h.sn (Nat.le_refl _) hg (fun r e => by have := hr r e; omega)⟩

end Go.Proofs.Ytlgjplhffpmfpaa
end

section
namespace Go.Proofs.Ytlgjplhffpmfpaa
open Go.RowKit Go.Deep Go.Shelf
attribute [local go_sem] Oper.semAt_some

def posV (a : Option Addr) (n cap g : Nat) (lb : Array Value) : Value := .agg #[.slice a n cap, .func (.func g) #[] lb]
structure QS (w : World) (tv gv qv : Value) (b : Bool) (W : World) : Prop where
  b0 : W.heap[w.heap.size]? = some (.cells #[tv, gv] 46)
  bq : Boxed W (w.heap.size + 1) 3 qv
  br : Boxed W (w.heap.size + 2) 4 (.bool b)
  sn : w.Since w.heap.size W
theorem QS.kept {w W W' : World} {tv gv qv : Value} {b : Bool} {row : Option Nat} (h : QS w tv gv qv b W) (hg : W.grownBy W' row) (hr : ∀ r, row = some r → w.heap.size + 3 ≤ r) : QS w tv gv qv b W' :=
  ⟨(hg.block _ (Array.getElem?_eq_some_iff.1 h.b0).1 (fun e => by have := hr _ e.symm; omega)).trans h.b0, h.bq.kept hg (fun e => by have := hr _ e.symm; omega), h.br.kept hg (fun e => by have := hr _ e.symm; omega), since_row h.sn (Nat.le_refl _) hg (fun r e => by have := hr r e; omega)⟩
theorem cells2 {W : World} {b : Nat} {s g : Value} {t : TypeId} (h : W.heap[b]? = some (.cells #[s, g] t)) : W.cell? ⟨b, 0, none⟩ = some s ∧ W.cell? ⟨b, 1, none⟩ = some g := by
  simp [World.cell?, h]

theorem round_region_heldP {lp n id : Nat} {P : Program} {ops : Array Oper} {Q : Exit → Act → World → Prop} {a : Act} {w : World} {S : World → Prop} (hm : P.follows .mixedOrders = true) (hd : noDefer ops = true) (hno : ¬ LetsOut Q) (hS : S w.drew)
    (h : S w.drew → wpAnyH P .any ops Q S ops.size (Array.replicate ops.size false) a w.drew) : (Code.region id ops true).wpIn (Fence.wide.inRound lp) n P Q a w :=
  wpIn_region_any hm (wpAnyIn_of_wpAny hno (noDefer_of hd) _ _ _ _ (wpAny_of_held _ _ _ _ (h hS)))

set_option maxRecDepth 100000 in
set_option maxHeartbeats 2000000 in
theorem minorsFrom_any (a : Option Addr) (cap n m : Nat) (q : Int) (g : Nat) (lb : Array Value) (ps : List (Nat × Nat)) (N : Nat) (need : Nat → Prop) (l : List (List Int)) (w : World) (hn : l.length = n) (hmm : (l.getD 0 []).length = m) (hT : TabIn l) (hm : MatR w a l)
    (hps : ∀ x ∈ ps, popcS x.1 = popcS x.2 ∧ x.1 < 2 ^ n ∧ x.2 < 2 ^ m) (hneed : ∀ k, need k → k < w.heap.size)
    (hseq : ∀ V : World, OldT w.heap.size w V → w.heap.size ≤ V.heap.size → SeqE Fence.wide 29 Try.prog g lb encP (fun x _ => x ∈ ps) need (fun ys => ys = ps) (fun _ => True) N V)
    (eg : ∀ args w, (callFunc g args).run Try.prog w = .ok (.enter g args) w) :
    Calls Try.prog 29 #[posV a n cap g lb, .int .i64 q] w fun e w' => e = .returned (.bool (leastB l q ps)) ∧ w.Since w.heap.size w' := by
  have EM := Lib.hid (fun (x : Nat × Nat) (hx : x ∈ ps) (V : World) (h : w.Since w.heap.size V) => minor_any a cap n m x.1 x.2 l V hn hmm hT (hps x hx).2.1 (hps x hx).2.2 (hps x hx).1 (hm.since h))
  have HSEQ := Lib.hid hseq
  have EG := Lib.hid eg
  clear hn hmm hT hm hps hseq eg
  unfold posV
  refine (callsIn_wide (n := 30)).1 ?_
  refine callsIn_of_wp_marks Try.func29 rfl trivial ?_ rfl
  simp only [Try.ntmps29, List.size_toArray, List.length_cons, List.length_nil, Nat.reduceAdd, Nat.reduceSub, Array.replicate_succ, Array.replicate_zero, List.push_toArray, List.append_toArray, List.nil_append, List.cons_append]
  have hS0 : QS w (.slice a n cap) (.func (.func g) #[] lb) (.int .i64 q) false (((w.alloc (.cells #[.slice a n cap, .func (.func g) #[] lb] 46)).alloc (.cells #[.int .i64 q] 3)).alloc (.cells #[.bool false] 4)) := by
    have b1 := Boxed.new (w.alloc (.cells #[.slice a n cap, .func (.func g) #[] lb] 46)) 3 (.int .i64 q)
    have b2 := Boxed.new ((w.alloc (.cells #[.slice a n cap, .func (.func g) #[] lb] 46)).alloc (.cells #[.int .i64 q] 3)) 4 (.bool false)
    simp only [World.size_alloc] at b1 b2
    exact ⟨(Below.heap_alloc _ _ _ (by simp; omega)).trans ((Below.heap_alloc _ _ _ (by simp)).trans (World.alloc_heap_new w _)), b1.alloc _, b2, (((World.Since.refl _ w).alloc (Nat.le_refl _) _).alloc (by simp) _).alloc (by simp; omega) _⟩
  gi_wp2
  obtain ⟨V, hV⟩ : ∃ V, (((w.alloc (.cells #[.slice a n cap, .func (.func g) #[] lb] 46)).alloc (.cells #[.int .i64 q] 3)).alloc (.cells #[.bool false] 4)) = V := ⟨_, rfl⟩
  have zV : V.heap.size = w.heap.size + 3 := by rw [← hV]; simp
  rw [hV] at hS0 ⊢
  clear hV
  refine rangeF (F := Fence.wide) (n := 30) rfl (by omega) (gf := g) (lb := lb) rfl trivial EG.out
    (HSEQ.out V (oldT_since hS0.sn) (by omega)) (fun _ => rfl) (fun k => k = w.heap.size + 2) (fun k hk => ⟨by omega, fun h => by have := hneed _ h; omega⟩) (fun k hk => by have := hneed _ hk; omega)
    (fun (qs : List (Nat × Nat)) X => (QS w (.slice a n cap) (.func (.func g) #[] lb) (.int .i64 q) false X ∧ V.heap.size ≤ X.heap.size) ∧ leastB l q qs = true)
    (fun c _ X => c = .ret ∧ (Boxed X (w.heap.size + 2) 4 (.bool false) ∧ w.Since w.heap.size X) ∧ leastB l q ps = false)
    (fun qs X Y row hs hg hr => ⟨⟨hs.1.1.kept hg (fun r e => by have := hr r e; omega), Nat.le_trans hs.1.2 hg.size⟩, hs.2⟩)
    (fun c qs X Y row hs hg hr => ⟨hs.1, ⟨hs.2.1.1.kept hg (fun e => by have := hr _ e.symm; omega), since_row hs.2.1.2 (Nat.le_refl _) hg (fun r e => by have := hr r e; omega)⟩, hs.2.2⟩)
    ⟨⟨hS0, Nat.le_refl _⟩, rfl⟩
    (fun x a'' _ => a'' = { tmps := #[.agg #[.slice a n cap, .func (.func g) #[] lb], .int .i64 q, .pointer (some ⟨w.heap.size, 0, none⟩), .pointer (some ⟨w.heap.size + 1, 0, none⟩), .pointer (some ⟨w.heap.size + 1 + 1, 0, none⟩), .int .i64 (x.1 : Int), .int .i64 (x.2 : Int), .pointer (some ⟨w.heap.size, 1, none⟩), .func (.func g) #[] lb, .int .i64 (x.1 : Int), .int .i64 (x.2 : Int), undef, undef, undef, undef, undef, undef, undef], defers := [] })
    (fun _ _ _ _ _ _ hA _ _ => hA)
    ?assign ?body ?done ?stop
  case assign =>
    rintro lq qs x Y K _ hi _ hK
    simp only [encP]
    gi_wp2
    exact hK _ _ (Keeps.refl _ _) hi rfl
  case body =>
    rintro lq qs x a'' Y hlq hzY _ ⟨⟨hS, hz⟩, hp⟩ hpx rfl hlen
    have hmix : Try.prog.follows .mixedOrders = true := by kernel_rfl
    have cT : Y.drew.cell? ⟨w.heap.size, 0, none⟩ = _ := (cells2 hS.b0).1
    have cQ : Y.drew.cell? ⟨w.heap.size + 1, 0, none⟩ = _ := hS.bq.cell
    have E := Lib.hid (EM.out x hpx Y.drew (show w.Since w.heap.size Y.drew from hS.sn.drew))
    have HSS := Lib.hid hS
    have HY := Lib.hid (show mnP l x < q → leastB l q ps = false from fun h => leastB_no hpx h)
    have HP := Lib.hid (leastB_snoc l q qs x)
    have HPP := Lib.hid hp
    clear hS hp hpx
    obtain ⟨x1, x2⟩ := x
    simp only at E HY HP ⊢
    obtain ⟨v, hv⟩ : ∃ v, mnP l (x1, x2) = v := ⟨_, rfl⟩
    rw [hv] at E HY HP
    clear hv
    have HK2 := Lib.hid (show ∀ Z, Y.drew.Since Y.drew.heap.size Z → Y.grownBy Z none from fun Z h => (grown_drewP (World.grownBy.refl Y none)).trans (grownSH h))
    gi_wp2
    refine round_region_heldP (S := fun W' : World => W'.cell? ⟨w.heap.size, 0, none⟩ = some (.slice a n cap) ∧ W'.cell? ⟨w.heap.size + 1, 0, none⟩ = some (.int .i64 q)) hmix (by kernel_rfl) (by rintro ⟨a, w, h⟩; exact h) ⟨cT, cQ⟩ (fun hS => ?_)
    refine wpAnyH_take (i := 0) (v := .pointer (some ⟨w.heap.size, 0, none⟩)) rfl (by kernel_rfl) (by kernel_rfl) (by kernel_rfl) (fun _ _ _ h => h) (Or.inl ⟨by rfl, fun W' h => by go_simp⟩) hS ?_
    simp only [Act.put, List.setIfInBounds_toArray]
    refine wpAnyH_take (i := 1) (v := .slice a n cap) rfl (by kernel_rfl) (by kernel_rfl) (by kernel_rfl) (fun _ _ _ h => h) (Or.inl ⟨by rfl, fun W' h => by have hc := h.1; go_simp⟩) hS ?_
    simp only [Act.put]
    refine wpAnyH_take (i := 2) (v := .int .i64 x1) rfl (by kernel_rfl) (by kernel_rfl) (by kernel_rfl) (fun _ _ _ h => h) (Or.inl ⟨by rfl, fun W' h => by go_simp⟩) hS ?_
    simp only [Act.put]
    refine wpAnyH_take (i := 3) (v := .int .i64 x2) rfl (by kernel_rfl) (by kernel_rfl) (by kernel_rfl) (fun _ _ _ h => h) (Or.inl ⟨by rfl, fun W' h => by go_simp⟩) hS ?_
    simp only [Act.put]
    refine wpAnyH_take (i := 5) (v := .int .i64 q) rfl (by kernel_rfl) (by kernel_rfl) (by kernel_rfl) (fun _ _ _ h => h) (Or.inl ⟨by rfl, fun W' h => by have hc := h.2; go_simp⟩) hS ?_
    simp only [Act.put]
    refine wpAnyH_ready (rs := [4]) (by kernel_rfl) (by simp) (AllReadyH.cons rfl (fun K hK => ?_) AllReadyH.nil)
    go_simp
    refine E.out.mono ?_
    rintro e Z ⟨rfl, hs2⟩
    have HG := Lib.hid (HK2.out Z hs2)
    have hQZ := HSS.out.kept HG.out (fun r e => by cases e)
    refine hK.out _ _ ⟨(cells2 hQZ.b0).1, hQZ.bq.cell⟩ (fun hS1 => ?_)
    clear hK K hs2
    refine wpAnyH_take (i := 6) (v := .bool (decide (v < q))) rfl (by kernel_rfl) (by kernel_rfl) (by kernel_rfl) (fun _ _ _ h => h) (Or.inl ⟨by rfl, fun W' h => by go_simp⟩) hS1 ?_
    simp only [Act.put]
    refine wpAnyH_done (by kernel_rfl) ?_ _
    by_cases hv0 : v < q
    · have hvb : decide (v < q) = true := by simpa using hv0
      have cR := hQZ.br.cell
      have fR := hQZ.br.frozen
      gi_wp2
      exact ⟨(Keeps.grown HG.out (fun r e => by cases e)).trans (Keeps.grown (grownBy_setCell' Z (w.heap.size + 2) _) (fun r e => by cases e; rfl)), rfl, ⟨hQZ.br.set _, hQZ.sn.setCell (by simp; omega) _⟩, HY.out hv0⟩
    · have hvb : decide (v < q) = false := by simpa using hv0
      gi_wp2
      exact ⟨Keeps.grown HG.out (fun r e => by cases e), ⟨hQZ, by have := HG.out.size; omega⟩, by rw [HP.out, HPP.out]; simp; omega⟩
  case done =>
    rintro D qs X hD rfl ⟨⟨hS, hz⟩, hp⟩ hK
    have cS := hS.br.cell
    have fS := hS.br.frozen
    have hlt := (Array.getElem?_eq_some_iff.1 hK).1
    have hK2 : (X.setCell ⟨w.heap.size + 2, 0, none⟩ (.bool true)).heap[D]? = some (.deferred (some [])) := ((grownBy_setCell' X (w.heap.size + 2) (.bool true)).block D hlt (fun e => by injection e; omega)).trans hK
    have hB3 := (hS.br.set (.bool true)).kept (grownBy_putObj' (X.setCell ⟨w.heap.size + 2, 0, none⟩ (.bool true)) D (.deferred none)) (fun e => by injection e; omega)
    have cB := hB3.cell
    have hsn := since_row (hS.sn.setCell (a := ⟨w.heap.size + 2, 0, none⟩) (by simp) (.bool true)) (Nat.le_refl _) (grownBy_putObj' (X.setCell ⟨w.heap.size + 2, 0, none⟩ (.bool true)) D (.deferred none)) (fun r e => by cases e; omega)
    gi_wp2
    refine ⟨by simp, .inl ⟨_, _, rfl, run_takeDeferred hK2, ?_⟩⟩
    refine ⟨.bool true, ?_, by rw [hp], hsn⟩
    have cB' := cB
    simp [results, Try.f29, go_sem, cB']
  case stop =>
    rintro D c qs X hD _ ⟨rfl, ⟨bR, hs⟩, hb⟩ hK
    have hB3 := bR.kept (grownBy_putObj' X D (.deferred none)) (fun e => by injection e; omega)
    have cB := hB3.cell
    have hsn := since_row hs (Nat.le_refl _) (grownBy_putObj' X D (.deferred none)) (fun r e => by cases e; omega)
    gi_wp2
    refine ⟨by simp, .inl ⟨_, _, rfl, run_takeDeferred hK, ?_⟩⟩
    refine ⟨.bool false, ?_, by rw [hb], hsn⟩
    have cB' := cB
    simp [results, Try.f29, go_sem, cB']

structure QC (w : World) (tv gv : Value) (c : Int) (W : World) : Prop where
  b0 : W.heap[w.heap.size]? = some (.cells #[tv, gv] 46)
  bn : Boxed W (w.heap.size + 1) 3 (.int .i64 c)
  sn : w.Since w.heap.size W
theorem QC.kept {w W W' : World} {tv gv : Value} {c : Int} {row : Option Nat} (h : QC w tv gv c W) (hg : W.grownBy W' row) (hr : ∀ r, row = some r → w.heap.size + 2 ≤ r) : QC w tv gv c W' :=
  ⟨(hg.block _ (Array.getElem?_eq_some_iff.1 h.b0).1 (fun e => by have := hr _ e.symm; omega)).trans h.b0, h.bn.kept hg (fun e => by have := hr _ e.symm; omega), since_row h.sn (Nat.le_refl _) hg (fun r e => by have := hr r e; omega)⟩

end Go.Proofs.Ytlgjplhffpmfpaa
end

section
namespace Go.Proofs.Ytlgjplhffpmfpaa
open Go.RowKit Go.Deep Go.Shelf
attribute [local go_sem] Oper.semAt_some

def wstep (l : List (List Int)) (s : Int × Nat × Nat) (x : Nat × Nat) : Int × Nat × Nat := if s.2.1 = 0 ∨ mnP l x < s.1 then (mnP l x, x.1, x.2) else s
def worstS (l : List (List Int)) (qs : List (Nat × Nat)) : Int × Nat × Nat := qs.foldl (wstep l) (0, 0, 0)
theorem worstS_snoc (l : List (List Int)) (qs : List (Nat × Nat)) (x : Nat × Nat) : worstS l (qs ++ [x]) = wstep l (worstS l qs) x := by
  unfold worstS; rw [List.foldl_append]; rfl
structure QW (w : World) (tv gv : Value) (s : Int × Nat × Nat) (W : World) : Prop where
  b0 : W.heap[w.heap.size]? = some (.cells #[tv, gv] 46)
  b1 : Boxed W (w.heap.size + 1) 3 (.int .i64 s.1)
  b2 : Boxed W (w.heap.size + 2) 3 (.int .i64 (s.2.1 : Int))
  b3 : Boxed W (w.heap.size + 3) 3 (.int .i64 (s.2.2 : Int))
  sn : w.Since w.heap.size W
theorem QW.kept {w W W' : World} {tv gv : Value} {s : Int × Nat × Nat} {row : Option Nat} (h : QW w tv gv s W) (hg : W.grownBy W' row) (hr : ∀ r, row = some r → w.heap.size + 4 ≤ r) : QW w tv gv s W' :=
  ⟨(hg.block _ (Array.getElem?_eq_some_iff.1 h.b0).1 (fun e => by have := hr _ e.symm; omega)).trans h.b0, h.b1.kept hg (fun e => by have := hr _ e.symm; omega), h.b2.kept hg (fun e => by have := hr _ e.symm; omega), h.b3.kept hg (fun e => by have := hr _ e.symm; omega), since_row h.sn (Nat.le_refl _) hg (fun r e => by have := hr r e; omega)⟩
theorem QW.set {w W : World} {tv gv : Value} {s : Int × Nat × Nat} (h : QW w tv gv s W) (x : Int) (r c : Nat) :
    QW w tv gv (x, r, c) (((W.setCell ⟨w.heap.size + 1, 0, none⟩ (.int .i64 x)).setCell ⟨w.heap.size + 2, 0, none⟩ (.int .i64 (r : Int))).setCell ⟨w.heap.size + 3, 0, none⟩ (.int .i64 (c : Int))) :=
  ⟨(Below.heap_setCell _ _ _ _ (by show w.heap.size ≠ w.heap.size + 3; omega)).trans ((Below.heap_setCell _ _ _ _ (by show w.heap.size ≠ w.heap.size + 2; omega)).trans ((Below.heap_setCell _ _ _ _ (by show w.heap.size ≠ w.heap.size + 1; omega)).trans h.b0)),
    ((h.b1.set _).other (by omega) _).other (by omega) _, ((h.b2.other (by omega) _).set _).other (by omega) _, ((h.b3.other (by omega) _).other (by omega) _).set _,
    ((h.sn.setCell (by simp) _).setCell (by simp) _).setCell (by simp) _⟩
theorem keeps_set3 {own : Nat → Prop} (W : World) {b1 b2 b3 : Nat} (x y z : Value) (h1 : own b1) (h2 : own b2) (h3 : own b3) : Keeps own W (((W.setCell ⟨b1, 0, none⟩ x).setCell ⟨b2, 0, none⟩ y).setCell ⟨b3, 0, none⟩ z) :=
  ((Keeps.grown (grownBy_setCell' W b1 _) (fun r e => by cases e; exact h1)).trans (Keeps.grown (grownBy_setCell' _ b2 _) (fun r e => by cases e; exact h2))).trans (Keeps.grown (grownBy_setCell' _ b3 _) (fun r e => by cases e; exact h3))

end Go.Proofs.Ytlgjplhffpmfpaa
end

section
namespace Go.Proofs.Ytlgjplhffpmfpaa
open Go.RowKit Go.Deep Go.Shelf
attribute [local go_sem] Oper.semAt_some

theorem rows_seqE (f : Nat) (hf : 2 ≤ f) (Bt Bs b o m cap s : Nat) (hm : m ≤ 7) (hs : s ≤ 63) (A : Nat → Option Addr) (L C : Nat → Nat) (w : World) (h1 : Bt < w.heap.size) (h2 : Bs < w.heap.size) (h3 : b < w.heap.size)
    (hBt : w.cell? ⟨Bt, 0, none⟩ = some (.slice (some ⟨b, o, none⟩) m cap)) (hBs : w.cell? ⟨Bs, 0, none⟩ = some (.int .i64 s))
    (hc : ∀ k, k < m → w.cell? ⟨b, o + k, none⟩ = some (.slice (A k) (L k) (C k))) :
    SeqE Fence.wide f Try.prog 88 #[.pointer (some ⟨Bt, 0, none⟩), .pointer (some ⟨Bs, 0, none⟩)] (fun x : {i : Nat // i < m} => #[.int .i64 (x.1 : Int), .slice (A x.1) (L x.1) (C x.1)]) (fun _ _ => True) (fun q => q = Bt ∨ q = Bs ∨ q = b) (fun ys => ys = sel s m m) (fun _ => True) m w := by
  intro l J Jx own W hW hown hJ hJx hY hj
  have cs := (hW.cell (p := ⟨Bs, 0, none⟩) h2).trans hBs
  have cr := fun k (hk : k < m) => (hW.cell (p := ⟨b, o + k, none⟩) h3).trans (hc k hk)
  refine CallsIn.mono (rows1_in f hf l Bt Bs b o m cap s hm hs A L C (fun X Y => Y.cell? ⟨Bs, 0, none⟩ = X.cell? ⟨Bs, 0, none⟩ ∧ ∀ k, k < m → Y.cell? ⟨b, o + k, none⟩ = X.cell? ⟨b, o + k, none⟩) (fun _ _ h => h)
    (fun pre W => J pre W ∧ W.cell? ⟨Bs, 0, none⟩ = some (.int .i64 s) ∧ ∀ k, k < m → W.cell? ⟨b, o + k, none⟩ = some (.slice (A k) (L k) (C k))) (fun pre W => Jx pre W) (fun pre x V hV hl => ?_) W
    ((hW.cell (p := ⟨Bt, 0, none⟩) h1).trans hBt) cs cr ⟨hj, cs, cr⟩) ?_
  · obtain ⟨hjv, c1, c2⟩ := hV
    obtain ⟨fn, tmps, assign, body, hy, hR⟩ := hY pre x V hjv trivial hl
    refine ⟨fn, tmps, assign, body, hy, hR.mono ?_⟩
    rintro e W' (⟨r1, r2, r3⟩ | ⟨r1, r2, _⟩)
    · have d1 := r3.cell (a := ⟨Bs, 0, none⟩) (fun h => (hown _ h).2 (.inr (.inl rfl))) c1
      have d2 := fun k (hk : k < m) => r3.cell (a := ⟨b, o + k, none⟩) (fun h => (hown _ h).2 (.inr (.inr rfl))) (c2 k hk)
      exact .inl ⟨r1, ⟨r2, d1, d2⟩, d1.trans c1.symm, fun k hk => (d2 k hk).trans (c2 k hk).symm⟩
    · exact .inr ⟨r1, r2⟩
  · rintro e W' ⟨r1, (⟨zs, rfl, hj2⟩ | ⟨pre, _, hj2⟩)⟩
    · exact ⟨r1, .inl ⟨_, rfl, hj2.1⟩⟩
    · exact ⟨r1, .inr ⟨_, trivial, hj2⟩⟩
theorem opIn_round {lp n : Nat} {P : Program} {Q : Exit → Act → World → Prop} {o : Oper} {a : Act} {w : World} {K : Act → World → Prop} (hd : ∀ c, o.op ≠ .defer c) (h : o.wpIn Fence.wide n P a w K Q) : o.wpIn (Fence.wide.inRound lp) n P a w K Q :=
  ⟨h.1, by
    have h2 := h.2
    rw [Oper.semAt_eq _ _ _ hd] at h2 ⊢
    exact h2⟩
theorem wpAnyIn_round {lp n : Nat} {P : Program} {md : Region.Mode} {ops : Array Oper} {Q : Exit → Act → World → Prop} (hd : ∀ (i : Nat) (o : Oper), ops[i]? = some o → ∀ c, o.op ≠ .defer c) :
    ∀ (fuel : Nat) (listed : Array Bool) (a : Act) (w : World), wpAnyIn Fence.wide n P md ops Q fuel listed a w → wpAnyIn (Fence.wide.inRound lp) n P md ops Q fuel listed a w
  | 0, _, _, _, h => h
  | fuel + 1, listed, a, w, h => ⟨h.1, fun i hi => by
      have h2 := h.2 i hi
      unfold wpOpIn at h2 ⊢
      split
      · rename_i e
        simp only [e] at h2
        exact wpAnyIn_round hd fuel _ _ _ h2
      · rename_i o e
        simp only [e] at h2
        split
        · rename_i hw
          simp only [hw, if_true] at h2
          exact Oper.wpIn_mono (fun a w h => wpAnyIn_round hd fuel _ a w h) (opIn_round (hd i o e) h2)
        · rename_i hw
          simp only [hw] at h2
          exact ⟨h2.1, wpAnyIn_round hd fuel _ _ _ h2.2⟩⟩
theorem sel_fullF (n : Nat) : ∀ k, k ≤ n → (sel (2 ^ n - 1) n k).map (·.1) = List.range k
  | 0, _ => rfl
  | k + 1, h => by
    rw [sel_yes _ n k (by omega) (by rw [Nat.testBit_two_pow_sub_one]; simp; omega), List.map_append, sel_fullF n k (by omega), List.range_succ]
    rfl

theorem runS_shl : ∀ k f : Fin 7, k.val + f.val ≤ 6 → wrap64 (((2 ^ k.val - 1 : Nat) : Int) * 2 ^ f.val) = ((runS f.val k.val : Nat) : Int) := by decide +kernel
theorem setBack_any (last n : Nat) (h1 : 1 ≤ n) (h2 : n ≤ last + 1) (h3 : last ≤ 5) (w : World) :
    Calls Try.prog 80 #[.int .i64 last, .int .i64 n] w fun e w' => e = .returned (.int .i64 (runS (last + 1 - n) n : Nat)) ∧ w = w' := by
  have E := Lib.hid (fullSet_any n (by omega) w)
  have hw1 : IntKind.i64.wrap ((last : Int) + 1) = (last : Int) + 1 := IntWalk.i64_in _ ⟨by omega, by omega⟩
  have hw2 : IntKind.i64.wrap ((last : Int) + 1 - (n : Int)) = ((last + 1 - n : Nat) : Int) := by rw [IntWalk.i64_in _ ⟨by omega, by omega⟩]; omega
  go_enter Try.func80, Try.ntmps80
  go_wp2_with fail
  refine (E.out).mono ?_
  rintro e w2 ⟨rfl, rfl⟩
  go_wp2_with fail
  go_ret
  have e := runS_shl ⟨n, by omega⟩ ⟨last + 1 - n, by omega⟩ (by simp only; omega)
  simp only at e
  exact ⟨by rw [← e]; rfl, rfl⟩

theorem first_len (m : Nat) : ∀ k, ((List.range k).flatMap (firstRow m)).length = k * m
  | 0 => by simp
  | k + 1 => by
    rw [List.range_succ, List.flatMap_append, List.length_append, first_len m k, Nat.succ_mul]
    simp [firstRow]
theorem first_len' (is : List Nat) (m : Nat) : (is.flatMap (firstRow m)).length = is.length * m := by
  induction is with
  | nil => simp
  | cons i is ih => rw [List.flatMap_cons, List.length_append, ih, List.length_cons, Nat.succ_mul]; simp [firstRow]; omega
theorem firstRow_snoc (m i k : Nat) (h : k < m) : (firstRow m i).take (k + 1) = (firstRow m i).take k ++ [(runS (i + 1 - (min i k + 1)) (min i k + 1), runS (k + 1 - (min i k + 1)) (min i k + 1))] := by
  unfold firstRow
  rw [List.take_add_one, List.getElem?_map, List.getElem?_range h]
  rfl

set_option maxRecDepth 100000 in
set_option maxHeartbeats 2000000 in
theorem first_seqE (f : Nat) (hf : 12 ≤ f) (Bt n m cap : Nat) (a : Option Addr) (l : List (List Int)) (w0 w : World) (hn : l.length = n) (hT : TabIn l) (hmm : (l.getD 0 []).length = m) (hm : MatR w0 a l) (hold : OldT w0.heap.size w0 w) (_hz0 : w0.heap.size ≤ w.heap.size) (hBt : w0.heap.size ≤ Bt) (ct : w.cell? ⟨Bt, 0, none⟩ = some (.slice a n cap)) :
    SeqE Fence.wide f Try.prog 79 #[.pointer (some ⟨Bt, 0, none⟩)] encP (fun x _ => x ∈ partsF n m) (fun q => q < w0.heap.size ∨ q = Bt) (fun ys => ys = partsF n m) (fun _ => True) 64 w := by
  intro lp J Jx own W hW hown hJ hJx hY hj
  have h6 := hT.2.1
  have h1 := hT.1
  have hw := hT.width
  rw [hn] at h6 h1
  rw [hmm] at hw
  have lt := World.block_lt_of_cell? _ _ ct
  simp only at lt
  have c1 := (hW.cell (p := ⟨Bt, 0, none⟩) lt).trans ct
  have hWz := hW.size
  have hOW : OldT w0.heap.size w0 W := fun q hq => (hW.block q (by omega)).trans (hold q hq)
  have hso : ∀ q, own q → w0.heap.size ≤ q ∧ q ≠ Bt ∧ q < W.heap.size := fun q hq => by
    obtain ⟨g1, g2⟩ := hown q hq
    exact ⟨by
      by_cases e : q < w0.heap.size
      · exact absurd (.inl e) g2
      · omega, fun e => g2 (.inr e), g1⟩
  obtain ⟨b, o, A, C, rfl, hc0⟩ := hm (by omega)
  have hc : ∀ k, k < n → w0.cell? ⟨b, o + k, none⟩ = some (.slice (A k) m (C k)) := fun k hk => by
    have := (hc0 k (by omega)).1
    rw [hT.row (by omega), hmm] at this
    exact this
  have hbl := World.block_lt_of_cell? _ _ (hc 0 (by omega))
  simp only at hbl
  have p63 : 2 ^ n ≤ 2 ^ 6 := Nat.pow_le_pow_right (by omega) h6
  have EA := Lib.hid (fun (V : World) => allRows_any (some ⟨b, o, none⟩) cap n V h6)
  have EB := Lib.hid (fun (x y : Nat) (h1 : 1 ≤ y) (h2 : y ≤ x + 1) (h3 : x ≤ 5) (V : World) => setBack_any x y h1 h2 h3 V)
  clear hold ct hm hmm hT hn hc0
  refine callsIn_of_wp_marks Try.func79 rfl trivial ?_ rfl
  simp only [Try.ntmps79, List.size_toArray, List.length_cons, List.length_nil, Nat.reduceAdd, Nat.reduceSub, Array.replicate_succ, Array.replicate_zero, List.push_toArray, List.append_toArray, List.nil_append, List.cons_append]
  have c2 : (W.alloc (.cells #[.func (.yield lp) #[] #[]] 89)).cell? ⟨Bt, 0, none⟩ = _ := cell_alloc_l _ c1
  have y0 : (W.alloc (.cells #[.func (.yield lp) #[] #[]] 89)).cell? ⟨W.heap.size, 0, none⟩ = _ := (cell_new_l W _ _).1
  have hso3 : ∀ q, own q → w0.heap.size ≤ q ∧ q ≠ Bt ∧ q ≠ W.heap.size := fun q hq => by have := hso q hq; omega
  have c2d : (W.alloc (.cells #[.func (.yield lp) #[] #[]] 89)).drew.cell? ⟨Bt, 0, none⟩ = _ := c2
  gi_wp2
  refine wpIn_wide.2 ?_
  go_region_held3 (fun W' : World => W'.cell? ⟨Bt, 0, none⟩ = some (.slice (some ⟨b, o, none⟩) n cap)) (first | exact c2d | exact cell_alloc_l _ (cell_alloc_l _ c2d))
    (first
      | (go_at_call 78; refine (EA.out _).mono ?_; rintro e w' ⟨rfl, rfl⟩)
      | (go_at_call 77; refine (rows_any _ _ _ _ _).mono ?_; rintro e w' ⟨rfl, rfl⟩))
  gi_wp2
  have c3 := cell_alloc_l (.cells #[.int .i64 ((2 ^ n - 1 : Nat) : Int)] 3) (cell_alloc_l (.cells #[.slice (some ⟨b, o, none⟩) n cap] 42) c2)
  have y3 := cell_alloc_l (.cells #[.int .i64 ((2 ^ n - 1 : Nat) : Int)] 3) (cell_alloc_l (.cells #[.slice (some ⟨b, o, none⟩) n cap] 42) y0)
  have hbt := cell_alloc_l (.cells #[.int .i64 ((2 ^ n - 1 : Nat) : Int)] 3) (cell_new_l (W.alloc (.cells #[.func (.yield lp) #[] #[]] 89)) (.slice (some ⟨b, o, none⟩) n cap) 42).1
  have hbs := (cell_new_l ((W.alloc (.cells #[.func (.yield lp) #[] #[]] 89)).alloc (.cells #[.slice (some ⟨b, o, none⟩) n cap] 42)) (.int .i64 ((2 ^ n - 1 : Nat) : Int)) 3).1
  have hg2 := ((World.grownBy_alloc W (.cells #[.func (.yield lp) #[] #[]] 89) none).trans (World.grownBy_alloc _ (.cells #[.slice (some ⟨b, o, none⟩) n cap] 42) none)).trans (World.grownBy_alloc _ (.cells #[.int .i64 ((2 ^ n - 1 : Nat) : Int)] 3) none)
  have hjV := hJ.alloc (.cells #[.int .i64 ((2 ^ n - 1 : Nat) : Int)] 3) (hJ.alloc (.cells #[.slice (some ⟨b, o, none⟩) n cap] 42) (hJ.alloc (.cells #[.func (.yield lp) #[] #[]] 89) hj))
  have zV : (((W.alloc (.cells #[.func (.yield lp) #[] #[]] 89)).alloc (.cells #[.slice (some ⟨b, o, none⟩) n cap] 42)).alloc (.cells #[.int .i64 ((2 ^ n - 1 : Nat) : Int)] 3)).heap.size = W.heap.size + 3 := by simp
  simp only [World.size_alloc] at hbt hbs
  obtain ⟨V0, hV0⟩ : ∃ V, ((W.alloc (.cells #[.func (.yield lp) #[] #[]] 89)).alloc (.cells #[.slice (some ⟨b, o, none⟩) n cap] 42)).alloc (.cells #[.int .i64 ((2 ^ n - 1 : Nat) : Int)] 3) = V := ⟨_, rfl⟩
  rw [hV0] at hbt hbs c3 y3 hg2 hjV zV ⊢
  clear hV0 c1 c2 c2d y0
  have hbt : V0.drew.cell? _ = _ := hbt
  have hbs : V0.drew.cell? _ = _ := hbs
  have c3 : V0.drew.cell? _ = _ := c3
  have y3 : V0.drew.cell? _ = _ := y3
  have hjV := hJ _ V0 V0.drew none hjV (grown_drewP (World.grownBy.refl _ none)) (fun r e => by cases e)
  have hg2 := grown_drewP hg2
  have zV : V0.drew.heap.size = _ := zV
  obtain ⟨V, hV⟩ : ∃ V, V0.drew = V := ⟨_, rfl⟩
  rw [hV] at hbt hbs c3 y3 hg2 hjV zV ⊢
  clear hV
  have hAV : AB w0.heap.size w0 Bt W.heap.size lp (some ⟨b, o, none⟩) n cap V := ⟨c3, y3, hOW.grown (by omega) hg2 (fun r e => by cases e)⟩
  have hBX : w0.heap.size ≤ V.heap.size ∧ Bt < V.heap.size ∧ W.heap.size < V.heap.size := by omega
  have hcV : ∀ k, k < n → V.cell? ⟨b, o + k, none⟩ = some (.slice (A k) m (C k)) := fun k hk => (hAV.old.cell (by exact hbl)).trans (hc k hk)
  refine rangeF (F := Fence.wide) (n := f) rfl (by omega) (gf := 88) (lb := #[.pointer (some ⟨W.heap.size + 1, 0, none⟩), .pointer (some ⟨W.heap.size + 1 + 1, 0, none⟩)]) rfl trivial (enters_of Try.func88 (by kernel_rfl) rfl)
    (rows_seqE (f - 1) (by omega) (W.heap.size + 1) (W.heap.size + 1 + 1) b o n cap (2 ^ n - 1) (by omega) (by omega) A (fun _ => m) C V (by omega) (by omega) (by omega) hbt hbs hcV) (fun _ => rfl) own (fun q hq => ⟨by have := hso q hq; omega, by have := hso q hq; omega⟩) (fun q hq => by omega)
    (fun (rs : List {i : Nat // i < n}) X => J ((rs.map (fun x : {i : Nat // i < n} => x.1)).flatMap (firstRow m)) X ∧ AB w0.heap.size w0 Bt W.heap.size lp (some ⟨b, o, none⟩) n cap X ∧ V.heap.size ≤ X.heap.size)
    (fun c _ X => c = .ret ∧ ∃ q, Jx q X)
    (fun rs X Y row hs hg hr => ⟨hJ _ X Y row hs.1 hg (fun r e => by have := hr r e; omega), hs.2.1.grown (by have := hs.2.2; omega) hBX hg hr, Nat.le_trans hs.2.2 hg.size⟩)
    (fun c rs X Y row hs hg hr => ⟨hs.1, by
      obtain ⟨q, hq⟩ := hs.2
      exact ⟨q, hJx _ X Y row hq hg (fun r e => by have := hr r e; omega)⟩⟩)
    ⟨hjV, hAV, Nat.le_refl _⟩
    (fun x a' _ => a' = { tmps := #[.func (.yield lp) #[] #[], .pointer (some ⟨Bt, 0, none⟩), .pointer (some ⟨W.heap.size, 0, none⟩), .int .i64 (x.1 : Int), .slice (A x.1) m (C x.1), undef, undef, .slice (some ⟨b, o, none⟩) n cap, .slice (some ⟨b, o, none⟩) n cap, .int .i64 ((2 ^ n - 1 : Nat) : Int), .func (.func 88) #[] #[.pointer (some ⟨W.heap.size + 1, 0, none⟩), .pointer (some ⟨W.heap.size + 1 + 1, 0, none⟩)], .int .i64 (x.1 : Int), .slice (A x.1) m (C x.1), undef, undef, undef, undef, undef, undef, undef, undef, undef, undef, undef, undef, undef, undef, undef, undef, undef, undef, undef], defers := [] })
    (fun _ _ _ _ _ _ hA _ _ => hA)
    ?assign ?body ?done ?stop
  case assign =>
    rintro lq rs x X K hzX hi _ hK
    gi_wp2
    exact hK _ _ (Keeps.refl _ _) hi rfl
  case body =>
    rintro lq rs x a' X hlq hzX _ ⟨hjx, hAX, _⟩ _ rfl hlen
    obtain ⟨i, hi⟩ := x
    have hmix : Try.prog.follows .mixedOrders = true := by kernel_rfl
    have HJX := Lib.hid hjx
    have HAX := Lib.hid hAX
    have hrl := first_len' (rs.map (fun x : {i : Nat // i < n} => x.1)) m
    rw [List.length_map] at hrl
    have hrl2 : rs.length * m ≤ 5 * 6 := Nat.mul_le_mul (by omega) hw.2
    simp only
    clear hjx hAX
    gi_wp2
    gi_loopw [15] (fun kv wr => ∃ k : Nat, k ≤ m ∧ kv = .int .i64 k ∧ J ((rs.map (fun x : {i : Nat // i < n} => x.1)).flatMap (firstRow m) ++ (firstRow m i).take k) wr ∧ AB w0.heap.size w0 Bt W.heap.size lp (some ⟨b, o, none⟩) n cap wr ∧ Keeps own X wr ∧ V.heap.size ≤ wr.heap.size) (fun kv _ => m - (intOf kv).toNat)
    case atStart => exact ⟨0, Nat.zero_le _, rfl, by rw [List.take_zero, List.append_nil]; exact HJX.out, HAX.out, Keeps.refl _ _, hzX⟩
    case round =>
      obtain ⟨k, hk, rfl, hjr, hAr, hkr, hzr⟩ := hrel
      by_cases hlt : k < m
      · obtain ⟨e, he⟩ : ∃ e, min i k + 1 = e := ⟨_, rfl⟩
        have hfs := firstRow_snoc m i k hlt
        have hmem : (runS (i + 1 - (min i k + 1)) (min i k + 1), runS (k + 1 - (min i k + 1)) (min i k + 1)) ∈ partsF n m := partsF_mem.2 ⟨i, k, hi, hlt, rfl⟩
        simp only [he] at hfs hmem
        have ES1 := EB.out i e (by omega) (by omega) (by omega)
        have ES2 := EB.out k e (by omega) (by omega) (by omega)
        obtain ⟨s1, hs1⟩ : ∃ s, runS (i + 1 - e) e = s := ⟨_, rfl⟩
        obtain ⟨s2, hs2⟩ : ∃ s, runS (k + 1 - e) e = s := ⟨_, rfl⟩
        simp only [hs1, hs2] at hfs hmem ES1 ES2
        have hl4 : ((rs.map (fun x : {i : Nat // i < n} => x.1)).flatMap (firstRow m) ++ (firstRow m i).take k).length < 64 := by
          rw [List.length_append, List.length_take]; omega
        obtain ⟨fn, tmps, assign, body, hy, hR⟩ := yieldAt_any (m' := f - 1 - 1 - 1) (hY _ (s1, s2) wr.drew (hJ _ wr wr.drew none hjr (grown_drewP (World.grownBy.refl _ none)) (fun r e => by cases e)) hmem hl4)
        dsimp only [encP] at hy
        have cY : wr.drew.cell? ⟨W.heap.size, 0, none⟩ = _ := hAr.yb
        have HKEEP := Lib.hid (show ∀ Z, Keeps own wr.drew Z → AB w0.heap.size w0 Bt W.heap.size lp (some ⟨b, o, none⟩) n cap Z ∧ Keeps own X Z ∧ V.heap.size ≤ Z.heap.size from fun Z hk => by
          have hk2 : Keeps own wr Z := (Keeps.grown (grown_drewP (World.grownBy.refl _ none)) (fun r e => by cases e)).trans hk
          exact ⟨hAr.keeps (by omega) hk2 hso3, hkr.trans hk2, by have := hk2.size; omega⟩)
        replace ES1 := Lib.hid (fun (V : World) => ES1 V)
        replace ES2 := Lib.hid (fun (V : World) => ES2 V)
        have HFS := Lib.hid hfs
        have hwe : IntKind.i64.wrap (((min i k : Nat) : Int) + 1) = (e : Int) := by rw [IntWalk.i64_in _ ⟨by omega, by omega⟩]; omega
        have hwk : IntKind.i64.wrap ((k : Int) + 1) = ((k + 1 : Nat) : Int) := by rw [IntWalk.i64_in _ ⟨by omega, by omega⟩]; omega
        clear hjr hAr hkr hfs hmem hs1 hs2 hl4 hc hcV hAV hbt hbs c3 y3 hg2 hjV
        have hii : (0:Int) ≤ (i:Int) := by omega
        by_cases hik : k < i
        · rw [show ((min i k : Nat) : Int) = (k : Int) by omega] at hwe
          gi_wp2
          refine wpIn_region_any hmix (wpAnyIn_round (noDefer_of (by kernel_rfl)) _ _ _ _ ?_)
          change wpAnyIn _ _ _ _ _ _ _ _ _ (World.drew _)
          refine wpAnyIn_take (i := 1) (v := .int .i64 i) rfl rfl (by kernel_rfl) (by kernel_rfl) (by kernel_rfl) (fun _ _ _ h => h) ⟨Or.inl ⟨by rfl, fun w => by go_simp⟩, fun _ => rfl⟩ ?_
          simp only [Act.put]
          refine wpAnyIn_take (i := 2) (v := .int .i64 e) rfl rfl (by kernel_rfl) (by kernel_rfl) (by kernel_rfl) (fun _ _ _ h => h) ⟨Or.inl ⟨by rfl, fun w => by go_simp⟩, fun _ => rfl⟩ ?_
          simp only [Act.put]
          refine wpAnyIn_take (i := 4) (v := .int .i64 k) rfl rfl (by kernel_rfl) (by kernel_rfl) (by kernel_rfl) (fun _ _ _ h => h) ⟨Or.inl ⟨by rfl, fun w => by go_simp⟩, fun _ => rfl⟩ ?_
          simp only [Act.put]
          refine wpAnyIn_take (i := 5) (v := .int .i64 e) rfl rfl (by kernel_rfl) (by kernel_rfl) (by kernel_rfl) (fun _ _ _ h => h) ⟨Or.inl ⟨by rfl, fun w => by go_simp⟩, fun _ => rfl⟩ ?_
          simp only [Act.put]
          refine wpAnyIn_ready (rs := [0, 3]) (by kernel_rfl) (by simp) (AllReadyIn.cons rfl (fun K hK => ?pA) (AllReadyIn.cons rfl (fun K hK => ?pB) AllReadyIn.nil))
          case pA =>
            go_simp
            refine hK _ _ ?_
            clear hK K
            refine wpAnyIn_ready (rs := [3]) (by kernel_rfl) (by simp) (AllReadyIn.cons rfl (fun K hK => ?_) AllReadyIn.nil)
            go_simp
            refine ⟨trivial, fun _ => by omega, ?_⟩
            gi_at_call 80
            refine (callsIn_wide.2 (ES1.out _)).mono ?_
            rintro e w' ⟨rfl, rfl⟩
            refine hK _ _ ?_
            clear hK K
            refine wpAnyIn_ready (rs := [6]) (by kernel_rfl) (by simp) (AllReadyIn.cons rfl (fun K hK => ?_) AllReadyIn.nil)
            go_simp
            refine ⟨trivial, fun _ => by omega, ?_⟩
            gi_at_call 80
            refine (callsIn_wide.2 (ES2.out _)).mono ?_
            rintro e w' ⟨rfl, rfl⟩
            refine hK _ _ ?_
            clear hK K
            refine wpAnyIn_ready (rs := [7]) (by kernel_rfl) (by simp) (AllReadyIn.cons rfl (fun K hK => ?_) AllReadyIn.nil)
            go_simp
            refine ⟨fun _ => by omega, hR.mono ?_⟩
            rintro e W3 (⟨rfl, hJ3, hk3⟩ | ⟨rfl, hx3, hk3⟩)
            · obtain ⟨q1, q2, q3⟩ := HKEEP.out _ hk3
              refine hK _ _ ?_
              clear hK K
              refine wpAnyIn_ready (rs := [8]) (by kernel_rfl) (by simp) (AllReadyIn.cons rfl (fun K hK => ?_) AllReadyIn.nil)
              go_simp
              refine hK _ _ ?_
              clear hK K
              refine wpAnyIn_done (by kernel_rfl) ?_ _
              gi_wp2
              go_roundw
              case rel => exact ⟨k + 1, by omega, by (first | rfl | (simp only [Value.int.injEq, true_and]; omega)), by rw [HFS.out, ← List.append_assoc]; exact hJ3, q1, q2, q3⟩
              case measure => simp [intOf]; omega
            · obtain ⟨q1, q2, q3⟩ := HKEEP.out _ hk3
              refine hK _ _ ?_
              clear hK K
              refine wpAnyIn_ready (rs := [8]) (by kernel_rfl) (by simp) (AllReadyIn.cons rfl (fun K hK => ?_) AllReadyIn.nil)
              go_simp
              refine hK _ _ ?_
              clear hK K
              refine wpAnyIn_done (by kernel_rfl) ?_ _
              gi_wp2
              exact ⟨q2, rfl, _, hx3⟩
          case pB =>
            go_simp
            refine ⟨trivial, fun _ => by omega, ?_⟩
            gi_at_call 80
            refine (callsIn_wide.2 (ES1.out _)).mono ?_
            rintro e w' ⟨rfl, rfl⟩
            refine hK _ _ ?_
            clear hK K
            refine wpAnyIn_ready (rs := [0, 6]) (by kernel_rfl) (by simp) (AllReadyIn.cons rfl (fun K hK => ?pC) (AllReadyIn.cons rfl (fun K hK => ?pD) AllReadyIn.nil))
            case pC =>
              go_simp
              refine hK _ _ ?_
              clear hK K
              refine wpAnyIn_ready (rs := [6]) (by kernel_rfl) (by simp) (AllReadyIn.cons rfl (fun K hK => ?_) AllReadyIn.nil)
              go_simp
              refine ⟨trivial, fun _ => by omega, ?_⟩
              gi_at_call 80
              refine (callsIn_wide.2 (ES2.out _)).mono ?_
              rintro e w' ⟨rfl, rfl⟩
              refine hK _ _ ?_
              clear hK K
              refine wpAnyIn_ready (rs := [7]) (by kernel_rfl) (by simp) (AllReadyIn.cons rfl (fun K hK => ?_) AllReadyIn.nil)
              go_simp
              refine ⟨fun _ => by omega, hR.mono ?_⟩
              rintro e W3 (⟨rfl, hJ3, hk3⟩ | ⟨rfl, hx3, hk3⟩)
              · obtain ⟨q1, q2, q3⟩ := HKEEP.out _ hk3
                refine hK _ _ ?_
                clear hK K
                refine wpAnyIn_ready (rs := [8]) (by kernel_rfl) (by simp) (AllReadyIn.cons rfl (fun K hK => ?_) AllReadyIn.nil)
                go_simp
                refine hK _ _ ?_
                clear hK K
                refine wpAnyIn_done (by kernel_rfl) ?_ _
                gi_wp2
                go_roundw
                case rel => exact ⟨k + 1, by omega, by (first | rfl | (simp only [Value.int.injEq, true_and]; omega)), by rw [HFS.out, ← List.append_assoc]; exact hJ3, q1, q2, q3⟩
                case measure => simp [intOf]; omega
              · obtain ⟨q1, q2, q3⟩ := HKEEP.out _ hk3
                refine hK _ _ ?_
                clear hK K
                refine wpAnyIn_ready (rs := [8]) (by kernel_rfl) (by simp) (AllReadyIn.cons rfl (fun K hK => ?_) AllReadyIn.nil)
                go_simp
                refine hK _ _ ?_
                clear hK K
                refine wpAnyIn_done (by kernel_rfl) ?_ _
                gi_wp2
                exact ⟨q2, rfl, _, hx3⟩
            case pD =>
              go_simp
              refine ⟨trivial, fun _ => by omega, ?_⟩
              gi_at_call 80
              refine (callsIn_wide.2 (ES2.out _)).mono ?_
              rintro e w' ⟨rfl, rfl⟩
              refine hK _ _ ?_
              clear hK K
              refine wpAnyIn_ready (rs := [0]) (by kernel_rfl) (by simp) (AllReadyIn.cons rfl (fun K hK => ?_) AllReadyIn.nil)
              go_simp
              refine hK _ _ ?_
              clear hK K
              refine wpAnyIn_ready (rs := [7]) (by kernel_rfl) (by simp) (AllReadyIn.cons rfl (fun K hK => ?_) AllReadyIn.nil)
              go_simp
              refine ⟨fun _ => by omega, hR.mono ?_⟩
              rintro e W3 (⟨rfl, hJ3, hk3⟩ | ⟨rfl, hx3, hk3⟩)
              · obtain ⟨q1, q2, q3⟩ := HKEEP.out _ hk3
                refine hK _ _ ?_
                clear hK K
                refine wpAnyIn_ready (rs := [8]) (by kernel_rfl) (by simp) (AllReadyIn.cons rfl (fun K hK => ?_) AllReadyIn.nil)
                go_simp
                refine hK _ _ ?_
                clear hK K
                refine wpAnyIn_done (by kernel_rfl) ?_ _
                gi_wp2
                go_roundw
                case rel => exact ⟨k + 1, by omega, by (first | rfl | (simp only [Value.int.injEq, true_and]; omega)), by rw [HFS.out, ← List.append_assoc]; exact hJ3, q1, q2, q3⟩
                case measure => simp [intOf]; omega
              · obtain ⟨q1, q2, q3⟩ := HKEEP.out _ hk3
                refine hK _ _ ?_
                clear hK K
                refine wpAnyIn_ready (rs := [8]) (by kernel_rfl) (by simp) (AllReadyIn.cons rfl (fun K hK => ?_) AllReadyIn.nil)
                go_simp
                refine hK _ _ ?_
                clear hK K
                refine wpAnyIn_done (by kernel_rfl) ?_ _
                gi_wp2
                exact ⟨q2, rfl, _, hx3⟩
        · rw [show ((min i k : Nat) : Int) = (i : Int) by omega] at hwe
          gi_wp2
          refine wpIn_region_any hmix (wpAnyIn_round (noDefer_of (by kernel_rfl)) _ _ _ _ ?_)
          change wpAnyIn _ _ _ _ _ _ _ _ _ (World.drew _)
          refine wpAnyIn_take (i := 1) (v := .int .i64 i) rfl rfl (by kernel_rfl) (by kernel_rfl) (by kernel_rfl) (fun _ _ _ h => h) ⟨Or.inl ⟨by rfl, fun w => by go_simp⟩, fun _ => rfl⟩ ?_
          simp only [Act.put]
          refine wpAnyIn_take (i := 2) (v := .int .i64 e) rfl rfl (by kernel_rfl) (by kernel_rfl) (by kernel_rfl) (fun _ _ _ h => h) ⟨Or.inl ⟨by rfl, fun w => by go_simp⟩, fun _ => rfl⟩ ?_
          simp only [Act.put]
          refine wpAnyIn_take (i := 4) (v := .int .i64 k) rfl rfl (by kernel_rfl) (by kernel_rfl) (by kernel_rfl) (fun _ _ _ h => h) ⟨Or.inl ⟨by rfl, fun w => by go_simp⟩, fun _ => rfl⟩ ?_
          simp only [Act.put]
          refine wpAnyIn_take (i := 5) (v := .int .i64 e) rfl rfl (by kernel_rfl) (by kernel_rfl) (by kernel_rfl) (fun _ _ _ h => h) ⟨Or.inl ⟨by rfl, fun w => by go_simp⟩, fun _ => rfl⟩ ?_
          simp only [Act.put]
          refine wpAnyIn_ready (rs := [0, 3]) (by kernel_rfl) (by simp) (AllReadyIn.cons rfl (fun K hK => ?pA) (AllReadyIn.cons rfl (fun K hK => ?pB) AllReadyIn.nil))
          case pA =>
            go_simp
            refine hK _ _ ?_
            clear hK K
            refine wpAnyIn_ready (rs := [3]) (by kernel_rfl) (by simp) (AllReadyIn.cons rfl (fun K hK => ?_) AllReadyIn.nil)
            go_simp
            refine ⟨trivial, fun _ => by omega, ?_⟩
            gi_at_call 80
            refine (callsIn_wide.2 (ES1.out _)).mono ?_
            rintro e w' ⟨rfl, rfl⟩
            refine hK _ _ ?_
            clear hK K
            refine wpAnyIn_ready (rs := [6]) (by kernel_rfl) (by simp) (AllReadyIn.cons rfl (fun K hK => ?_) AllReadyIn.nil)
            go_simp
            refine ⟨trivial, fun _ => by omega, ?_⟩
            gi_at_call 80
            refine (callsIn_wide.2 (ES2.out _)).mono ?_
            rintro e w' ⟨rfl, rfl⟩
            refine hK _ _ ?_
            clear hK K
            refine wpAnyIn_ready (rs := [7]) (by kernel_rfl) (by simp) (AllReadyIn.cons rfl (fun K hK => ?_) AllReadyIn.nil)
            go_simp
            refine ⟨fun _ => by omega, hR.mono ?_⟩
            rintro e W3 (⟨rfl, hJ3, hk3⟩ | ⟨rfl, hx3, hk3⟩)
            · obtain ⟨q1, q2, q3⟩ := HKEEP.out _ hk3
              refine hK _ _ ?_
              clear hK K
              refine wpAnyIn_ready (rs := [8]) (by kernel_rfl) (by simp) (AllReadyIn.cons rfl (fun K hK => ?_) AllReadyIn.nil)
              go_simp
              refine hK _ _ ?_
              clear hK K
              refine wpAnyIn_done (by kernel_rfl) ?_ _
              gi_wp2
              go_roundw
              case rel => exact ⟨k + 1, by omega, by (first | rfl | (simp only [Value.int.injEq, true_and]; omega)), by rw [HFS.out, ← List.append_assoc]; exact hJ3, q1, q2, q3⟩
              case measure => simp [intOf]; omega
            · obtain ⟨q1, q2, q3⟩ := HKEEP.out _ hk3
              refine hK _ _ ?_
              clear hK K
              refine wpAnyIn_ready (rs := [8]) (by kernel_rfl) (by simp) (AllReadyIn.cons rfl (fun K hK => ?_) AllReadyIn.nil)
              go_simp
              refine hK _ _ ?_
              clear hK K
              refine wpAnyIn_done (by kernel_rfl) ?_ _
              gi_wp2
              exact ⟨q2, rfl, _, hx3⟩
          case pB =>
            go_simp
            refine ⟨trivial, fun _ => by omega, ?_⟩
            gi_at_call 80
            refine (callsIn_wide.2 (ES1.out _)).mono ?_
            rintro e w' ⟨rfl, rfl⟩
            refine hK _ _ ?_
            clear hK K
            refine wpAnyIn_ready (rs := [0, 6]) (by kernel_rfl) (by simp) (AllReadyIn.cons rfl (fun K hK => ?pC) (AllReadyIn.cons rfl (fun K hK => ?pD) AllReadyIn.nil))
            case pC =>
              go_simp
              refine hK _ _ ?_
              clear hK K
              refine wpAnyIn_ready (rs := [6]) (by kernel_rfl) (by simp) (AllReadyIn.cons rfl (fun K hK => ?_) AllReadyIn.nil)
              go_simp
              refine ⟨trivial, fun _ => by omega, ?_⟩
              gi_at_call 80
              refine (callsIn_wide.2 (ES2.out _)).mono ?_
              rintro e w' ⟨rfl, rfl⟩
              refine hK _ _ ?_
              clear hK K
              refine wpAnyIn_ready (rs := [7]) (by kernel_rfl) (by simp) (AllReadyIn.cons rfl (fun K hK => ?_) AllReadyIn.nil)
              go_simp
              refine ⟨fun _ => by omega, hR.mono ?_⟩
              rintro e W3 (⟨rfl, hJ3, hk3⟩ | ⟨rfl, hx3, hk3⟩)
              · obtain ⟨q1, q2, q3⟩ := HKEEP.out _ hk3
                refine hK _ _ ?_
                clear hK K
                refine wpAnyIn_ready (rs := [8]) (by kernel_rfl) (by simp) (AllReadyIn.cons rfl (fun K hK => ?_) AllReadyIn.nil)
                go_simp
                refine hK _ _ ?_
                clear hK K
                refine wpAnyIn_done (by kernel_rfl) ?_ _
                gi_wp2
                go_roundw
                case rel => exact ⟨k + 1, by omega, by (first | rfl | (simp only [Value.int.injEq, true_and]; omega)), by rw [HFS.out, ← List.append_assoc]; exact hJ3, q1, q2, q3⟩
                case measure => simp [intOf]; omega
              · obtain ⟨q1, q2, q3⟩ := HKEEP.out _ hk3
                refine hK _ _ ?_
                clear hK K
                refine wpAnyIn_ready (rs := [8]) (by kernel_rfl) (by simp) (AllReadyIn.cons rfl (fun K hK => ?_) AllReadyIn.nil)
                go_simp
                refine hK _ _ ?_
                clear hK K
                refine wpAnyIn_done (by kernel_rfl) ?_ _
                gi_wp2
                exact ⟨q2, rfl, _, hx3⟩
            case pD =>
              go_simp
              refine ⟨trivial, fun _ => by omega, ?_⟩
              gi_at_call 80
              refine (callsIn_wide.2 (ES2.out _)).mono ?_
              rintro e w' ⟨rfl, rfl⟩
              refine hK _ _ ?_
              clear hK K
              refine wpAnyIn_ready (rs := [0]) (by kernel_rfl) (by simp) (AllReadyIn.cons rfl (fun K hK => ?_) AllReadyIn.nil)
              go_simp
              refine hK _ _ ?_
              clear hK K
              refine wpAnyIn_ready (rs := [7]) (by kernel_rfl) (by simp) (AllReadyIn.cons rfl (fun K hK => ?_) AllReadyIn.nil)
              go_simp
              refine ⟨fun _ => by omega, hR.mono ?_⟩
              rintro e W3 (⟨rfl, hJ3, hk3⟩ | ⟨rfl, hx3, hk3⟩)
              · obtain ⟨q1, q2, q3⟩ := HKEEP.out _ hk3
                refine hK _ _ ?_
                clear hK K
                refine wpAnyIn_ready (rs := [8]) (by kernel_rfl) (by simp) (AllReadyIn.cons rfl (fun K hK => ?_) AllReadyIn.nil)
                go_simp
                refine hK _ _ ?_
                clear hK K
                refine wpAnyIn_done (by kernel_rfl) ?_ _
                gi_wp2
                go_roundw
                case rel => exact ⟨k + 1, by omega, by (first | rfl | (simp only [Value.int.injEq, true_and]; omega)), by rw [HFS.out, ← List.append_assoc]; exact hJ3, q1, q2, q3⟩
                case measure => simp [intOf]; omega
              · obtain ⟨q1, q2, q3⟩ := HKEEP.out _ hk3
                refine hK _ _ ?_
                clear hK K
                refine wpAnyIn_ready (rs := [8]) (by kernel_rfl) (by simp) (AllReadyIn.cons rfl (fun K hK => ?_) AllReadyIn.nil)
                go_simp
                refine hK _ _ ?_
                clear hK K
                refine wpAnyIn_done (by kernel_rfl) ?_ _
                gi_wp2
                exact ⟨q2, rfl, _, hx3⟩
      · obtain rfl : k = m := by omega
        gi_wp2
        refine ⟨hkr, ?_, hAr, hzr⟩
        rw [List.map_append, List.flatMap_append]
        have e : (firstRow k i).take k = firstRow k i := List.take_of_length_le (by simp [firstRow])
        rw [e] at hjr
        simpa using hjr
  case done =>
    rintro D rs X hD rfl ⟨hjx, _, _⟩ hK
    have hjz := hJ.put (.deferred none) hjx (show W.heap.size ≤ D by omega)
    gi_wp2
    show LeavesInM _ _ _ _ _ _ _ _ _
    refine ⟨by simp, .inl ⟨_, _, rfl, run_takeDeferred hK, ?_⟩⟩
    refine ⟨.tuple #[], ?_, ⟨_, rfl⟩, .inl ⟨_, rfl, by rw [sel_fullF n n (Nat.le_refl n)] at hjz; exact hjz⟩⟩
    simp [results, Try.f79, go_sem]
  case stop =>
    rintro D c rs X hD _ ⟨rfl, q, hq⟩ hK
    have hjz := hJx.put (.deferred none) hq (show W.heap.size ≤ D by omega)
    gi_wp2
    show LeavesInM _ _ _ _ _ _ _ _ _
    refine ⟨by simp, .inl ⟨_, _, rfl, run_takeDeferred hK, ?_⟩⟩
    refine ⟨.tuple #[], ?_, ⟨_, rfl⟩, .inr ⟨q, trivial, hjz⟩⟩
    simp [results, Try.f79, go_sem]

end Go.Proofs.Ytlgjplhffpmfpaa
end

section
namespace Go.Proofs.Ytlgjplhffpmfpaa
open Go.RowKit Go.Deep Go.Shelf
attribute [local go_sem] Oper.semAt_some

theorem allParts_any (a : Option Addr) (n cap : Nat) (w : World) :
    Calls Try.prog 64 #[.slice a n cap] w fun e w' => e = .returned (.func (.func 84) #[] #[.pointer (some ⟨w.heap.size, 0, none⟩)]) ∧ w' = w.alloc (.cells #[.slice a n cap] 42) := by
  go_enter Try.func64, Try.ntmps64
  go_wp2
  go_ret
  exact ⟨rfl, rfl⟩

theorem withAll_any (a : Option Addr) (n cap : Nat) (w : World) :
    Calls Try.prog 34 #[.slice a n cap] w fun e w' => e = .returned (posV a n cap 84 #[.pointer (some ⟨w.heap.size + 1, 0, none⟩)]) ∧ w.Since w.heap.size w' ∧ w'.cell? ⟨w.heap.size + 1, 0, none⟩ = some (.slice a n cap) := by
  have EA := Lib.hid (fun (W : World) => allParts_any a n cap W)
  go_enter Try.func34, Try.ntmps34
  go_wp2_with fail
  refine (EA.out _).mono ?_
  rintro e w2 ⟨rfl, rfl⟩
  have hB : ((w.alloc (.cells #[.slice none 0 0, Value.nilFunc] 46)).alloc (.cells #[.slice a n cap] 42)).heap[w.heap.size]? = some (.cells #[.slice none 0 0, Value.nilFunc] 46) := (Below.heap_alloc _ _ _ (by simp)).trans (World.alloc_heap_new w _)
  have hc := (cells2 hB)
  obtain ⟨hc0, hc1⟩ := hc
  go_wp2_with fail
  refine bodyPost_ret (v := posV a n cap 84 #[.pointer (some ⟨w.heap.size + 1, 0, none⟩)]) ?_ rfl ?_
  · have hB2 : ((w.alloc (.cells #[.slice a n cap, .func (.func 84) #[] #[.pointer (some ⟨w.heap.size + 1, 0, none⟩)]] 46)).alloc (.cells #[.slice a n cap] 42)).heap[w.heap.size]? = some (.cells #[.slice a n cap, .func (.func 84) #[] #[.pointer (some ⟨w.heap.size + 1, 0, none⟩)]] 46) := (Below.heap_alloc _ _ _ (by simp)).trans (World.alloc_heap_new w _)
    obtain ⟨d0, d1⟩ := cells2 hB2
    simp [results, Try.f34, go_sem, d0, d1, posV]
  · have h := (cell_new_l (w.alloc (.cells #[.slice a n cap, .func (.func 84) #[] #[.pointer (some ⟨w.heap.size + 1, 0, none⟩)]] 46)) (.slice a n cap) 42).1
    rw [World.size_alloc] at h
    exact ⟨rfl, ((World.Since.refl _ w).alloc (Nat.le_refl _) _).alloc (by simp) _, h⟩

theorem firstParts_any (a : Option Addr) (n cap : Nat) (w : World) :
    Calls Try.prog 61 #[.slice a n cap] w fun e w' => e = .returned (.func (.func 79) #[] #[.pointer (some ⟨w.heap.size, 0, none⟩)]) ∧ w' = w.alloc (.cells #[.slice a n cap] 42) := by
  go_enter Try.func61, Try.ntmps61
  go_wp2
  go_ret
  exact ⟨rfl, rfl⟩

theorem withFirst_any (a : Option Addr) (n cap : Nat) (w : World) :
    Calls Try.prog 28 #[.slice a n cap] w fun e w' => e = .returned (posV a n cap 79 #[.pointer (some ⟨w.heap.size + 1, 0, none⟩)]) ∧ w.Since w.heap.size w' ∧ w'.cell? ⟨w.heap.size + 1, 0, none⟩ = some (.slice a n cap) := by
  have EA := Lib.hid (fun (W : World) => firstParts_any a n cap W)
  go_enter Try.func28, Try.ntmps28
  go_wp2_with fail
  refine (EA.out _).mono ?_
  rintro e w2 ⟨rfl, rfl⟩
  have hB : ((w.alloc (.cells #[.slice none 0 0, Value.nilFunc] 46)).alloc (.cells #[.slice a n cap] 42)).heap[w.heap.size]? = some (.cells #[.slice none 0 0, Value.nilFunc] 46) := (Below.heap_alloc _ _ _ (by simp)).trans (World.alloc_heap_new w _)
  have hc := (cells2 hB)
  obtain ⟨hc0, hc1⟩ := hc
  go_wp2_with fail
  refine bodyPost_ret (v := posV a n cap 79 #[.pointer (some ⟨w.heap.size + 1, 0, none⟩)]) ?_ rfl ?_
  · have hB2 : ((w.alloc (.cells #[.slice a n cap, .func (.func 79) #[] #[.pointer (some ⟨w.heap.size + 1, 0, none⟩)]] 46)).alloc (.cells #[.slice a n cap] 42)).heap[w.heap.size]? = some (.cells #[.slice a n cap, .func (.func 79) #[] #[.pointer (some ⟨w.heap.size + 1, 0, none⟩)]] 46) := (Below.heap_alloc _ _ _ (by simp)).trans (World.alloc_heap_new w _)
    obtain ⟨d0, d1⟩ := cells2 hB2
    simp [results, Try.f28, go_sem, d0, d1, posV]
  · have h := (cell_new_l (w.alloc (.cells #[.slice a n cap, .func (.func 79) #[] #[.pointer (some ⟨w.heap.size + 1, 0, none⟩)]] 46)) (.slice a n cap) 42).1
    rw [World.size_alloc] at h
    exact ⟨rfl, ((World.Since.refl _ w).alloc (Nat.le_refl _) _).alloc (by simp) _, h⟩

theorem oldT_two {w w3 V : World} (hs : w.Since w.heap.size w3) (ho : OldT w3.heap.size w3 V) : OldT w.heap.size w V := fun k hk => (ho k (by have := hs.size; omega)).trans (hs.block k hk)
theorem partsA_ok {n m : Nat} (hn : n ≤ 6) (hm : m ≤ 6) {x : Nat × Nat} (hx : x ∈ partsA n m) : popcS x.1 = popcS x.2 ∧ x.1 < 2 ^ n ∧ x.2 < 2 ^ m := ((partsA_mem hn hm).1 hx).2

theorem allMinors_any (a : Option Addr) (cap n m : Nat) (q : Int) (l : List (List Int)) (w w3 : World) (hn : l.length = n) (hmm : (l.getD 0 []).length = m) (hT : TabIn l) (hm : MatR w a l) (hs : w.Since w.heap.size w3) (hc : w3.cell? ⟨w.heap.size + 1, 0, none⟩ = some (.slice a n cap)) :
    Calls Try.prog 29 #[posV a n cap 84 #[.pointer (some ⟨w.heap.size + 1, 0, none⟩)], .int .i64 q] w3 fun e w' => e = .returned (.bool (leastB l q (partsA n m))) ∧ w3.Since w3.heap.size w' := by
  have h6 := hT.2.1
  have hw := hT.width
  rw [hn] at h6
  rw [hmm] at hw
  have hlt := World.block_lt_of_cell? _ _ hc
  simp only at hlt
  have hz := hs.size
  exact minorsFrom_any a cap n m q _ _ (partsA n m) 32768 (fun k => k < w.heap.size ∨ k = w.heap.size + 1) l w3 hn hmm hT (hm.since hs) (fun x hx => partsA_ok h6 hw.2 hx) (fun k hk => by omega)
    (fun V ho hzV => all_seqE 29 (by omega) (w.heap.size + 1) n m cap a l w V hn hT hmm hm (oldT_two hs ho) (by omega) (by omega) ((ho.cell (by exact hlt)).trans hc)) (enters_of Try.func84 (by kernel_rfl) rfl)

theorem firstMinors_any (a : Option Addr) (cap n m : Nat) (q : Int) (l : List (List Int)) (w w3 : World) (hn : l.length = n) (hmm : (l.getD 0 []).length = m) (hT : TabIn l) (hm : MatR w a l) (hs : w.Since w.heap.size w3) (hc : w3.cell? ⟨w.heap.size + 1, 0, none⟩ = some (.slice a n cap)) :
    Calls Try.prog 29 #[posV a n cap 79 #[.pointer (some ⟨w.heap.size + 1, 0, none⟩)], .int .i64 q] w3 fun e w' => e = .returned (.bool (leastB l q (partsF n m))) ∧ w3.Since w3.heap.size w' := by
  have h6 := hT.2.1
  have hw := hT.width
  rw [hn] at h6
  rw [hmm] at hw
  have hlt := World.block_lt_of_cell? _ _ hc
  simp only at hlt
  have hz := hs.size
  exact minorsFrom_any a cap n m q _ _ (partsF n m) 64 (fun k => k < w.heap.size ∨ k = w.heap.size + 1) l w3 hn hmm hT (hm.since hs) (fun x hx => ⟨(partsF_ok h6 hw.2 hx).1, (partsF_ok h6 hw.2 hx).2.1, (partsF_ok h6 hw.2 hx).2.2.1⟩) (fun k hk => by omega)
    (fun V ho hzV => first_seqE 29 (by omega) (w.heap.size + 1) n m cap a l w V hn hT hmm hm (oldT_two hs ho) (by omega) (by omega) ((ho.cell (by exact hlt)).trans hc)) (enters_of Try.func79 (by kernel_rfl) rfl)

set_option maxHeartbeats 1000000 in
theorem implPosLasting_any (a : Option Addr) (cap n : Nat) (l : List (List Int)) (w : World) (hn : l.length = n) (hsz : szL l ≤ 1048576) (hm : MatR w a l) :
    Calls Try.prog 16 #[.slice a n cap] w fun e w' => e = .returned (.bool (tabIn l && leastB l 0 (partsA n (l.getD 0 []).length))) ∧ w.Since w.heap.size w' := by
  have E := Lib.hid (implTableIn_any a cap n l w hn hsz hm)
  cases hT : tabIn l with
  | false =>
    rw [hT] at E
    clear hT hsz hm hn
    go_enter Try.func16, Try.ntmps16
    go_wp2_with fail
    refine (E.out).mono ?_
    rintro e w1 ⟨rfl, hd⟩
    have HS := Lib.hid hd
    clear hd
    go_wp2
    go_ret
    exact ⟨rfl, HS.out⟩
  | true =>
    rw [hT] at E
    have EC := Lib.hid (fun (W w3 : World) (h : w.Since w.heap.size W) (hs : W.Since W.heap.size w3) (hc : w3.cell? ⟨W.heap.size + 1, 0, none⟩ = some (.slice a n cap)) => allMinors_any a cap n (l.getD 0 []).length 0 l W w3 hn rfl (tabIn_of hT) (hm.since h) hs hc)
    have EW := Lib.hid (fun (W : World) => withAll_any a n cap W)
    obtain ⟨B, hB⟩ : ∃ B, leastB l 0 (partsA n (l.getD 0 []).length) = B := ⟨_, rfl⟩
    rw [hB] at EC ⊢
    clear hT hsz hm hn hB
    go_enter Try.func16, Try.ntmps16
    go_wp2_with fail
    refine (E.out).mono ?_
    rintro e w1 ⟨rfl, hd⟩
    have HS := Lib.hid hd
    clear hd
    go_wp2_with fail
    refine (EW.out w1).mono ?_
    rintro e w2 ⟨rfl, hs2, hc2⟩
    have HS2 := Lib.hid (HS.out.trans (since_mono hs2 HS.out.size))
    have EC2 := Lib.hid (EC.out w1 w2 HS.out hs2 hc2)
    clear hs2 hc2
    go_wp2_with fail
    refine (EC2.out).mono ?_
    rintro e w3 ⟨rfl, hs3⟩
    have HS3 := Lib.hid (HS2.out.trans (since_mono hs3 HS2.out.size))
    clear hs3
    cases B
    · go_wp2
      go_ret
      exact ⟨rfl, HS3.out⟩
    · go_wp2
      go_ret
      exact ⟨rfl, HS3.out⟩

set_option maxHeartbeats 1000000 in
theorem implPosStrict_any (a : Option Addr) (cap n : Nat) (l : List (List Int)) (w : World) (hn : l.length = n) (hsz : szL l ≤ 1048576) (hm : MatR w a l) :
    Calls Try.prog 10 #[.slice a n cap] w fun e w' => e = .returned (.bool (tabIn l && leastB l 1 (partsA n (l.getD 0 []).length))) ∧ w.Since w.heap.size w' := by
  have E := Lib.hid (implTableIn_any a cap n l w hn hsz hm)
  cases hT : tabIn l with
  | false =>
    rw [hT] at E
    clear hT hsz hm hn
    go_enter Try.func10, Try.ntmps10
    go_wp2_with fail
    refine (E.out).mono ?_
    rintro e w1 ⟨rfl, hd⟩
    have HS := Lib.hid hd
    clear hd
    go_wp2
    go_ret
    exact ⟨rfl, HS.out⟩
  | true =>
    rw [hT] at E
    have EC := Lib.hid (fun (W w3 : World) (h : w.Since w.heap.size W) (hs : W.Since W.heap.size w3) (hc : w3.cell? ⟨W.heap.size + 1, 0, none⟩ = some (.slice a n cap)) => allMinors_any a cap n (l.getD 0 []).length 1 l W w3 hn rfl (tabIn_of hT) (hm.since h) hs hc)
    have EW := Lib.hid (fun (W : World) => withAll_any a n cap W)
    obtain ⟨B, hB⟩ : ∃ B, leastB l 1 (partsA n (l.getD 0 []).length) = B := ⟨_, rfl⟩
    rw [hB] at EC ⊢
    clear hT hsz hm hn hB
    go_enter Try.func10, Try.ntmps10
    go_wp2_with fail
    refine (E.out).mono ?_
    rintro e w1 ⟨rfl, hd⟩
    have HS := Lib.hid hd
    clear hd
    go_wp2_with fail
    refine (EW.out w1).mono ?_
    rintro e w2 ⟨rfl, hs2, hc2⟩
    have HS2 := Lib.hid (HS.out.trans (since_mono hs2 HS.out.size))
    have EC2 := Lib.hid (EC.out w1 w2 HS.out hs2 hc2)
    clear hs2 hc2
    go_wp2_with fail
    refine (EC2.out).mono ?_
    rintro e w3 ⟨rfl, hs3⟩
    have HS3 := Lib.hid (HS2.out.trans (since_mono hs3 HS2.out.size))
    clear hs3
    cases B
    · go_wp2
      go_ret
      exact ⟨rfl, HS3.out⟩
    · go_wp2
      go_ret
      exact ⟨rfl, HS3.out⟩

set_option maxHeartbeats 1000000 in
theorem implPosFirst_any (a : Option Addr) (cap n : Nat) (l : List (List Int)) (w : World) (hn : l.length = n) (hsz : szL l ≤ 1048576) (hm : MatR w a l) :
    Calls Try.prog 8 #[.slice a n cap] w fun e w' => e = .returned (.bool (tabIn l && leastB l 1 (partsF n (l.getD 0 []).length))) ∧ w.Since w.heap.size w' := by
  have E := Lib.hid (implTableIn_any a cap n l w hn hsz hm)
  cases hT : tabIn l with
  | false =>
    rw [hT] at E
    clear hT hsz hm hn
    go_enter Try.func8, Try.ntmps8
    go_wp2_with fail
    refine (E.out).mono ?_
    rintro e w1 ⟨rfl, hd⟩
    have HS := Lib.hid hd
    clear hd
    go_wp2
    go_ret
    exact ⟨rfl, HS.out⟩
  | true =>
    rw [hT] at E
    have EC := Lib.hid (fun (W w3 : World) (h : w.Since w.heap.size W) (hs : W.Since W.heap.size w3) (hc : w3.cell? ⟨W.heap.size + 1, 0, none⟩ = some (.slice a n cap)) => firstMinors_any a cap n (l.getD 0 []).length 1 l W w3 hn rfl (tabIn_of hT) (hm.since h) hs hc)
    have EW := Lib.hid (fun (W : World) => withFirst_any a n cap W)
    obtain ⟨B, hB⟩ : ∃ B, leastB l 1 (partsF n (l.getD 0 []).length) = B := ⟨_, rfl⟩
    rw [hB] at EC ⊢
    clear hT hsz hm hn hB
    go_enter Try.func8, Try.ntmps8
    go_wp2_with fail
    refine (E.out).mono ?_
    rintro e w1 ⟨rfl, hd⟩
    have HS := Lib.hid hd
    clear hd
    go_wp2_with fail
    refine (EW.out w1).mono ?_
    rintro e w2 ⟨rfl, hs2, hc2⟩
    have HS2 := Lib.hid (HS.out.trans (since_mono hs2 HS.out.size))
    have EC2 := Lib.hid (EC.out w1 w2 HS.out hs2 hc2)
    clear hs2 hc2
    go_wp2_with fail
    refine (EC2.out).mono ?_
    rintro e w3 ⟨rfl, hs3⟩
    have HS3 := Lib.hid (HS2.out.trans (since_mono hs3 HS2.out.size))
    clear hs3
    cases B
    · go_wp2
      go_ret
      exact ⟨rfl, HS3.out⟩
    · go_wp2
      go_ret
      exact ⟨rfl, HS3.out⟩

end Go.Proofs.Ytlgjplhffpmfpaa
end

section
namespace Go.Proofs.Ytlgjplhffpmfpaa

def IncT (k n : Nat) (ρ : Nat → Nat) : Prop := (∀ i, i + 1 < k → ρ i < ρ (i + 1)) ∧ ∀ i, i < k → ρ i < n
def Tnn (f : Nat → Nat → Int) (n m : Nat) : Prop := ∀ k ρ γ, IncT k n ρ → IncT k m γ → 0 ≤ dt k (fun i j => f (ρ i) (γ j))
def Alt (y : Nat → Int) (n k : Nat) : Prop := ∃ ι : Nat → Nat, IncT (k + 1) n ι ∧ ∀ r, r < k → y (ι r) * y (ι (r + 1)) < 0

theorem IncT.lt {k n : Nat} {ρ : Nat → Nat} (h : IncT k n ρ) : ∀ {i j : Nat}, i < j → j < k → ρ i < ρ j := by
  intro i j hij hj
  obtain ⟨d, rfl⟩ : ∃ d, j = i + 1 + d := ⟨j - (i + 1), by omega⟩
  induction d with
  | zero => exact h.1 i (by omega)
  | succ d ih => exact Nat.lt_trans (ih (by omega) (by omega)) (h.1 (i + 1 + d) (by omega))
theorem IncT.comp {k n m : Nat} {ρ σ : Nat → Nat} (h : IncT k n ρ) (hs : ∀ i, i + 1 < n → σ i < σ (i + 1)) (hb : ∀ i, i < n → σ i < m) : IncT k m (fun i => σ (ρ i)) := by
  have mono : ∀ d i, i + d + 1 < n → σ i < σ (i + d + 1) := by
    intro d
    induction d with
    | zero => intro i hi; exact hs i (by omega)
    | succ d ih => intro i hi; exact Nat.lt_trans (ih i (by omega)) (hs (i + d + 1) (by omega))
  refine ⟨fun i hi => ?_, fun i hi => hb _ (h.2 i hi)⟩
  have h1 := h.1 i hi
  have h2 := h.2 (i + 1) hi
  have := mono (ρ (i + 1) - ρ i - 1) (ρ i) (by omega)
  rwa [show ρ i + (ρ (i + 1) - ρ i - 1) + 1 = ρ (i + 1) by omega] at this
theorem skip_inc (j m : Nat) : (∀ i, i + 1 < m → skip j i < skip j (i + 1)) ∧ ∀ i, i < m → skip j i < m + 1 := by
  refine ⟨fun i _ => ?_, fun i hi => ?_⟩
  · unfold skip; split <;> split <;> omega
  · exact skip_bd hi

theorem sumN_pos_zero {f : Nat → Int} : ∀ n, (∀ i, i < n → 0 ≤ f i) → sumN f n = 0 → ∀ i, i < n → f i = 0
  | 0, _, _, i, hi => absurd hi (Nat.not_lt_zero _)
  | n + 1, h, hs, i, hi => by
    have h0 : ∀ n, (∀ i, i < n → 0 ≤ f i) → 0 ≤ sumN f n := by
      intro n
      induction n with
      | zero => intro _; simp [sumN]
      | succ n ih => intro h; have := ih (fun i hi => h i (by omega)); have := h n (by omega); simp only [sumN]; omega
    have h1 := h0 n (fun i hi => h i (by omega))
    have h2 := h n (by omega)
    simp only [sumN] at hs
    rcases Nat.lt_succ_iff_lt_or_eq.1 hi with h3 | h3
    · exact sumN_pos_zero n (fun i hi => h i (by omega)) (by omega) i h3
    · subst h3; omega

theorem dt_dep {m : Nat} (g : Nat → Nat → Int) (x : Nat → Int) : ∀ k, k ≤ m → dt (m + 1) (fun i j => if j = 0 then sumN (fun j => g i j * x j) k else g i (j - 1)) = 0 := by
  intro k hk
  rw [← dt_turn]
  have e : dt (m + 1) (fun i j => if i = 0 then sumN (fun i => g j i * x i) k else g j (i - 1)) = dt (m + 1) (setR (fun i j => if i = 0 then 0 else g j (i - 1)) 0 (fun j => (fun i j => if i = 0 then (0 : Int) else g j (i - 1)) 0 j + sumN (fun t => x t * (fun i j => if i = 0 then (0 : Int) else g j (i - 1)) (t + 1) j) k)) := by
    refine dt_congr _ fun i j _ _ => ?_
    unfold setR
    by_cases h : i = 0
    · rw [if_pos h, if_pos h]
      dsimp only
      rw [if_pos rfl, Int.zero_add]
      refine sumN_congr k fun t _ => ?_
      rw [if_neg (by omega), Nat.add_sub_cancel, Int.mul_comm]
    · rw [if_neg h, if_neg h]
      dsimp only
      rw [if_neg h]
  rw [e, dt_addS (fun i j => if i = 0 then (0 : Int) else g j (i - 1)) x (fun t => t + 1) (by omega) k (fun t ht => ⟨by omega, by omega⟩)]
  rw [dt_succ]
  refine sumN_none _ fun j _ => ?_
  rw [if_pos rfl]
  simp

def ins (p i : Nat) (ρ : Nat → Nat) (r : Nat) : Nat := if r < p then ρ r else if r = p then i else ρ (r - 1)
theorem ins_ex (p i : Nat) (ρ : Nat → Nat) (r : Nat) : ins (p + 1) i ρ r = ins p i ρ (ex1 p r) := by
  unfold ins ex1
  by_cases h1 : r = p
  · subst h1; simp; intro h; omega
  · by_cases h2 : r = p + 1
    · subst h2; simp
    · simp only [if_neg h1, if_neg h2]
      by_cases h3 : r < p
      · rw [if_pos (by omega), if_pos h3]
      · rw [if_neg (by omega), if_neg h3]
theorem dt_ins (f : Nat → Nat → Int) (i : Nat) (ρ : Nat → Nat) (m : Nat) : ∀ p, p ≤ m → dt (m + 1) (fun r j => f (ins p i ρ r) j) = sn p * dt (m + 1) (fun r j => f (ins 0 i ρ r) j)
  | 0, _ => by rw [sn_zero, Int.one_mul]
  | p + 1, hp => by
    have h := dt_ex1 p (m + 1) (fun j r => f (ins p i ρ r) j) (by omega)
    rw [dt_turn (m + 1) (fun r j => f (ins p i ρ r) j)] at h
    rw [dt_congr (m + 1) (g := fun r j => f (ins p i ρ (ex1 p r)) j) (fun r j _ _ => by rw [ins_ex]), ← dt_turn (m + 1) (fun r j => f (ins p i ρ (ex1 p r)) j), h, dt_ins f i ρ m p (by omega), sn_succ, Int.neg_mul]
theorem ins_place {k n : Nat} {ρ : Nat → Nat} (h : IncT k n ρ) (i : Nat) (hne : ∀ r, r < k → ρ r ≠ i) : ∃ p, p ≤ k ∧ (∀ r, r < p → ρ r < i) ∧ ∀ r, p ≤ r → r < k → i < ρ r := by
  induction k with
  | zero => exact ⟨0, Nat.le_refl _, fun r hr => absurd hr (Nat.not_lt_zero _), fun r _ hr => absurd hr (Nat.not_lt_zero _)⟩
  | succ k ih =>
    obtain ⟨p, hp, h1, h2⟩ := ih ⟨fun r hr => h.1 r (by omega), fun r hr => h.2 r (by omega)⟩ (fun r hr => hne r (by omega))
    by_cases hlt : ρ k < i
    · refine ⟨k + 1, Nat.le_refl _, fun r hr => ?_, fun r h3 h4 => absurd h4 (by omega)⟩
      rcases Nat.lt_succ_iff_lt_or_eq.1 hr with h5 | h5
      · exact Nat.lt_trans (h.lt h5 (by omega)) hlt
      · subst h5; exact hlt
    · refine ⟨p, by omega, h1, fun r h3 h4 => ?_⟩
      rcases Nat.lt_succ_iff_lt_or_eq.1 h4 with h5 | h5
      · exact h2 r h3 h5
      · subst h5; have := hne r (by omega); omega
theorem ins_inc {k n p i : Nat} {ρ : Nat → Nat} (h : IncT k n ρ) (hi : i < n) (hp : p ≤ k) (h1 : ∀ r, r < p → ρ r < i) (h2 : ∀ r, p ≤ r → r < k → i < ρ r) : IncT (k + 1) n (ins p i ρ) := by
  refine ⟨fun r hr => ?_, fun r hr => ?_⟩
  · unfold ins
    by_cases c1 : r + 1 < p
    · rw [if_pos (by omega), if_pos c1]; exact h.1 r (by omega)
    · by_cases c2 : r + 1 = p
      · rw [if_pos (by omega), if_neg (by omega), if_pos c2]; exact h1 r (by omega)
      · by_cases c3 : r = p
        · rw [if_neg (by omega), if_pos c3, if_neg (by omega), if_neg (by omega), Nat.add_sub_cancel]; exact h2 r (by omega) (by omega)
        · rw [if_neg (by omega), if_neg c3, if_neg (by omega), if_neg c2, Nat.add_sub_cancel]
          have := h.1 (r - 1) (by omega)
          rwa [show r - 1 + 1 = r by omega] at this
  · unfold ins
    split
    · exact h.2 r (by omega)
    · split
      · exact hi
      · exact h.2 (r - 1) (by omega)

theorem ker_or (f : Nat → Nat → Int) (n : Nat) : ∀ m, (∃ c : Nat → Int, (∃ j, j < m ∧ c j ≠ 0) ∧ ∀ i, i < n → sumN (fun j => f i j * c j) m = 0) ∨ ∃ ρ : Nat → Nat, IncT m n ρ ∧ dt m (fun i j => f (ρ i) j) ≠ 0
  | 0 => .inr ⟨fun _ => 0, ⟨fun k hk => absurd hk (Nat.not_lt_zero _), fun k hk => absurd hk (Nat.not_lt_zero _)⟩, by simp [dt]⟩
  | m + 1 => by
    rcases ker_or f n m with ⟨c, ⟨j, hj, hc⟩, hs⟩ | ⟨ρ, hρ, hd⟩
    · refine .inl ⟨fun t => if t = m then 0 else c t, ⟨j, by omega, by dsimp only; rw [if_neg (by omega)]; exact hc⟩, fun i hi => ?_⟩
      show sumN (fun t => f i t * if t = m then 0 else c t) m + f i m * (if m = m then 0 else c m) = 0
      rw [if_pos rfl, sumN_congr m (g := fun t => f i t * c t) (fun t ht => by rw [if_neg (by omega)]), hs i hi]
      simp
    · -- the row i put first
      have hi0 : ∀ i r, ins 0 i ρ r = if r = 0 then i else ρ (r - 1) := fun i r => by unfold ins; rw [if_neg (Nat.not_lt_zero _)]
      have hex : ∀ i, dt (m + 1) (fun r j => f (if r = 0 then i else ρ (r - 1)) j) = sumN (fun k => f i k * (sn k * dt m (fun r j => f (ρ r) (skip k j)))) (m + 1) := fun i => by
        rw [dt_succ]
        refine sumN_congr _ fun k _ => ?_
        rw [if_pos rfl, show dr k (fun r j => f (if r = 0 then i else ρ (r - 1)) j) = fun r j => f (ρ r) (skip k j) from by
          funext r j
          unfold dr
          dsimp only
          rw [if_neg (by omega), Nat.add_sub_cancel]]
        grind
      by_cases hall : ∀ i, i < n → dt (m + 1) (fun r j => f (if r = 0 then i else ρ (r - 1)) j) = 0
      · refine .inl ⟨fun k => sn k * dt m (fun r j => f (ρ r) (skip k j)), ⟨m, by omega, ?_⟩, fun i hi => ?_⟩
        · refine Int.mul_ne_zero (sn_ne m) ?_
          rw [dt_congr m (g := fun i j => f (ρ i) j) (fun i j _ hj => by rw [skip_lt hj])]
          exact hd
        · rw [← hex i]; exact hall i hi
      · obtain ⟨i, hi, hne⟩ : ∃ i, i < n ∧ dt (m + 1) (fun r j => f (if r = 0 then i else ρ (r - 1)) j) ≠ 0 := by
          apply Classical.byContradiction
          intro h
          exact hall fun i hi => Classical.byContradiction fun h2 => h ⟨i, hi, h2⟩
        have hdis : ∀ r, r < m → ρ r ≠ i := fun r hr he => hne (by
          refine dt_sameR (p := 0) (q := r + 1) _ (by omega) (by omega) (by omega) fun j _ => ?_
          rw [if_pos rfl, if_neg (by omega), Nat.add_sub_cancel, he])
        obtain ⟨p, hp, h1, h2⟩ := ins_place hρ i hdis
        refine .inr ⟨ins p i ρ, ins_inc hρ hi hp h1 h2, ?_⟩
        rw [dt_ins f i ρ m p hp]
        refine Int.mul_ne_zero (sn_ne p) ?_
        rw [dt_congr (m + 1) (g := fun r j => f (if r = 0 then i else ρ (r - 1)) j) (fun r j _ _ => by rw [hi0])]
        exact hne

theorem inc_ge {k n : Nat} {ρ : Nat → Nat} (h : IncT k n ρ) : ∀ r, r < k → r ≤ ρ r
  | 0, _ => Nat.zero_le _
  | r + 1, hr => by have := inc_ge h r (by omega); have := h.1 r hr; omega
theorem inc_le {k n : Nat} {ρ : Nat → Nat} (h : IncT k n ρ) : ∀ d r, r + d + 1 = k → ρ r + d < n
  | 0, r, hr => h.2 r (by omega)
  | d + 1, r, hr => by have := inc_le h d (r + 1) (by omega); have := h.1 r (by omega); omega
theorem inc_skip {m : Nat} {ρ : Nat → Nat} (h : IncT (m + 1) (m + 2) ρ) : ∃ i, i < m + 2 ∧ ∀ r, r < m + 1 → ρ r = skip i r := by
  have key : ∀ q, q ≤ m + 1 → (∃ i, i < m + 2 ∧ ∀ r, r < q → ρ r = skip i r) := by
    intro q
    induction q with
    | zero => intro _; exact ⟨0, by omega, fun r hr => absurd hr (Nat.not_lt_zero _)⟩
    | succ q ih =>
      intro hq
      obtain ⟨i, hi, hr⟩ := ih (by omega)
      have g1 := inc_ge h q (by omega)
      have g2 := inc_le h (m - q) q (by omega)
      by_cases e : ρ q = q
      · refine ⟨m + 1, by omega, fun r hrq => ?_⟩
        have h1 := inc_ge h r (by omega)
        rw [skip_lt (by omega)]
        rcases Nat.lt_succ_iff_lt_or_eq.1 hrq with h2 | h2
        · have h3 := h.lt h2 (by omega : q < m + 1)
          have h4 : ∀ d, r + d = q → ρ r ≤ r := by
            intro d
            intro hd
            have := inc_le (k := q + 1) (n := q + 1) (ρ := ρ) ⟨fun t ht => h.1 t (by omega), fun t ht => by
              rcases Nat.lt_succ_iff_lt_or_eq.1 ht with h5 | h5
              · have := h.lt h5 (by omega : q < m + 1); omega
              · subst h5; omega⟩ d r (by omega)
            omega
          have := h4 (q - r) (by omega)
          omega
        · subst h2; exact e
      · have e2 : ρ q = q + 1 := by omega
        by_cases hiq : i ≤ q
        · refine ⟨i, hi, fun r hrq => ?_⟩
          rcases Nat.lt_succ_iff_lt_or_eq.1 hrq with h2 | h2
          · exact hr r h2
          · subst h2; rw [skip_ge hiq]; exact e2
        · refine ⟨q, by omega, fun r hrq => ?_⟩
          rcases Nat.lt_succ_iff_lt_or_eq.1 hrq with h2 | h2
          · rw [hr r h2, skip_lt (by omega), skip_lt h2]
          · subst h2; rw [skip_ge (Nat.le_refl _)]; exact e2
  exact key (m + 1) (Nat.le_refl _)

theorem sumN_skip (g : Nat → Int) (j : Nat) : ∀ m, j < m + 1 → sumN g (m + 1) = g j + sumN (fun t => g (skip j t)) m
  | 0, h => by
    have : j = 0 := by omega
    subst this; simp [sumN]
  | m + 1, h => by
    by_cases e : j = m + 1
    · subst e
      rw [show sumN g (m + 1 + 1) = sumN g (m + 1) + g (m + 1) from rfl, sumN_congr (m + 1) (f := fun t => g (skip (m + 1) t)) (g := g) (fun t ht => by rw [skip_lt ht])]
      omega
    · rw [show sumN g (m + 1 + 1) = sumN g (m + 1) + g (m + 1) from rfl, sumN_skip g j m (by omega), show sumN (fun t => g (skip j t)) (m + 1) = sumN (fun t => g (skip j t)) m + g (skip j m) from rfl, skip_ge (show j ≤ m by omega)]
      omega
theorem Alt.skip {x : Nat → Int} {m k : Nat} (j : Nat) (h : Alt (fun t => x (skip j t)) m k) : Alt x (m + 1) k := by
  obtain ⟨ι, hι, ha⟩ := h
  obtain ⟨s1, s2⟩ := skip_inc j m
  exact ⟨fun r => Go.Proofs.Ytlgjplhffpmfpaa.skip j (ι r), hι.comp s1 s2, ha⟩
theorem Tnn.skip {f : Nat → Nat → Int} {n m : Nat} (h : Tnn f n (m + 1)) (j : Nat) : Tnn (fun i t => f i (Go.Proofs.Ytlgjplhffpmfpaa.skip j t)) n m := fun k ρ γ hρ hγ => by
  obtain ⟨s1, s2⟩ := skip_inc j m
  exact h k ρ (fun r => Go.Proofs.Ytlgjplhffpmfpaa.skip j (γ r)) hρ (hγ.comp s1 s2)

def mrg (f : Nat → Nat → Int) (j : Nat) (A B : Int) (i t : Nat) : Int := if t < j then f i t else if t = j then A * f i j + B * f i (j + 1) else f i (t + 1)
theorem mrg_at {f : Nat → Nat → Int} {j : Nat} {A B : Int} (i t : Nat) (h : t ≠ j) : mrg f j A B i t = f i (skip j t) ∧ mrg f j A B i t = f i (skip (j + 1) t) := by
  unfold mrg skip
  by_cases h1 : t < j
  · rw [if_pos h1, if_pos h1, if_pos (by omega)]; exact ⟨rfl, rfl⟩
  · rw [if_neg h1, if_neg h, if_neg h1, if_neg (by omega)]; exact ⟨rfl, rfl⟩
theorem Tnn.mrg {f : Nat → Nat → Int} {n m j : Nat} {A B : Int} (h : Tnn f n (m + 1)) (hA : 0 ≤ A) (hB : 0 ≤ B) : Tnn (mrg f j A B) n m := fun k ρ γ hρ hγ => by
  obtain ⟨s1, s2⟩ := skip_inc j m
  obtain ⟨u1, u2⟩ := skip_inc (j + 1) m
  have h1 := h k ρ (fun r => Go.Proofs.Ytlgjplhffpmfpaa.skip (j + 1) (γ r)) hρ (hγ.comp u1 u2)
  have h2 := h k ρ (fun r => Go.Proofs.Ytlgjplhffpmfpaa.skip j (γ r)) hρ (hγ.comp s1 s2)
  by_cases hin : ∃ t, t < k ∧ γ t = j
  · obtain ⟨t, ht, he⟩ := hin
    have hne : ∀ r, r < k → r ≠ t → γ r ≠ j := fun r hr hrt e => by
      rcases Nat.lt_or_gt_of_ne hrt with h3 | h3
      · have := hγ.lt h3 ht; omega
      · have := hγ.lt h3 hr; omega
    have e : dt k (fun i r => Go.Proofs.Ytlgjplhffpmfpaa.mrg f j A B (ρ i) (γ r)) = dt k (setR (fun r i => f (ρ i) (Go.Proofs.Ytlgjplhffpmfpaa.skip (j + 1) (γ r))) t (fun i => A * f (ρ i) j + B * f (ρ i) (j + 1))) := by
      rw [← dt_turn]
      refine dt_congr k fun r i hr _ => ?_
      unfold setR
      by_cases hrt : r = t
      · rw [if_pos hrt, hrt, he]
        unfold Go.Proofs.Ytlgjplhffpmfpaa.mrg
        rw [if_neg (Nat.lt_irrefl _), if_pos rfl]
      · rw [if_neg hrt, (mrg_at (ρ i) (γ r) (hne r hr hrt)).2]
    rw [e, dt_lin k t _ A B (fun i => f (ρ i) j) (fun i => f (ρ i) (j + 1)) ht]
    have e1 : dt k (setR (fun r i => f (ρ i) (Go.Proofs.Ytlgjplhffpmfpaa.skip (j + 1) (γ r))) t (fun i => f (ρ i) j)) = dt k (fun i r => f (ρ i) (Go.Proofs.Ytlgjplhffpmfpaa.skip (j + 1) (γ r))) := by
      rw [← dt_turn k (fun i r => f (ρ i) (Go.Proofs.Ytlgjplhffpmfpaa.skip (j + 1) (γ r)))]
      refine dt_congr k fun r i _ _ => ?_
      unfold setR
      by_cases hrt : r = t
      · rw [if_pos hrt, hrt, he, skip_lt (by omega)]
      · rw [if_neg hrt]
    have e2 : dt k (setR (fun r i => f (ρ i) (Go.Proofs.Ytlgjplhffpmfpaa.skip (j + 1) (γ r))) t (fun i => f (ρ i) (j + 1))) = dt k (fun i r => f (ρ i) (Go.Proofs.Ytlgjplhffpmfpaa.skip j (γ r))) := by
      rw [← dt_turn k (fun i r => f (ρ i) (Go.Proofs.Ytlgjplhffpmfpaa.skip j (γ r)))]
      refine dt_congr k fun r i hr _ => ?_
      unfold setR
      by_cases hrt : r = t
      · rw [if_pos hrt, hrt, he, skip_ge (Nat.le_refl _)]
      · rw [if_neg hrt]
        have := mrg_at (f := f) (A := A) (B := B) (ρ i) (γ r) (hne r hr hrt)
        exact this.2.symm.trans this.1
    rw [e1, e2]
    have g1 := Int.mul_nonneg hA h1
    have g2 := Int.mul_nonneg hB h2
    omega
  · rw [dt_congr k (g := fun i r => f (ρ i) (Go.Proofs.Ytlgjplhffpmfpaa.skip j (γ r))) (fun i r _ hr => (mrg_at (ρ i) (γ r) (fun e => hin ⟨r, hr, e⟩)).1)]
    exact h2
theorem sumN_mrg (g : Nat → Int) (j : Nat) : ∀ m, j < m → sumN (fun t => if t < j then g t else if t = j then g j + g (j + 1) else g (t + 1)) m = sumN g (m + 1)
  | 0, h => absurd h (Nat.not_lt_zero _)
  | m + 1, h => by
    rw [show sumN (fun t => if t < j then g t else if t = j then g j + g (j + 1) else g (t + 1)) (m + 1) = sumN (fun t => if t < j then g t else if t = j then g j + g (j + 1) else g (t + 1)) m + (if m < j then g m else if m = j then g j + g (j + 1) else g (m + 1)) from rfl]
    by_cases e : m = j
    · rw [if_neg (by omega), if_pos e]
      subst e
      rw [sumN_congr m (g := g) (fun t ht => by rw [if_pos ht])]
      show sumN g m + (g m + g (m + 1)) = sumN g m + g m + g (m + 1)
      omega
    · rw [sumN_mrg g j m (by omega), if_neg (by omega), if_neg e]
      rfl

theorem neg_iff {a b : Int} : a * b < 0 ↔ (a < 0 ∧ 0 < b) ∨ (0 < a ∧ b < 0) := by
  constructor
  · intro h
    rcases Int.lt_trichotomy a 0 with ha | ha | ha
    · rcases Int.lt_trichotomy b 0 with hb | hb | hb
      · have := Int.mul_pos_of_neg_of_neg ha hb; omega
      · rw [hb] at h; simp at h
      · exact .inl ⟨ha, hb⟩
    · rw [ha] at h; simp at h
    · rcases Int.lt_trichotomy b 0 with hb | hb | hb
      · exact .inr ⟨ha, hb⟩
      · rw [hb] at h; simp at h
      · have := Int.mul_pos ha hb; omega
  · rintro (⟨h1, h2⟩ | ⟨h1, h2⟩)
    · exact Int.mul_neg_of_neg_of_pos h1 h2
    · exact Int.mul_neg_of_pos_of_neg h1 h2
theorem pos_iff {a b : Int} : 0 < a * b ↔ (a < 0 ∧ b < 0) ∨ (0 < a ∧ 0 < b) := by
  have h := neg_iff (a := -a) (b := b)
  rw [Int.neg_mul] at h
  constructor
  · intro hp
    rcases h.1 (by omega) with ⟨h1, h2⟩ | ⟨h1, h2⟩
    · exact .inr ⟨by omega, h2⟩
    · exact .inl ⟨by omega, h2⟩
  · intro hp
    have := h.2 (by rcases hp with ⟨h1, h2⟩ | ⟨h1, h2⟩ <;> omega)
    omega
def Sg (a b : Int) : Prop := (0 < a ↔ 0 < b) ∧ (a < 0 ↔ b < 0)
theorem Sg.neg {a b a' b' : Int} (h : Sg a a') (h2 : Sg b b') (hn : a' * b' < 0) : a * b < 0 := by
  rw [neg_iff] at hn ⊢
  rcases hn with ⟨h3, h4⟩ | ⟨h3, h4⟩
  · exact .inl ⟨h.2.2 h3, h2.1.2 h4⟩
  · exact .inr ⟨h.1.2 h3, h2.2.2 h4⟩
theorem neg_chain {y : Nat → Int} {k : Nat} (h : ∀ r, r < k → y r * y (r + 1) < 0) (h0 : y 0 ≠ 0) : ∀ r, r ≤ k → 0 < sn r * y r * y 0
  | 0, _ => by
    rw [sn_zero, Int.one_mul]
    rcases Int.lt_or_gt_of_ne h0 with h1 | h1
    · exact Int.mul_pos_of_neg_of_neg h1 h1
    · exact Int.mul_pos h1 h1
  | r + 1, hr => by
    have i := neg_chain h h0 r (by omega)
    have n := h r (by omega)
    rw [sn_succ]
    have e : sn r * y r * y 0 * (y r * y (r + 1)) = (y r * y r) * (sn r * y (r + 1) * y 0) := by grind
    have hyr : y r ≠ 0 := fun e0 => by rw [e0] at n; simp at n
    have hsq : 0 < y r * y r := by
      rcases Int.lt_or_gt_of_ne hyr with h1 | h1
      · exact Int.mul_pos_of_neg_of_neg h1 h1
      · exact Int.mul_pos h1 h1
    have hlt : sn r * y r * y 0 * (y r * y (r + 1)) < 0 := Int.mul_neg_of_pos_of_neg i n
    rw [e] at hlt
    have h3 : sn r * y (r + 1) * y 0 < 0 := by
      rcases Int.lt_trichotomy (sn r * y (r + 1) * y 0) 0 with h4 | h4 | h4
      · exact h4
      · rw [h4] at hlt; simp at hlt
      · have := Int.mul_pos hsq h4; omega
    rw [Int.neg_mul, Int.neg_mul]
    omega

theorem vd : ∀ (m : Nat) (f : Nat → Nat → Int) (n : Nat) (x : Nat → Int), Tnn f n m → ∀ k, 1 ≤ k → Alt (fun i => sumN (fun j => f i j * x j) m) n k → Alt x m k
  | 0, f, n, x, _, k, hk, ⟨ι, _, ha⟩ => by
    have := ha 0 (by omega)
    simp [sumN] at this
  | m + 1, f, n, x, hT, k, hk, hA => by
    by_cases hz : ∃ j, j < m + 1 ∧ x j = 0
    · obtain ⟨j, hj, hx0⟩ := hz
      refine (vd m (fun i t => f i (skip j t)) n (fun t => x (skip j t)) (hT.skip j) k hk ?_).skip j
      obtain ⟨ι, hι, ha⟩ := hA
      refine ⟨ι, hι, fun r hr => ?_⟩
      have h := ha r hr
      simp only at h ⊢
      rw [sumN_skip (fun t => f (ι r) t * x t) j m hj, sumN_skip (fun t => f (ι (r + 1)) t * x t) j m hj, hx0] at h
      simpa using h
    by_cases hp : ∃ j, j + 1 < m + 1 ∧ 0 < x j * x (j + 1)
    · obtain ⟨j, hj, hpos⟩ := hp
      have hne0 : x j ≠ 0 := fun e => hz ⟨j, by omega, e⟩
      obtain ⟨s, hs, hs1, hs2⟩ : ∃ s : Int, Sg (x j) s ∧ x j = ((x j).natAbs : Int) * s ∧ x (j + 1) = ((x (j + 1)).natAbs : Int) * s := by
        rcases pos_iff.1 hpos with ⟨h1, h2⟩ | ⟨h1, h2⟩
        · exact ⟨-1, ⟨by omega, by omega⟩, by omega, by omega⟩
        · exact ⟨1, ⟨by omega, by omega⟩, by omega, by omega⟩
      have ih := vd m (mrg f j ((x j).natAbs : Int) ((x (j + 1)).natAbs : Int)) n (fun t => if t < j then x t else if t = j then s else x (t + 1)) (hT.mrg (Int.natCast_nonneg _) (Int.natCast_nonneg _)) k hk (by
        obtain ⟨ι, hι, ha⟩ := hA
        refine ⟨ι, hι, fun r hr => ?_⟩
        have e : ∀ i, sumN (fun t => mrg f j ((x j).natAbs : Int) ((x (j + 1)).natAbs : Int) i t * (if t < j then x t else if t = j then s else x (t + 1))) m = sumN (fun t => f i t * x t) (m + 1) := fun i => by
          rw [← sumN_mrg (fun t => f i t * x t) j m (by omega)]
          refine sumN_congr m fun t _ => ?_
          unfold mrg
          by_cases h1 : t < j
          · simp only [if_pos h1]
          · by_cases h2 : t = j
            · simp only [if_neg h1, if_pos h2]
              rw [Int.add_mul]
              have e1 : f i j * x j = f i j * (((x j).natAbs : Int) * s) := by rw [← hs1]
              have e2 : f i (j + 1) * x (j + 1) = f i (j + 1) * (((x (j + 1)).natAbs : Int) * s) := by rw [← hs2]
              rw [e1, e2]
              grind
            · simp only [if_neg h1, if_neg h2]
        have h := ha r hr
        simp only at h ⊢
        rw [e, e]
        exact h)
      obtain ⟨ι, hι, ha⟩ := ih
      obtain ⟨u1, u2⟩ := skip_inc (j + 1) m
      refine ⟨fun r => skip (j + 1) (ι r), hι.comp u1 u2, fun r hr => ?_⟩
      have h := ha r hr
      have sgn : ∀ t, Sg (x (skip (j + 1) t)) ((fun t => if t < j then x t else if t = j then s else x (t + 1)) t) := fun t => by
        by_cases h1 : t < j
        · rw [skip_lt (by omega)]
          simp only [if_pos h1]
          exact ⟨Iff.rfl, Iff.rfl⟩
        · by_cases h2 : t = j
          · rw [skip_lt (by omega)]
            simp only [if_neg h1, if_pos h2]
            rw [h2]; exact hs
          · rw [skip_ge (by omega)]
            simp only [if_neg h1, if_neg h2]
            exact ⟨Iff.rfl, Iff.rfl⟩
      exact (sgn _).neg (sgn _) h
    have hneg : ∀ j, j + 1 < m + 1 → x j * x (j + 1) < 0 := fun j hj => by
      have h1 : x j ≠ 0 := fun e => hz ⟨j, by omega, e⟩
      have h2 : x (j + 1) ≠ 0 := fun e => hz ⟨j + 1, hj, e⟩
      have h3 := Int.mul_ne_zero h1 h2
      have h4 : ¬ 0 < x j * x (j + 1) := fun h => hp ⟨j, hj, h⟩
      omega
    by_cases hkm : k ≤ m
    · exact ⟨fun r => r, ⟨fun i _ => Nat.lt_succ_self i, fun i hi => by show i < m + 1; omega⟩, fun r hr => hneg r (by omega)⟩
    · exfalso
      obtain ⟨ι, hι, ha⟩ := hA
      have hιm : IncT (m + 2) n ι := ⟨fun i hi => hι.1 i (by omega), fun i hi => hι.2 i (by omega)⟩
      obtain ⟨g, hg⟩ : ∃ g : Nat → Nat → Int, g = fun r j => f (ι r) j := ⟨_, rfl⟩
      obtain ⟨Y, hY⟩ : ∃ Y : Nat → Int, Y = fun r => sumN (fun j => g r j * x j) (m + 1) := ⟨_, rfl⟩
      have hYn : ∀ r, r < m + 1 → Y r * Y (r + 1) < 0 := fun r hr => by
        have := ha r (by omega)
        rw [hY, hg]
        exact this
      have hY0 : Y 0 ≠ 0 := fun e => by have := hYn 0 (by omega); rw [e] at this; simp at this
      have hch := neg_chain (y := Y) (k := m + 1) hYn hY0
      have hTg : Tnn g (m + 2) (m + 1) := fun q ρ γ hρ hγ => by
        rw [hg]
        exact hT q (fun r => ι (ρ r)) γ (hρ.comp hιm.1 hιm.2) hγ
      have hM : ∀ i, i < m + 2 → dt (m + 1) (fun r j => g (skip i r) j) = 0 := by
        have hd := dt_dep (m := m + 1) g x (m + 1) (Nat.le_refl _)
        rw [dt_col] at hd
        have hnn : ∀ i, 0 ≤ dt (m + 1) (fun r j => g (skip i r) j) := fun i => by
          obtain ⟨u1, u2⟩ := skip_inc i (m + 1)
          exact hTg (m + 1) (skip i) (fun j => j) ⟨u1, u2⟩ ⟨fun j _ => Nat.lt_succ_self j, fun j hj => hj⟩
        have hsum : sumN (fun i => sn i * Y i * Y 0 * dt (m + 1) (fun r j => g (skip i r) j)) (m + 2) = 0 := by
          have e : sumN (fun i => sn i * Y i * Y 0 * dt (m + 1) (fun r j => g (skip i r) j)) (m + 2) = Y 0 * sumN (fun i => sn i * ((if (0 : Nat) = 0 then sumN (fun j => g i j * x j) (m + 1) else g i (0 - 1)) * dt (m + 1) (fun r j => if j + 1 = 0 then sumN (fun j => g (skip i r) j * x j) (m + 1) else g (skip i r) (j + 1 - 1)))) (m + 2) := by
            rw [← sumN_mul]
            refine sumN_congr _ fun i _ => ?_
            rw [if_pos rfl, dt_congr (m + 1) (f := fun r j => if j + 1 = 0 then sumN (fun j => g (skip i r) j * x j) (m + 1) else g (skip i r) (j + 1 - 1)) (g := fun r j => g (skip i r) j) (fun r j _ _ => by rw [if_neg (by omega), Nat.add_sub_cancel])]
            have e2 : sumN (fun j => g i j * x j) (m + 1) = Y i := by rw [hY]
            rw [e2]
            grind
          rw [e]
          have := hd
          rw [show (m + 1 + 1) = m + 2 from rfl] at this
          rw [this]; simp
        intro i hi
        have h0 := sumN_pos_zero (m + 2) (fun i hi => Int.mul_nonneg (Int.le_of_lt (hch i (by omega))) (hnn i)) hsum i hi
        rcases Int.mul_eq_zero.1 h0 with h1 | h1
        · have := hch i (by omega); omega
        · exact h1
      rcases ker_or g (m + 2) (m + 1) with ⟨c, ⟨j, hj, hcj⟩, hc⟩ | ⟨ρ, hρ, hd⟩
      · have hz0 : c j * x j - x j * c j = 0 := by grind
        have ih := vd m (fun r t => g r (skip j t)) (m + 2) (fun t => c j * x (skip j t) - x j * c (skip j t)) (hTg.skip j) (m + 1) (by omega) (by
          refine ⟨fun r => r, ⟨fun i _ => Nat.lt_succ_self i, fun i hi => by show i < m + 2; omega⟩, fun r hr => ?_⟩
          have e : ∀ i, i < m + 2 → sumN (fun t => g i (skip j t) * (c j * x (skip j t) - x j * c (skip j t))) m = c j * Y i := fun i hi => by
            have h1 := sumN_skip (fun t => g i t * (c j * x t - x j * c t)) j m hj
            have h2 : sumN (fun t => g i t * (c j * x t - x j * c t)) (m + 1) = c j * Y i := by
              rw [sumN_congr (m + 1) (g := fun t => c j * (g i t * x t) + (-(x j)) * (g i t * c t)) (fun t _ => by grind), sumN_add, sumN_mul, sumN_mul, hc i hi, hY]
              simp
            rw [h2] at h1
            rw [h1]
            rw [hz0]
            simp
          simp only
          rw [e r (by omega), e (r + 1) (by omega)]
          have h3 := hYn r hr
          have h4 : c j * Y r * (c j * Y (r + 1)) = (c j * c j) * (Y r * Y (r + 1)) := by grind
          rw [h4]
          refine Int.mul_neg_of_pos_of_neg ?_ h3
          rcases Int.lt_or_gt_of_ne hcj with h5 | h5
          · exact Int.mul_pos_of_neg_of_neg h5 h5
          · exact Int.mul_pos h5 h5)
        obtain ⟨κ, hκ, _⟩ := ih
        have h1 := inc_ge hκ (m + 1) (by omega)
        have h2 := hκ.2 (m + 1) (by omega)
        omega
      · obtain ⟨i, hi, he⟩ := inc_skip hρ
        refine hd ?_
        rw [dt_congr (m + 1) (g := fun r j => g (skip i r) j) (fun r j hr _ => by rw [he r hr])]
        exact hM i hi

end Go.Proofs.Ytlgjplhffpmfpaa
end

section
namespace Go.Proofs.Ytlgjplhffpmfpaa
open Go.RowKit Go.Deep

def NumK (x : List Int) (k : Nat) : Prop := ∀ j, j < k → inB (x.getD j 0) (-1000) 1000 = true
open Classical in
noncomputable def numK (x : List Int) : Bool := decide (NumK x x.length)
theorem numK_true {x : List Int} (h : NumK x x.length) : numK x = true := by simp [numK, h]
theorem numK_false {x : List Int} (h : ¬ NumK x x.length) : numK x = false := by simp [numK, h]
theorem numK_of {x : List Int} (h : numK x = true) : NumK x x.length := by simpa [numK] using h
theorem NumK.succ {x : List Int} {k : Nat} (h : NumK x k) (hk : inB (x.getD k 0) (-1000) 1000 = true) : NumK x (k + 1) := fun j hj => by
  rcases Nat.lt_succ_iff_lt_or_eq.1 hj with hlt | heq
  · exact h j hlt
  · rw [heq]; exact hk

def chgStep (p : Int × Int) (y : Int) : Int × Int := (if p.2 * y < 0 then p.1 + 1 else p.1, if y = 0 then p.2 else y)
def chgS (x : List Int) : Nat → Int × Int
  | 0 => (0, 0)
  | k + 1 => chgStep (chgS x k) (x.getD k 0)
theorem chgS_ok (x : List Int) (k : Nat) (h : NumK x k) : 0 ≤ (chgS x k).1 ∧ (chgS x k).1 ≤ k ∧ -1000 ≤ (chgS x k).2 ∧ (chgS x k).2 ≤ 1000 := by
  induction k with
  | zero => simp [chgS]
  | succ k ih =>
    have i := ih fun j hj => h j (by omega)
    have y := h k (by omega)
    simp only [inB, decide_eq_true_eq] at y
    simp only [chgS, chgStep]
    generalize (chgS x k).1 = c at *
    generalize (chgS x k).2 = p at *
    generalize x.getD k 0 = y0 at *
    refine ⟨?_, ?_, ?_, ?_⟩ <;> split <;> omega
noncomputable def chgOk (x : List Int) : Bool := decide (x.length ≤ 12) && numK x
noncomputable def chgV (x : List Int) : Int := if chgOk x then (chgS x x.length).1 else 0
theorem chgOk_long {x : List Int} (h : 12 < x.length) : chgOk x = false := by simp [chgOk]; omega
theorem chgOk_false {x : List Int} (h : numK x = false) : chgOk x = false := by simp [chgOk, h]
theorem chgOk_true {x : List Int} (h1 : x.length ≤ 12) (h : numK x = true) : chgOk x = true := by simp [chgOk, h1, h]
theorem mul_bound {p y : Int} (hp : -1000 ≤ p ∧ p ≤ 1000) (hy : -1000 ≤ y ∧ y ≤ 1000) : -1000000 ≤ p * y ∧ p * y ≤ 1000000 := by
  have h1 : (p + 1000) * (1000 - y) ≥ 0 := Int.mul_nonneg (by omega) (by omega)
  have h2 : (p + 1000) * (1000 + y) ≥ 0 := Int.mul_nonneg (by omega) (by omega)
  have h3 : (1000 - p) * (1000 + y) ≥ 0 := Int.mul_nonneg (by omega) (by omega)
  have h4 : (1000 - p) * (1000 - y) ≥ 0 := Int.mul_nonneg (by omega) (by omega)
  simp only [Int.add_mul, Int.sub_mul, Int.mul_add, Int.mul_sub] at h1 h2 h3 h4
  omega
theorem wrap_mul {p y : Int} (hp : -1000 ≤ p ∧ p ≤ 1000) (hy : -1000 ≤ y ∧ y ≤ 1000) : wrap64 (p * y) = p * y := by
  have h := mul_bound hp hy
  generalize p * y = z at h ⊢
  unfold wrap64
  omega

theorem numK_rng (x : List Int) : rngB x (-1000) 1000 = numK x := rfl

set_option maxRecDepth 100000 in
set_option maxHeartbeats 4000000 in
theorem implChanges_any (a : Option Addr) (cap m : Nat) (x : List Int) (w : World) (hn : x.length = m) (h12 : m ≤ 12) (hm : RowR w a x) (hN : NumK x m) :
    Calls Try.prog 43 #[.slice a m cap] w fun e w' => e = .returned (.int .i64 (chgS x m).1) ∧ w = w' := by
  have H := Lib.hid hn; clear hn
  have HN := Lib.hid hN; clear hN
  go_enter Try.func43, Try.ntmps43
  go_wp2
  go_loopg [3, 4, 6, 9] m (fun g n0 l0 _ i wr => ∃ k : Nat, k ≤ m ∧ g = m - k ∧ i = .int .i64 k ∧ n0 = .int .i64 (chgS x k).1 ∧ l0 = .int .i64 (chgS x k).2 ∧ w = wr)
  case atStart => exact ⟨0, Nat.zero_le _, rfl, rfl, rfl, rfl, rfl⟩
  case round =>
    obtain ⟨k, hk, rfl, rfl, rfl, rfl, rfl⟩ := hrel
    by_cases hlt : k < m
    · obtain ⟨b, o, rfl, hc⟩ := hm (by rw [H.out]; omega)
      have cj := hc k (by rw [H.out]; exact hlt)
      have hy := HN.out k hlt
      have hcs := chgS_ok x k (fun j hj => HN.out j (by omega))
      have HS := Lib.hid (show chgS x (k + 1) = chgStep ((chgS x k).1, (chgS x k).2) (x.getD k 0) from rfl)
      simp only [inB, decide_eq_true_eq] at hy
      obtain ⟨y, hyy⟩ : ∃ y, x.getD k 0 = y := ⟨_, rfl⟩
      obtain ⟨c, hcc⟩ : ∃ c, (chgS x k).1 = c := ⟨_, rfl⟩
      obtain ⟨p, hpp⟩ : ∃ p, (chgS x k).2 = p := ⟨_, rfl⟩
      rw [hyy] at cj hy
      rw [hcc, hpp] at hcs
      replace HS := Lib.hid (hyy ▸ hcc ▸ hpp ▸ HS.out)
      rw [hcc, hpp]
      obtain ⟨hc0, hc1, hp0, hp1⟩ := hcs
      obtain ⟨hy0, hy1⟩ := hy
      have HM := Lib.hid (wrap_mul ⟨hp0, hp1⟩ ⟨hy0, hy1⟩)
      clear hc hm hyy hcc hpp
      by_cases hl : p * y < 0
      · have hz : ¬ y = 0 := fun h => by rw [h, Int.mul_zero] at hl; omega
        have d1 : decide (wrap64 (p * y) < 0) = true := by rw [HM.out]; simpa using hl
        have d2 : (y != 0) = true := by simpa using hz
        have HL := Lib.hid hl
        have HZ := Lib.hid hz
        clear hl hz
        go_wp2
        go_roundg (m - (k + 1))
        case measure => omega
        case rel => exact ⟨k + 1, by omega, rfl, by go_num, by rw [HS.out]; simp only [chgStep]; (rw [if_pos HL.out] <;> go_num), by rw [HS.out]; simp only [chgStep]; rw [if_neg HZ.out], rfl⟩
      · have d1 : decide (wrap64 (p * y) < 0) = false := by rw [HM.out]; simpa using hl
        have HL := Lib.hid (Int.not_lt.1 hl)
        clear hl
        by_cases hz : y = 0
        · have d2 : (y != 0) = false := by simpa using hz
          have HZ := Lib.hid hz
          clear hz
          go_wp2
          go_roundg (m - (k + 1))
          case measure => omega
          case rel => exact ⟨k + 1, by omega, rfl, by go_num, by rw [HS.out]; simp only [chgStep]; rw [if_neg (Int.not_lt.2 HL.out)], by rw [HS.out]; simp only [chgStep]; rw [if_pos HZ.out], rfl⟩
        · have d2 : (y != 0) = true := by simpa using hz
          have HZ := Lib.hid hz
          clear hz
          go_wp2
          go_roundg (m - (k + 1))
          case measure => omega
          case rel => exact ⟨k + 1, by omega, rfl, by go_num, by rw [HS.out]; simp only [chgStep]; rw [if_neg (Int.not_lt.2 HL.out)], by rw [HS.out]; simp only [chgStep]; rw [if_neg HZ.out], rfl⟩
    · go_wp2
      go_ret
      exact ⟨by (obtain rfl : m = k := by omega); rfl, rfl⟩

set_option maxRecDepth 100000 in
set_option maxHeartbeats 1000000 in
theorem implPosChanges_any (a : Option Addr) (cap m : Nat) (x : List Int) (w : World) (hn : x.length = m) (hn1 : m ≤ 1048576) (hm : RowR w a x) :
    Calls Try.prog 15 #[.slice a m cap] w fun e w' => e = .returned (.tuple #[.int .i64 (chgV x), .bool (chgOk x)]) ∧ w = w' := by
  by_cases h12 : 12 < m
  · have d1 : decide ((12 : Int) < (m : Int)) = true := by simp; omega
    have hf : chgOk x = false := chgOk_long (by rw [hn]; exact h12)
    have hv : chgV x = 0 := by unfold chgV; rw [hf]; rfl
    rw [hf, hv]
    clear hn hm hf hv
    go_enter Try.func15, Try.ntmps15
    go_wp2
    go_ret2
    exact ⟨rfl, rfl⟩
  · have d1 : decide ((12 : Int) < (m : Int)) = false := by simp; omega
    have E1 := allInRange_any a cap m x (-1000) 1000 w hn (by omega) hm
    rw [numK_rng] at E1
    cases hk : numK x with
    | false =>
      rw [hk] at E1
      replace E1 := Lib.hid E1
      have hf : chgOk x = false := chgOk_false hk
      have hv : chgV x = 0 := by unfold chgV; rw [hf]; rfl
      rw [hf, hv]
      clear hn hm hf hv hk
      go_enter Try.func15, Try.ntmps15
      go_wp2_with fail
      refine (E1.out).mono ?_
      rintro e w' ⟨rfl, rfl⟩
      go_wp2
      go_ret2
      exact ⟨rfl, rfl⟩
    | true =>
      rw [hk] at E1
      replace E1 := Lib.hid E1
      have hf : chgOk x = true := chgOk_true (by omega) hk
      have hv : chgV x = (chgS x m).1 := by unfold chgV; rw [hf, hn]; rfl
      have E2 := Lib.hid (implChanges_any a cap m x w hn (by omega) hm (by have := numK_of hk; rwa [hn] at this))
      rw [hf, hv]
      clear hn hm hf hv hk
      go_enter Try.func15, Try.ntmps15
      go_wp2_with fail
      refine (E1.out).mono ?_
      rintro e w' ⟨rfl, rfl⟩
      go_wp2_with fail
      refine (E2.out).mono ?_
      rintro e w' ⟨rfl, rfl⟩
      go_wp2
      go_ret2
      exact ⟨rfl, rfl⟩

end Go.Proofs.Ytlgjplhffpmfpaa
end

section
namespace Go.Proofs.Ytlgjplhffpmfpaa

theorem chg_up (x : List Int) : ∀ m, ((chgS x m).2 = 0 ∧ (chgS x m).1 = 0) ∨ ((chgS x m).2 ≠ 0 ∧ ∃ (k : Nat) (ι : Nat → Nat), (chgS x m).1 = k ∧ IncT (k + 1) m ι ∧ (∀ r, r < k → x.getD (ι r) 0 * x.getD (ι (r + 1)) 0 < 0) ∧ x.getD (ι k) 0 = (chgS x m).2)
  | 0 => .inl ⟨rfl, rfl⟩
  | m + 1 => by
    have hs : chgS x (m + 1) = chgStep (chgS x m) (x.getD m 0) := rfl
    rw [hs]
    unfold chgStep
    obtain ⟨y, hy⟩ : ∃ y, x.getD m 0 = y := ⟨_, rfl⟩
    rw [hy]
    rcases chg_up x m with ⟨h1, h2⟩ | ⟨h1, k, ι, hk, hι, ha, hl⟩
    · rw [h1, h2]
      by_cases h0 : y = 0
      · left; simp [h0]
      · right
        refine ⟨by simp [h0], 0, fun _ => m, by simp, ⟨fun i hi => by omega, fun i _ => Nat.lt_succ_self m⟩, fun r hr => absurd hr (Nat.not_lt_zero _), by show x.getD m 0 = if y = 0 then _ else y; rw [if_neg h0]; exact hy⟩
    · right
      by_cases h0 : y = 0
      · refine ⟨by simp [h0, h1], k, ι, by simp [h0, hk], ⟨hι.1, fun i hi => by have := hι.2 i hi; omega⟩, ha, by show _ = if y = 0 then _ else y; rw [if_pos h0]; exact hl⟩
      · by_cases hn : (chgS x m).2 * y < 0
        · refine ⟨by simp [h0], k + 1, fun r => if r ≤ k then ι r else m, by simp [hn, hk], ⟨fun i hi => ?_, fun i hi => ?_⟩, fun r hr => ?_, by show x.getD (if k + 1 ≤ k then ι (k + 1) else m) 0 = if y = 0 then _ else y; rw [if_neg (show ¬ (k + 1 ≤ k) by omega), if_neg h0]; exact hy⟩
          · dsimp only
            by_cases hik : i + 1 ≤ k
            · rw [if_pos (by omega), if_pos hik]; exact hι.1 i (by omega)
            · rw [if_pos (by omega), if_neg hik]; exact hι.2 i (by omega)
          · dsimp only
            split
            · have := hι.2 i (by omega); omega
            · omega
          · dsimp only
            by_cases hik : r + 1 ≤ k
            · rw [if_pos (by omega), if_pos hik]; exact ha r (by omega)
            · have : r = k := by omega
              subst this
              rw [if_pos (by omega), if_neg hik, hl, hy]; exact hn
        · refine ⟨by simp [h0], k, fun r => if r < k then ι r else m, by simp [hn, hk], ⟨fun i hi => ?_, fun i hi => ?_⟩, fun r hr => ?_, by show x.getD (if k < k then ι k else m) 0 = if y = 0 then _ else y; rw [if_neg (Nat.lt_irrefl k), if_neg h0]; exact hy⟩
          · dsimp only
            by_cases hik : i + 1 < k
            · rw [if_pos (by omega), if_pos hik]; exact hι.1 i (by omega)
            · rw [if_pos (by omega), if_neg hik]; exact hι.2 i (by omega)
          · dsimp only
            split
            · have := hι.2 i (by omega); omega
            · omega
          · dsimp only
            by_cases hik : r + 1 < k
            · rw [if_pos (by omega), if_pos hik]; exact ha r (by omega)
            · have hrk : r + 1 = k := by omega
              rw [if_pos (by omega), if_neg hik, hy]
              have h3 := ha r hr
              rw [hrk, hl] at h3
              have h4 : (chgS x m).2 * y ≠ 0 := Int.mul_ne_zero h1 h0
              refine Sg.neg ⟨Iff.rfl, Iff.rfl⟩ (b' := (chgS x m).2) ?_ h3
              rcases pos_iff.1 (show 0 < (chgS x m).2 * y by omega) with ⟨a, b⟩ | ⟨a, b⟩
              · exact ⟨by omega, by omega⟩
              · exact ⟨by omega, by omega⟩

theorem chg_down (x : List Int) : ∀ (m k : Nat) (ι : Nat → Nat), IncT (k + 1) m ι → (∀ r, r < k → x.getD (ι r) 0 * x.getD (ι (r + 1)) 0 < 0) → x.getD (ι 0) 0 ≠ 0 → (k : Int) ≤ (chgS x m).1 ∧ ((k : Int) = (chgS x m).1 → 0 < x.getD (ι k) 0 * (chgS x m).2)
  | 0, k, ι, hι, _, _ => absurd (hι.2 0 (by omega)) (Nat.not_lt_zero _)
  | m + 1, k, ι, hι, ha, h0 => by
    have hs : chgS x (m + 1) = chgStep (chgS x m) (x.getD m 0) := rfl
    have hc0 : ∀ m, 0 ≤ (chgS x m).1 := by
      intro m
      induction m with
      | zero => simp [chgS]
      | succ m ih => rw [show chgS x (m + 1) = chgStep (chgS x m) (x.getD m 0) from rfl]; unfold chgStep; simp only; split <;> omega
    have hnz : ∀ r, r ≤ k → x.getD (ι r) 0 ≠ 0 := fun r hr e => by
      rcases Nat.eq_zero_or_pos r with h1 | h1
      · rw [h1] at e; exact h0 e
      · have := ha (r - 1) (by omega)
        rw [show r - 1 + 1 = r by omega, e] at this
        simp at this
    rw [hs]
    unfold chgStep
    obtain ⟨y, hy⟩ : ∃ y, x.getD m 0 = y := ⟨_, rfl⟩
    rw [hy]
    have hm0 := hc0 m
    have hbase : ∀ (k' : Nat) (ι' : Nat → Nat), IncT (k' + 1) m ι' → (∀ r, r < k' → x.getD (ι' r) 0 * x.getD (ι' (r + 1)) 0 < 0) → x.getD (ι' 0) 0 ≠ 0 → (k' : Int) ≤ (chgS x m).1 ∧ ((k' : Int) = (chgS x m).1 → 0 < x.getD (ι' k') 0 * (chgS x m).2) := fun k' ι' => chg_down x m k' ι'
    obtain ⟨c, hcc⟩ : ∃ c, (chgS x m).1 = c := ⟨_, rfl⟩
    obtain ⟨l, hll⟩ : ∃ l, (chgS x m).2 = l := ⟨_, rfl⟩
    rw [hcc, hll] at hbase ⊢
    rw [hcc] at hm0
    simp only
    by_cases hkm : ι k < m
    · have hι' : IncT (k + 1) m ι := ⟨hι.1, fun i hi => by
        rcases Nat.lt_or_ge i k with h1 | h1
        · have := hι.lt h1 (by omega : k < k + 1); omega
        · have : i = k := by omega
          subst this; exact hkm⟩
      obtain ⟨g1, g2⟩ := hbase k ι hι' ha h0
      by_cases hn : l * y < 0
      · rw [if_pos hn]
        exact ⟨by omega, fun e => by omega⟩
      · rw [if_neg hn]
        refine ⟨g1, fun e => ?_⟩
        have g3 := g2 e
        by_cases hy0 : y = 0
        · rw [if_pos hy0]; exact g3
        · rw [if_neg hy0]
          have hl0 : l ≠ 0 := fun e => by rw [e] at g3; simp at g3
          have h5 := Int.mul_ne_zero hl0 hy0
          have h6 := pos_iff.1 (show 0 < l * y by omega)
          have h7 := pos_iff.1 g3
          exact pos_iff.2 (by omega)
    · have hkm2 : ι k = m := by have := hι.2 k (by omega); omega
      have hyk : x.getD (ι k) 0 = y := by rw [hkm2]; exact hy
      have hy0 : y ≠ 0 := by rw [← hyk]; exact hnz k (Nat.le_refl _)
      rw [hyk, if_neg hy0]
      have hyy : 0 < y * y := by
        rcases Int.lt_or_gt_of_ne hy0 with h1 | h1
        · exact Int.mul_pos_of_neg_of_neg h1 h1
        · exact Int.mul_pos h1 h1
      rcases Nat.eq_zero_or_pos k with hk0 | hk0
      · subst hk0
        refine ⟨by split <;> omega, fun _ => hyy⟩
      · obtain ⟨j, rfl⟩ : ∃ j, k = j + 1 := ⟨k - 1, by omega⟩
        have hj := hι.1 j (by omega)
        obtain ⟨g1, g2⟩ := hbase j ι ⟨fun i hi => hι.1 i (by omega), fun i hi => by
          rcases Nat.lt_or_ge i j with h1 | h1
          · have := hι.lt h1 (by omega : j < j + 1 + 1); omega
          · have : i = j := by omega
            subst this; omega⟩ (fun r hr => ha r (by omega)) h0
        have h3 := ha j (by omega)
        rw [hyk] at h3
        by_cases hn : l * y < 0
        · rw [if_pos hn]; exact ⟨by omega, fun _ => hyy⟩
        · rw [if_neg hn]
          refine ⟨?_, fun _ => hyy⟩
          rcases Int.lt_trichotomy (j : Int) c with h4 | h4 | h4
          · omega
          · have g3 := pos_iff.1 (g2 h4)
            have g4 := neg_iff.1 h3
            exact absurd (neg_iff.2 (by omega : (l < 0 ∧ 0 < y) ∨ (0 < l ∧ y < 0))) hn
          · omega

theorem vd_lists {f : Nat → Nat → Int} {n m : Nat} {x y : List Int} (hT : Tnn f n m) (hy : ∀ i, i < n → y.getD i 0 = sumN (fun j => f i j * x.getD j 0) m) : (chgS y n).1 ≤ (chgS x m).1 := by
  have h0 : ∀ (x : List Int) m, 0 ≤ (chgS x m).1 := by
    intro x m
    induction m with
    | zero => simp [chgS]
    | succ m ih => rw [show chgS x (m + 1) = chgStep (chgS x m) (x.getD m 0) from rfl]; unfold chgStep; simp only; split <;> omega
  rcases chg_up y n with ⟨_, h⟩ | ⟨_, k, ι, hk, hι, ha, _⟩
  · rw [h]; exact h0 x m
  · rcases Nat.eq_zero_or_pos k with hk0 | hk0
    · rw [hk, hk0]; exact h0 x m
    · obtain ⟨κ, hκ, hb⟩ := vd m f n (fun j => x.getD j 0) hT k hk0 ⟨ι, hι, fun r hr => by
        have := ha r hr
        rw [hy _ (hι.2 r (by omega)), hy _ (hι.2 (r + 1) (by omega))] at this
        exact this⟩
      have h3 := chg_down x m k κ hκ hb (fun e => by
        have := hb 0 hk0
        simp only at this
        rw [e] at this
        simp at this)
      rw [hk]; exact h3.1

end Go.Proofs.Ytlgjplhffpmfpaa
end

section
namespace Go.Proofs.Ytlgjplhffpmfpaa
open Go.RowKit Go.Deep

noncomputable def partOk (l : List (List Int)) (s c : Int) : Bool := tabIn l && (inB s 1 (2 ^ l.length - 1 : Nat) && inB c 1 (2 ^ (l.getD 0 []).length - 1 : Nat))
theorem partOk_tab {l : List (List Int)} {s c : Int} (h : partOk l s c = true) : TabIn (partL l s.toNat c.toNat) := by
  unfold partOk at h
  rw [Bool.and_eq_true, Bool.and_eq_true] at h
  have h2 := of_decide_eq_true h.2.1
  have h3 := of_decide_eq_true h.2.2
  have p1 := Nat.one_le_two_pow (n := l.length)
  have p2 := Nat.one_le_two_pow (n := (l.getD 0 []).length)
  exact partL_tab (tabIn_of h.1) (by omega) (by omega) (by omega) (by omega)

end Go.Proofs.Ytlgjplhffpmfpaa
end

section
namespace Go.Proofs.Ytlgjplhffpmfpaa
open Go.RowKit Go.Deep

noncomputable def swapOk (l : List (List Int)) (i k : Int) : Bool := tabIn l && (rowB i l.length && rowB k l.length)
theorem swapOk_tab {l : List (List Int)} {i k : Int} (h : swapOk l i k = true) : TabIn (swapL l i.toNat k.toNat) := by
  unfold swapOk at h
  rw [Bool.and_eq_true, Bool.and_eq_true] at h
  obtain ⟨i, rfl, hi⟩ := rowB_of h.2.1
  obtain ⟨k, rfl, hk⟩ := rowB_of h.2.2
  exact swapL_tab (tabIn_of h.1) hi hk
theorem szL_swapOk (l : List (List Int)) (i k : Int) (h : swapOk l i k = true) : szL (swapL l i.toNat k.toNat) ≤ 1048576 := szL_tab (swapOk_tab h)

end Go.Proofs.Ytlgjplhffpmfpaa
end

section
namespace Go.Proofs.Ytlgjplhffpmfpaa
open Go.RowKit Go.Deep

structure SW (w1 w' : World) (b n m : Nat) (A : Nat → Option Addr) (G C : Nat → Nat) (Z : Nat → Nat → Int) (hi : Nat) : Prop where
  since : w1.Since w1.heap.size w'
  size : hi ≤ w'.heap.size
  own : OwnD w1.heap.size hi w' b A G C n (fun _ => m) Z
  free : ∀ r, r < n → w'.frozen? ⟨b, r, none⟩ = false
  inb : w1.heap.size ≤ b ∧ b < hi

theorem SW.later {w1 w' w2 : World} {b n m : Nat} {A : Nat → Option Addr} {G C : Nat → Nat} {Z : Nat → Nat → Int} {hi : Nat} (h : SW w1 w' b n m A G C Z hi) (hs : w'.Since w'.heap.size w2) : SW w1 w2 b n m A G C Z hi :=
  ⟨h.since.trans (since_mono hs h.since.size), Nat.le_trans h.size hs.size, h.own.later hs, fun r hr => by rw [hs.frozen (a := ⟨b, r, none⟩) (World.block_lt_of_cell? _ _ (h.own.top r hr))]; exact h.free r hr, h.inb⟩

theorem SW.put {w1 w2 w3 : World} {b n m : Nat} {A : Nat → Option Addr} {G C : Nat → Nat} {Z : Nat → Nat → Int} {hi : Nat} (h : SW w1 w2 b n m A G C Z hi) (hs : w2.Since w2.heap.size w3) {g cp : Nat} {x : List Int} (hg : w2.heap.size ≤ g) (hx : RowB w3 g x) (hxl : x.length = m)
    (hm : 0 < m) {i : Nat} (hi' : i < n) : SW w1 (w3.setCell ⟨b, i, none⟩ (.slice (some ⟨g, 0, none⟩) m cp)) b n m (fun r => if r = i then some ⟨g, 0, none⟩ else A r) (fun r => if r = i then g else G r) (fun r => if r = i then cp else C r) (fun r c => if r = i then x.getD c 0 else Z r c) w3.heap.size := by
  have h3 := h.later hs
  have hgl := hx.lt
  have hsz := h.size
  have hb := h.inb
  have hss := h.since.size
  have hsz3 := hs.size
  have hgb : g ≠ b := by omega
  refine ⟨h3.since.setCell hb.1 _, by simp, ⟨fun r hr => ?_, fun r hr h0 => ?_, fun r hr h0 => ?_, fun r hr c hc => ?_, fun r hr c hc => ?_, fun r r' hr hr' h0 h0' e => ?_⟩, fun r hr => by rw [World.frozen?_setCell]; exact h3.free r hr, hb.1, by omega⟩
  · by_cases e : r = i
    · subst e
      rw [if_pos rfl, if_pos rfl]
      exact World.cell?_setCell_same' _ _ _ (by rw [h3.own.top r hr]; rfl)
    · rw [if_neg e, if_neg e, World.cell?_setCell_other _ _ _ _ (fun e' => e (by injection e' with _ e'; exact e'.symm))]
      exact h3.own.top r hr
  · by_cases e : r = i
    · rw [if_pos e, if_pos e]
    · rw [if_neg e, if_neg e]; exact h3.own.addr r hr h0
  · by_cases e : r = i
    · rw [if_pos e]; exact ⟨by omega, hgl, hgb⟩
    · rw [if_neg e]; have := h3.own.inside r hr h0; exact ⟨this.1, by omega, this.2.2⟩
  · by_cases e : r = i
    · rw [if_pos e, if_pos e, World.cell?_setCell_other _ _ _ _ (fun e' => hgb (by injection e' with e'; exact e'.symm))]
      exact hx.cell (by rw [hxl]; exact hc)
    · rw [if_neg e, if_neg e, World.cell?_setCell_other _ _ _ _ (fun e' => (h3.own.inside r hr (by omega)).2.2 (by injection e' with e'; exact e'.symm))]
      exact h3.own.cell r hr c hc
  · rw [World.frozen?_setCell]
    by_cases e : r = i
    · rw [if_pos e]; exact hx.frozen c
    · rw [if_neg e]; exact h3.own.free r hr c hc
  · by_cases e1 : r = i <;> by_cases e2 : r' = i
    · omega
    · rw [if_pos e1, if_neg e2] at e
      have := (h.own.inside r' hr' h0').2.1
      omega
    · rw [if_neg e1, if_pos e2] at e
      have := (h.own.inside r hr h0).2.1
      omega
    · rw [if_neg e1, if_neg e2] at e
      exact h3.own.apart r r' hr hr' h0 h0' e

theorem OwnT.sw {w w1 : World} {a : Option Addr} {l : List (List Int)} {n m : Nat} (h : OwnT w.heap.size w1.heap.size w1 a l) (hn : l.length = n) (h1 : 0 < n) (hm : ∀ r, r < n → (l.getD r []).length = m) (hs : w.Since w.heap.size w1) (hf : FreeTop w1 a n) :
    ∃ b A G C, a = some ⟨b, 0, none⟩ ∧ SW w w1 b n m A G C (fun r c => at2 l r c) w1.heap.size := by
  obtain ⟨b, A, G, C, e, hb, hW⟩ := h.wr hn h1 hm hs (fun _ _ => 0)
  exact ⟨b, A, G, C, e, hs, Nat.le_refl _, hW.own.congr fun r _ c _ => by unfold updF; rw [if_neg (by omega)], fun r hr => hf b r e hr, hb⟩

theorem SW.ownT {w1 w' : World} {b n m : Nat} {A : Nat → Option Addr} {G C : Nat → Nat} {Z : Nat → Nat → Int} {hi : Nat} {l : List (List Int)} (h : SW w1 w' b n m A G C Z hi) (hn : l.length = n) (hm : ∀ r, r < n → (l.getD r []).length = m) (hZ : ∀ r c, r < n → c < m → at2 l r c = Z r c) : OwnT w1.heap.size w'.heap.size w' (some ⟨b, 0, none⟩) l :=
  (h.own.ownT h.inb hn hm fun r hr c hc => hZ r c hr hc).mono (Nat.le_refl _) h.size

theorem own_row (W : World) : (W.alloc (.cells #[] 3)).ownsRow W.heap.size 3 1 (.slice (some ⟨W.heap.size, 0, none⟩) 0 0) 0 [] := World.ownsRow_made W #[] 0 (Nat.le_refl _) (Nat.zero_le _) rfl
theorem row_cells {w W : World} {b' o' m : Nat} {x : List Int} (hx : x.length = m) (hs : w.Since w.heap.size W) (hce : ∀ j, j < m → w.cell? ⟨b', o' + j, none⟩ = some (.int .i64 (x.getD j 0))) (o : Obj) : ∀ (j : Nat) (u : Value), (x.map (Value.int .i64))[j]? = some u → (W.alloc o).cell? ((⟨b', o', none⟩ : Addr).add j) = some u := fun j u hj => by
  rw [Go.WideShapes.add_plain]
  obtain ⟨hjl, he⟩ := List.getElem?_eq_some_iff.1 hj
  have hjx : j < m := by rw [← hx]; simpa using hjl
  have h2 := hce j hjx
  refine cell_alloc_l _ ?_
  rw [hs.cell (a := ⟨b', o' + j, none⟩) (World.block_lt_of_cell? _ _ h2), h2, ← he]
  simp [List.getD, show j < x.length by omega]

end Go.Proofs.Ytlgjplhffpmfpaa
end

section
namespace Go.Proofs.Ytlgjplhffpmfpaa
open Go.RowKit Go.Deep

theorem swap_back {l : List (List Int)} {i k : Int} (h : swapOk l i k = true) : swapOk (swapL l i.toNat k.toNat) i k = true ∧ swapL (swapL l i.toNat k.toNat) i.toNat k.toNat = l := by
  have hT := swapOk_tab h
  unfold swapOk at h ⊢
  rw [Bool.and_eq_true, Bool.and_eq_true] at h
  refine ⟨by rw [tabIn_true hT, swapL_length, h.2.1, h.2.2]; rfl, ?_⟩
  obtain ⟨i, rfl, hi⟩ := rowB_of h.2.1
  obtain ⟨k, rfl, hk⟩ := rowB_of h.2.2
  rw [Int.toNat_natCast, Int.toNat_natCast]
  have e : swapL (swapL l i k) i k = (List.range l.length).map fun r => l.getD r [] := by
    show (List.range (swapL l i k).length).map (fun r => (swapL l i k).getD (sw i k r) []) = _
    rw [swapL_length]
    refine List.map_congr_left fun r hr => ?_
    rw [swapL_get l i k (sw_lt hi hk (List.mem_range.1 hr)), sw_sw]
  rw [e, range_getD]

theorem tabF_congr {n m : Nat} {f g : Nat → Nat → Int} (h : ∀ i k, i < n → k < m → f i k = g i k) : tabF n m f = tabF n m g := by
  unfold tabF
  exact List.map_congr_left fun r hr => List.map_congr_left fun k hk => h r k (List.mem_range.1 hr) (List.mem_range.1 hk)

theorem add_back {l : List (List Int)} {fr tq f : Int} (h : addOk l fr tq f = true) : addOk (addL l fr.toNat tq.toNat f) fr tq (-f) = true ∧ addL (addL l fr.toNat tq.toNat f) fr.toNat tq.toNat (-f) = l := by
  unfold addOk at h ⊢
  simp only [Bool.and_eq_true, Bool.not_eq_true'] at h
  obtain ⟨h1, h2, h3, h4, h5, h6⟩ := h
  have hT := tabIn_of h1
  obtain ⟨fr, rfl, hfr⟩ := rowB_of h2
  obtain ⟨tq, rfl, hto⟩ := rowB_of h3
  rw [Int.toNat_natCast, Int.toNat_natCast] at *
  have hne : fr ≠ tq := by rintro rfl; simp at h4
  have hw := hT.width
  have h0 := hT.1
  have e0 : ((addL l fr tq f).getD 0 []).length = (l.getD 0 []).length := tabF_len _ _ _ _ (by omega)
  have e : addL (addL l fr tq f) fr tq (-f) = l := by
    show tabF (addL l fr tq f).length ((addL l fr tq f).getD 0 []).length (addF (addL l fr tq f) fr tq (-f)) = l
    rw [addL_length, e0]
    refine Eq.trans (tabF_congr fun i k hi hk => ?_) (tab_self rfl (fun r hr => hT.row hr))
    have a1 : at2 (addL l fr tq f) i k = addF l fr tq f i k := tabF_at _ _ _ _ _ hi hk
    have a2 : at2 (addL l fr tq f) fr k = addF l fr tq f fr k := tabF_at _ _ _ _ _ hfr hk
    show (if i = tq then at2 (addL l fr tq f) i k + (-f) * at2 (addL l fr tq f) fr k else at2 (addL l fr tq f) i k) = at2 l i k
    rw [a1, a2]
    unfold addF
    by_cases hi : i = tq
    · rw [if_pos hi, if_pos hi, if_neg hne, Int.neg_mul]; omega
    · rw [if_neg hi, if_neg hi]
  refine ⟨?_, e⟩
  have h5' := of_decide_eq_true h5
  rw [h6, addL_length, h2, h3, h4, e, h1]
  have : inB (-f) (-30) 30 = true := by unfold inB at *; simp at *; omega
  rw [this]; rfl
theorem addOk_num {l : List (List Int)} {fr tq f : Int} (h : addOk l fr tq f = true) : -30 ≤ f ∧ f ≤ 30 := by
  unfold addOk at h
  simp only [Bool.and_eq_true] at h
  exact of_decide_eq_true h.2.2.2.2.1

end Go.Proofs.Ytlgjplhffpmfpaa
end

section
namespace Go.Proofs.Ytlgjplhffpmfpaa
open Go.RowKit Go.Deep

theorem tabF_tab {n m : Nat} {f : Nat → Nat → Int} (hn : 1 ≤ n ∧ n ≤ 6) (hm : 1 ≤ m ∧ m ≤ 6) (h : ∀ i k, i < n → k < m → -30 ≤ f i k ∧ f i k ≤ 30) : TabIn (tabF n m f) := by
  refine ⟨by rw [tabF_length]; exact hn.1, by rw [tabF_length]; exact hn.2, fun r hr => ?_⟩
  rw [tabF_length] at hr
  refine ⟨by rw [tabF_len _ _ _ _ hr, tabF_len _ _ _ _ (by omega)], by rw [tabF_len _ _ _ _ hr]; exact hm.1, by rw [tabF_len _ _ _ _ hr]; exact hm.2, fun k hk => ?_⟩
  rw [tabF_len _ _ _ _ hr] at hk
  rw [tabF_at _ _ _ _ _ hr hk]
  exact h r k hr hk
theorem tab_bd {n m : Nat} {f : Nat → Nat → Int} (hn : 1 ≤ n) (h : TabIn (tabF n m f)) : ∀ i k, i < n → k < m → -30 ≤ f i k ∧ f i k ≤ 30 := by
  intro i k hi hk
  have h1 := h.at (i := i) (k := k) (by rw [tabF_length]; exact hi) (by rw [tabF_len _ _ _ _ (by omega)]; exact hk)
  have h2 : at2 (tabF n m f) i k = f i k := tabF_at _ _ _ _ _ hi hk
  rw [h2] at h1
  exact h1
theorem TabIn.sides {l : List (List Int)} (h : TabIn l) : (1 ≤ l.length ∧ l.length ≤ 6) ∧ (1 ≤ (l.getD 0 []).length ∧ (l.getD 0 []).length ≤ 6) := ⟨⟨h.1, h.2.1⟩, h.width⟩
theorem timesL_at {l : List (List Int)} {z : Int} {i k : Nat} (hi : i < l.length) (hk : k < (l.getD 0 []).length) : at2 (timesL l z) i k = at2 l i k * z := tabF_at _ _ _ _ _ hi hk
theorem timesL_width {l : List (List Int)} (z : Int) (h : 1 ≤ l.length) : ((timesL l z).getD 0 []).length = (l.getD 0 []).length := tabF_len _ _ _ _ (by omega)

theorem less_bd {x z : Int} (hz : 1 ≤ z) (h1 : -30 ≤ x * z) (h2 : x * z ≤ 30) : -30 ≤ x * (z - 1) ∧ x * (z - 1) ≤ 30 := by
  rw [Int.mul_sub, Int.mul_one]
  by_cases hx : 0 ≤ x
  · have := Int.mul_le_mul_of_nonneg_left hz hx
    rw [Int.mul_one] at this
    omega
  · have := Int.mul_le_mul_of_nonneg_left hz (show 0 ≤ -x by omega)
    rw [Int.mul_one, Int.neg_mul] at this
    omega

theorem timesOk_of {l : List (List Int)} {z : Int} (h : timesOk l z = true) : TabIn l ∧ (-30 ≤ z ∧ z ≤ 30) ∧ TabIn (timesL l z) := by
  unfold timesOk at h
  simp only [Bool.and_eq_true] at h
  exact ⟨tabIn_of h.1, of_decide_eq_true h.2.1, tabIn_of h.2.2⟩

theorem times_less {l : List (List Int)} {z : Int} (h : timesOk l z = true) (hz : 1 ≤ z) : timesOk l (z - 1) = true ∧ sumOk (timesL l (z - 1)) l = true ∧ sumL (timesL l (z - 1)) l = timesL l z := by
  obtain ⟨hT, hzb, hM⟩ := timesOk_of h
  have hs := hT.sides
  have hb := tab_bd hs.1.1 hM
  have hL : TabIn (timesL l (z - 1)) := tabF_tab hs.1 hs.2 fun i k hi hk => less_bd hz (hb i k hi hk).1 (hb i k hi hk).2
  have hin : inB (z - 1) (-30) 30 = true := by unfold inB; simp; omega
  have e : sumL (timesL l (z - 1)) l = timesL l z := by
    show tabF (timesL l (z - 1)).length ((timesL l (z - 1)).getD 0 []).length (fun i k => at2 (timesL l (z - 1)) i k + at2 l i k) = tabF l.length (l.getD 0 []).length fun i k => at2 l i k * z
    rw [timesL_length, timesL_width _ hs.1.1]
    refine tabF_congr fun i k hi hk => ?_
    rw [timesL_at hi hk, Int.mul_sub, Int.mul_one]
    omega
  refine ⟨?_, ?_, e⟩
  · unfold timesOk
    rw [tabIn_true hT, hin, tabIn_true hL]; rfl
  · unfold sumOk alikeB
    rw [e, tabIn_true hT, tabIn_true hL, tabIn_true hM, timesL_length, timesL_width _ hs.1.1]
    simp

end Go.Proofs.Ytlgjplhffpmfpaa
end

section
namespace Go.Proofs.Ytlgjplhffpmfpaa
open Go.RowKit Go.Deep

theorem turnL_at {l : List (List Int)} {i k : Nat} (hi : i < l.length) (hk : k < (l.getD 0 []).length) : at2 (turnL l) k i = at2 l i k := tabF_at _ _ _ _ _ hk hi
theorem turnL_width {l : List (List Int)} (h : TabIn l) : ((turnL l).getD 0 []).length = l.length := tabF_len _ _ _ _ (by have := h.width; omega)
theorem turnL_tab {l : List (List Int)} (h : TabIn l) : TabIn (turnL l) := tabIn_of (tabIn_turn h)

theorem sumOk_of {l u : List (List Int)} (h : sumOk l u = true) : TabIn l ∧ TabIn u ∧ l.length = u.length ∧ (l.getD 0 []).length = (u.getD 0 []).length ∧ TabIn (sumL l u) := by
  unfold sumOk alikeB at h
  simp only [Bool.and_eq_true, beq_iff_eq] at h
  exact ⟨tabIn_of h.1, tabIn_of h.2.1, h.2.2.1.1, h.2.2.1.2, tabIn_of h.2.2.2⟩
theorem sumOk_mk {l u : List (List Int)} (h1 : TabIn l) (h2 : TabIn u) (h3 : l.length = u.length) (h4 : (l.getD 0 []).length = (u.getD 0 []).length) (h5 : TabIn (sumL l u)) : sumOk l u = true := by
  unfold sumOk alikeB
  rw [tabIn_true h1, tabIn_true h2, tabIn_true h5, h3, h4]
  simp

theorem sum_comm {l u : List (List Int)} (h : sumOk l u = true) : sumOk u l = true ∧ sumL u l = sumL l u := by
  obtain ⟨h1, h2, h3, h4, h5⟩ := sumOk_of h
  have e : sumL u l = sumL l u := by
    unfold sumL
    rw [← h3, ← h4]
    exact tabF_congr fun i k _ _ => Int.add_comm _ _
  exact ⟨sumOk_mk h2 h1 h3.symm h4.symm (by rw [e]; exact h5), e⟩

theorem sumL_at {l u : List (List Int)} {i k : Nat} (hi : i < l.length) (hk : k < (l.getD 0 []).length) : at2 (sumL l u) i k = at2 l i k + at2 u i k := tabF_at _ _ _ _ _ hi hk
theorem sumL_width {l : List (List Int)} (u : List (List Int)) (h : 1 ≤ l.length) : ((sumL l u).getD 0 []).length = (l.getD 0 []).length := tabF_len _ _ _ _ (by omega)

theorem sum_turn {l u : List (List Int)} (h : sumOk l u = true) : sumOk (turnL l) (turnL u) = true ∧ sumL (turnL l) (turnL u) = turnL (sumL l u) := by
  obtain ⟨h1, h2, h3, h4, h5⟩ := sumOk_of h
  have e : sumL (turnL l) (turnL u) = turnL (sumL l u) := by
    show tabF (turnL l).length ((turnL l).getD 0 []).length (fun i k => at2 (turnL l) i k + at2 (turnL u) i k) = tabF ((sumL l u).getD 0 []).length (sumL l u).length fun k i => at2 (sumL l u) i k
    rw [turnL_length, turnL_width h1, sumL_width u h1.1, sumL_length]
    refine tabF_congr fun k i hk hi => ?_
    rw [turnL_at hi hk, turnL_at (l := u) (by omega) (by omega), sumL_at hi hk]
  exact ⟨sumOk_mk (turnL_tab h1) (turnL_tab h2) (by rw [turnL_length, turnL_length, h4]) (by rw [turnL_width h1, turnL_width h2, h3]) (by rw [e]; exact turnL_tab h5), e⟩

end Go.Proofs.Ytlgjplhffpmfpaa
end

section
namespace Go.Proofs.Ytlgjplhffpmfpaa
open Go.RowKit Go.Deep

def popc (s : Nat) : Nat := (sel s 6 6).length
theorem popc_step : ∀ s : Fin 64, popc s.val = s.val % 2 + popc (s.val / 2) := by decide +kernel
theorem popc_sel : ∀ n : Fin 7, ∀ s : Fin 64, s.val < 2 ^ n.val → (sel s.val n.val n.val).length = popc s.val := by decide +kernel
theorem and1_fin : ∀ s : Fin 64, bits BinOp.and IntKind.i64 (s.val : Int) 1 = ((s.val % 2 : Nat) : Int) := by decide +kernel

end Go.Proofs.Ytlgjplhffpmfpaa
end

section
namespace Go.Proofs.Ytlgjplhffpmfpaa
open Go.RowKit Go.Deep

theorem map_getD {α β : Type} (l : List α) (d : α) (f : α → β) : l.map f = (List.range l.length).map fun i => f (l.getD i d) := by
  refine List.ext_getElem (by simp) fun i h1 h2 => ?_
  rw [List.length_map] at h1
  simp [List.getD, h1]
def sels (s n : Nat) : List Nat := (sel s n n).map (·.1)
theorem sels_length (s n : Nat) : (sels s n).length = (sel s n n).length := by simp [sels]
theorem sels_lt (s n : Nat) {i : Nat} (h : i < (sels s n).length) : (sels s n).getD i 0 < n := by
  have h1 : i < (sel s n n).length := by rw [← sels_length]; exact h
  have : (sels s n).getD i 0 = ((sel s n n)[i]).1 := by simp [sels, List.getD, h1]
  rw [this]
  exact ((sel s n n)[i]).2
theorem partL_tabF (l : List (List Int)) (s c : Nat) : partL l s c = tabF (sels s l.length).length (sels c (l.getD 0 []).length).length fun i k => at2 l ((sels s l.length).getD i 0) ((sels c (l.getD 0 []).length).getD k 0) := by
  have e1 : partL l s c = (sels s l.length).map fun r => (sels c (l.getD 0 []).length).map fun k => (l.getD r []).getD k 0 := by
    unfold partL partRows sels pickTo
    rw [List.map_map]
    refine List.map_congr_left fun r _ => ?_
    simp only [Function.comp_apply, List.map_map]
    rfl
  rw [e1, map_getD _ 0]
  unfold tabF
  refine List.map_congr_left fun i _ => ?_
  rw [map_getD _ 0]
  rfl

theorem partOk_of {l : List (List Int)} {x y : Int} (h : partOk l x y = true) : TabIn l ∧ (1 ≤ x ∧ x ≤ (2 ^ l.length - 1 : Nat)) ∧ (1 ≤ y ∧ y ≤ (2 ^ (l.getD 0 []).length - 1 : Nat)) := by
  unfold partOk at h
  simp only [Bool.and_eq_true] at h
  exact ⟨tabIn_of h.1, of_decide_eq_true h.2.1, of_decide_eq_true h.2.2⟩

theorem part_turn {l : List (List Int)} {x y : Int} (h : partOk l x y = true) : partOk (turnL l) y x = true ∧ partL (turnL l) y.toNat x.toNat = turnL (partL l x.toNat y.toNat) := by
  obtain ⟨hT, hx, hy⟩ := partOk_of h
  have hM := partOk_tab h
  constructor
  · unfold partOk
    rw [tabIn_true (turnL_tab hT), turnL_length, turnL_width hT]
    have e1 : inB y 1 (2 ^ (l.getD 0 []).length - 1 : Nat) = true := decide_eq_true hy
    have e2 : inB x 1 (2 ^ l.length - 1 : Nat) = true := decide_eq_true hx
    rw [e1, e2]; rfl
  · have h1 := hM.1
    have hw : ((partL l x.toNat y.toNat).getD 0 []).length = (sels y.toNat (l.getD 0 []).length).length := by
      rw [partL_tabF] at h1 ⊢
      rw [tabF_length] at h1
      exact tabF_len _ _ _ _ (by omega)
    have hl : (partL l x.toNat y.toNat).length = (sels x.toNat l.length).length := by rw [partL_tabF, tabF_length]
    rw [partL_tabF (turnL l), turnL_length, turnL_width hT]
    show _ = tabF ((partL l x.toNat y.toNat).getD 0 []).length (partL l x.toNat y.toNat).length fun k i => at2 (partL l x.toNat y.toNat) i k
    rw [hw, hl]
    refine tabF_congr fun k i hk hi => ?_
    have e : at2 (partL l x.toNat y.toNat) i k = at2 l ((sels x.toNat l.length).getD i 0) ((sels y.toNat (l.getD 0 []).length).getD k 0) := by
      rw [partL_tabF]
      exact tabF_at _ _ _ _ _ hi hk
    rw [e]
    exact turnL_at (sels_lt _ _ hi) (sels_lt _ _ hk)

theorem part_sizes {l : List (List Int)} {x y : Int} (h : partOk l x y = true) : (partL l x.toNat y.toNat).length = popc x.toNat ∧ ((partL l x.toNat y.toNat).getD 0 []).length = popc y.toNat := by
  obtain ⟨hT, hx, hy⟩ := partOk_of h
  have hM := partOk_tab h
  have hs := hT.sides
  have p1 : 2 ^ l.length ≤ 2 ^ 6 := Nat.pow_le_pow_right (by omega) hs.1.2
  have p2 : 2 ^ (l.getD 0 []).length ≤ 2 ^ 6 := Nat.pow_le_pow_right (by omega) hs.2.2
  have h1 := hM.1
  have hl : (partL l x.toNat y.toNat).length = (sels x.toNat l.length).length := by rw [partL_tabF, tabF_length]
  have hw : ((partL l x.toNat y.toNat).getD 0 []).length = (sels y.toNat (l.getD 0 []).length).length := by
    rw [hl] at h1
    rw [partL_tabF]
    exact tabF_len _ _ _ _ (by omega)
  rw [hl, hw, sels_length, sels_length]
  exact ⟨popc_sel ⟨l.length, by omega⟩ ⟨x.toNat, by omega⟩ (by show x.toNat < 2 ^ l.length; omega), popc_sel ⟨(l.getD 0 []).length, by omega⟩ ⟨y.toNat, by omega⟩ (by show y.toNat < 2 ^ (l.getD 0 []).length; omega)⟩

end Go.Proofs.Ytlgjplhffpmfpaa
end

section
namespace Go.Proofs.Ytlgjplhffpmfpaa

theorem inc_filter : ∀ (n k : Nat) (ρ : Nat → Nat) (p : Nat → Bool), IncT k n ρ → (∀ j, j < n → (p j = true ↔ ∃ i, i < k ∧ ρ i = j)) → (List.range n).filter p = (List.range k).map ρ
  | 0, k, ρ, p, h, _ => by
    have : k = 0 := by
      rcases Nat.eq_zero_or_pos k with h1 | h1
      · exact h1
      · exact absurd (h.2 0 h1) (Nat.not_lt_zero _)
    subst this; rfl
  | n + 1, k, ρ, p, h, hp => by
    rw [List.range_succ, List.filter_append]
    by_cases hk : ∃ i, i < k ∧ ρ i = n
    · obtain ⟨i, hi, e⟩ := hk
      have hik : i + 1 = k := by
        rcases Nat.lt_or_ge (i + 1) k with h1 | h1
        · have := h.1 i h1
          have := h.2 (i + 1) h1
          omega
        · omega
      subst hik
      have hpn : p n = true := (hp n (by omega)).2 ⟨i, hi, e⟩
      rw [inc_filter n i ρ p ⟨fun r hr => h.1 r (by omega), fun r hr => by have := h.lt hr hi; omega⟩ (fun j hj => by
        rw [hp j (by omega)]
        constructor
        · rintro ⟨r, hr, hrj⟩
          rcases Nat.lt_succ_iff_lt_or_eq.1 hr with h1 | h1
          · exact ⟨r, h1, hrj⟩
          · subst h1; omega
        · rintro ⟨r, hr, hrj⟩
          exact ⟨r, by omega, hrj⟩), List.range_succ, List.map_append]
      simp [hpn, e]
    · have hpn : p n = false := by
        cases h1 : p n with
        | false => rfl
        | true => exact absurd ((hp n (by omega)).1 h1) hk
      rw [inc_filter n k ρ p ⟨h.1, fun r hr => by
        have h1 := h.2 r hr
        have h2 : ρ r ≠ n := fun e => hk ⟨r, hr, e⟩
        omega⟩ (fun j hj => hp j (by omega))]
      simp [hpn]

def bset (b0 b1 b2 b3 b4 b5 : Bool) : Nat := b0.toNat + 2 * b1.toNat + 4 * b2.toNat + 8 * b3.toNat + 16 * b4.toNat + 32 * b5.toNat
theorem bset_bit : ∀ b0 b1 b2 b3 b4 b5 : Bool, (bset b0 b1 b2 b3 b4 b5).testBit 0 = b0 ∧ (bset b0 b1 b2 b3 b4 b5).testBit 1 = b1 ∧ (bset b0 b1 b2 b3 b4 b5).testBit 2 = b2 ∧ (bset b0 b1 b2 b3 b4 b5).testBit 3 = b3 ∧ (bset b0 b1 b2 b3 b4 b5).testBit 4 = b4 ∧ (bset b0 b1 b2 b3 b4 b5).testBit 5 = b5 := by decide +kernel
theorem bset_lt : ∀ n : Fin 7, ∀ b0 b1 b2 b3 b4 b5 : Bool, (n.val ≤ 0 → b0 = false) → (n.val ≤ 1 → b1 = false) → (n.val ≤ 2 → b2 = false) → (n.val ≤ 3 → b3 = false) → (n.val ≤ 4 → b4 = false) → (n.val ≤ 5 → b5 = false) → bset b0 b1 b2 b3 b4 b5 < 2 ^ n.val := by decide +kernel
theorem sels_filter : ∀ n : Fin 7, ∀ s : Fin 64, sels s.val n.val = (List.range n.val).filter fun j => s.val.testBit j := by decide +kernel

theorem inc_set {k n : Nat} {ρ : Nat → Nat} (hn : n ≤ 6) (h : IncT k n ρ) : ∃ s, s < 2 ^ n ∧ popcS s = k ∧ sels s n = (List.range k).map ρ := by
  have hd : ∀ j, ∃ b : Bool, b = true ↔ ∃ i, i < k ∧ ρ i = j := fun j => by
    by_cases hj : ∃ i, i < k ∧ ρ i = j
    · exact ⟨true, by simp [hj]⟩
    · exact ⟨false, by simp [hj]⟩
  have hno : ∀ j b, n ≤ j → (b = true ↔ ∃ i, i < k ∧ ρ i = j) → b = false := fun j b hj hb => by
    cases b with
    | false => rfl
    | true =>
      obtain ⟨i, hi, e⟩ := hb.1 rfl
      have := h.2 i hi
      omega
  obtain ⟨b0, e0⟩ := hd 0
  obtain ⟨b1, e1⟩ := hd 1
  obtain ⟨b2, e2⟩ := hd 2
  obtain ⟨b3, e3⟩ := hd 3
  obtain ⟨b4, e4⟩ := hd 4
  obtain ⟨b5, e5⟩ := hd 5
  have hlt := bset_lt ⟨n, by omega⟩ b0 b1 b2 b3 b4 b5 (hno 0 b0 · e0) (hno 1 b1 · e1) (hno 2 b2 · e2) (hno 3 b3 · e3) (hno 4 b4 · e4) (hno 5 b5 · e5)
  have hbit := bset_bit b0 b1 b2 b3 b4 b5
  obtain ⟨s, hs⟩ : ∃ s, bset b0 b1 b2 b3 b4 b5 = s := ⟨_, rfl⟩
  rw [hs] at hlt hbit
  have h64 : s < 64 := by
    have : 2 ^ n ≤ 2 ^ 6 := Nat.pow_le_pow_right (by omega) hn
    simp only at hlt
    omega
  have hp : ∀ j, j < 6 → (s.testBit j = true ↔ ∃ i, i < k ∧ ρ i = j) := fun j hj => by
    have hj6 : j = 0 ∨ j = 1 ∨ j = 2 ∨ j = 3 ∨ j = 4 ∨ j = 5 := by omega
    rcases hj6 with rfl | rfl | rfl | rfl | rfl | rfl
    · rw [hbit.1]; exact e0
    · rw [hbit.2.1]; exact e1
    · rw [hbit.2.2.1]; exact e2
    · rw [hbit.2.2.2.1]; exact e3
    · rw [hbit.2.2.2.2.1]; exact e4
    · rw [hbit.2.2.2.2.2]; exact e5
  have f1 := sels_filter ⟨n, by omega⟩ ⟨s, h64⟩
  have f6 := sels_filter ⟨6, by omega⟩ ⟨s, h64⟩
  simp only at f1 f6
  refine ⟨s, hlt, ?_, ?_⟩
  · have e : sels s 6 = (List.range k).map ρ := by
      rw [f6]
      exact inc_filter 6 k ρ _ ⟨h.1, fun i hi => by have := h.2 i hi; omega⟩ hp
    have : popcS s = (sels s 6).length := by unfold popcS; rw [sels_length]
    rw [this, e]; simp
  · rw [f1]
    exact inc_filter n k ρ _ h (fun j hj => hp j (by omega))

theorem tnn_of {l : List (List Int)} {n m : Nat} (hl : l.length = n) (hm : (l.getD 0 []).length = m) (hn : n ≤ 6) (hm6 : m ≤ 6) (h : leastB l 0 (partsA n m) = true) : Tnn (at2 l) n m := fun k ρ γ hρ hγ => by
  rcases Nat.eq_zero_or_pos k with h0 | h0
  · subst h0; simp [dt]
  · obtain ⟨s, s1, s2, s3⟩ := inc_set hn hρ
    obtain ⟨c, c1, c2, c3⟩ := inc_set hm6 hγ
    have hs1 : 1 ≤ s := by
      rcases Nat.eq_zero_or_pos s with h1 | h1
      · subst h1
        have : popcS 0 = 0 := by decide
        omega
      · exact h1
    have hmem := leastB_iff.1 h (s, c) ((partsA_mem hn hm6).2 ⟨by simp only; omega, by simp only; omega, s1, c1⟩)
    have e : mnP l (s, c) = dt k (fun i j => at2 l (ρ i) (γ j)) := by
      unfold mnP
      simp only
      rw [s2]
      refine dt_congr k fun i j hi hj => ?_
      have l1 : (sel s n n).length = k := by rw [← sels_length, s3]; simp
      have l2 : (sel c m m).length = k := by rw [← sels_length, c3]; simp
      rw [partL_at l s c (by rw [hl, l1]; exact hi) (by rw [hm, l2]; exact hj), hl, hm]
      have g1 : selN s n i = ρ i := by
        show (sels s n).getD i 0 = ρ i
        rw [s3]; simp [List.getD, hi]
      have g2 : selN c m j = γ j := by
        show (sels c m).getD j 0 = γ j
        rw [c3]; simp [List.getD, hj]
      rw [g1, g2]
    rw [← e]; exact hmem

end Go.Proofs.Ytlgjplhffpmfpaa
end

section
namespace Go.Proofs.Ytlgjplhffpmfpaa
open Go.RowKit Go.Deep

set_option maxRecDepth 100000 in
set_option maxHeartbeats 4000000 in
theorem drawPosTimes_any (a : Option Addr) (nb cb : Nat) (w : World) (hc : nb ≤ cb) (h63 : cb ≤ 9223372036854775807) (hb : BytR w a nb) :
    Calls Try.prog 11 #[.slice a nb cb] w fun e w' => ∃ a1 c1 l ax cx x, e = .returned (.tuple #[.slice a1 (List.length l) c1, .slice ax (List.length x) cx]) ∧ w.Since w.heap.size w' ∧ (szL l ≤ 1048576 ∧ PvB l) ∧ MatR w' a1 l ∧ x.length ≤ 7 ∧ RowR w' ax x := by
  have E := Lib.hid (l92PositiveF_any a nb cb w hc h63 hb)
  have EO := Lib.hid (fun (W : World) (h : w.Since w.heap.size W) => l6Open_any a nb cb W hc h63 (hb.since h))
  clear hb
  go_enter Try.func11, Try.ntmps11
  go_wp2_with fail
  refine (E.out).mono ?_
  rintro e w1 ⟨a1, c1, l, rfl, hs1, ⟨hsz, hpb⟩, hm⟩
  obtain ⟨nn, hn⟩ : ∃ nn, l.length = nn := ⟨_, rfl⟩
  obtain ⟨m, hmm⟩ : ∃ m, (l.getD 0 []).length = m := ⟨_, rfl⟩
  have hpb2 := hpb
  unfold PvB at hpb2
  rw [hn, hmm] at hpb2
  obtain ⟨b, o, A, C, rfl, hcc⟩ := hm (by omega)
  have c0 := (hcc 0 (by omega)).1
  rw [Nat.add_zero, hmm] at c0
  have hlt0 : b < w1.heap.size := World.block_lt_of_cell? _ _ c0
  have HS1 := Lib.hid hs1
  have HM := Lib.hid hm
  have HN := Lib.hid hn
  have HB := Lib.hid (And.intro hsz hpb)
  rw [hn]
  clear hs1 hm hcc hmm hsz hpb
  go_wp2_with fail
  refine (EO.out w1 HS1.out).mono ?_
  rintro e w2 ⟨n', c', rfl, hs2, hz2, hd2⟩
  have e0 := hd2.cell0
  have e1 := hd2.cell1
  have e2 := hd2.free1
  have hd3 := hd2.set 61
  obtain ⟨w3, hw3⟩ : ∃ w3, w2.setCell ⟨w1.heap.size, 1, none⟩ (.int .i64 (61 : Nat)) = w3 := ⟨_, rfl⟩
  have hw3' : w2.setCell ⟨w1.heap.size, 1, none⟩ (.int .i64 61) = w3 := hw3
  have hz3 : w3.heap.size = w1.heap.size + 1 := by rw [← hw3]; simp; omega
  rw [hw3] at hd3
  have hs3 := hd3.since
  have d0 := (hs3.cell (a := ⟨b, o, none⟩) hlt0).trans c0
  have hd3' : RD w1 w3.drew w1.heap.size a n' c' 54 61 := ⟨hd3.blk, hd3.base, World.Since.drew hd3.since, hd3.bytes, hd3.small⟩
  have HD3 := Lib.hid hd3'
  have hm0 : (0 : Int) < (nn : Int) := by omega
  have z1 : 0 < nn := by omega
  clear hd2 hd3 hs2 hd3'
  go_wp2
  go_region_held3 (fun w' => w'.cell? ⟨b, o, none⟩ = some (.slice (A 0) m (C 0)))
    (first | exact d0 | exact q0)
    (first
      | (go_at_call 37; refine (pick_any w1 _ w1.heap.size n' c' _ a _ HD3.out (by omega)).mono ?_; rintro e w4 ⟨y2, rfl, hy2, hg4, hd4⟩; have q0 := (hd4.since.cell (a := ⟨b, o, none⟩) hlt0).trans c0; have HD4 := Lib.hid hd4; have hz4 := hg4.size; have hy23 : y2 ≤ 23 := (by omega); obtain ⟨N, hN⟩ : ∃ N : Nat, (m : Int) + (y2 : Int) / 23 = (N : Int) := ⟨m + y2 / 23, by omega⟩; have hN7 : N ≤ 7 := (by omega); have hN4 : IntKind.i64.wrap (N : Int) = (N : Int) := IntWalk.i64_in _ ⟨by omega, by omega⟩; have hN2 : IntKind.i64.wrap ((m : Int) + (y2 : Int) / 23) = (N : Int) := (by rw [hN]; exact IntWalk.i64_in _ ⟨by omega, by omega⟩); have hN3 : IntKind.i64.wrap ((y2 : Int) / 23) = (y2 : Int) / 23 := IntWalk.i64_in _ ⟨by omega, by omega⟩; clear hg4 hd4)
      | (go_at_call 36; refine (l92Numbers_any w1 w4 w1.heap.size n' c' _ N a HD4.out (by have := HD4.out.lt; omega) (by omega) (by omega)).mono ?_; rintro e w5 ⟨ax, cx, x, rfl, hx, hr, hg5⟩; have hs5 : w1.Since w1.heap.size w5 := HD4.out.since.trans (since_grown hg5 (Nat.le_refl _) HD4.out.since.size); have q0 := (hs5.cell (a := ⟨b, o, none⟩) hlt0).trans c0))
  all_goals
    have HS5 := Lib.hid hs5
    have HR := Lib.hid hr
    clear hs5 hr hg5
    go_wp2
    go_ret2
    exact ⟨_, c1, l, ax, cx, x, by rw [HN.out, hx]; rfl, HS1.out.trans (since_mono HS5.out HS1.out.size), HB.out, HM.out.since HS5.out, by omega, HR.out⟩

set_option maxRecDepth 100000 in
set_option maxHeartbeats 4000000 in
theorem fnTimesChanges (a : Option Addr) (cap n : Nat) (w : World) (hc : n ≤ cap) (h63 : cap ≤ 9223372036854775807) (hb : BytR w a n) :
    Calls Try.prog 4 #[.slice a n cap] w fun e w' => e = .returned (.bool true) ∧ w.Since w.heap.size w' := by
  by_cases hlen : 1048576 < n
  · have hl' : decide ((1048576 : Int) < (n : Int)) = true := by simp; omega
    clear hb
    go_enter Try.func4, Try.ntmps4
    go_wp2
    go_ret
    exact ⟨rfl, World.Since.refl _ _⟩
  · have hl' : decide ((1048576 : Int) < (n : Int)) = false := by simp; omega
    have ED := Lib.hid (drawPosTimes_any a n cap w hc h63 hb)
    clear hb
    go_enter Try.func4, Try.ntmps4
    go_wp2_with fail
    refine (ED.out).mono ?_
    rintro e w1 ⟨a1, c1, l, ax, cx, x, rfl, hs1, ⟨hsz, hpb⟩, hmat, hx7, hr⟩
    obtain ⟨nn, hn⟩ : ∃ nn, l.length = nn := ⟨_, rfl⟩
    obtain ⟨m, hm⟩ : ∃ m, x.length = m := ⟨_, rfl⟩
    rw [hn, hm]
    rw [hm] at hx7
    have HS1 := Lib.hid hs1
    have E1 := implPosTimes_any a1 ax c1 cx nn m l x w1 hn hm (by omega) hsz hmat hr
    have E2 := fun (W : World) (h : w1.Since w1.heap.size W) => specPosTimes_any a1 ax c1 cx nn m l x W hn hm hsz (hmat.since h) (hr.since h)
    unfold PtI at E1
    unfold PtS at E2
    obtain ⟨ok, hok⟩ : ∃ ok, ptOk l x = ok := ⟨_, rfl⟩
    rw [hok] at E1
    simp only [hok] at E2
    cases ok with
    | false =>
      simp only [Bool.false_eq_true, if_false, List.length_nil] at E1 E2
      have ES := Lib.hid (fun (W : World) (p q : Option Addr) (c d : Nat) => sameInts_same p q c d 0 [] W rfl (by omega) (fun h => absurd h (Nat.lt_irrefl 0)) (fun h => absurd h (Nat.lt_irrefl 0)))
      replace E1 := Lib.hid E1
      replace E2 := Lib.hid E2
      clear hs1 hsz hpb hmat hr hn hm hok
      go_wp2_with fail
      refine (E1.out).mono ?_
      rintro e w2 ⟨a2, c2, rfl, hs2, _⟩
      have HS2 := Lib.hid hs2
      clear hs2
      go_wp2_with fail
      refine (E2.out w2 HS2.out).mono ?_
      rintro e w3 ⟨a3, c3, rfl, hs3, _⟩
      have HS3 := Lib.hid (HS2.out.trans (since_mono hs3 HS2.out.size))
      clear hs3
      go_wp2_with fail
      refine (ES.out w3 a2 a3 c2 c3).mono ?_
      rintro e w4 ⟨rfl, hd4⟩
      have HS4 := Lib.hid (HS3.out.trans (since_mono (hd4.since w3.heap.size) HS3.out.size))
      clear hd4
      go_wp2_with fail
      refine (ES.out w4 a2 a3 c2 c3).mono ?_
      rintro e w5 ⟨rfl, hd5⟩
      have HS5 := Lib.hid (HS4.out.trans (since_mono (hd5.since w4.heap.size) HS4.out.size))
      clear hd5
      go_wp2
      go_ret
      exact ⟨rfl, HS1.out.trans (since_mono HS5.out HS1.out.size)⟩
    | true =>
      simp only [if_true] at E1 E2
      have hok2 := hok
      unfold ptOk at hok2
      simp only [Bool.and_eq_true, decide_eq_true_eq] at hok2
      obtain ⟨hTB, hxl, hnum⟩ := hok2
      have hT := tabIn_of hTB
      have h6 := hT.2.1
      rw [hn] at h6
      have hw6 := hT.width
      have hwd : (l.getD 0 []).length = m := by rw [← hxl]; exact hm
      rw [hwd] at hw6
      obtain ⟨M, hM⟩ : ∃ M, ptL l x m = M := ⟨_, rfl⟩
      have hMl : M.length = nn := by rw [← hM, ptL_length]; exact hn
      have hMat : ∀ i, i < nn → M.getD i 0 = sumN (fun j => at2 l i j * x.getD j 0) m := fun i hi => by
        rw [← hM]
        unfold ptL
        simp [List.getD, hn, hi]
      rw [hM, hMl] at E1
      simp only [hM, hMl] at E2
      have E3 := fun (W : World) (h : w1.Since w1.heap.size W) => implPosChanges_any ax cx m x W hm (by omega) (hr.since h)
      have E4 := fun (W : World) (p : Option Addr) (c : Nat) (h : RowR W p M) => implPosChanges_any p c nn M W hMl (by omega) h
      have E5 := fun (W : World) (h : w1.Since w1.heap.size W) => implPosLasting_any a1 c1 nn l W hn hsz (hmat.since h)
      simp only [hTB, Bool.true_and, hwd] at E5
      have ES := Lib.hid (fun (W : World) (p q : Option Addr) (c d : Nat) (h : RowR W p M) (h2 : RowR W q M) => sameInts_same p q c d nn M W hMl (by omega) h h2)
      obtain ⟨p, hp⟩ : ∃ p, chgOk x = p := ⟨_, rfl⟩
      obtain ⟨q, hq⟩ : ∃ q, chgOk M = q := ⟨_, rfl⟩
      obtain ⟨u, hu⟩ : ∃ u, chgV x = u := ⟨_, rfl⟩
      obtain ⟨v, hv⟩ : ∃ v, chgV M = v := ⟨_, rfl⟩
      obtain ⟨t, ht⟩ : ∃ t, leastB l 0 (partsA nn m) = t := ⟨_, rfl⟩
      have hfin : t = true → p = true → q = true → v ≤ u := fun h1 h2 h3 => by
        have hT2 : Tnn (at2 l) nn m := tnn_of hn hwd h6 hw6.2 (by rw [ht]; exact h1)
        have := vd_lists (x := x) (y := M) hT2 hMat
        rw [← hu, ← hv]
        unfold chgV
        rw [hp, hq, h2, h3, if_pos rfl, if_pos rfl, hm, hMl]
        exact this
      simp only [hp, hu] at E3
      simp only [hq, hv] at E4
      simp only [ht] at E5
      replace E1 := Lib.hid E1
      replace E2 := Lib.hid E2
      replace E3 := Lib.hid E3
      replace E4 := Lib.hid E4
      replace E5 := Lib.hid E5
      have HF := Lib.hid hfin
      clear hs1 hsz hpb hmat hr hn hm hok hTB hxl hnum hT hwd hM hMl hMat hp hq hu hv ht hfin
      go_wp2_with fail
      refine (E1.out).mono ?_
      rintro e w2 ⟨a2, c2, rfl, hs2, ho2⟩
      have HS2 := Lib.hid hs2
      have HO := Lib.hid ho2.rowR
      clear hs2 ho2
      go_wp2_with fail
      refine (E2.out w2 HS2.out).mono ?_
      rintro e w3 ⟨a3, c3, rfl, hs3, hi3⟩
      have HS3 := Lib.hid (HS2.out.trans (since_mono hs3 HS2.out.size))
      have HO3 := Lib.hid (HO.out.since hs3)
      have HI3 := Lib.hid hi3.rowR
      clear hs3 hi3
      go_wp2_with fail
      refine (ES.out w3 a2 a3 c2 c3 HO3.out HI3.out).mono ?_
      rintro e w4 ⟨rfl, hd4⟩
      have HS4 := Lib.hid (HS3.out.trans (since_mono (hd4.since w3.heap.size) HS3.out.size))
      have HO4 := Lib.hid (HO3.out.since (hd4.since w3.heap.size))
      clear hd4
      go_wp2_with fail
      refine (E3.out w4 HS4.out).mono ?_
      rintro e w' ⟨rfl, rfl⟩
      go_wp2_with fail
      refine (E4.out w4 a2 c2 HO4.out).mono ?_
      rintro e w' ⟨rfl, rfl⟩
      go_wp2_with fail
      refine (E5.out w4 HS4.out).mono ?_
      rintro e w5 ⟨rfl, hs5⟩
      have HS5 := Lib.hid (HS4.out.trans (since_mono hs5 HS4.out.size))
      clear hs5
      cases t with
      | false =>
        go_wp2
        go_ret
        exact ⟨rfl, HS1.out.trans (since_mono HS5.out HS1.out.size)⟩
      | true =>
        cases p with
        | false =>
          go_wp2
          go_ret
          exact ⟨rfl, HS1.out.trans (since_mono HS5.out HS1.out.size)⟩
        | true =>
          cases q with
          | false =>
            go_wp2
            go_ret
            exact ⟨rfl, HS1.out.trans (since_mono HS5.out HS1.out.size)⟩
          | true =>
            have hvu := HF.out rfl rfl rfl
            have hvd : decide (v ≤ u) = true := by simpa using hvu
            go_wp2
            go_ret
            exact ⟨rfl, HS1.out.trans (since_mono HS5.out HS1.out.size)⟩

end Go.Proofs.Ytlgjplhffpmfpaa
end

section
namespace Go.Proofs.Ytlgjplhffpmfpaa
open Go.ChangeShapes Go.WideShapes Go.ChangeAt Go.RowKit Go.Deep

theorem below_since' {B : Nat} {w w' : World} (h : Below B w w') : w.Since B w' := ⟨h.os, h.tape, h.output, h.size, h.block⟩
theorem since_below' {B : Nat} {w w' : World} (h : w.Since B w') : Below B w w' := ⟨h.os, h.tape, h.output, h.size, h.block⟩

section
variable {H : Type} {enc : TypeId × Value → H} {P : Program}
theorem post_of_below {f : Func} {s : ChangeSpec} {apart fresh handsOn again : Bool} {W W' : World} {args : Array Value} {v : Value} {ds gs : List (DataW H)} {before pa pv : List MemPlace}
    (hW : DataW.Whole enc P f.params.toList s.vars apart W args.toList ds gs before)
    (hres : ∀ (b : Nat) (sp : Nat → Bool) (hd : Bool), DataW.TrodAll enc P W' b sp hd f.resultTypes.toList (v.resultList f.resultTypes.size) (s.fn H (ds ++ gs)).results [])
    (hargs : ∀ sp : Nat → Bool, (∀ p ∈ before, sp p.block = true) → DataW.TrodAll enc P W' 0 sp true f.params.toList args.toList (s.fn H (ds ++ gs)).args pa)
    (hvars : ∀ sp : Nat → Bool, (∀ p ∈ before, sp p.block = true) → DataW.TrodVars enc P W' sp s.vars (s.fn H (ds ++ gs)).vars pv)
    (hps : before = pa ++ pv) (hb : Below W.heap.size W W') (hag : again = false) :
    s.post enc P f apart fresh handsOn again W args v W' := by
  have hlt : ∀ p ∈ before, p.block < W.heap.size := fun p hp => hW.lt p hp
  have hold : ∀ p ∈ before, (fun b => decide (b < W.heap.size)) p.block = true := fun p hp => by simpa using hlt p hp
  refine ⟨ds, gs, before, [], pa, pv, hW, hres _ _ _, hargs _ hold, hvars _ hold, World.keptBut_mono (fun p hp => ⟨hp, ?_⟩) (hb.frame (· ∈ before)), fun h => ?_⟩
  · rw [hps, List.mem_append] at hp
    exact Or.inr hp
  · rw [hag] at h; cases h

theorem open_mat {W : World} {t e q : TypeId} {a : Option Addr} {n cap : Nat} {d : DataW H} {p : List MemPlace} (ht : P.underlying t = some (.slice e)) (he : P.underlying e = some (.slice q)) (hq : P.underlying q = some (.int .i64))
    (ce : P.cellsOf e = 1) (cq : P.cellsOf q = 1) (h : DataW.Trod enc P W 0 (fun _ => true) true t (.slice a n cap) d p) :
    ∃ l : List (List Int), l.length = n ∧ MatR W a l ∧ n ≤ 9223372036854775807 ∧ ∀ r, r < l.length → (l.getD r []).length ≤ 9223372036854775807 := by
  obtain ⟨fuel, hf⟩ := h
  rcases open_int_rows ht he hq ce cq hf with ⟨hcs, _⟩ | ⟨a', len', cap', A, L, C, Z, hcs, _, hl, hm, _, hrows⟩
  · simp [Value.cells] at hcs
    obtain ⟨rfl, rfl, rfl⟩ := hcs
    exact ⟨[], rfl, (fun h => by simp at h), by omega, fun r hr => by simp at hr⟩
  · simp [Value.cells] at hcs
    obtain ⟨rfl, rfl, rfl⟩ := hcs
    have hmx : maxLen = 9223372036854775807 := rfl
    have hlen : ∀ r, r < n → ((Z r).take (L r)).length = L r := fun r hr => by
      obtain ⟨_, h1, _, h2, _⟩ := hrows r (by omega)
      rw [List.length_take]; omega
    have hget : ∀ r, r < n → ((List.range n).map fun r => (Z r).take (L r)).getD r [] = (Z r).take (L r) := fun r hr => by simp [List.getD, hr]
    refine ⟨(List.range n).map fun r => (Z r).take (L r), by simp, fun h => ?_, by omega, fun r hr => ?_⟩
    · obtain ⟨b, o, spot⟩ := a'
      simp at h
      have hspot : spot = none := by simpa [Addr.add] using World.cell?_spot (hrows 0 (by omega)).1
      subst hspot
      refine ⟨b, o, A, C, rfl, fun r hr => ?_⟩
      simp at hr
      rw [hget r hr, hlen r hr]
      obtain ⟨g1, g2, g3, g4, g5, g6, g7⟩ := hrows r (by omega)
      refine ⟨by rw [← add_plain]; exact g1, fun h0 => ?_⟩
      rw [hlen r hr] at h0
      cases hA : A r with
      | none => have := g6 hA; omega
      | some a'' =>
        obtain ⟨_, hcell⟩ := g7 a'' hA
        obtain ⟨b', o', sp⟩ := a''
        have hs : sp = none := by simpa [Addr.add] using World.cell?_spot (hcell 0 (by omega))
        subst hs
        refine ⟨b', o', rfl, fun i hi => ?_⟩
        rw [hlen r hr] at hi
        rw [← add_plain, hcell i (by omega)]
        congr 2
        simp [List.getD, hi]
    · simp at hr
      rw [hget r hr, hlen r hr]
      obtain ⟨_, h1, h2, _⟩ := hrows r (by omega)
      omega
end

theorem Try.own : ownKnob Try.prog.godebug = none := by kernel_rfl
theorem Try.laidOut : laidOutB Try.prog = true := by kernel_rfl
theorem Try.cellsR : Try.prog.cellsOf 27 = 1 := by kernel_rfl
theorem Try.cellsI : Try.prog.cellsOf 3 = 1 := by kernel_rfl

end Go.Proofs.Ytlgjplhffpmfpaa
end

section
namespace Go.Proofs.Ytlgjplhffpmfpaa
open Go.ChangeShapes Go.WideShapes Go.ChangeAt Go.RowKit Go.Deep

theorem wf_u8_of {n : Int} (h : (Lit.int .u8 n).wf = true) : 0 ≤ n ∧ n ≤ 255 := by
  have h2 : (0 : Int) ≤ n ∧ n ≤ 255 := by simpa [Lit.wf, IntKind.min, IntKind.max, IntKind.signed, IntKind.bits] using h
  exact h2

theorem open_bytes {H : Type} {enc : TypeId × Value → H} {P : Program} {W : World} {t e : TypeId} {a : Option Addr} {n cap : Nat} {d : DataW H} {p : List MemPlace} (ht : P.underlying t = some (.slice e)) (he : P.underlying e = some (.int .u8)) (ce : P.cellsOf e = 1)
    (h : DataW.Trod enc P W 0 (fun _ => true) true t (.slice a n cap) d p) : BytR W a n ∧ n ≤ cap ∧ cap ≤ 9223372036854775807 := by
  obtain ⟨fuel, hf⟩ := h
  rcases open_ints ht he ce hf with ⟨hcs, _⟩ | ⟨a', len, cap', zs, hcs, _, hl, hm, hlen, _, hcell, hwf⟩
  · simp [Value.cells] at hcs
    obtain ⟨rfl, rfl, rfl⟩ := hcs
    exact ⟨fun h => absurd h (by omega), by omega, by omega⟩
  · simp [Value.cells] at hcs
    obtain ⟨rfl, rfl, rfl⟩ := hcs
    have hmx : maxLen = 9223372036854775807 := rfl
    have hzl : zs.length = cap := by simpa using hlen
    refine ⟨fun h0 => ?_, by omega, by omega⟩
    obtain ⟨b, o, spot⟩ := a'
    have hspot : spot = none := by simpa [Addr.add] using World.cell?_spot (hcell 0 (by omega))
    subst hspot
    refine ⟨b, o, rfl, fun i hi => ?_⟩
    have hi' : i < zs.length := by omega
    have hw := wf_u8_of (hwf (zs.getD i 0) (by simp [List.getD, hi']))
    obtain ⟨z, hz⟩ := Int.eq_ofNat_of_zero_le hw.1
    refine ⟨z, by omega, ?_⟩
    rw [← add_plain, hcell i hi', hz]

theorem Try.cellsB : Try.prog.cellsOf 5 = 1 := by kernel_rfl

end Go.Proofs.Ytlgjplhffpmfpaa
end

/- The contract of exchangeSum. -/
import Derived.Test.YtbedkjpbdkgjpaaCols
import Derived.Test.YtbedkjpbdkgjpaaRound
import Derived.Test.YtbedkjpbdkgjpaaPlaceR
namespace Go.Proofs.Ytbedkjpbdkgjpaa
open Go.RowKit Go.Deep Go.Shelf
attribute [local go_sem] Oper.semAt_some

/-- A region that draws its order, in a round, under a condition that is held. -/
theorem round_region_held {lp n id : Nat} {P : Program} {ops : Array Oper} {Q : Exit → Act → World → Prop} {a : Act} {w : World} {S : World → Prop} (hm : P.follows .mixedOrders = true) (hd : noDefer ops = true) (hno : ¬ LetsOut Q) (hS : S w.drew)
    (h : S w.drew → wpAnyH P .any ops Q S ops.size (Array.replicate ops.size false) a w.drew) : (Code.region id ops true).wpIn (Fence.wide.inRound lp) n P Q a w :=
  wpIn_region_any hm (wpAnyIn_of_wpAny hno (noDefer_of hd) _ _ _ _ (wpAny_of_held _ _ _ _ (h hS)))

theorem round_still_tailD {lp n id : Nat} {P : Program} {Q : Exit → Act → World → Prop} {a : Act} {w : World} {l : List Oper} (N : Nat) (hm : P.follows .mixedOrders = true) (hB : Region.lexTailB .any l.toArray N = true) (hd : noDefer l.toArray = true) (hno : ¬ LetsOut Q)
    (h : ∀ V : World, V = w.drew → wpStill P l.toArray V (fun a' => wpList P l.toArray Q (l.drop N) a' V) (l.take N) a) : (Code.region id l.toArray true).wpIn (Fence.wide.inRound lp) n P Q a w :=
  round_still_tail N hm hB hd hno (h _ rfl)

/-- The columns of b that a lacks. -/
def dif (b a : Nat) : Nat := (bits BinOp.andNot IntKind.i64 (b : Int) (a : Int)).toNat
theorem dif_fin : ∀ b a : Fin 32, bits BinOp.andNot IntKind.i64 (b.val : Int) (a.val : Int) = ((dif b.val a.val : Nat) : Int) ∧ dif b.val a.val < 32 ∧ ∀ c : Fin 5, (dif b.val a.val).testBit c.val = (b.val.testBit c.val && !a.val.testBit c.val) := by decide +kernel
/-- Without a column. -/
def offC (b c : Nat) : Nat := if b.testBit c = true then b - 2 ^ c else b
theorem offC_fin : ∀ b : Fin 32, ∀ c : Fin 5, bits BinOp.andNot IntKind.i64 (b.val : Int) (2 ^ c.val) = ((offC b.val c.val : Nat) : Int) ∧ offC b.val c.val < 32 := by decide +kernel
theorem onC_fin : ∀ a : Fin 32, ∀ c : Fin 5, bits BinOp.or IntKind.i64 (a.val : Int) (2 ^ c.val) = ((a.val ||| 2 ^ c.val : Nat) : Int) ∧ (a.val ||| 2 ^ c.val) < 32 := by decide +kernel
theorem low_fin : ∀ b : Fin 32, ∀ c : Fin 5, bits BinOp.and IntKind.i64 (b.val : Int) ((2 ^ c.val - 1 : Nat) : Int) = ((b.val % 2 ^ c.val : Nat) : Int) := by decide +kernel

/-- One product of an exchange. -/
def exT (C : Nat → Int) (a b c : Nat) : Int := sn (popcS (a / 2 ^ c) + popcS (b % 2 ^ c)) * C (a ||| 2 ^ c) * C (offC b c)

theorem exT_bd {C : Nat → Int} {a b c : Nat} (hC : fitB C = true) (ha : a < 32) (hb : b < 32) (hc : c < 5) : (exT C a b c).natAbs ≤ 10000000000 := by
  have h1 := (fitTo_iff 32).mp hC _ (onC_fin ⟨a, ha⟩ ⟨c, hc⟩).2
  have h2 := (fitTo_iff 32).mp hC _ (offC_fin ⟨b, hb⟩ ⟨c, hc⟩).2
  simp [inB] at h1 h2
  unfold exT
  rw [Int.natAbs_mul, Int.natAbs_mul]
  have h3 : (sn (popcS (a / 2 ^ c) + popcS (b % 2 ^ c))).natAbs = 1 := by unfold sn; split <;> rfl
  rw [h3, Nat.one_mul]
  exact Nat.mul_le_mul (show _ ≤ 100000 by omega) (show _ ≤ 100000 by omega)

/-- What lies while an exchange is summed up. -/
structure XI (w : World) (C : Nat → Int) (a b : Nat) (y : Int) (W : World) : Prop where
  ar : ArrAt W w.heap.size C
  ba : Boxed W (w.heap.size + 1) 3 (.int .i64 a)
  bb : Boxed W (w.heap.size + 1 + 1) 3 (.int .i64 b)
  bs : Boxed W (w.heap.size + 1 + 1 + 1) 3 (.int .i64 y)
  sn : w.Since w.heap.size W
theorem XI.kept {w W W' : World} {C : Nat → Int} {a b : Nat} {y : Int} {row : Option Nat} (h : XI w C a b y W) (hg : W.grownBy W' row) (hr : ∀ r, row = some r → w.heap.size + 4 ≤ r) : XI w C a b y W' :=
  ⟨h.ar.kept hg (fun e => by have := hr _ e.symm; omega), h.ba.kept hg (fun e => by have := hr _ e.symm; omega), h.bb.kept hg (fun e => by have := hr _ e.symm; omega), h.bs.kept hg (fun e => by have := hr _ e.symm; omega),
    sinceRow h.sn (Nat.le_refl _) hg (fun r e => by have := hr r e; omega)⟩
theorem XI.drew {w W : World} {C : Nat → Int} {a b : Nat} {y : Int} (h : XI w C a b y W) : XI w C a b y W.drew := ⟨h.ar, h.ba, h.bb, h.bs, h.sn.drew⟩
theorem xi_start (w : World) (C : Nat → Int) (a b : Nat) (y : Int) : XI w C a b y ((((w.alloc (.cells (arr C) 48)).alloc (.cells #[.int .i64 a] 3)).alloc (.cells #[.int .i64 b] 3)).alloc (.cells #[.int .i64 y] 3)) := by
  have b1 := Boxed.new (w.alloc (.cells (arr C) 48)) 3 (.int .i64 a)
  have b2 := Boxed.new ((w.alloc (.cells (arr C) 48)).alloc (.cells #[.int .i64 a] 3)) 3 (.int .i64 b)
  have b3 := Boxed.new (((w.alloc (.cells (arr C) 48)).alloc (.cells #[.int .i64 a] 3)).alloc (.cells #[.int .i64 b] 3)) 3 (.int .i64 y)
  simp only [World.size_alloc] at b1 b2 b3
  exact ⟨(((ArrAt.new _ _).alloc _).alloc _).alloc _, (b1.alloc _).alloc _, b2.alloc _, b3, ((((World.Since.refl _ w).alloc (Nat.le_refl _) _).alloc (by simp) _).alloc (by simp; omega) _).alloc (by simp; omega) _⟩
theorem XI.set {w W : World} {C : Nat → Int} {a b : Nat} {y z : Int} (h : XI w C a b y W) : XI w C a b z (W.setCell ⟨w.heap.size + 1 + 1 + 1, 0, none⟩ (.int .i64 z)) :=
  ⟨h.ar.setOther (by omega) _, h.ba.kept (grownBy_setCell' W _ _) (by simp), h.bb.kept (grownBy_setCell' W _ _) (by simp), h.bs.set _, h.sn.setCell (by simp; omega) _⟩

set_option maxRecDepth 100000 in
set_option maxHeartbeats 4000000 in
theorem exch_any (C : Nat → Int) (a b : Nat) (ha : a < 32) (hb : b < 32) (hC : fitB C = true) (w : World) :
    Calls Try.prog 73 #[.agg (arr C), .int .i64 a, .int .i64 b] w fun e w' => e = .returned (.int .i64 (sumC (exT C a b) (sel (dif b a) 5 5))) ∧ w.Since w.heap.size w' := by
  obtain ⟨d1, d2, _⟩ := dif_fin ⟨b, hb⟩ ⟨a, ha⟩
  dsimp only at d1 d2
  refine (callsIn_wide (n := 9)).1 ?_
  refine callsIn_of_wp_marks Try.func73 rfl trivial ?_ rfl
  simp only [Try.ntmps73, List.size_toArray, List.length_cons, List.length_nil, Nat.reduceAdd, Nat.reduceSub, Array.replicate_succ, Array.replicate_zero, List.push_toArray, List.append_toArray, List.nil_append, List.cons_append]
  gi_wp2_with (first
    | (refine ⟨trivial, ?_⟩; gi_at_call 89; refine (callsIn_wide.2 (columnsIn_any _ _)).mono ?_; rintro e w' ⟨rfl, rfl⟩))
  obtain ⟨W1, hW1⟩ : ∃ W1, (((w.alloc (.cells (arr C) 48)).alloc (.cells #[.int .i64 a] 3)).alloc (.cells #[.int .i64 b] 3)).alloc (.cells #[.int .i64 0] 3) = W1 := ⟨_, rfl⟩
  have hx := xi_start w C a b 0
  have hz : W1.heap.size = w.heap.size + 1 + 1 + 1 + 1 := by rw [← hW1]; simp
  rw [hW1] at hx ⊢
  clear hW1
  have hbs := (Boxed.new W1 3 (.int .i64 (dif b a))).cell
  rw [hz] at hbs
  have hx2 := hx.kept (World.grownBy_alloc W1 (.cells #[.int .i64 (dif b a)] 3) none) (fun r e => by cases e)
  have hzz : (W1.alloc (.cells #[.int .i64 (dif b a)] 3)).heap.size = w.heap.size + 5 := by simp [hz]
  obtain ⟨W0, hW0⟩ : ∃ W0, W1.alloc (.cells #[.int .i64 (dif b a)] 3) = W0 := ⟨_, rfl⟩
  rw [hW0] at hbs hx2 hzz ⊢
  clear hW0 hx hz
  have hbd := fun l => sumC_bd (f := exT C a b) (B := 10000000000) (fun c hc => exT_bd hC ha hb hc) l
  refine wpIn_rangeFunc_ownF (F := Fence.wide) (n := 9) rfl (by omega) (gf := 95) (lb := #[.pointer (some ⟨w.heap.size + 1 + 1 + 1 + 1, 0, none⟩)]) rfl trivial (enters_of Try.func95 (by kernel_rfl) rfl)
    (cols_stops 8 (by omega) (w.heap.size + 1 + 1 + 1 + 1) (dif b a) (by omega) W0 (by omega) hbs)
    (fun h k => h.trans k) (kp1_b (by omega)) (Below.refl _ _) (fun _ => rfl)
    (fun pre W => XI w C a b (sumC (exT C a b) pre) W ∧ w.heap.size + 5 ≤ W.heap.size)
    (fun _ _ _ => False)
    (by
      rintro t X Y row ⟨hv, hS⟩ hg hrow
      exact ⟨hv.kept hg (fun r e => by have := (hrow r e).1; omega), Nat.le_trans hS hg.size⟩)
    (fun c => fun s A B row hs hg hr => hs)
    ⟨hx2, by omega⟩
    (fun x => { tmps := #[.agg (arr C), .int .i64 a, .int .i64 b, .pointer (some ⟨w.heap.size, 0, none⟩), .pointer (some ⟨w.heap.size + 1, 0, none⟩), .pointer (some ⟨w.heap.size + 1 + 1, 0, none⟩), .int .i64 0, .pointer (some ⟨w.heap.size + 1 + 1 + 1, 0, none⟩), .int .i64 (x.1 : Int), undef, .int .i64 b, .int .i64 a, .int .i64 (dif b a), .func (.func 95) #[] #[.pointer (some ⟨w.heap.size + 1 + 1 + 1 + 1, 0, none⟩)], .int .i64 (x.1 : Int), undef, undef, undef, undef, undef, undef, undef, undef, undef, undef, undef, undef, undef, undef, undef, undef, undef, undef, undef, undef, undef, undef, undef, undef, undef, undef, undef, undef, undef], defers := [] }) ?assign ?body ?done ?stop
  case assign =>
    intro lp x W K hK
    gi_wp2
    exact hK
  case body =>
    rintro lp pre x W ⟨hv, hzW⟩ hlen
    have hx5 := x.2
    have hb2 := hbd pre
    have hP := sumC_snoc (exT C a b) pre x
    have hT := exT_bd (C := C) hC ha hb x.2
    obtain ⟨y, hy⟩ : ∃ y, sumC (exT C a b) pre = y := ⟨_, rfl⟩
    obtain ⟨j, hj⟩ : ∃ j, x.1 = j := ⟨_, rfl⟩
    obtain ⟨z, hzz2⟩ : ∃ z, exT C a b x.1 = z := ⟨_, rfl⟩
    rw [hzz2] at hP hT
    rw [hy] at hv hb2 hP
    rw [hj] at hx5 hzz2 ⊢
    have HP := Lib.hid hP
    have hwr : IntKind.i64.wrap (y + z) = y + z := IntWalk.i64_in _ ⟨by omega, by omega⟩
    have hmix : Try.prog.follows .mixedOrders = true := by kernel_rfl
    clear hP hy hj hbs hx2
    obtain ⟨h1, h2, h3, h4, h5⟩ := hv
    have cA : W.drew.cell? ⟨w.heap.size + 1, 0, none⟩ = _ := h2.cell
    have cB : W.drew.cell? ⟨w.heap.size + 1 + 1, 0, none⟩ = _ := h3.cell
    have hmq : min j 64 = j := by omega
    have hv1 : (a : Int) / 2 ^ j = ((a / 2 ^ j : Nat) : Int) := by rw [Int.natCast_ediv]; simp
    have hv2 := low_fin ⟨b, hb⟩ ⟨j, hx5⟩
    have g1 : a / 2 ^ j < 64 := Nat.lt_of_le_of_lt (Nat.div_le_self _ _) (by omega)
    have g2 : b % 2 ^ j < 64 := Nat.lt_of_le_of_lt (Nat.mod_le _ _) (by omega)
    have E1 := fun (W : World) => members_any (a / 2 ^ j) g1 W
    have E2 := fun (W : World) => members_any (b % 2 ^ j) g2 W
    have q1 := popcS_le (a / 2 ^ j)
    have q2 := popcS_le (b % 2 ^ j)
    have E0 := fun (W : World) => fullSet_any j (by omega) W
    have hzz3 : sn (popcS (a / 2 ^ j) + popcS (b % 2 ^ j)) * C (a ||| 2 ^ j) * C (offC b j) = z := hzz2
    simp only at hv2
    obtain ⟨v1, e1⟩ : ∃ x, a / 2 ^ j = x := ⟨_, rfl⟩
    obtain ⟨v2, e2⟩ : ∃ x, b % 2 ^ j = x := ⟨_, rfl⟩
    obtain ⟨v3, e3⟩ : ∃ x, 2 ^ j - 1 = x := ⟨_, rfl⟩
    simp only [e1] at hv1 E1 q1 hzz3
    simp only [e2] at hv2 E2 q2 hzz3
    simp only [e3] at hv2 E0
    obtain ⟨P1, e4⟩ : ∃ x, popcS v1 = x := ⟨_, rfl⟩
    obtain ⟨P2, e5⟩ : ∃ x, popcS v2 = x := ⟨_, rfl⟩
    simp only [e4] at E1 q1 hzz3
    simp only [e5] at E2 q2 hzz3
    have hwp : IntKind.i64.wrap ((P1 : Int) + (P2 : Int)) = ((P1 + P2 : Nat) : Int) := (IntWalk.i64_in _ ⟨by omega, by omega⟩).trans (by simp)
    replace E0 := Lib.hid E0
    replace E1 := Lib.hid E1
    replace E2 := Lib.hid E2
    clear e1 e2 e3 e4 e5 g1 g2 hzz2
    gi_wp2
    refine round_still_tailD 10 hmix (by kernel_rfl) (by kernel_rfl) ?hno1 ?_
    case hno1 =>
      rintro ⟨a, w, h⟩
      exact h
    intro V hV
    rw [← hV] at cA cB
    have g1 : ArrAt V w.heap.size C := by rw [hV]; exact h1
    have g2 : Boxed V (w.heap.size + 1) 3 (.int .i64 a) := by rw [hV]; exact h2
    have g3 : Boxed V (w.heap.size + 1 + 1) 3 (.int .i64 b) := by rw [hV]; exact h3
    have g4 : Boxed V (w.heap.size + 1 + 1 + 1) 3 (.int .i64 y) := by rw [hV]; exact h4
    have HV := Lib.hid hV
    clear hV
    simp only [List.take_succ_cons, List.take_zero, List.drop_succ_cons, List.drop_zero]
    repeat still_step
    still_call ((E1.out _).mono fun _ _ h => ⟨h.1, h.2.symm⟩)
    repeat still_step
    still_call ((E0.out _).mono fun _ _ h => ⟨h.1, h.2.symm⟩)
    repeat still_step
    still_call ((E2.out _).mono fun _ _ h => ⟨h.1, h.2.symm⟩)
    repeat still_step
    refine wpStill_nil ?_
    go_wp2
    have E3 := fun (W : World) => signOf_any (P1 + P2) (by omega) W
    have hu1 := onC_fin ⟨a, ha⟩ ⟨j, hx5⟩
    have hu2 := offC_fin ⟨b, hb⟩ ⟨j, hx5⟩
    have hpw := pow_in ⟨j, by omega⟩
    simp only at hu1 hu2 hpw
    have hsn : (sn (P1 + P2)).natAbs = 1 := by unfold sn; split <;> rfl
    have hC1 := (fitTo_iff 32).mp hC _ hu1.2
    have hC2 := (fitTo_iff 32).mp hC _ hu2.2
    obtain ⟨hu1, hl1⟩ := hu1
    obtain ⟨hu2, hl2⟩ := hu2
    have cC1 := g1.drew.cell hl1
    have cC2 := g1.drew.cell hl2
    obtain ⟨u1, e1⟩ : ∃ x, a ||| 2 ^ j = x := ⟨_, rfl⟩
    obtain ⟨u2, e2⟩ : ∃ x, offC b j = x := ⟨_, rfl⟩
    simp only [e1] at hu1 hl1 cC1 hC1 hzz3
    simp only [e2] at hu2 hl2 cC2 hC2 hzz3
    obtain ⟨Y1, e3⟩ : ∃ x, C u1 = x := ⟨_, rfl⟩
    obtain ⟨Y2, e4⟩ : ∃ x, C u2 = x := ⟨_, rfl⟩
    obtain ⟨sg0, e5⟩ : ∃ x, sn (P1 + P2) = x := ⟨_, rfl⟩
    simp only [e3] at cC1 hC1 hzz3
    simp only [e4] at cC2 hC2 hzz3
    simp only [e5] at E3 hsn hzz3
    simp [inB] at hC1 hC2
    obtain ⟨S1, e6⟩ : ∃ x, sg0 * Y1 = x := ⟨_, rfl⟩
    have hS1 : S1.natAbs ≤ 100000 := by rw [← e6, Int.natAbs_mul, hsn, Nat.one_mul]; omega
    have hw1 : IntKind.i64.wrap (sg0 * Y1) = S1 := by rw [e6]; exact IntWalk.i64_in _ ⟨by omega, by omega⟩
    rw [e6] at hzz3
    have hw2 : IntKind.i64.wrap (S1 * Y2) = z := by rw [hzz3]; exact IntWalk.i64_in _ ⟨by omega, by omega⟩
    have hl1' : ((u1 : Nat) : Int) < 32 := by omega
    have hl2' : ((u2 : Nat) : Int) < 32 := by omega
    have cA2 : V.drew.cell? ⟨w.heap.size + 1, 0, none⟩ = _ := g2.cell
    have cB2 : V.drew.cell? ⟨w.heap.size + 1 + 1, 0, none⟩ = _ := g3.cell
    have cY2 : V.drew.cell? ⟨w.heap.size + 1 + 1 + 1, 0, none⟩ = _ := g4.cell
    have fY2 : V.drew.frozen? ⟨w.heap.size + 1 + 1 + 1, 0, none⟩ = _ := g4.frozen
    simp only [Int.natCast_add] at E3
    replace E3 := Lib.hid E3
    clear e1 e2 e3 e4 e5 e6 hzz3 hC1 hC2 cA cB
    refine round_still_tailD 18 hmix (by kernel_rfl) (by kernel_rfl) ?hno2 ?_
    case hno2 =>
      rintro ⟨a, w, h⟩
      exact h
    intro V2 hV2
    rw [← hV2] at cA2 cB2 cY2 fY2 cC1 cC2
    have HV2 := Lib.hid hV2
    clear hV2
    simp only [List.take_succ_cons, List.take_zero, List.drop_succ_cons, List.drop_zero]
    repeat still_step
    still_call ((E3.out _).mono fun _ _ h => ⟨h.1, h.2.symm⟩)
    repeat still_step
    refine wpStill_nil ?_
    go_wp2
    have hVV : V2 = W.drew.drew := by rw [HV2.out, HV.out]
    have hX : XI w C a b y V2 := by rw [hVV]; exact (XI.drew (XI.drew ⟨h1, h2, h3, h4, h5⟩))
    refine ⟨?_, ?_, ?_, ?_⟩
    · rw [hVV]; exact ((KeepsOthers.drew _).trans (KeepsOthers.drew _)).trans (KeepsOthers.setCell _ _ _)
    · refine (World.cell?_setCell_other _ _ _ _ (by intro e; injection e; omega)).trans ?_
      rw [hVV]; rfl
    · rw [HP.out]; exact hX.set
    · rw [hVV]; simpa [World.setCell] using hzW
  case done =>
    rintro D ys W hD rfl ⟨hv, hzW⟩ hK
    have hcv := hv.bs.cell
    have hzb := hv.bs.lt
    obtain ⟨y, hy⟩ : ∃ y, sumC (exT C a b) (sel (dif b a) 5 5) = y := ⟨_, rfl⟩
    rw [hy] at hcv
    have HY := Lib.hid hy
    have HS := Lib.hid (sinceRow (row := some D) hv.sn (Nat.le_refl _) (grownBy_putObj' W D (.deferred none)) (fun r e => by cases e; omega))
    clear hv hy
    gi_wp2
    refine ⟨by simp, .inl ⟨_, _, rfl, run_takeDeferred hK, ?_⟩⟩
    refine ⟨.int .i64 y, ?_, by rw [HY.out], HS.out⟩
    simp [results, Try.f73, go_sem]
  case stop =>
    rintro D c pre W hD hpre hF hK
    exact hF.elim

end Go.Proofs.Ytbedkjpbdkgjpaa

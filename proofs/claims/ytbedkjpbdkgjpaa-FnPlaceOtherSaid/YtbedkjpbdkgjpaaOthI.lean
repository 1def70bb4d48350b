/- The contract of the method other of coordinates. -/
import Derived.Test.YtbedkjpbdkgjpaaExch
import Derived.WalkHide
namespace Go.Proofs.Ytbedkjpbdkgjpaa
open Go.RowKit Go.Deep Go.Shelf
attribute [local go_sem] Oper.semAt_some

/-- The sum of the places of a set. -/
def plS (s : Nat) : Nat := (sumC (fun c => (c : Int)) (sel s 5 5)).toNat
theorem plS_fin : ∀ s : Fin 64, sumC (fun c => (c : Int)) (sel s.val 5 5) = ((plS s.val : Nat) : Int) ∧ plS s.val ≤ 10 := by decide +kernel
/-- The other coordinate of a set. -/
def othG (C : Nat → Int) (d n s : Nat) : Int := sn (plS s + plS (2 ^ d - 1)) * C (2 ^ n - 1 - s)
/-- .. where the sets of a list have come. -/
def othL (C : Nat → Int) (d n : Nat) (l : List Nat) (s : Nat) : Int := if s ∈ l then othG C d n s else 0
theorem othL_nil (C : Nat → Int) (d n : Nat) : othL C d n [] = fun _ => 0 := by funext s; simp [othL]
theorem othL_snoc (C : Nat → Int) (d n : Nat) (l : List Nat) (x : Nat) : othL C d n (l ++ [x]) = fun j => if j = x then othG C d n x else othL C d n l j := by
  funext j
  unfold othL
  by_cases e : j = x
  · subst e; simp
  · simp [e]
theorem othG_bd {C : Nat → Int} {d n s : Nat} (hC : fitB C = true) (h5 : n ≤ 5) : (othG C d n s).natAbs ≤ 100000 := by
  have hpw := pow_le5 h5
  have hp := Nat.pow_pos (n := n) (show 0 < 2 by omega)
  have h2 := (fitTo_iff 32).mp hC (2 ^ n - 1 - s) (by omega)
  simp [inB] at h2
  unfold othG
  rw [Int.natAbs_mul]
  have h3 : (sn (plS s + plS (2 ^ d - 1))).natAbs = 1 := by unfold sn; split <;> rfl
  rw [h3, Nat.one_mul]
  omega
theorem othL_fit {C : Nat → Int} {d n : Nat} {l : List Nat} (hC : fitB C = true) (h5 : n ≤ 5) : fitB (othL C d n l) = true := by
  refine (fitTo_iff 32).mpr fun s _ => ?_
  unfold othL
  split
  · have := othG_bd (d := d) (s := s) hC h5
    simp [inB]; omega
  · decide

/-- What lies while other runs. -/
structure OS (w W : World) (C : Nat → Int) (k n : Nat) (D : Nat → Int) : Prop where
  ar : ArrAt W w.heap.size C
  bk : Boxed W (w.heap.size + 1) 3 (.int .i64 k)
  bn : Boxed W (w.heap.size + 1 + 1) 3 (.int .i64 n)
  br : ArrAt W (w.heap.size + 1 + 1 + 1) (fun _ => 0)
  bo : ArrAt W (w.heap.size + 1 + 1 + 1 + 1) D
  sn : w.Since w.heap.size W
theorem OS.kept {w W W' : World} {C D : Nat → Int} {k n : Nat} {row : Option Nat} (h : OS w W C k n D) (hg : W.grownBy W' row) (hr : ∀ r, row = some r → w.heap.size + 5 ≤ r) : OS w W' C k n D :=
  ⟨h.ar.kept hg (fun e => by have := hr _ e.symm; omega), h.bk.kept hg (fun e => by have := hr _ e.symm; omega), h.bn.kept hg (fun e => by have := hr _ e.symm; omega), h.br.kept hg (fun e => by have := hr _ e.symm; omega), h.bo.kept hg (fun e => by have := hr _ e.symm; omega),
    sinceRow h.sn (Nat.le_refl _) hg (fun r e => by have := hr r e; omega)⟩
theorem OS.since {w W W' : World} {C D : Nat → Int} {k n : Nat} (h : OS w W C k n D) (hs : W.Since W.heap.size W') : OS w W' C k n D :=
  h.kept (row := none) ⟨hs.os, hs.tape, hs.output, hs.size, fun k hk _ => hs.block k hk⟩ (fun r e => by cases e)
theorem OS.drew {w W : World} {C D : Nat → Int} {k n : Nat} (h : OS w W C k n D) : OS w W.drew C k n D := ⟨h.ar, h.bk, h.bn, h.br, h.bo, h.sn.drew⟩
theorem grownSetAt (W : World) (b i : Nat) (v : Value) : W.grownBy (W.setCell ⟨b, i, none⟩ v) (some b) :=
  ⟨rfl, rfl, rfl, by simp [World.setCell], fun _ _ hr => Below.heap_setCell _ _ _ _ (fun e => hr (by rw [e]))⟩
theorem OS.set {w W : World} {C D : Nat → Int} {k n s : Nat} {z : Int} (h : OS w W C k n D) (hs : s < 32) : OS w (W.setCell ⟨w.heap.size + 1 + 1 + 1 + 1, s, none⟩ (.int .i64 z)) C k n (fun j => if j = s then z else D j) :=
  ⟨h.ar.setOther (by omega) _, h.bk.kept (grownSetAt _ _ _ _) (by simp), h.bn.kept (grownSetAt _ _ _ _) (by simp), h.br.setOther (by omega) _, h.bo.set hs z, h.sn.setCell (by simp; omega) _⟩
theorem os_start (w : World) (C : Nat → Int) (k n : Nat) : OS w (((((w.alloc (.cells (arr C) 48)).alloc (.cells #[.int .i64 k] 3)).alloc (.cells #[.int .i64 n] 3)).alloc (.cells (arr fun _ => 0) 48)).alloc (.cells (arr fun _ => 0) 48)) C k n (fun _ => 0) := by
  have b1 := Boxed.new (w.alloc (.cells (arr C) 48)) 3 (.int .i64 k)
  have b2 := Boxed.new ((w.alloc (.cells (arr C) 48)).alloc (.cells #[.int .i64 k] 3)) 3 (.int .i64 n)
  have b3 := ArrAt.new (((w.alloc (.cells (arr C) 48)).alloc (.cells #[.int .i64 k] 3)).alloc (.cells #[.int .i64 n] 3)) (fun _ => 0)
  have b4 := ArrAt.new ((((w.alloc (.cells (arr C) 48)).alloc (.cells #[.int .i64 k] 3)).alloc (.cells #[.int .i64 n] 3)).alloc (.cells (arr fun _ => 0) 48)) (fun _ => 0)
  simp only [World.size_alloc] at b1 b2 b3 b4
  exact ⟨((((ArrAt.new _ _).alloc _).alloc _).alloc _).alloc _, ((b1.alloc _).alloc _).alloc _, (b2.alloc _).alloc _, b3.alloc _, b4, (((((World.Since.refl _ w).alloc (Nat.le_refl _) _).alloc (by simp) _).alloc (by simp; omega) _).alloc (by simp; omega) _).alloc (by simp; omega) _⟩

theorem grownDrew0 {a b : World} {row : Option Nat} (h : a.grownBy b row) : a.grownBy b.drew row := ⟨h.os, h.tape, h.output, h.size, h.block⟩
theorem grownSince0 {a b : World} (hs : a.Since a.heap.size b) : a.grownBy b none := ⟨hs.os, hs.tape, hs.output, hs.size, fun k hk _ => hs.block k hk⟩
theorem compl_fin : ∀ n : Fin 6, ∀ s : Fin 32, s.val < 2 ^ n.val → bits BinOp.andNot IntKind.i64 ((2 ^ n.val - 1 : Nat) : Int) (s.val : Int) = ((2 ^ n.val - 1 - s.val : Nat) : Int) := by decide +kernel

set_option maxRecDepth 100000 in
set_option maxHeartbeats 4000000 in
theorem other_any (C : Nat → Int) (k n : Nat) (hk : k < n) (h5 : n ≤ 5) (hC : fitB C = true) (w : World) :
    Calls Try.prog 51 #[.agg (arr C), .int .i64 k, .int .i64 n] w fun e w' => e = .returned (.agg (arr (othL C (n - k) n (setsTo (n - k) (2 ^ n))))) ∧ w.Since w.heap.size w' := by
  have hM : 2 ^ n ≤ 32 := pow_le5 h5
  have hdd : (n : Int) - (k : Int) = ((n - k : Nat) : Int) := by omega
  have hw1 : IntKind.i64.wrap ((n : Int) - (k : Int)) = ((n - k : Nat) : Int) := (IntWalk.i64_in _ ⟨by omega, by omega⟩).trans hdd
  have hd5 : n - k ≤ 5 := by omega
  obtain ⟨d, hd⟩ : ∃ x, n - k = x := ⟨_, rfl⟩
  rw [hd] at hw1 hd5 ⊢
  clear hd hdd
  refine (callsIn_wide (n := 9)).1 ?_
  refine callsIn_of_wp_marks Try.func51 rfl trivial ?_ rfl
  simp only [Try.ntmps51, List.size_toArray, List.length_cons, List.length_nil, Nat.reduceAdd, Nat.reduceSub, Array.replicate_succ, Array.replicate_zero, List.push_toArray, List.append_toArray, List.nil_append, List.cons_append]
  gi_wp2_with (refine ⟨trivial, ?_⟩; gi_at_call 70; refine (sets_in 8 _ _ _).mono ?_; rintro e w' ⟨rfl, rfl⟩)
  rw [zero_lit]
  have hS0 := os_start w C k n
  obtain ⟨w5, hw5⟩ : ∃ W, (((((w.alloc (.cells (arr C) 48)).alloc (.cells #[.int .i64 k] 3)).alloc (.cells #[.int .i64 n] 3)).alloc (.cells (arr fun _ => 0) 48)).alloc (.cells (arr fun _ => 0) 48)) = W := ⟨_, rfl⟩
  have z5 : w5.heap.size = w.heap.size + 1 + 1 + 1 + 1 + 1 := by rw [← hw5]; simp
  rw [hw5] at hS0 ⊢
  clear hw5
  have bN := (Boxed.new w5 3 (.int .i64 n)).alloc (.cells #[.int .i64 d] 3)
  have bK := Boxed.new (w5.alloc (.cells #[.int .i64 n] 3)) 3 (.int .i64 d)
  have hS1 := (hS0.kept (World.grownBy_alloc w5 (.cells #[.int .i64 n] 3) none) (fun r e => by cases e)).kept (World.grownBy_alloc _ (.cells #[.int .i64 d] 3) none) (fun r e => by cases e)
  have z7 : ((w5.alloc (.cells #[.int .i64 n] 3)).alloc (.cells #[.int .i64 d] 3)).heap.size = w.heap.size + 7 := by simp [z5]
  simp only [World.size_alloc] at bK
  rw [z5] at bN bK
  obtain ⟨W0, hW0⟩ : ∃ W, (w5.alloc (.cells #[.int .i64 n] 3)).alloc (.cells #[.int .i64 d] 3) = W := ⟨_, rfl⟩
  rw [hW0] at bN bK hS1 z7 ⊢
  clear hW0 z5 hS0
  have hS2 : OS w W0 C k n (othL C d n []) := by rw [othL_nil]; exact hS1
  clear hS1
  refine wpIn_rangeFunc_ownF (F := Fence.wide) (n := 9) rfl (by omega) (gf := 87) (lb := #[.pointer (some ⟨w.heap.size + 1 + 1 + 1 + 1 + 1, 0, none⟩), .pointer (some ⟨w.heap.size + 1 + 1 + 1 + 1 + 1 + 1, 0, none⟩)]) rfl trivial (enters_of Try.func87 (by kernel_rfl) rfl)
    (sets_stops 8 (by omega) (w.heap.size + 1 + 1 + 1 + 1 + 1) (w.heap.size + 1 + 1 + 1 + 1 + 1 + 1) n d (2 ^ n) (by omega) rfl W0 (by omega) (by omega) bN.cell bK.cell)
    (fun h k => h.trans k) (kp2_b (by omega) (by omega)) (Below.refl _ _) (fun _ => rfl)
    (fun pre W => OS w W C k n (othL C d n (pre.map (·.1))) ∧ w.heap.size + 7 ≤ W.heap.size)
    (fun _ _ _ => False)
    (by
      rintro t X Y row ⟨hv, hS⟩ hg hrow
      exact ⟨hv.kept hg (fun r e => by have := (hrow r e).1; omega), Nat.le_trans hS hg.size⟩)
    (fun c => fun s A B row hs hg hr => hs)
    ⟨hS2, by omega⟩
    (fun x => { tmps := #[.agg (arr C), .int .i64 k, .int .i64 n, .pointer (some ⟨w.heap.size, 0, none⟩), .pointer (some ⟨w.heap.size + 1, 0, none⟩), .pointer (some ⟨w.heap.size + 1 + 1, 0, none⟩), .pointer (some ⟨w.heap.size + 1 + 1 + 1, 0, none⟩), .pointer (some ⟨w.heap.size + 1 + 1 + 1 + 1, 0, none⟩), .int .i64 (x.1 : Int), .int .i64 n, .int .i64 n, .int .i64 k, .int .i64 d, .func (.func 87) #[] #[.pointer (some ⟨w.heap.size + 1 + 1 + 1 + 1 + 1, 0, none⟩), .pointer (some ⟨w.heap.size + 1 + 1 + 1 + 1 + 1 + 1, 0, none⟩)], .int .i64 (x.1 : Int), undef, undef, undef, undef, undef, undef, undef, undef, undef, undef, undef, undef, undef, undef, undef, undef, undef, undef, undef], defers := [] }) ?assign ?body ?done ?stop
  case assign =>
    intro lp x W K hK
    gi_wp2
    exact hK
  case body =>
    rintro lp pre x W ⟨hO, hzW⟩ hlen
    have hx32 : x.1 < 32 := by have := x.2.1; omega
    have hxn := x.2.1
    have hP := othL_snoc C d n (pre.map (·.1)) x.1
    have hpl := plS_fin ⟨x.1, by omega⟩
    have hd2 : 2 ^ d - 1 < 64 := by have := Nat.pow_le_pow_right (n := 2) (by omega) hd5; omega
    have hpl2 := plS_fin ⟨2 ^ d - 1, hd2⟩
    have hcm := compl_fin ⟨n, by omega⟩ ⟨x.1, hx32⟩ hxn
    simp only at hpl hpl2 hcm
    have E1 := fun (V : World) => placeSum_any x.1 (by omega) V
    have E2 := fun (V : World) => placeSum_any (2 ^ d - 1) (by omega) V
    simp only [hpl.1] at E1
    simp only [hpl2.1] at E2
    have hq1 := hpl.2
    have hq2 := hpl2.2
    have E3 := fun (V : World) => fullSet_any d (by omega) V
    have E4 := fun (V : World) => fullSet_any n (by omega) V
    have hz : othG C d n x.1 = sn (plS x.1 + plS (2 ^ d - 1)) * C (2 ^ n - 1 - x.1) := rfl
    have hzb := othG_bd (d := d) (s := x.1) hC h5
    have hul : 2 ^ n - 1 - x.1 < 32 := by omega
    clear hpl hpl2
    obtain ⟨s, es⟩ : ∃ s, x.1 = s := ⟨_, rfl⟩
    obtain ⟨z, ez⟩ : ∃ z, othG C d n x.1 = z := ⟨_, rfl⟩
    rw [ez] at hz hzb hP
    rw [es] at hx32 hxn hP hcm E1 hq1 hz hul ⊢
    obtain ⟨q1, e1⟩ : ∃ q, plS s = q := ⟨_, rfl⟩
    obtain ⟨f1, e2⟩ : ∃ q, 2 ^ d - 1 = q := ⟨_, rfl⟩
    rw [e1] at hq1 hz
    simp only [e1] at E1
    rw [e2] at hq2 hz
    simp only [e2] at E2 E3
    obtain ⟨q2, e3⟩ : ∃ q, plS f1 = q := ⟨_, rfl⟩
    rw [e3] at hq2 hz
    simp only [e3] at E2
    have E5 := fun (V : World) => signOf_any (q1 + q2) (by omega) V
    have hsn : (sn (q1 + q2)).natAbs = 1 := by unfold sn; split <;> rfl
    obtain ⟨sg0, e4⟩ : ∃ q, sn (q1 + q2) = q := ⟨_, rfl⟩
    rw [e4] at hsn hz
    simp only [e4] at E5
    obtain ⟨u, e5⟩ : ∃ q, 2 ^ n - 1 - s = q := ⟨_, rfl⟩
    rw [e5] at hz hcm hul
    obtain ⟨f2, e6⟩ : ∃ q, 2 ^ n - 1 = q := ⟨_, rfl⟩
    rw [e6] at hcm
    simp only [e6] at E4
    obtain ⟨Y, e7⟩ : ∃ q, C u = q := ⟨_, rfl⟩
    rw [e7] at hz
    have HY := Lib.hid e7
    have hwp : IntKind.i64.wrap ((q1 : Int) + (q2 : Int)) = (q1 : Int) + (q2 : Int) := IntWalk.i64_in _ ⟨by omega, by omega⟩
    have hwz : IntKind.i64.wrap (sg0 * Y) = z := by rw [← hz]; exact IntWalk.i64_in _ ⟨by omega, by omega⟩
    simp only [Int.natCast_add] at E5
    have hu' : ((u : Nat) : Int) < 32 := by omega
    have hs' : ((s : Nat) : Int) < 32 := by omega
    have HP := Lib.hid hP
    replace E1 := Lib.hid E1
    replace E2 := Lib.hid E2
    replace E3 := Lib.hid E3
    replace E4 := Lib.hid E4
    replace E5 := Lib.hid E5
    have hmix : Try.prog.follows .mixedOrders = true := by kernel_rfl
    obtain ⟨D, hD⟩ : ∃ D, othL C d n (pre.map (·.1)) = D := ⟨_, rfl⟩
    rw [hD] at hO
    have HD := Lib.hid hD
    have HES := Lib.hid es
    clear hP es ez e1 e2 e3 e4 e5 e6 e7 hz hD bN bK hS2 hd2
    gi_wp2
    have hS : ArrAt W.drew w.heap.size C ∧ Boxed W.drew (w.heap.size + 1) 3 (.int .i64 k) ∧ Boxed W.drew (w.heap.size + 1 + 1) 3 (.int .i64 n) := ⟨hO.ar, hO.bk, hO.bn⟩
    have hkp : W.grownBy W.drew none := grownDrew0 (World.grownBy.refl W none)
    refine round_region_held (S := fun W' => ArrAt W' w.heap.size C ∧ Boxed W' (w.heap.size + 1) 3 (.int .i64 k) ∧ Boxed W' (w.heap.size + 1 + 1) 3 (.int .i64 n)) hmix (by kernel_rfl) (by rintro ⟨a, w, h⟩; exact h) hS (fun hS => ?_)
    replace hO := hO.drew
    obtain ⟨V0, hV0⟩ : ∃ V, W.drew = V := ⟨_, rfl⟩
    rw [hV0] at hO hS hkp ⊢
    clear hV0
    refine wpAnyH_take (i := 0) (v := .int .i64 s) rfl (by kernel_rfl) (by kernel_rfl) (by kernel_rfl) (fun _ _ _ h => h) (Or.inl ⟨by rfl, fun W' h => by go_simp⟩) hS ?_
    simp only [Act.put, List.setIfInBounds_toArray]
    refine wpAnyH_take (i := 1) (v := .int .i64 s) rfl (by kernel_rfl) (by kernel_rfl) (by kernel_rfl) (fun _ _ _ h => h) (Or.inl ⟨by rfl, fun W' h => by go_simp⟩) hS ?_
    simp only [Act.put]
    refine wpAnyH_take (i := 3) (v := .int .i64 n) rfl (by kernel_rfl) (by kernel_rfl) (by kernel_rfl) (fun _ _ _ h => h) (Or.inl ⟨by rfl, fun W' h => by have hc := h.2.2.cell; go_simp⟩) hS ?_
    simp only [Act.put]
    refine wpAnyH_take (i := 4) (v := .int .i64 k) rfl (by kernel_rfl) (by kernel_rfl) (by kernel_rfl) (fun _ _ _ h => h) (Or.inl ⟨by rfl, fun W' h => by have hc := h.2.1.cell; go_simp⟩) hS ?_
    simp only [Act.put]
    refine wpAnyH_take (i := 5) (v := .int .i64 d) rfl (by kernel_rfl) (by kernel_rfl) (by kernel_rfl) (fun _ _ _ h => h) (Or.inl ⟨by rfl, fun W' h => by go_simp⟩) hS ?_
    simp only [Act.put]
    refine wpAnyH_take (i := 10) (v := .int .i64 n) rfl (by kernel_rfl) (by kernel_rfl) (by kernel_rfl) (fun _ _ _ h => h) (Or.inl ⟨by rfl, fun W' h => by have hc := h.2.2.cell; go_simp⟩) hS ?_
    simp only [Act.put]
    refine wpAnyH_take (i := 12) (v := .int .i64 s) rfl (by kernel_rfl) (by kernel_rfl) (by kernel_rfl) (fun _ _ _ h => h) (Or.inl ⟨by rfl, fun W' h => by go_simp⟩) hS ?_
    simp only [Act.put]
    refine wpAnyH_ready (rs := [2]) (by kernel_rfl) (by simp) (AllReadyH.cons rfl (fun K hK => ?_) AllReadyH.nil)
    go_simp
    go_at_call 75
    refine (E1.out _).mono ?_
    rintro e V1 ⟨rfl, hs⟩
    go_wp2_with fail
    replace hO := hO.since hs
    replace hkp := hkp.trans (grownSince0 hs)
    have hS : ArrAt V1 w.heap.size C ∧ Boxed V1 (w.heap.size + 1) 3 (.int .i64 k) ∧ Boxed V1 (w.heap.size + 1 + 1) 3 (.int .i64 n) := ⟨hO.ar, hO.bk, hO.bn⟩
    refine hK.out _ _ hS (fun _ => ?_)
    clear hK K hs
    refine wpAnyH_ready (rs := [6]) (by kernel_rfl) (by simp) (AllReadyH.cons rfl (fun K hK => ?_) AllReadyH.nil)
    go_simp
    go_at_call 76
    refine (E3.out _).mono ?_
    rintro e w' ⟨rfl, rfl⟩
    go_wp2_with fail
    refine hK.out _ _ hS (fun _ => ?_)
    clear hK K
    refine wpAnyH_ready (rs := [7]) (by kernel_rfl) (by simp) (AllReadyH.cons rfl (fun K hK => ?_) AllReadyH.nil)
    go_simp
    go_at_call 75
    refine (E2.out _).mono ?_
    rintro e V2 ⟨rfl, hs⟩
    go_wp2_with fail
    replace hO := hO.since hs
    replace hkp := hkp.trans (grownSince0 hs)
    have hS : ArrAt V2 w.heap.size C ∧ Boxed V2 (w.heap.size + 1) 3 (.int .i64 k) ∧ Boxed V2 (w.heap.size + 1 + 1) 3 (.int .i64 n) := ⟨hO.ar, hO.bk, hO.bn⟩
    refine hK.out _ _ hS (fun _ => ?_)
    clear hK K hs
    refine wpAnyH_take (i := 8) (v := .int .i64 ((q1 : Int) + (q2 : Int))) rfl (by kernel_rfl) (by kernel_rfl) (by kernel_rfl) (fun _ _ _ h => h) (Or.inl ⟨by rfl, fun W' h => by go_simp⟩) hS ?_
    simp only [Act.put, List.setIfInBounds_toArray]
    refine wpAnyH_ready (rs := [9]) (by kernel_rfl) (by simp) (AllReadyH.cons rfl (fun K hK => ?_) AllReadyH.nil)
    go_simp
    go_at_call 74
    refine (E5.out _).mono ?_
    rintro e w' ⟨rfl, rfl⟩
    go_wp2_with fail
    refine hK.out _ _ hS (fun _ => ?_)
    clear hK K
    refine wpAnyH_ready (rs := [11]) (by kernel_rfl) (by simp) (AllReadyH.cons rfl (fun K hK => ?_) AllReadyH.nil)
    go_simp
    go_at_call 76
    refine (E4.out _).mono ?_
    rintro e w' ⟨rfl, rfl⟩
    go_wp2_with fail
    refine hK.out _ _ hS (fun _ => ?_)
    clear hK K
    refine wpAnyH_take (i := 13) (v := .int .i64 u) rfl (by kernel_rfl) (by kernel_rfl) (by kernel_rfl) (fun _ _ _ h => h) (Or.inl ⟨by rfl, fun W' h => by go_simp⟩) hS ?_
    simp only [Act.put, List.setIfInBounds_toArray]
    refine wpAnyH_take (i := 14) (v := .pointer (some ⟨w.heap.size, u, none⟩)) rfl (by kernel_rfl) (by kernel_rfl) (by kernel_rfl) (fun _ _ _ h => h) (Or.inl ⟨by rfl, fun W' h => by go_simp⟩) hS ?_
    simp only [Act.put]
    refine wpAnyH_take (i := 15) (v := .int .i64 Y) rfl (by kernel_rfl) (by kernel_rfl) (by kernel_rfl) (fun _ _ _ h => h) (Or.inl ⟨by rfl, fun W' h => by have hc := h.1.cell hul; rw [HY.out] at hc; go_simp⟩) hS ?_
    simp only [Act.put]
    refine wpAnyH_take (i := 16) (v := .int .i64 z) rfl (by kernel_rfl) (by kernel_rfl) (by kernel_rfl) (fun _ _ _ h => h) (Or.inl ⟨by rfl, fun W' h => by go_simp⟩) hS ?_
    simp only [Act.put]
    refine wpAnyH_ready (rs := [17]) (by kernel_rfl) (by simp) (AllReadyH.cons rfl (fun K hK => ?_) AllReadyH.nil)
    go_simp
    refine hK.out _ _ hS (fun _ => ?_)
    clear hK K
    have cO := hO.bo.cell hx32
    have fO := hO.bo.frozen s
    refine wpAnyH_ready (rs := [18]) (by kernel_rfl) (by simp) (AllReadyH.cons rfl (fun K hK => ?_) AllReadyH.nil)
    go_simp
    refine hK.out _ _ ⟨hS.1.setOther (by omega) _, hS.2.1.kept (grownSetAt _ _ _ _) (by simp), hS.2.2.kept (grownSetAt _ _ _ _) (by simp)⟩ (fun _ => ?_)
    clear hK K
    refine wpAnyH_done (by kernel_rfl) ?_ _
    have hk1 : KeepsOthers W V2 := KeepsOthers.of_grownBy hkp (fun j o e => by cases e)
    have hz2 := hkp.size
    refine ⟨hk1.trans (KeepsOthers.setCell _ _ _), ?_, ?_, ?_⟩
    · exact (Kp2.grown hkp (by omega) (by omega) (by simp) (by simp)).trans (Kp2.grown (grownSetAt _ _ _ _) (by omega) (by omega) (by simp) (by simp))
    · rw [List.map_append]
      show OS w _ C k n (othL C d n (pre.map (·.1) ++ [x.1]))
      rw [HES.out, HP.out, HD.out]
      exact hO.set hx32
    · simpa [World.setCell] using Nat.le_trans hzW hz2
  case done =>
    rintro D ys W hD hys ⟨hv, hzW⟩ hK
    rw [hys] at hv
    obtain ⟨E, hE⟩ : ∃ E, othL C d n (setsTo d (2 ^ n)) = E := ⟨_, rfl⟩
    rw [hE] at hv
    have HE := Lib.hid hE
    have HB := Lib.hid hv
    have hlt := (Array.getElem?_eq_some_iff.1 hK).1
    have hK2 : (W.setRow (w.heap.size + 1 + 1 + 1) (arr E)).heap[D]? = some (.deferred (some [])) := by
      have : (W.setRow (w.heap.size + 1 + 1 + 1) (arr E)).heap[D]? = W.heap[D]? := by
        simp only [World.setRow]
        rw [Array.getElem?_modify, if_neg (by omega)]
      exact this.trans hK
    have hs2 := sinceRow (row := some D) (since_setRow hv.sn (w.heap.size + 1 + 1 + 1) (arr E) (by omega)) (Nat.le_refl _) (grownBy_putObj' (W.setRow (w.heap.size + 1 + 1 + 1) (arr E)) D (.deferred none)) (fun r e => by cases e; omega)
    have hb2 := (ArrAt.row (D := E) hv.br).kept (grownBy_putObj' (W.setRow (w.heap.size + 1 + 1 + 1) (arr E)) D (.deferred none)) (fun e => by injection e; omega)
    have HK2 := Lib.hid hK2
    have HS2 := Lib.hid hs2
    have HB2 := Lib.hid hb2
    clear hv hE hys hK2 hs2 hb2 bN bK hS2
    gi_wp2_with (first
      | (with_reducible (show wpListIn _ _ _ _ _ (Oper.mk _ (Op.load _ _) 48 _ _ _ :: _) _ _); refine wpListIn_load_arr rfl _ rfl _ rfl E HB.out.bo ?_)
      | (with_reducible (show wpListIn _ _ _ _ _ (Oper.mk _ (Op.store 48 _ _) _ _ _ _ :: _) _ _); refine wpListIn_store_arr rfl _ _ rfl _ rfl _ E HB.out.br rfl ?_))
    refine ⟨by simp, .inl ⟨_, _, rfl, run_takeDeferred HK2.out, ?_⟩⟩
    refine ⟨.agg (arr E), results_cell_row rfl _ _ (w.heap.size + 1 + 1 + 1) 48 _ _ _ rfl HB2.out und48 rfl (info48c _), by rw [HE.out], HS2.out⟩
  case stop =>
    rintro D c pre W hD hpre hF hK
    exact hF.elim

end Go.Proofs.Ytbedkjpbdkgjpaa

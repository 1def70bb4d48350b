/- The contracts of coordinates.related and impl.PlaceRelated. -/
import Derived.Test.YtbedkjpbdkgjpaaExch
import Derived.WalkHide
namespace Go.Proofs.Ytbedkjpbdkgjpaa
open Go.RowKit Go.Deep Go.Shelf
attribute [local go_sem] Oper.semAt_some

/-- An exchange of a set of few with a set of many, summed up. -/
def exS (C : Nat → Int) (a b : Nat) : Int := sumC (exT C a b) (sel (dif b a) 5 5)
/-- Is there an exchange with the set a whose sum is not 0? -/
def relR (C : Nat → Int) (k M : Nat) (a : Nat) : Bool := (setsTo k M).any fun b => decide (exS C a b ≠ 0)
def relN (C : Nat → Int) (k1 k2 M : Nat) : Bool := (setsTo k1 M).any (relR C k2 M)

/-- What lies while related runs. -/
structure RS (w W : World) (C : Nat → Int) (k n : Nat) : Prop where
  ar : ArrAt W w.heap.size C
  bk : Boxed W (w.heap.size + 1) 3 (.int .i64 k)
  bn : Boxed W (w.heap.size + 2) 3 (.int .i64 n)
  br : Boxed W (w.heap.size + 3) 4 (.bool false)
  sn : w.Since w.heap.size W
theorem RS.kept {w W W' : World} {C : Nat → Int} {k n : Nat} {row : Option Nat} (h : RS w W C k n) (hg : W.grownBy W' row) (hr : ∀ r, row = some r → w.heap.size + 4 ≤ r) : RS w W' C k n :=
  ⟨h.ar.kept hg (fun e => by have := hr _ e.symm; omega), h.bk.kept hg (fun e => by have := hr _ e.symm; omega), h.bn.kept hg (fun e => by have := hr _ e.symm; omega), h.br.kept hg (fun e => by have := hr _ e.symm; omega),
    sinceRow h.sn (Nat.le_refl _) hg (fun r e => by have := hr r e; omega)⟩
theorem rs_start (w : World) (C : Nat → Int) (k n : Nat) : RS w ((((w.alloc (.cells (arr C) 48)).alloc (.cells #[.int .i64 k] 3)).alloc (.cells #[.int .i64 n] 3)).alloc (.cells #[.bool false] 4)) C k n := by
  have b1 := Boxed.new (w.alloc (.cells (arr C) 48)) 3 (.int .i64 k)
  have b2 := Boxed.new ((w.alloc (.cells (arr C) 48)).alloc (.cells #[.int .i64 k] 3)) 3 (.int .i64 n)
  have b3 := Boxed.new (((w.alloc (.cells (arr C) 48)).alloc (.cells #[.int .i64 k] 3)).alloc (.cells #[.int .i64 n] 3)) 4 (.bool false)
  simp only [World.size_alloc] at b1 b2 b3
  exact ⟨(((ArrAt.new _ _).alloc _).alloc _).alloc _, (b1.alloc _).alloc _, b2.alloc _, b3, ((((World.Since.refl _ w).alloc (Nat.le_refl _) _).alloc (by simp) _).alloc (by simp; omega) _).alloc (by simp; omega) _⟩

theorem grownDrew {a b : World} {row : Option Nat} (h : a.grownBy b row) : a.grownBy b.drew row := ⟨h.os, h.tape, h.output, h.size, h.block⟩

set_option maxRecDepth 100000 in
set_option maxHeartbeats 4000000 in
theorem related_any (C : Nat → Int) (k n : Nat) (hk : 1 ≤ k) (hkn : k ≤ 5) (h5 : n ≤ 5) (hC : fitB C = true) (w : World) :
    Calls Try.prog 50 #[.agg (arr C), .int .i64 k, .int .i64 n] w fun e w' => e = .returned (.bool (!relN C (k - 1) (k + 1) (2 ^ n))) ∧ w.Since w.heap.size w' := by
  have hM : 2 ^ n ≤ 32 := pow_le5 h5
  have hw1 : IntKind.i64.wrap ((k : Int) - 1) = ((k - 1 : Nat) : Int) := (IntWalk.i64_in _ ⟨by omega, by omega⟩).trans (by omega)
  have hw2 : IntKind.i64.wrap ((k : Int) + 1) = ((k + 1 : Nat) : Int) := (IntWalk.i64_in _ ⟨by omega, by omega⟩).trans (by omega)
  obtain ⟨ka, hka⟩ : ∃ x, k - 1 = x := ⟨_, rfl⟩
  obtain ⟨kb, hkb⟩ : ∃ x, k + 1 = x := ⟨_, rfl⟩
  rw [hka] at hw1 ⊢
  rw [hkb] at hw2 ⊢
  clear hka hkb
  refine (callsIn_wide (n := 20)).1 ?_
  refine callsIn_of_wp_marks Try.func50 rfl trivial ?_ rfl
  simp only [Try.ntmps50, List.size_toArray, List.length_cons, List.length_nil, Nat.reduceAdd, Nat.reduceSub, Array.replicate_succ, Array.replicate_zero, List.push_toArray, List.append_toArray, List.nil_append, List.cons_append]
  gi_wp2_with (refine ⟨trivial, ?_⟩; gi_at_call 70; refine (sets_in 19 _ _ _).mono ?_; rintro e w' ⟨rfl, rfl⟩)
  have hS0 := rs_start w C k n
  obtain ⟨w5, hw5⟩ : ∃ W, ((((w.alloc (.cells (arr C) 48)).alloc (.cells #[.int .i64 k] 3)).alloc (.cells #[.int .i64 n] 3)).alloc (.cells #[.bool false] 4)) = W := ⟨_, rfl⟩
  have z5 : w5.heap.size = w.heap.size + 1 + 1 + 1 + 1 := by rw [← hw5]; simp
  rw [hw5] at hS0 ⊢
  clear hw5
  have bN := (Boxed.new w5 3 (.int .i64 n)).alloc (.cells #[.int .i64 ka] 3)
  have bK := Boxed.new (w5.alloc (.cells #[.int .i64 n] 3)) 3 (.int .i64 ka)
  have hS1 := (hS0.kept (World.grownBy_alloc w5 (.cells #[.int .i64 n] 3) none) (fun r e => by cases e)).kept (World.grownBy_alloc _ (.cells #[.int .i64 ka] 3) none) (fun r e => by cases e)
  have z7 : ((w5.alloc (.cells #[.int .i64 n] 3)).alloc (.cells #[.int .i64 ka] 3)).heap.size = w.heap.size + 6 := by simp [z5]
  simp only [World.size_alloc] at bK
  rw [z5] at bN bK
  obtain ⟨W0, hW0⟩ : ∃ W, (w5.alloc (.cells #[.int .i64 n] 3)).alloc (.cells #[.int .i64 ka] 3) = W := ⟨_, rfl⟩
  rw [hW0] at bN bK hS1 z7 ⊢
  clear hW0 z5 hS0
  have hS2 : w.heap.size + 6 ≤ W0.heap.size := by omega
  refine wpIn_rangeFunc_ownH rfl (by omega) (gf := 87) (lb := #[.pointer (some ⟨w.heap.size + 1 + 1 + 1 + 1, 0, none⟩), .pointer (some ⟨w.heap.size + 1 + 1 + 1 + 1 + 1, 0, none⟩)]) rfl trivial (enters_of Try.func87 (by kernel_rfl) rfl)
    (sets_stops 19 (by omega) (w.heap.size + 1 + 1 + 1 + 1) (w.heap.size + 1 + 1 + 1 + 1 + 1) n ka (2 ^ n) (by omega) rfl W0 (by omega) (by omega) bN.cell bK.cell)
    (fun h k => h.trans k) (kp2_b (by omega) (by omega)) (Below.refl _ _) (fun _ => rfl)
    (fun pre W => (RS w W C k n ∧ w.heap.size + 6 ≤ W.heap.size) ∧ (pre.map (·.1)).any (relR C kb (2 ^ n)) = false)
    (fun c _ W => c = .ret ∧ Boxed W (w.heap.size + 3) 4 (.bool false) ∧ w.Since w.heap.size W ∧ relN C ka kb (2 ^ n) = true)
    (fun s X Y row hs hg hr => ⟨⟨hs.1.1.kept hg (fun r e => by have := (hr r e).1; omega), Nat.le_trans hs.1.2 hg.size⟩, hs.2⟩)
    (fun c s X Y row hs hg hr => ⟨hs.1, hs.2.1.kept hg (fun e => by have := (hr _ e.symm).1; omega), sinceRow hs.2.2.1 (Nat.le_refl _) hg (fun r e => by have := (hr r e).1; omega), hs.2.2.2⟩)
    ⟨⟨hS1, hS2⟩, rfl⟩
    (fun x a' W => ∃ Bx, w.heap.size + 6 ≤ Bx ∧ Boxed W Bx 3 (.int .i64 (x.1 : Int)) ∧ a' = { tmps := #[.agg (arr C), .int .i64 k, .int .i64 n, .pointer (some ⟨w.heap.size, 0, none⟩), .pointer (some ⟨w.heap.size + 1, 0, none⟩), .pointer (some ⟨w.heap.size + 1 + 1, 0, none⟩), .pointer (some ⟨w.heap.size + 1 + 1 + 1, 0, none⟩), .pointer (some ⟨Bx, 0, none⟩), undef, .int .i64 n, .int .i64 k, .int .i64 ka, .func (.func 87) #[] #[.pointer (some ⟨w.heap.size + 1 + 1 + 1 + 1, 0, none⟩), .pointer (some ⟨w.heap.size + 1 + 1 + 1 + 1 + 1, 0, none⟩)], .int .i64 (x.1 : Int), undef, undef, undef, undef, undef, undef, undef, undef, undef, undef], defers := [] })
    (fun x a' _ X Y row hs hg hr => by obtain ⟨Bx, h1, h2, h3⟩ := hs; exact ⟨Bx, h1, boxed_own Bx 3 (fun (_ : Unit) => Value.int .i64 (x.1 : Int)) () X Y row h2 hg (fun r e => (hr r e).2), h3⟩)
    ?assign ?body ?done ?stop
  case assign =>
    rintro l2 pre x W K ⟨⟨hS, hz⟩, hp⟩ hK
    gi_wp2
    exact hK _ _ ((KeepsOthers.alloc _ _).from _) (Kp2.grown (World.grownBy_alloc _ _ none) (by omega) (by omega) (by simp) (by simp)) ⟨⟨hS.kept (World.grownBy_alloc _ _ none) (fun r e => by cases e), by simp; omega⟩, hp⟩ ⟨W.heap.size, hz, Boxed.new W 3 _, rfl⟩
  case body =>
    rintro l2 pre x a' W hl ⟨r, hr⟩ ⟨⟨hS, hz⟩, hp⟩ ⟨Bx, hBx, bX, rfl⟩ hlt
    have cK := hS.bk.cell
    have cN := hS.bn.cell
    gi_wp2_with (refine ⟨trivial, ?_⟩; gi_at_call 70; refine (CallsIn.inRound l2 (sets_in 17 _ _ _)).mono ?_; rintro e w' ⟨rfl, rfl⟩)
    have bN2 := (Boxed.new W 3 (.int .i64 n)).alloc (.cells #[.int .i64 kb] 3)
    have bK2 : Boxed ((W.alloc (.cells #[.int .i64 n] 3)).alloc (.cells #[.int .i64 kb] 3)) (W.heap.size + 1) 3 (.int .i64 kb) := by
      have := Boxed.new (W.alloc (.cells #[.int .i64 n] 3)) 3 (.int .i64 kb)
      rw [World.size_alloc] at this
      exact this
    have hgV : W.grownBy ((W.alloc (.cells #[.int .i64 n] 3)).alloc (.cells #[.int .i64 kb] 3)) none := (World.grownBy_alloc W (.cells #[.int .i64 n] 3) none).trans (World.grownBy_alloc _ (.cells #[.int .i64 kb] 3) none)
    have zV : ((W.alloc (.cells #[.int .i64 n] 3)).alloc (.cells #[.int .i64 kb] 3)).heap.size = W.heap.size + 2 := by simp
    obtain ⟨V, hV⟩ : ∃ V, (W.alloc (.cells #[.int .i64 n] 3)).alloc (.cells #[.int .i64 kb] 3) = V := ⟨_, rfl⟩
    rw [hV] at bN2 bK2 hgV zV ⊢
    clear hV
    have hrl := (Array.getElem?_eq_some_iff.1 hr).1
    have hrV : V.heap[l2]? = some (.loop r) := (hgV.block l2 hrl (by simp)).trans hr
    have hSV := hS.kept hgV (fun r e => by cases e)
    have hxx := x.2
    refine wpIn_rangeFunc_ownN (l₀ := l2) (r₀ := r) rfl hrV (by omega) (gf := 87) (lb := #[.pointer (some ⟨W.heap.size, 0, none⟩), .pointer (some ⟨W.heap.size + 1, 0, none⟩)]) rfl trivial (enters_of Try.func87 (by kernel_rfl) rfl)
      ((sets_stops 17 (by omega) W.heap.size (W.heap.size + 1) n kb (2 ^ n) (by omega) rfl V (by omega) (by omega) bN2.cell bK2.cell).inRound l2)
      (fun h k => h.trans k) (kp2_b (by omega) (by omega)) (Below.refl _ _) (fun _ => rfl)
      (fun pre' W' => ((RS w W' C k n ∧ W.heap.size + 2 ≤ W'.heap.size) ∧ Boxed W' Bx 3 (.int .i64 (x.1 : Int))) ∧ ((pre'.map (·.1)).any (fun b => decide (exS C x.1 b ≠ 0)) = false ∧ KeepsFrom W0.heap.size W W' ∧ Kp2 (w.heap.size + 1 + 1 + 1 + 1) (w.heap.size + 1 + 1 + 1 + 1 + 1) W W'))
      (fun c _ W' => c = .ret ∧ Boxed W' (w.heap.size + 3) 4 (.bool false) ∧ w.Since w.heap.size W' ∧ relN C ka kb (2 ^ n) = true ∧ KeepsFrom W0.heap.size W W')
      (fun s X Y row hs hg hr => ⟨⟨⟨hs.1.1.1.kept hg (fun r e => by have := (hr r e).1; omega), Nat.le_trans hs.1.1.2 hg.size⟩, boxed_own Bx 3 (fun (_ : Unit) => Value.int .i64 (x.1 : Int)) () X Y row hs.1.2 hg (fun r e => (hr r e).2)⟩,
        hs.2.1, ownFrom_keepsFrom (w₀ := W) (B := W0.heap.size) (B' := V.heap.size) (by omega) () X Y row hs.2.2.1 hg hr, hs.2.2.2.trans (Kp2.grown hg (by have := hs.1.1.2; omega) (by have := hs.1.1.2; omega) (fun e => by have := (hr _ e).1; omega) (fun e => by have := (hr _ e).1; omega))⟩)
      (fun c s X Y row hs hg hr => ⟨hs.1, hs.2.1.kept hg (fun e => by have := (hr _ e.symm).1; omega), sinceRow hs.2.2.1 (Nat.le_refl _) hg (fun r e => by have := (hr r e).1; omega), hs.2.2.2.1, ownFrom_keepsFrom (w₀ := W) (B := W0.heap.size) (B' := V.heap.size) (by omega) () X Y row hs.2.2.2.2 hg hr⟩)
      ⟨⟨⟨hSV, by omega⟩, bX.kept hgV (by simp)⟩, rfl, KeepsFrom.of_grownBy hgV (fun j e => by cases e), Kp2.grown hgV (by omega) (by omega) (by simp) (by simp)⟩
      (fun y a'' _ => a'' = { tmps := #[.agg (arr C), .int .i64 k, .int .i64 n, .pointer (some ⟨w.heap.size, 0, none⟩), .pointer (some ⟨w.heap.size + 1, 0, none⟩), .pointer (some ⟨w.heap.size + 1 + 1, 0, none⟩), .pointer (some ⟨w.heap.size + 1 + 1 + 1, 0, none⟩), .pointer (some ⟨Bx, 0, none⟩), .int .i64 (y.1 : Int), .int .i64 n, .int .i64 k, .int .i64 ka, .func (.func 87) #[] #[.pointer (some ⟨w.heap.size + 1 + 1 + 1 + 1, 0, none⟩), .pointer (some ⟨w.heap.size + 1 + 1 + 1 + 1 + 1, 0, none⟩)], .int .i64 (x.1 : Int), .int .i64 n, .int .i64 k, .int .i64 kb, .func (.func 87) #[] #[.pointer (some ⟨W.heap.size, 0, none⟩), .pointer (some ⟨W.heap.size + 1, 0, none⟩)], .int .i64 (y.1 : Int), undef, undef, undef, undef, undef], defers := [] })
      (fun _ _ _ _ _ _ hs _ _ => hs)
      ?assign2 ?body2 ?done2 ?stop2
    case assign2 =>
      rintro l3 pre' y W' K hi hK
      gi_wp2
      exact hK _ _ (KeepsFrom.refl _ _) (Kp2.refl _ _ _) hi rfl
    case body2 =>
      rintro l3 pre' y a'' W' _ _ ⟨⟨⟨hS', hz'⟩, bX'⟩, hp', hKF, hK2⟩ rfl hlt'
      have hyy := y.2
      have EX := fun (V : World) => exch_any C x.1 y.1 (by omega) (by omega) hC V
      obtain ⟨v, hv⟩ : ∃ v, sumC (exT C x.1 y.1) (sel (dif y.1 x.1) 5 5) = v := ⟨_, rfl⟩
      have HV := Lib.hid (show exS C x.1 y.1 = v from hv)
      simp only [hv] at EX
      replace EX := Lib.hid EX
      have HA := Lib.hid hS'.ar
      have cX' := bX'.cell
      have hzz : w.heap.size + 6 ≤ W'.heap.size := by omega
      have HFIN := Lib.hid (show ∀ (V2 : World), W'.Since W'.heap.size V2 →
          RS w V2 C k n ∧ W'.heap.size ≤ V2.heap.size ∧ Boxed V2 Bx 3 (.int .i64 (x.1 : Int)) ∧ (∀ B, KeepsFrom B W' V2) ∧ Kp2 (w.heap.size + 1 + 1 + 1 + 1) (w.heap.size + 1 + 1 + 1 + 1 + 1) W' V2 ∧ Kp2 W.heap.size (W.heap.size + 1) W' V2 from
        fun V2 hs => by
          have h2 : W'.grownBy V2 none := ⟨hs.os, hs.tape, hs.output, hs.size, fun k hk _ => hs.block k hk⟩
          exact ⟨hS'.kept h2 (fun r e => by cases e), hs.size, bX'.kept h2 (by simp), fun B => KeepsFrom.of_grownBy h2 (fun j e => by cases e),
            Kp2.grown h2 (by omega) (by omega) (by simp) (by simp), Kp2.grown h2 (by omega) (by omega) (by simp) (by simp)⟩)
      by_cases hv0 : v = 0
      · subst hv0
        gi_wp2_with (first
          | (with_reducible (show wpListIn _ _ _ _ _ (Oper.mk _ (Op.load 48 _) _ _ _ _ :: _) _ _); refine wpListIn_load_arr rfl _ rfl _ rfl C HA.out ?_)
          | (refine ⟨trivial, ?_⟩; gi_at_call 73; refine (CallsIn.inRound l3 (CallsIn.inRound l2 (callsIn_wide.2 (EX.out _)))).mono ?_; rintro e V2 ⟨rfl, hs2⟩; have HS2 := Lib.hid hs2; clear hs2))
        obtain ⟨q1, q2, q3, q4, q5, q6⟩ := HFIN.out _ HS2.out
        refine ⟨q4 _, q6, ⟨⟨q1, by omega⟩, q3⟩, ?_, hKF.trans (q4 _), hK2.trans q5⟩
        rw [List.map_append, List.any_append, hp', Bool.false_or]
        show (decide (exS C x.1 y.1 ≠ 0) || false) = false
        rw [HV.out]
        rfl
      · have hvb : (v == 0) = false := by simpa using hv0
        have hvn : (v != 0) = true := by simpa using hv0
        have hbb : relN C ka kb (2 ^ n) = true := List.any_eq_true.2 ⟨x.1, (setsTo_mem ka).2 hxx, List.any_eq_true.2 ⟨y.1, (setsTo_mem kb).2 hyy, by rw [HV.out]; simpa using hv0⟩⟩
        gi_wp2_with (first
          | (with_reducible (show wpListIn _ _ _ _ _ (Oper.mk _ (Op.load 48 _) _ _ _ _ :: _) _ _); refine wpListIn_load_arr rfl _ rfl _ rfl C HA.out ?_)
          | (refine ⟨trivial, ?_⟩; gi_at_call 73; refine (CallsIn.inRound l3 (CallsIn.inRound l2 (callsIn_wide.2 (EX.out _)))).mono ?_; rintro e V2 ⟨rfl, hs2⟩; have HS2 := Lib.hid hs2; have cR := (HFIN.out _ hs2).1.br.cell; have fR := (HFIN.out _ hs2).1.br.frozen; clear hs2))
        obtain ⟨q1, q2, q3, q4, q5, q6⟩ := HFIN.out _ HS2.out
        exact ⟨(q4 _).trans ((KeepsOthers.setCell _ _ _).from _), rfl, q1.br.set _, q1.sn.setCell (by simp; omega) _, hbb, (hKF.trans (q4 _)).trans ((KeepsOthers.setCell _ _ _).from _)⟩
    case done2 =>
      rintro ys' W' hys ⟨⟨⟨hS', hz'⟩, bX'⟩, hp', hKF, hK2⟩
      gi_wp2
      refine ⟨hKF, hK2, ⟨hS', by omega⟩, ?_⟩
      rw [List.map_append, List.any_append, hp, Bool.false_or]
      rw [hys] at hp'
      show (relR C kb (2 ^ n) x.1 || false) = false
      rw [Bool.or_false]
      exact hp'
    case stop2 =>
      rintro c pre' W' _ ⟨rfl, bR, hs, hb, hKF⟩
      gi_wp2
      exact ⟨hKF, rfl, bR, hs, hb⟩
  case done =>
    rintro D zs W hD hzs ⟨⟨hS, hz⟩, hp⟩ hK
    have cS := hS.br.cell
    have fS := hS.br.frozen
    have hb : relN C ka kb (2 ^ n) = false := by
      show (setsTo ka (2 ^ n)).any (relR C kb (2 ^ n)) = false
      rw [← hzs]; exact hp
    have hlt := (Array.getElem?_eq_some_iff.1 hK).1
    have hK2 : (W.setCell ⟨w.heap.size + 1 + 1 + 1, 0, none⟩ (.bool true)).heap[D]? = some (.deferred (some [])) := ((grownBy_setCell' W (w.heap.size + 1 + 1 + 1) (.bool true)).block D hlt (fun e => by injection e; omega)).trans hK
    have hB3 := (hS.br.set (.bool true)).kept (grownBy_putObj' (W.setCell ⟨w.heap.size + 1 + 1 + 1, 0, none⟩ (.bool true)) D (.deferred none)) (fun e => by injection e; omega)
    have cB := hB3.cell
    have hsn := sinceRow (row := some D) (hS.sn.setCell (a := ⟨w.heap.size + 1 + 1 + 1, 0, none⟩) (by simp; omega) (.bool true)) (Nat.le_refl _) (grownBy_putObj' (W.setCell ⟨w.heap.size + 1 + 1 + 1, 0, none⟩ (.bool true)) D (.deferred none)) (fun r e => by cases e; omega)
    gi_wp2
    refine ⟨by simp, .inl ⟨_, _, rfl, run_takeDeferred hK2, ?_⟩⟩
    refine ⟨.bool true, ?_, by rw [hb]; rfl, hsn⟩
    have cB' := cB
    simp [results, Try.f50, go_sem, cB']
  case stop =>
    rintro D c pre W hD _ ⟨rfl, bR, hs, hb⟩ hK
    have hlt := (Array.getElem?_eq_some_iff.1 hK).1
    have hB3 := bR.kept (grownBy_putObj' W D (.deferred none)) (fun e => by injection e; omega)
    have cB := hB3.cell
    have hsn := sinceRow (row := some D) hs (Nat.le_refl _) (grownBy_putObj' W D (.deferred none)) (fun r e => by cases e; omega)
    gi_wp2
    refine ⟨by simp, .inl ⟨_, _, rfl, run_takeDeferred hK, ?_⟩⟩
    refine ⟨.bool false, ?_, by rw [hb]; rfl, hsn⟩
    have cB' := cB
    simp [results, Try.f50, go_sem, cB']

theorem relN_congr {f g : Nat → Int} : ∀ n, (∀ c, c < n → f c = g c) → sumN f n = sumN g n
  | 0, _ => rfl
  | n + 1, h => by
    show sumN f n + f n = sumN g n + g n
    rw [relN_congr n (fun c hc => h c (by omega)), h n (by omega)]
theorem sumN_cut (f : Nat → Int) {n : Nat} : ∀ m, n ≤ m → sumN (fun c => if c < n then f c else 0) m = sumN f n
  | 0, h => by obtain rfl : n = 0 := by omega
               rfl
  | m + 1, h => by
    by_cases e : n = m + 1
    · subst e
      exact relN_congr _ (fun c hc => if_pos hc)
    · have ih := sumN_cut f (n := n) m (by omega)
      show sumN _ m + (if m < n then f m else 0) = _
      rw [ih, if_neg (by omega), Int.add_zero]

theorem exS_rel {k n : Nat} {p : List Int} (h5 : n ≤ 5) {a b : Nat} (ha : a < 2 ^ n) (hb : b < 2 ^ n) (hka : popcS a + 1 = k) (hkb : popcS b = k + 1) : exS (crd k n p) a b = relS n p a b := by
  have hpw := pow_le5 h5
  unfold exS relS
  rw [sumC_sel _ _ 5 (Nat.le_refl _), ← sumN_cut (relT p a b) 5 h5]
  refine relN_congr 5 (fun c hc => ?_)
  obtain ⟨_, _, h3⟩ := dif_fin ⟨b, by omega⟩ ⟨a, by omega⟩
  have h4 := h3 ⟨c, hc⟩
  simp only at h4
  rw [h4]
  by_cases hcn : c < n
  · rw [if_pos hcn]
    by_cases hbc : b.testBit c = true ∧ a.testBit c = false
    · rw [if_pos (by rw [hbc.1, hbc.2]; rfl), relT_yes hbc.1 hbc.2, sg_sn]
      obtain ⟨_, _, e3⟩ := relC_fin ⟨n, by omega⟩ ⟨a, by omega⟩ ⟨b, by omega⟩ ⟨c, hc⟩ ha hb hcn
      simp only at e3
      obtain ⟨_, _, x3, x4, x5, _⟩ := e3 hbc.1 hbc.2
      have hb2 : b - 2 ^ c < 2 ^ n := Nat.lt_of_le_of_lt (Nat.sub_le _ _) hb
      rw [← pcQ_of (s := a) (by omega), ← pcQ_of (s := a ||| 2 ^ c) (by omega)] at x3
      rw [← pcQ_of (s := b) (by omega), ← pcQ_of (s := b - 2 ^ c) (by omega)] at x4
      unfold exT
      have e1 : offC b c = b - 2 ^ c := if_pos hbc.1
      have e2 : crd k n p (a ||| 2 ^ c) = atP p (a ||| 2 ^ c) := if_pos ⟨x5, by omega⟩
      have e4 : crd k n p (b - 2 ^ c) = atP p (b - 2 ^ c) := if_pos ⟨hb2, by omega⟩
      rw [e1, e2, e4, Int.mul_assoc]
    · rw [relT_no hbc, if_neg]
      intro h
      simp at h
      exact hbc h
  · rw [if_neg hcn, if_neg]
    have : b.testBit c = false := Nat.testBit_lt_two_pow (Nat.lt_of_lt_of_le hb (Nat.pow_le_pow_right (by omega) (by omega)))
    rw [this]
    simp

theorem relN_rel {k n : Nat} {p : List Int} (h1 : 1 ≤ k) (h5 : n ≤ 5) : (!relN (crd k n p) (k - 1) (k + 1) (2 ^ n)) = relOk k n p := by
  unfold relN relOk relR
  rw [Bool.eq_iff_iff]
  simp only [Bool.not_eq_true', List.any_eq_false, List.all_eq_true, decide_eq_true_eq, List.any_eq_true, not_exists, not_and, Decidable.not_not]
  constructor
  · intro h a ha b hb
    have h2 := (setsTo_mem _).1 ha
    have h3 := (setsTo_mem _).1 hb
    rw [← exS_rel (k := k) h5 h2.1 h3.1 (by omega) h3.2]
    exact h a ha b hb
  · intro h a ha b hb
    have h2 := (setsTo_mem _).1 ha
    have h3 := (setsTo_mem _).1 hb
    rw [exS_rel (k := k) h5 h2.1 h3.1 (by omega) h3.2]
    exact h a ha b hb

set_option maxRecDepth 100000 in
set_option maxHeartbeats 1000000 in
theorem implPlaceRelated_any (k n : Int) (a : Option Addr) (cap m : Nat) (p : List Int) (w : World) (hm : p.length = m) (_hmx : m ≤ 1048576) (hr : RowR w a p) :
    Calls Try.prog 20 #[.int .i64 k, .int .i64 n, .slice a m cap] w fun e w' => e = .returned (.bool (relB k n p)) ∧ w.Since w.heap.size w' := by
  have E := told_any k n a cap m p w hm hr
  unfold ToldP at E
  cases hb : placeB k n p with
  | false =>
    have hres : relB k n p = false := by unfold relB; rw [hb]; rfl
    rw [hb] at E
    rw [hres]
    replace E := Lib.hid E
    clear hb hr hm hres
    go_enter Try.func20, Try.ntmps20
    go_wp2_with (first
      | (go_at_call 46; refine (E.out).mono ?_; rintro e w2 ⟨C, rfl, hs, _⟩; have HS := Lib.hid hs; clear hs)
      | (with_reducible (show wpList _ _ _ (Oper.mk _ (Op.store 48 _ _) _ _ _ _ :: _) _ _); rw [zero_lit]; refine wpList_store_arr rfl _ _ rfl _ rfl _ _ (ArrAt.new _ _) rfl ?_)
      | (with_reducible (show wpList _ _ _ (Oper.mk _ (Op.load _ _) 48 _ _ _ :: _) _ _); refine wpList_load_arr rfl _ rfl _ rfl C (ArrAt.row (ArrAt.new _ _)) ?_))
    go_ret
    exact ⟨rfl, since_setRow (HS.out.alloc HS.out.size _) _ _ HS.out.size⟩
  | true =>
    obtain ⟨k', n', rfl, rfl, hk1, hkn, h5, hl, hp⟩ := placeB_of hb
    rw [hb] at E
    have hfit : fitB (crd k' n' p) = true := by rw [crd_fit h5 hl]; exact decide_eq_true hp
    have hres : relB (k' : Nat) (n' : Nat) p = !relN (crd k' n' p) (k' - 1) (k' + 1) (2 ^ n') := by unfold relB; rw [hb, relN_rel hk1 h5]; rfl
    have ER := fun (W : World) => related_any (crd k' n' p) k' n' hk1 (by omega) h5 hfit W
    rw [hres]
    simp only [Int.toNat_natCast] at E
    obtain ⟨D, hD⟩ : ∃ D, crd k' n' p = D := ⟨_, rfl⟩
    rw [hD] at ER E ⊢
    obtain ⟨res, hr2⟩ : ∃ r, (!relN D (k' - 1) (k' + 1) (2 ^ n')) = r := ⟨_, rfl⟩
    rw [hr2] at ER ⊢
    replace E := Lib.hid E
    replace ER := Lib.hid ER
    clear hb hr hm hres hD hr2 hfit hl hp
    go_enter Try.func20, Try.ntmps20
    go_wp2_with (first
      | (go_at_call 46; refine (E.out).mono ?_; rintro e w2 ⟨C, rfl, hs, hc⟩; rw [hc trivial]; have HS := Lib.hid hs; clear hs hc)
      | (with_reducible (show wpList _ _ _ (Oper.mk _ (Op.store 48 _ _) _ _ _ _ :: _) _ _); rw [zero_lit]; refine wpList_store_arr rfl _ _ rfl _ rfl _ _ (ArrAt.new _ _) rfl ?_)
      | (with_reducible (show wpList _ _ _ (Oper.mk _ (Op.load _ _) 48 _ _ _ :: _) _ _); refine wpList_load_arrG rfl _ rfl _ rfl D (ArrAt.row (ArrAt.new _ _)) ?_)
      | (go_at_call 50; refine (ER.out _).mono ?_; rintro e w3 ⟨rfl, hs3⟩))
    have t3 := since_setRow (HS.out.alloc HS.out.size (.cells (arr fun _ => 0) 48)) w2.heap.size (arr D) HS.out.size
    have t4 := t3.trans (since_mono hs3 t3.size)
    go_ret
    exact ⟨rfl, t4⟩

end Go.Proofs.Ytbedkjpbdkgjpaa

/- Is there a minor of k rows that is not 0: the contract of the method hasMinor. -/
import Derived.Test.YtggmiojhglkcgaaSetsK
import Derived.Test.YtggmiojhglkcgaaMinorJ
import Derived.WalkHide
namespace Go.Proofs.Ytggmiojhglkcgaa
open Go.RowKit Go.Deep Go.Shelf

attribute [local go_sem] Oper.semAt_some

/-- Has the table a minor of k rows, of the sets of rows rs, that is not 0? -/
def hasR (l : List (List Int)) (k M2 : Nat) (r : Nat) : Bool := (setsTo k M2).any fun c => decide (dt k (at2 (partL l r c)) ≠ 0)
def hasB (l : List (List Int)) (k M1 M2 : Nat) : Bool := (setsTo k M1).any (hasR l k M2)

/-- What lies while hasMinor runs. -/
structure HS (w W : World) (tv kv : Value) : Prop where
  bt : Boxed W w.heap.size 59 tv
  bk : Boxed W (w.heap.size + 1) 3 kv
  br : Boxed W (w.heap.size + 2) 4 (.bool false)
  bm : Boxed W (w.heap.size + 4) 81 (.map (some (w.heap.size + 3)))
  rd : RoadsAt W (w.heap.size + 3)
  sn : w.Since w.heap.size W
theorem since_row {lo : Nat} {w W W' : World} {row : Option Nat} (h : w.Since lo W) (hlo : lo ≤ w.heap.size) (hg : W.grownBy W' row) (hr : ∀ r, row = some r → lo ≤ r) : w.Since lo W' :=
  ⟨hg.os.trans h.os, hg.tape.trans h.tape, hg.output.trans h.output, Nat.le_trans h.size hg.size, fun k hk => (hg.block k (by have := h.size; omega) (fun e => by have := hr k e.symm; omega)).trans (h.block k hk)⟩
theorem HS.kept {w W W' : World} {tv kv : Value} {row : Option Nat} (h : HS w W tv kv) (hg : W.grownBy W' row) (hr : ∀ r, row = some r → w.heap.size + 5 ≤ r) : HS w W' tv kv :=
  ⟨h.bt.kept hg (fun e => by have := hr _ e.symm; omega), h.bk.kept hg (fun e => by have := hr _ e.symm; omega), h.br.kept hg (fun e => by have := hr _ e.symm; omega), h.bm.kept hg (fun e => by have := hr _ e.symm; omega),
    h.rd.kept hg (fun e => by have := hr _ e.symm; omega), since_row h.sn (Nat.le_refl _) hg (fun r e => by have := hr r e; omega)⟩
theorem HS.roads {w W W' : World} {tv kv : Value} (h : HS w W tv kv) (hg : W.grownBy W' (some (w.heap.size + 3))) (hd : RoadsAt W' (w.heap.size + 3)) : HS w W' tv kv :=
  ⟨h.bt.kept hg (fun e => by injection e; omega), h.bk.kept hg (fun e => by injection e; omega), h.br.kept hg (fun e => by injection e; omega), h.bm.kept hg (fun e => by injection e; omega),
    hd, since_row h.sn (Nat.le_refl _) hg (fun r e => by cases e; omega)⟩
theorem hs_start (w : World) (tv kv : Value) : HS w (((((w.alloc (.cells #[tv] 59)).alloc (.cells #[kv] 3)).alloc (.cells #[.bool false] 4)).alloc (.map #[] 0)).alloc (.cells #[.map (some (w.heap.size + 1 + 1 + 1))] 81)) tv kv := by
  have z1 : (w.alloc (.cells #[tv] 59)).heap.size = w.heap.size + 1 := by simp
  have z2 : ((w.alloc (.cells #[tv] 59)).alloc (.cells #[kv] 3)).heap.size = w.heap.size + 2 := by simp
  have z3 : (((w.alloc (.cells #[tv] 59)).alloc (.cells #[kv] 3)).alloc (.cells #[.bool false] 4)).heap.size = w.heap.size + 3 := by simp
  have z4 : ((((w.alloc (.cells #[tv] 59)).alloc (.cells #[kv] 3)).alloc (.cells #[.bool false] 4)).alloc (.map #[] 0)).heap.size = w.heap.size + 4 := by simp
  have b1 := Boxed.new (w.alloc (.cells #[tv] 59)) 3 kv
  have b2 := Boxed.new ((w.alloc (.cells #[tv] 59)).alloc (.cells #[kv] 3)) 4 (.bool false)
  have b3 := roads_made (((w.alloc (.cells #[tv] 59)).alloc (.cells #[kv] 3)).alloc (.cells #[.bool false] 4))
  have b4 := Boxed.new ((((w.alloc (.cells #[tv] 59)).alloc (.cells #[kv] 3)).alloc (.cells #[.bool false] 4)).alloc (.map #[] 0)) 81 (.map (some (w.heap.size + 1 + 1 + 1)))
  rw [z1] at b1
  rw [z2] at b2
  rw [z3] at b3
  rw [z4] at b4
  exact ⟨((((Boxed.new w _ tv).alloc _).alloc _).alloc _).alloc _, ((b1.alloc _).alloc _).alloc _, (b2.alloc _).alloc _, b4, b3.kept (World.grownBy_alloc _ _ none) (by simp),
    (((((World.Since.refl _ w).alloc (Nat.le_refl _) _).alloc (by simp) _).alloc (by simp; omega) _).alloc (by simp; omega) _).alloc (by simp; omega) _⟩

theorem grown_drew {a b : World} {row : Option Nat} (h : a.grownBy b row) : a.grownBy b.drew row := ⟨h.os, h.tape, h.output, h.size, h.block⟩
theorem setK_pos {n k : Nat} (x : SetK k (2 ^ n)) (h6 : n ≤ 6) : x.1 ≤ 63 := by
  have := x.2.1
  have : 2 ^ n ≤ 2 ^ 6 := Nat.pow_le_pow_right (by omega) h6
  omega

set_option maxRecDepth 100000 in
set_option maxHeartbeats 4000000 in
theorem hasMinor_any (a : Option Addr) (cap n m k : Nat) (l : List (List Int)) (w : World) (hn : l.length = n) (hmm : (l.getD 0 []).length = m) (hT : TabIn l) (hm : MatR w a l) :
    Calls Try.prog 126 #[.slice a n cap, .int .i64 k] w fun e w' => e = .returned (.bool (hasB l k (2 ^ n) (2 ^ m))) ∧ w.Since w.heap.size w' := by
  have h1 := hT.1
  have h6 := hT.2.1
  have hw := hT.width
  rw [hn] at h1 h6
  rw [hmm] at hw
  have hmk := @run_makeMap Try.prog
  refine (callsIn_wide (n := 20)).1 ?_
  refine callsIn_of_wp_marks Try.func126 rfl trivial ?_ rfl
  simp only [Try.ntmps126, List.size_toArray, List.length_cons, List.length_nil, Nat.reduceAdd, Nat.reduceSub, Array.replicate_succ, Array.replicate_zero, List.push_toArray, List.append_toArray, List.nil_append, List.cons_append]
  gi_wp2_with (refine ⟨trivial, ?_⟩; gi_at_call 142; refine (sets_in 19 _ _ _).mono ?_; rintro e w' ⟨rfl, rfl⟩)
  have hS0 := hs_start w (.slice a n cap) (.int .i64 k)
  obtain ⟨w5, hw5⟩ : ∃ W, (((((w.alloc (.cells #[.slice a n cap] 59)).alloc (.cells #[.int .i64 k] 3)).alloc (.cells #[.bool false] 4)).alloc (.map #[] 0)).alloc (.cells #[.map (some (w.heap.size + 1 + 1 + 1))] 81)) = W := ⟨_, rfl⟩
  have z5 : w5.heap.size = w.heap.size + 1 + 1 + 1 + 1 + 1 := by rw [← hw5]; simp
  rw [hw5] at hS0 ⊢
  clear hw5
  have bN := (Boxed.new w5 3 (.int .i64 n)).alloc (.cells #[.int .i64 k] 3)
  have bK := Boxed.new (w5.alloc (.cells #[.int .i64 n] 3)) 3 (.int .i64 k)
  have hS1 := (hS0.kept (World.grownBy_alloc w5 (.cells #[.int .i64 n] 3) none) (fun r e => by cases e)).kept (World.grownBy_alloc _ (.cells #[.int .i64 k] 3) none) (fun r e => by cases e)
  have z7 : ((w5.alloc (.cells #[.int .i64 n] 3)).alloc (.cells #[.int .i64 k] 3)).heap.size = w.heap.size + 7 := by simp [z5]
  simp only [World.size_alloc] at bK
  rw [z5] at bN bK
  obtain ⟨W0, hW0⟩ : ∃ W, (w5.alloc (.cells #[.int .i64 n] 3)).alloc (.cells #[.int .i64 k] 3) = W := ⟨_, rfl⟩
  rw [hW0] at bN bK hS1 z7 ⊢
  clear hW0 z5 hS0
  have hS2 : w.heap.size + 7 ≤ W0.heap.size := by omega
  refine wpIn_rangeFunc_ownH rfl (by omega) (gf := 155) (lb := #[.pointer (some ⟨w.heap.size + 1 + 1 + 1 + 1 + 1, 0, none⟩), .pointer (some ⟨w.heap.size + 1 + 1 + 1 + 1 + 1 + 1, 0, none⟩)]) rfl trivial (enters_of Try.func155 (by kernel_rfl) rfl)
    (sets_stops 19 (by omega) (w.heap.size + 1 + 1 + 1 + 1 + 1) (w.heap.size + 1 + 1 + 1 + 1 + 1 + 1) n k (2 ^ n) h6 rfl W0 (by omega) (by omega) bN.cell bK.cell)
    (fun h k => h.trans k) (kp2_b (by omega) (by omega)) (Below.refl _ _) (fun _ => rfl)
    (fun pre W => (HS w W (.slice a n cap) (.int .i64 k) ∧ w.heap.size + 7 ≤ W.heap.size) ∧ (pre.map (·.1)).any (hasR l k (2 ^ m)) = false)
    (fun c _ W => c = .ret ∧ Boxed W (w.heap.size + 2) 4 (.bool true) ∧ w.Since w.heap.size W ∧ hasB l k (2 ^ n) (2 ^ m) = true)
    (fun s X Y row hs hg hr => ⟨⟨hs.1.1.kept hg (fun r e => by have := (hr r e).1; omega), Nat.le_trans hs.1.2 hg.size⟩, hs.2⟩)
    (fun c s X Y row hs hg hr => ⟨hs.1, hs.2.1.kept hg (fun e => by have := (hr _ e.symm).1; omega), since_row hs.2.2.1 (Nat.le_refl _) hg (fun r e => by have := (hr r e).1; omega), hs.2.2.2⟩)
    ⟨⟨hS1, hS2⟩, rfl⟩
    (fun x a' W => ∃ Bx, w.heap.size + 7 ≤ Bx ∧ Boxed W Bx 3 (.int .i64 (x.1 : Int)) ∧ a' = { tmps := #[.slice a n cap, .int .i64 k, .pointer (some ⟨w.heap.size, 0, none⟩), .pointer (some ⟨w.heap.size + 1, 0, none⟩), .pointer (some ⟨w.heap.size + 1 + 1, 0, none⟩), .pointer (some ⟨w.heap.size + 1 + 1 + 1 + 1, 0, none⟩), .pointer (some ⟨Bx, 0, none⟩), undef, .map (some (w.heap.size + 1 + 1 + 1)), .slice a n cap, .int .i64 n, .int .i64 k, .func (.func 155) #[] #[.pointer (some ⟨w.heap.size + 1 + 1 + 1 + 1 + 1, 0, none⟩), .pointer (some ⟨w.heap.size + 1 + 1 + 1 + 1 + 1 + 1, 0, none⟩)], .int .i64 (x.1 : Int), undef, undef, undef, undef, undef, undef, undef, undef, undef, undef, undef, undef], defers := [] })
    (fun x a' _ X Y row hs hg hr => by obtain ⟨Bx, h1, h2, h3⟩ := hs; exact ⟨Bx, h1, boxed_own Bx 3 (fun (_ : Unit) => Value.int .i64 (x.1 : Int)) () X Y row h2 hg (fun r e => (hr r e).2), h3⟩)
    ?assign ?body ?done ?stop
  case assign =>
    rintro l2 pre x W K ⟨⟨hS, hz⟩, hp⟩ hK
    gi_wp2
    exact hK _ _ ((KeepsOthers.alloc _ _).from _) (Kp2.grown (World.grownBy_alloc _ _ none) (by omega) (by omega) (by simp) (by simp)) ⟨⟨hS.kept (World.grownBy_alloc _ _ none) (fun r e => by cases e), by simp; omega⟩, hp⟩ ⟨W.heap.size, hz, Boxed.new W 3 _, rfl⟩
  case body =>
    rintro l2 pre x a' W hl ⟨r, hr⟩ ⟨⟨hS, hz⟩, hp⟩ ⟨Bx, hBx, bX, rfl⟩ hlt
    have cT : W.drew.cell? ⟨w.heap.size, 0, none⟩ = _ := hS.bt.cell
    have cK : W.drew.cell? ⟨w.heap.size + 1, 0, none⟩ = _ := hS.bk.cell
    have EW := Lib.hid (fun (V : World) (h : w.Since w.heap.size V) => width_any a cap n l V hn (by omega) (by omega) (hm.since h))
    have hmix : Try.prog.follows .mixedOrders = true := by kernel_rfl
    rw [hmm] at EW
    have HSN := Lib.hid hS.sn
    gi_wp2
    gi_region_with_o (first
      | (refine ⟨trivial, ?_⟩; gi_at_call 88; refine (CallsIn.inRound l2 (callsIn_wide.2 (EW.out _ HSN.out.drew))).mono ?_; rintro e w' ⟨rfl, rfl⟩)
      | (refine ⟨trivial, ?_⟩; gi_at_call 142; refine (CallsIn.inRound l2 (sets_in 17 _ _ _)).mono ?_; rintro e w' ⟨rfl, rfl⟩))
    all_goals
      gi_wp2
      have bN2 : Boxed ((W.alloc (.cells #[.int .i64 m] 3)).alloc (.cells #[.int .i64 k] 3)).drew W.heap.size 3 (.int .i64 m) := (Boxed.new W 3 (.int .i64 m)).alloc (.cells #[.int .i64 k] 3)
      have bK2 : Boxed ((W.alloc (.cells #[.int .i64 m] 3)).alloc (.cells #[.int .i64 k] 3)).drew (W.heap.size + 1) 3 (.int .i64 k) := by
        have := Boxed.new (W.alloc (.cells #[.int .i64 m] 3)) 3 (.int .i64 k)
        rw [World.size_alloc] at this
        exact this
      have hgV : W.grownBy ((W.alloc (.cells #[.int .i64 m] 3)).alloc (.cells #[.int .i64 k] 3)).drew none := grown_drew ((World.grownBy_alloc W (.cells #[.int .i64 m] 3) none).trans (World.grownBy_alloc _ (.cells #[.int .i64 k] 3) none))
      have zV : ((W.alloc (.cells #[.int .i64 m] 3)).alloc (.cells #[.int .i64 k] 3)).drew.heap.size = W.heap.size + 2 := by
        show ((W.alloc (.cells #[.int .i64 m] 3)).alloc (.cells #[.int .i64 k] 3)).heap.size = _
        simp
      obtain ⟨V, hV⟩ : ∃ V, ((W.alloc (.cells #[.int .i64 m] 3)).alloc (.cells #[.int .i64 k] 3)).drew = V := ⟨_, rfl⟩
      rw [hV] at bN2 bK2 hgV zV ⊢
      clear hV
      have hrl := (Array.getElem?_eq_some_iff.1 hr).1
      have hrV : V.heap[l2]? = some (.loop r) := (hgV.block l2 hrl (by simp)).trans hr
      have hSV := hS.kept hgV (fun r e => by cases e)
      have hxx := x.2
      refine wpIn_rangeFunc_ownN (l₀ := l2) (r₀ := r) rfl hrV (by omega) (gf := 155) (lb := #[.pointer (some ⟨W.heap.size, 0, none⟩), .pointer (some ⟨W.heap.size + 1, 0, none⟩)]) rfl trivial (enters_of Try.func155 (by kernel_rfl) rfl)
        ((sets_stops 17 (by omega) W.heap.size (W.heap.size + 1) m k (2 ^ m) hw.2 rfl V (by omega) (by omega) bN2.cell bK2.cell).inRound l2)
        (fun h k => h.trans k) (kp2_b (by omega) (by omega)) (Below.refl _ _) (fun _ => rfl)
        (fun pre' W' => ((HS w W' (.slice a n cap) (.int .i64 k) ∧ W.heap.size + 2 ≤ W'.heap.size) ∧ Boxed W' Bx 3 (.int .i64 (x.1 : Int))) ∧ ((pre'.map (·.1)).any (fun c => decide (dt k (at2 (partL l x.1 c)) ≠ 0)) = false ∧ KeepsFrom W0.heap.size W W' ∧ Kp2 (w.heap.size + 1 + 1 + 1 + 1 + 1) (w.heap.size + 1 + 1 + 1 + 1 + 1 + 1) W W'))
        (fun c _ W' => c = .ret ∧ Boxed W' (w.heap.size + 2) 4 (.bool true) ∧ w.Since w.heap.size W' ∧ hasB l k (2 ^ n) (2 ^ m) = true ∧ KeepsFrom W0.heap.size W W')
        (fun s X Y row hs hg hr => ⟨⟨⟨hs.1.1.1.kept hg (fun r e => by have := (hr r e).1; omega), Nat.le_trans hs.1.1.2 hg.size⟩, boxed_own Bx 3 (fun (_ : Unit) => Value.int .i64 (x.1 : Int)) () X Y row hs.1.2 hg (fun r e => (hr r e).2)⟩,
          hs.2.1, ownFrom_keepsFrom (w₀ := W) (B := W0.heap.size) (B' := V.heap.size) (by omega) () X Y row hs.2.2.1 hg hr, hs.2.2.2.trans (Kp2.grown hg (by have := hs.1.1.2; omega) (by have := hs.1.1.2; omega) (fun e => by have := (hr _ e).1; omega) (fun e => by have := (hr _ e).1; omega))⟩)
        (fun c s X Y row hs hg hr => ⟨hs.1, hs.2.1.kept hg (fun e => by have := (hr _ e.symm).1; omega), since_row hs.2.2.1 (Nat.le_refl _) hg (fun r e => by have := (hr r e).1; omega), hs.2.2.2.1, ownFrom_keepsFrom (w₀ := W) (B := W0.heap.size) (B' := V.heap.size) (by omega) () X Y row hs.2.2.2.2 hg hr⟩)
        ⟨⟨⟨hSV, by omega⟩, bX.kept hgV (by simp)⟩, rfl, KeepsFrom.of_grownBy hgV (fun j e => by cases e), Kp2.grown hgV (by omega) (by omega) (by simp) (by simp)⟩
        (fun y a'' _ => a'' = { tmps := #[.slice a n cap, .int .i64 k, .pointer (some ⟨w.heap.size, 0, none⟩), .pointer (some ⟨w.heap.size + 1, 0, none⟩), .pointer (some ⟨w.heap.size + 1 + 1, 0, none⟩), .pointer (some ⟨w.heap.size + 1 + 1 + 1 + 1, 0, none⟩), .pointer (some ⟨Bx, 0, none⟩), .int .i64 (y.1 : Int), .map (some (w.heap.size + 1 + 1 + 1)), .slice a n cap, .int .i64 n, .int .i64 k, .func (.func 155) #[] #[.pointer (some ⟨w.heap.size + 1 + 1 + 1 + 1 + 1, 0, none⟩), .pointer (some ⟨w.heap.size + 1 + 1 + 1 + 1 + 1 + 1, 0, none⟩)], .int .i64 (x.1 : Int), .slice a n cap, .int .i64 m, .int .i64 k, .func (.func 155) #[] #[.pointer (some ⟨W.heap.size, 0, none⟩), .pointer (some ⟨W.heap.size + 1, 0, none⟩)], .int .i64 (y.1 : Int), undef, undef, undef, undef, undef, undef, undef], defers := [] })
        (fun _ _ _ _ _ _ hs _ _ => hs)
        ?assign2 ?body2 ?done2 ?stop2
      case assign2 =>
        rintro l3 pre' y W' K hi hK
        gi_wp2
        exact hK _ _ (KeepsFrom.refl _ _) (Kp2.refl _ _ _) hi rfl
      case body2 =>
        rintro l3 pre' y a'' W' _ _ ⟨⟨⟨hS', hz'⟩, bX'⟩, hp', hKF, hK2⟩ rfl hlt'
        have hx63 := setK_pos x h6
        have hy63 := setK_pos y hw.2
        have hyy := y.2
        have hk6 : k ≤ 6 := by rw [← hxx.2]; exact popcS_le x.1
        have hsq := part_sq hT (s := x.1) (c := y.1) (by rw [hn]; exact hxx.1) (by rw [hmm]; exact hyy.1) (by rw [hxx.2, hyy.2])
        rw [hxx.2] at hsq
        obtain ⟨L, hL⟩ : ∃ L, partL l x.1 y.1 = L := ⟨_, rfl⟩
        have EP := fun (V : World) (h : w.Since w.heap.size V) => part_rec a cap n x.1 y.1 l V hn hT.rec hx63 hy63 (hm.since h)
        rw [hL] at hsq
        simp only [hL, hsq.1] at EP
        obtain ⟨v, hv⟩ : ∃ v, dt k (at2 L) = v := ⟨_, rfl⟩
        have EV := fun (a' : Option Addr) (c' lo hi : Nat) (V : World) (hr : RoadsAt V (w.heap.size + 3)) (hlo : w.heap.size + 3 < lo) (ho : OwnT lo hi V a' L) =>
          anyValue_of (w.heap.size + 3) a' k c' (dt k (at2 L)) V hr (fun W'' hg => byPivots_any k L a' c' W'' hsq hk6 (ho.but hlo hg))
        simp only [hv] at EV
        have HV := Lib.hid (show dt k (at2 (partL l x.1 y.1)) = v by rw [hL]; exact hv)
        replace EP := Lib.hid EP
        replace EV := Lib.hid EV
        have cT' : W'.drew.cell? ⟨w.heap.size, 0, none⟩ = _ := hS'.bt.cell
        have cM' : W'.drew.cell? ⟨w.heap.size + 1 + 1 + 1 + 1, 0, none⟩ = some (.map (some (w.heap.size + 1 + 1 + 1))) := hS'.bm.cell
        have cX' : W'.drew.cell? ⟨Bx, 0, none⟩ = _ := bX'.cell
        have HSN' := Lib.hid hS'
        have HBX := Lib.hid bX'
        have hzz : w.heap.size + 7 ≤ W'.heap.size := by omega
        have HFIN := Lib.hid (show ∀ (V2 V3 : World), W'.grownBy V2 none → V2.grownBy V3 (some (w.heap.size + 3)) → RoadsAt V3 (w.heap.size + 3) →
            HS w V3 (.slice a n cap) (.int .i64 k) ∧ W'.heap.size ≤ V3.heap.size ∧ Boxed V3 Bx 3 (.int .i64 (x.1 : Int)) ∧ (∀ B, w.heap.size + 3 < B → KeepsFrom B W' V3) ∧ Kp2 (w.heap.size + 1 + 1 + 1 + 1 + 1) (w.heap.size + 1 + 1 + 1 + 1 + 1 + 1) W' V3 ∧ Kp2 W.heap.size (W.heap.size + 1) W' V3 from
          fun V2 V3 h2 h3 hrd => by
            have e2 := h2.size
            have e3 := h3.size
            exact ⟨(hS'.kept h2 (fun r e => by cases e)).roads h3 hrd, by omega, (bX'.kept h2 (by simp)).kept h3 (fun e => by injection e; omega),
              fun B hB => (KeepsFrom.of_grownBy h2 (fun j e => by cases e)).trans (KeepsFrom.of_grownBy h3 (fun j e => by cases e; omega)),
              (Kp2.grown h2 (by omega) (by omega) (by simp) (by simp)).trans (Kp2.grown h3 (by omega) (by omega) (fun e => by injection e; omega) (fun e => by injection e; omega)),
              (Kp2.grown h2 (by omega) (by omega) (by simp) (by simp)).trans (Kp2.grown h3 (by omega) (by omega) (fun e => by injection e; omega) (fun e => by injection e; omega))⟩)
        by_cases hv0 : v = 0
        · subst hv0
          gi_wp2
          gi_region_with_o (first
            | (refine ⟨trivial, ?_⟩; gi_at_call 90; refine (CallsIn.inRound l3 (CallsIn.inRound l2 (callsIn_wide.2 (EP.out _ HSN'.out.sn.drew)))).mono ?_; rintro e V2 ⟨a', c', rfl, hs2, ho2, _⟩; have hg2 := (grown_drew (World.grownBy.refl W' none)).trans (grown_of_since (row := none) hs2); have cM' := (cell_grown_ne hg2 (b := w.heap.size + 1 + 1 + 1 + 1) (by omega) (by simp)).trans HSN'.out.bm.cell; have HR2 := Lib.hid (HSN'.out.rd.kept hg2 (by simp)); have HO2 := Lib.hid ho2; have HG2 := Lib.hid hg2; have hdz : w.heap.size + 3 < W'.drew.heap.size := (show w.heap.size + 3 < W'.heap.size by omega); clear hs2 ho2 hg2)
            | (refine ⟨trivial, ?_⟩; gi_at_call 89; refine (CallsIn.inRound l3 (CallsIn.inRound l2 (callsIn_wide.2 (EV.out _ _ _ _ _ HR2.out hdz HO2.out)))).mono ?_; rintro e V3 ⟨rfl, hg3, hr3⟩; have HG3 := Lib.hid hg3; have HR3 := Lib.hid hr3; clear hg3 hr3))
          all_goals
            obtain ⟨q1, q2, q3, q4, q5, q6⟩ := HFIN.out _ _ HG2.out HG3.out HR3.out
            gi_wp2
            refine ⟨q4 _ (by omega), q6, ⟨⟨q1, by omega⟩, q3⟩, ?_, hKF.trans (q4 _ (by omega)), hK2.trans q5⟩
            rw [List.map_append, List.any_append, hp', Bool.false_or]
            show (decide (dt k (at2 (partL l x.1 y.1)) ≠ 0) || false) = false
            rw [HV.out]
            rfl
        · have hvb : (v == 0) = false := by simpa using hv0
          have hvn : (v != 0) = true := by simpa using hv0
          have hbb : hasB l k (2 ^ n) (2 ^ m) = true := List.any_eq_true.2 ⟨x.1, (setsTo_mem k).2 hxx, List.any_eq_true.2 ⟨y.1, (setsTo_mem k).2 hyy, by rw [HV.out]; simpa using hv0⟩⟩
          gi_wp2
          gi_region_with_o (first
            | (refine ⟨trivial, ?_⟩; gi_at_call 90; refine (CallsIn.inRound l3 (CallsIn.inRound l2 (callsIn_wide.2 (EP.out _ HSN'.out.sn.drew)))).mono ?_; rintro e V2 ⟨a', c', rfl, hs2, ho2, _⟩; have hg2 := (grown_drew (World.grownBy.refl W' none)).trans (grown_of_since (row := none) hs2); have cM' := (cell_grown_ne hg2 (b := w.heap.size + 1 + 1 + 1 + 1) (by omega) (by simp)).trans HSN'.out.bm.cell; have HR2 := Lib.hid (HSN'.out.rd.kept hg2 (by simp)); have HO2 := Lib.hid ho2; have HG2 := Lib.hid hg2; have hdz : w.heap.size + 3 < W'.drew.heap.size := (show w.heap.size + 3 < W'.heap.size by omega); clear hs2 ho2 hg2)
            | (refine ⟨trivial, ?_⟩; gi_at_call 89; refine (CallsIn.inRound l3 (CallsIn.inRound l2 (callsIn_wide.2 (EV.out _ _ _ _ _ HR2.out hdz HO2.out)))).mono ?_; rintro e V3 ⟨rfl, hg3, hr3⟩; have HG3 := Lib.hid hg3; have HR3 := Lib.hid hr3; clear hg3 hr3))
          all_goals
            obtain ⟨q1, q2, q3, q4, q5, q6⟩ := HFIN.out _ _ HG2.out HG3.out HR3.out
            have cR := q1.br.cell
            have fR := q1.br.frozen
            gi_wp2
            exact ⟨(q4 _ (by omega)).trans ((KeepsOthers.setCell _ _ _).from _), rfl, q1.br.set _, q1.sn.setCell (by simp; omega) _, hbb, (hKF.trans (q4 _ (by omega))).trans ((KeepsOthers.setCell _ _ _).from _)⟩
      case done2 =>
        rintro ys' W' hys ⟨⟨⟨hS', hz'⟩, bX'⟩, hp', hKF, hK2⟩
        gi_wp2
        refine ⟨hKF, hK2, ⟨hS', by omega⟩, ?_⟩
        rw [List.map_append, List.any_append, hp, Bool.false_or]
        rw [hys] at hp'
        show (hasR l k (2 ^ m) x.1 || false) = false
        rw [Bool.or_false]
        exact hp'
      case stop2 =>
        rintro c pre' W' _ ⟨rfl, bR, hs, hb, hKF⟩
        gi_wp2
        exact ⟨hKF, rfl, bR, hs, hb⟩
  case done =>
    rintro D zs W hD hzs ⟨⟨hS, hz⟩, hp⟩ hK
    have cS := hS.br.cell
    have fS := hS.br.frozen
    have hb : hasB l k (2 ^ n) (2 ^ m) = false := by
      show (setsTo k (2 ^ n)).any (hasR l k (2 ^ m)) = false
      rw [← hzs]; exact hp
    have hlt := (Array.getElem?_eq_some_iff.1 hK).1
    have hK2 : (W.setCell ⟨w.heap.size + 1 + 1, 0, none⟩ (.bool false)).heap[D]? = some (.deferred (some [])) := ((grownBy_setCell' W (w.heap.size + 1 + 1) (.bool false)).block D hlt (fun e => by injection e; omega)).trans hK
    have hB3 := (hS.br.set (.bool false)).kept (grownBy_putObj' (W.setCell ⟨w.heap.size + 1 + 1, 0, none⟩ (.bool false)) D (.deferred none)) (fun e => by injection e; omega)
    have cB := hB3.cell
    have hsn := since_row (hS.sn.setCell (a := ⟨w.heap.size + 1 + 1, 0, none⟩) (by simp; omega) (.bool false)) (Nat.le_refl _) (grownBy_putObj' (W.setCell ⟨w.heap.size + 1 + 1, 0, none⟩ (.bool false)) D (.deferred none)) (fun r e => by cases e; omega)
    gi_wp2
    refine ⟨by simp, .inl ⟨_, _, rfl, run_takeDeferred hK2, ?_⟩⟩
    refine ⟨.bool false, ?_, by rw [hb], hsn⟩
    have cB' := cB
    simp [results, Try.f126, go_sem, cB']
  case stop =>
    rintro D c pre W hD _ ⟨rfl, bR, hs, hb⟩ hK
    have hlt := (Array.getElem?_eq_some_iff.1 hK).1
    have hB3 := bR.kept (grownBy_putObj' W D (.deferred none)) (fun e => by injection e; omega)
    have cB := hB3.cell
    have hsn := since_row hs (Nat.le_refl _) (grownBy_putObj' W D (.deferred none)) (fun r e => by cases e; omega)
    gi_wp2
    refine ⟨by simp, .inl ⟨_, _, rfl, run_takeDeferred hK, ?_⟩⟩
    refine ⟨.bool true, ?_, by rw [hb], hsn⟩
    have cB' := cB
    simp [results, Try.f126, go_sem, cB']

end Go.Proofs.Ytggmiojhglkcgaa

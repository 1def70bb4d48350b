/- The contract of impl.TableAdd. -/
import Derived.Test.YteaabemnolacdaaSumImpl
namespace Go.Proofs.Yteaabemnolacdaa
open Go.RowKit Go.Deep

def addF (l : List (List Int)) (fr to : Nat) (f : Int) (i k : Nat) : Int := if i = to then at2 l i k + f * at2 l fr k else at2 l i k
def addL (l : List (List Int)) (fr to : Nat) (f : Int) : List (List Int) := tabF l.length (l.getD 0 []).length (addF l fr to f)
theorem addL_length (l : List (List Int)) (fr to : Nat) (f : Int) : (addL l fr to f).length = l.length := tabF_length _ _ _

set_option maxHeartbeats 1000000 in
theorem addEntry_any (pto pt pf pfr i k n cap fr to : Nat) (f : Int) (a : Option Addr) (l : List (List Int)) (w : World) (hn : l.length = n) (hT : TabIn l) (hfr : fr < n) (hf1 : -30 ≤ f) (hf2 : f ≤ 30)
    (hb1 : w.cell? ⟨pto, 0, none⟩ = some (.int .i64 to)) (hb2 : w.cell? ⟨pt, 0, none⟩ = some (.slice a n cap)) (hb3 : w.cell? ⟨pf, 0, none⟩ = some (.int .i64 f)) (hb4 : w.cell? ⟨pfr, 0, none⟩ = some (.int .i64 fr)) (hm : MatR w a l) (hi : i < n) (hk : k < (l.getD 0 []).length) :
    Calls Try.prog 130 #[.int .i64 i, .int .i64 k, .pointer (some ⟨pto, 0, none⟩), .pointer (some ⟨pt, 0, none⟩), .pointer (some ⟨pf, 0, none⟩), .pointer (some ⟨pfr, 0, none⟩)] w fun e w' => e = .returned (.int .i64 (addF l fr to f i k)) ∧ w.Since w.heap.size w' := by
  have h6 := hT.2.1
  rw [hn] at h6
  have hb := hT.at (i := i) (k := k) (by rw [hn]; exact hi) hk
  have hbr := hT.at (i := fr) (k := k) (by rw [hn]; exact hfr) hk
  have hkr : k < (l.getD i []).length := by rw [hT.row (by rw [hn]; exact hi)]; exact hk
  have hkf : k < (l.getD fr []).length := by rw [hT.row (by rw [hn]; exact hfr)]; exact hk
  obtain ⟨b, o, b', o', c, rfl, h1, h2⟩ := hm.entry (by rw [hn]; exact hi) hkr
  obtain ⟨d, q, d', q', c', hd, g1, g2⟩ := hm.entry (by rw [hn]; exact hfr) hkf
  injection hd with hd
  injection hd with hd1 hd2
  subst hd1; subst hd2
  obtain ⟨m, hmm⟩ : ∃ m, m = (l.getD i []).length := ⟨_, rfl⟩
  obtain ⟨m', hmm'⟩ : ∃ m, m = (l.getD fr []).length := ⟨_, rfl⟩
  rw [← hmm] at h1 hkr
  rw [← hmm'] at g1 hkf
  unfold addF
  obtain ⟨y, hy⟩ : ∃ y, y = at2 l i k := ⟨_, rfl⟩
  obtain ⟨z, hz⟩ : ∃ z, z = at2 l fr k := ⟨_, rfl⟩
  rw [← hy] at h2 hb ⊢
  rw [← hz] at g2 hbr ⊢
  have hp := mul_bd hf1 hf2 hbr.1 hbr.2
  have hwr1 : IntKind.i64.wrap (f * z) = f * z := IntWalk.i64_in _ ⟨by omega, by omega⟩
  have hwr2 : IntKind.i64.wrap (y + f * z) = y + f * z := IntWalk.i64_in _ ⟨by omega, by omega⟩
  clear hy hz hmm hmm' hn hm hT hb hk hbr
  by_cases e : i = to
  · subst e
    rw [if_pos rfl]
    go_enter Try.func130, Try.ntmps130
    go_wp2
    go_quiet (fail)
    go_wp2
    go_ret
    exact ⟨rfl, since_drewN (World.Since.refl _ _) _⟩
  · rw [if_neg e]
    have hne : ((i : Int) == (to : Int)) = false := by simp; omega
    clear hwr1 hwr2
    go_enter Try.func130, Try.ntmps130
    go_wp2
    go_ret
    exact ⟨rfl, World.Since.refl _ _⟩

set_option maxRecDepth 100000 in
set_option maxHeartbeats 2000000 in
theorem added_any (a : Option Addr) (cap n : Nat) (l : List (List Int)) (fr to : Nat) (f : Int) (w : World) (hn : l.length = n) (hT : TabIn l) (hm : MatR w a l) (hfr : fr < n) (hf1 : -30 ≤ f) (hf2 : f ≤ 30) :
    Calls Try.prog 107 #[.slice a n cap, .int .i64 fr, .int .i64 to, .int .i64 f] w fun e w' => e = .returned (.slice (some ⟨w.heap.size + 1 + 1 + 1 + 1, 0, none⟩) n n) ∧ w.Since w.heap.size w' ∧ OwnT w.heap.size w'.heap.size w' (some ⟨w.heap.size + 1 + 1 + 1 + 1, 0, none⟩) (addL l fr to f) := by
  have hw := hT.width
  have h6 := hT.2.1
  rw [hn] at h6
  have h1 := hT.1
  rw [hn] at h1
  have hwid := fun (W : World) (hs : w.Since w.heap.size W) => width_any a cap n l W hn (by omega) (by omega) (hm.since hs)
  have hnt := fun (W : World) (hs : w.Since w.heap.size W) (hb0 : W.cell? ⟨w.heap.size, 0, none⟩ = some (.slice a n cap)) (hb1 : W.cell? ⟨w.heap.size + 1, 0, none⟩ = some (.int .i64 fr)) (hb2 : W.cell? ⟨w.heap.size + 1 + 1, 0, none⟩ = some (.int .i64 to)) (hb3 : W.cell? ⟨w.heap.size + 1 + 1 + 1, 0, none⟩ = some (.int .i64 f)) =>
    newTable_any 130 #[.pointer (some ⟨w.heap.size + 1 + 1, 0, none⟩), .pointer (some ⟨w.heap.size, 0, none⟩), .pointer (some ⟨w.heap.size + 1 + 1 + 1, 0, none⟩), .pointer (some ⟨w.heap.size + 1, 0, none⟩)] n (l.getD 0 []).length (addF l fr to f) W (by omega) (by omega) (enters_of Try.func130 (by kernel_rfl) rfl)
      (fun W' i k hs' hi hk => addEntry_any (w.heap.size + 1 + 1) w.heap.size (w.heap.size + 1 + 1 + 1) (w.heap.size + 1) i k n cap fr to f a l W' hn hT hfr hf1 hf2 ((hs'.cell (a := ⟨w.heap.size + 1 + 1, 0, none⟩) (World.block_lt_of_cell? _ _ hb2)).trans hb2) ((hs'.cell (a := ⟨w.heap.size, 0, none⟩) (World.block_lt_of_cell? _ _ hb0)).trans hb0) ((hs'.cell (a := ⟨w.heap.size + 1 + 1 + 1, 0, none⟩) (World.block_lt_of_cell? _ _ hb3)).trans hb3) ((hs'.cell (a := ⟨w.heap.size + 1, 0, none⟩) (World.block_lt_of_cell? _ _ hb1)).trans hb1) (hm.since (hs.trans (since_mono hs' hs.size))) hi hk)
  obtain ⟨m, hmm⟩ : ∃ m, (l.getD 0 []).length = m := ⟨_, rfl⟩
  have htl : addL l fr to f = tabF n m (addF l fr to f) := by unfold addL; rw [hmm, hn]
  rw [hmm] at hwid hnt hw
  rw [htl]
  have HW := Lib.hid hwid
  have HNT := Lib.hid hnt
  have HS1 := Lib.hid (show w.Since w.heap.size ((((w.alloc (.cells #[.slice a n cap] 53)).alloc (.cells #[.int .i64 fr] 3)).alloc (.cells #[.int .i64 to] 3)).alloc (.cells #[.int .i64 f] 3)) from (((((World.Since.refl _ _).alloc (Nat.le_refl _) _).alloc (by simp) _).alloc (by simp; omega) _).alloc (by simp; omega) _))
  have hc0 := cell_new_l w (.slice a n cap) 53
  have hc1 := cell_new_l (w.alloc (.cells #[.slice a n cap] 53)) (.int .i64 fr) 3
  have hc2 := cell_new_l ((w.alloc (.cells #[.slice a n cap] 53)).alloc (.cells #[.int .i64 fr] 3)) (.int .i64 to) 3
  have hc3 := cell_new_l (((w.alloc (.cells #[.slice a n cap] 53)).alloc (.cells #[.int .i64 fr] 3)).alloc (.cells #[.int .i64 to] 3)) (.int .i64 f) 3
  simp only [World.size_alloc] at hc1 hc2 hc3
  have hcb0 : ((((w.alloc (.cells #[.slice a n cap] 53)).alloc (.cells #[.int .i64 fr] 3)).alloc (.cells #[.int .i64 to] 3)).alloc (.cells #[.int .i64 f] 3)).cell? ⟨w.heap.size, 0, none⟩ = some (.slice a n cap) := (cell_alloc_l _ (cell_alloc_l _ (cell_alloc_l _ hc0.1)))
  have hcb1 : ((((w.alloc (.cells #[.slice a n cap] 53)).alloc (.cells #[.int .i64 fr] 3)).alloc (.cells #[.int .i64 to] 3)).alloc (.cells #[.int .i64 f] 3)).cell? ⟨w.heap.size + 1, 0, none⟩ = some (.int .i64 fr) := (cell_alloc_l _ (cell_alloc_l _ hc1.1))
  have hcb2 : ((((w.alloc (.cells #[.slice a n cap] 53)).alloc (.cells #[.int .i64 fr] 3)).alloc (.cells #[.int .i64 to] 3)).alloc (.cells #[.int .i64 f] 3)).cell? ⟨w.heap.size + 1 + 1, 0, none⟩ = some (.int .i64 to) := (cell_alloc_l _ hc2.1)
  have hcb3 : ((((w.alloc (.cells #[.slice a n cap] 53)).alloc (.cells #[.int .i64 fr] 3)).alloc (.cells #[.int .i64 to] 3)).alloc (.cells #[.int .i64 f] 3)).cell? ⟨w.heap.size + 1 + 1 + 1, 0, none⟩ = some (.int .i64 f) := hc3.1
  clear hwid hnt hm hT hn hmm htl hc0 hc1 hc2 hc3
  go_enter Try.func107, Try.ntmps107
  go_wp2
  go_region_held3 (fun w' => w'.cell? ⟨w.heap.size, 0, none⟩ = some (.slice a n cap)) (go_keep)
    (first
      | (go_at_call 69; refine (HW.out _ ?_).mono ?_; (exact World.Since.drew HS1.out); rintro e w1 ⟨rfl, rfl⟩)
      | (go_at_call 95; refine (HNT.out _ ?_ ?_ ?_ ?_ ?_).mono ?_; (exact World.Since.drew HS1.out); (exact hcb0); (exact hcb1); (exact hcb2); (exact hcb3); rintro e w1 ⟨rfl, hs2, ho⟩; have hcc := hs2.cell (a := ⟨w.heap.size, 0, none⟩) (World.block_lt_of_cell? _ _ hcb0); simp only [World.cell?_drew, hcb0] at hcc))
  all_goals
    go_wp2
    go_ret
    refine ⟨rfl, HS1.out.trans (since_mono (since_of_drew hs2) (by simp; omega)), ?_⟩
    have hz : ((((w.alloc (.cells #[.slice a n cap] 53)).alloc (.cells #[.int .i64 fr] 3)).alloc (.cells #[.int .i64 to] 3)).alloc (.cells #[.int .i64 f] 3)).drew.heap.size = w.heap.size + 1 + 1 + 1 + 1 := by simp
    rw [hz] at ho
    exact ho.mono (by omega) (Nat.le_refl _)

/-- Is a number that of a row? -/
def rowB (i : Int) (n : Nat) : Bool := inB i 0 ((n : Int) - 1)
theorem rowB_of {i : Int} {n : Nat} (h : rowB i n = true) : ∃ k : Nat, i = k ∧ k < n := by
  have h1 := of_decide_eq_true h
  exact ⟨i.toNat, by omega, by omega⟩
/-- Does TableAdd succeed? -/
noncomputable def addOk (l : List (List Int)) (fr to f : Int) : Bool := tabIn l && (rowB fr l.length && (rowB to l.length && (!(fr == to) && (inB f (-30) 30 && tabIn (addL l fr.toNat to.toNat f)))))
theorem szL_add {l : List (List Int)} (fr to : Nat) (f : Int) (h : TabIn l) : szL (addL l fr to f) ≤ 1048576 := szL_tabF _ _ _ (by have := h.2.1; omega) (by have := h.width; omega)

set_option maxHeartbeats 1000000 in
theorem hasRow_any (a : Option Addr) (cap n : Nat) (i : Int) (w : World) (h1 : 1 ≤ n) (h6 : n ≤ 6) :
    Calls Try.prog 83 #[.slice a n cap, .int .i64 i] w fun e w' => e = .returned (.bool (rowB i n)) ∧ w = w' := by
  have E := Lib.hid (inRange_any i 0 ((n : Int) - 1) w)
  unfold rowB
  go_enter Try.func83, Try.ntmps83
  go_wp2_with fail
  refine (E.out).mono ?_
  rintro e w' ⟨rfl, rfl⟩
  go_wp2
  go_ret
  exact ⟨rfl, rfl⟩

set_option maxHeartbeats 1000000 in
theorem implTableAdd_any (a : Option Addr) (cap n : Nat) (l : List (List Int)) (fr to f : Int) (w : World) (hn : l.length = n) (hsz : szL l ≤ 1048576) (hm : MatR w a l) :
    Calls Try.prog 50 #[.slice a n cap, .int .i64 fr, .int .i64 to, .int .i64 f] w (ImplT w (addOk l fr to f) (addL l fr.toNat to.toNat f)) := by
  have E := Lib.hid (implTableIn_any a cap n l w hn hsz hm)
  cases hT : tabIn l with
  | false =>
    have hok : addOk l fr to f = false := by unfold addOk; rw [hT]; rfl
    rw [hT] at E
    rw [hok]
    clear hT hsz hm hn hok
    go_enter Try.func50, Try.ntmps50
    go_wp2_with fail
    refine (E.out).mono ?_
    rintro e w1 ⟨rfl, hs⟩
    go_wp2
    go_ret2
    exact ⟨_, _, rfl, hs, OwnT.nil _ _ _ _⟩
  | true =>
    have hTT := tabIn_of hT
    have h1 := hTT.1
    have h6 := hTT.2.1
    rw [hn] at h1 h6
    rw [hT] at E
    have E2 := Lib.hid (fun W => hasRow_any a cap n fr W h1 h6)
    have E3 := Lib.hid (fun W => hasRow_any a cap n to W h1 h6)
    cases hfr : rowB fr n with
    | false =>
      have hok : addOk l fr to f = false := by unfold addOk; rw [hT, hn, hfr]; rfl
      rw [hfr] at E2
      rw [hok]
      clear hT hsz hm hn hok hTT hfr E3
      go_enter Try.func50, Try.ntmps50
      go_wp2_with fail
      refine (E.out).mono ?_
      rintro e w1 ⟨rfl, hs⟩
      go_wp2_with fail
      refine (E2.out w1).mono ?_
      rintro e w2 ⟨rfl, rfl⟩
      go_wp2
      go_ret2
      exact ⟨_, _, rfl, hs, OwnT.nil _ _ _ _⟩
    | true =>
      rw [hfr] at E2
      cases hto : rowB to n with
      | false =>
        have hok : addOk l fr to f = false := by unfold addOk; rw [hT, hn, hfr, hto]; rfl
        rw [hto] at E3
        rw [hok]
        clear hT hsz hm hn hok hTT hfr hto
        go_enter Try.func50, Try.ntmps50
        go_wp2_with fail
        refine (E.out).mono ?_
        rintro e w1 ⟨rfl, hs⟩
        go_wp2_with fail
        refine (E2.out w1).mono ?_
        rintro e w2 ⟨rfl, rfl⟩
        go_wp2_with fail
        refine (E3.out w1).mono ?_
        rintro e w2 ⟨rfl, rfl⟩
        go_wp2
        go_ret2
        exact ⟨_, _, rfl, hs, OwnT.nil _ _ _ _⟩
      | true =>
        rw [hto] at E3
        cases heq : (fr == to) with
        | true =>
          have hok : addOk l fr to f = false := by unfold addOk; rw [hT, hn, hfr, hto, heq]; rfl
          rw [hok]
          clear hT hsz hm hn hok hTT hfr hto
          go_enter Try.func50, Try.ntmps50
          go_wp2_with fail
          refine (E.out).mono ?_
          rintro e w1 ⟨rfl, hs⟩
          go_wp2_with fail
          refine (E2.out w1).mono ?_
          rintro e w2 ⟨rfl, rfl⟩
          go_wp2_with fail
          refine (E3.out w1).mono ?_
          rintro e w2 ⟨rfl, rfl⟩
          go_wp2
          go_ret2
          exact ⟨_, _, rfl, hs, OwnT.nil _ _ _ _⟩
        | false =>
          have E5 := Lib.hid (fun W => isEntry_at f (inB f (-30) 30) W rfl)
          cases hf : inB f (-30) 30 with
          | false =>
            have hok : addOk l fr to f = false := by unfold addOk; rw [hT, hn, hfr, hto, heq, hf]; rfl
            rw [hf] at E5
            rw [hok]
            clear hT hsz hm hn hok hTT hfr hto hf
            go_enter Try.func50, Try.ntmps50
            go_wp2_with fail
            refine (E.out).mono ?_
            rintro e w1 ⟨rfl, hs⟩
            go_wp2_with fail
            refine (E2.out w1).mono ?_
            rintro e w2 ⟨rfl, rfl⟩
            go_wp2_with fail
            refine (E3.out w1).mono ?_
            rintro e w2 ⟨rfl, rfl⟩
            go_wp2_with fail
            refine (E5.out w1).mono ?_
            rintro e w2 ⟨rfl, rfl⟩
            go_wp2
            go_ret2
            exact ⟨_, _, rfl, hs, OwnT.nil _ _ _ _⟩
          | true =>
            have hok : addOk l fr to f = tabIn (addL l fr.toNat to.toNat f) := by unfold addOk; rw [hT, hn, hfr, hto, heq, hf]; rfl
            rw [hf] at E5
            have hff := of_decide_eq_true hf
            obtain ⟨fr, rfl, hfl⟩ := rowB_of hfr
            obtain ⟨to, rfl, htl⟩ := rowB_of hto
            rw [hok]
            simp only [Int.toNat_natCast]
            have HE2 := Lib.hid (fun (W : World) (hs : w.Since w.heap.size W) => added_any a cap n l fr to f W hn hTT (hm.since hs) hfl hff.1 hff.2)
            have HTL := Lib.hid ((addL_length l fr to f).trans hn)
            have hszl := szL_add fr to f hTT
            clear hT hsz hm hn hok hTT hfr hto hf
            go_enter Try.func50, Try.ntmps50
            go_wp2_with fail
            refine (E.out).mono ?_
            rintro e w1 ⟨rfl, hs⟩
            go_wp2_with fail
            refine (E2.out w1).mono ?_
            rintro e w2 ⟨rfl, rfl⟩
            go_wp2_with fail
            refine (E3.out w1).mono ?_
            rintro e w2 ⟨rfl, rfl⟩
            go_wp2_with fail
            refine (E5.out w1).mono ?_
            rintro e w2 ⟨rfl, rfl⟩
            go_wp2_with fail
            refine (HE2.out w1 hs).mono ?_
            rintro e w2 ⟨rfl, hs2, ho⟩
            have hs12 : w.Since w.heap.size w2 := hs.trans (since_mono hs2 hs.size)
            have hz := hs.size
            go_wp2_with fail
            refine (result_any _ _ _ _ _ (addL l fr to f) w2 HTL.out hszl ho).mono ?_
            rintro e w3 ⟨a', cap', rfl, hs3, ho3⟩
            go_wp2
            go_ret2
            exact ⟨a', cap', rfl, hs12.trans (since_mono hs3 hs12.size), ho3.mono hz hs3.size⟩

end Go.Proofs.Yteaabemnolacdaa

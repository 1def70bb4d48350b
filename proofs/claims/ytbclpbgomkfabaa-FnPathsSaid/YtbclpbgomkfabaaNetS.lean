/- Contracts of spec.l6cLines, NetPaths, NetFamilies. -/
import Derived.Test.YtbclpbgomkfabaaChipQ
import Derived.Test.YtbclpbgomkfabaaChipR
import Derived.Test.YtbclpbgomkfabaaL2Size
namespace Go.Proofs.Ytbclpbgomkfabaa
open Go.RowKit Go.Deep

/-- What a net's chips are. -/
structure NetOk (n : Nat) (cs : List RC) : Prop where
  lo : 2 ≤ n
  hi : n ≤ 5
  len : cs.length ≤ 10
  ok : ∀ c ∈ cs, RCok c ∧ chOk n (toC c)
theorem chipB_ok {n : Nat} (hn : 2 ≤ n ∧ n ≤ 5) {c : RC} (h : chipB n c = true) : RCok c ∧ chOk n (toC c) := by
  obtain ⟨K, l, V⟩ := c
  unfold chipB kindB inB at h
  simp only [Bool.and_eq_true, decide_eq_true_eq] at h
  obtain ⟨h1, hv⟩ := h
  by_cases hH : K.toList = [104]
  · rw [if_pos hH] at h1
    simp only [decide_eq_true_eq] at h1
    obtain ⟨L, rfl⟩ : ∃ L : Nat, l = L := ⟨l.toNat, by omega⟩
    refine ⟨⟨.inl hH, ⟨by show (0 : Int) ≤ (L : Int); omega, by show (L : Int) ≤ 10; omega⟩, hv⟩, ?_⟩
    rw [toC_h hH]
    refine ⟨Nat.le_refl _, ?_⟩
    rw [if_pos rfl]
    show L < n
    omega
  · rw [if_neg hH] at h1
    by_cases hk : K.toList = [117] ∨ K.toList = [100]
    · rw [if_pos hk] at h1
      simp only [decide_eq_true_eq] at h1
      obtain ⟨L, rfl⟩ : ∃ L : Nat, l = L := ⟨l.toNat, by omega⟩
      have hk3 : K.toList = [104] ∨ K.toList = [117] ∨ K.toList = [100] := .inr hk
      refine ⟨⟨hk3, ⟨by show (0 : Int) ≤ (L : Int); omega, by show (L : Int) ≤ 10; omega⟩, hv⟩, ?_⟩
      obtain ⟨k, hk1, hk2, _⟩ := toC_n (L := L) (V := V) hH hk3
      rw [hk2]
      refine ⟨by show k ≤ 2; omega, ?_⟩
      rw [if_neg (by show ¬ k = 2; omega)]
      show L + 1 < n
      omega
    · rw [if_neg hk] at h1; cases h1
theorem netB_ok {n : Int} {cs : List RC} (h : netB n cs = true) : ∃ m : Nat, n = m ∧ NetOk m cs := by
  unfold netB inB at h
  simp only [Bool.and_eq_true, decide_eq_true_eq] at h
  obtain ⟨hn, hl, hc⟩ := h
  obtain ⟨m, rfl⟩ : ∃ m : Nat, n = m := ⟨n.toNat, by omega⟩
  exact ⟨m, rfl, by omega, by omega, hl, fun c hm => chipB_ok (by omega) (List.all_eq_true.1 hc c hm)⟩
theorem NetOk.rc {n : Nat} {cs : List RC} (h : NetOk n cs) : ∀ c ∈ cs, RCok c := fun c hc => (h.ok c hc).1
theorem NetOk.five {n : Nat} {cs : List RC} (h : NetOk n cs) : ∀ c ∈ cs, RCok c ∧ chOk 5 (toC c) := fun c hc => ⟨(h.ok c hc).1, by
  obtain ⟨h1, h2⟩ := (h.ok c hc).2
  have h5 := h.hi
  refine ⟨h1, ?_⟩
  by_cases e : (toC c).1 = 2
  · rw [if_pos e] at h2 ⊢; omega
  · rw [if_neg e] at h2 ⊢; omega⟩
theorem NetOk.ch {n : Nat} {cs : List RC} (h : NetOk n cs) : ∀ c ∈ cs.map toC, chOk n c := fun c hc => by
  obtain ⟨d, hd, rfl⟩ := List.mem_map.1 hc
  exact (h.ok d hd).2

noncomputable def linesB (n : Int) (cs : List RC) (i k : Int) : Bool := netB n cs && (inB i 0 (n - 1) && inB k 0 (n - 1))
noncomputable def pathsV (n : Int) (cs : List RC) (i k : Int) : Int := if linesB n cs i k = true then pathN (cs.map toC) i.toNat k.toNat else 0

set_option maxHeartbeats 400000 in
theorem l6cLines_any (a : Option Addr) (cap N : Nat) (n i k : Int) (cs : List RC) (w : World) (hN : cs.length = N) (h63 : N ≤ 9223372036854775807) (hm : ChipsR w a cs) :
    Calls Try.prog 49 #[.int .i64 n, .slice a N cap, .int .i64 i, .int .i64 k] w fun e w' => e = .returned (.bool (linesB n cs i k)) ∧ w.Since w.heap.size w' := by
  have E := specNetIn_any a cap N n cs w hN h63 hm
  unfold linesB
  obtain ⟨b, hb⟩ : ∃ b, netB n cs = b := ⟨_, rfl⟩
  have hr : b = true → 2 ≤ n ∧ n ≤ 5 := fun h => by
    obtain ⟨m, rfl, ho⟩ := netB_ok (hb.trans h)
    have := ho.lo; have := ho.hi
    omega
  rw [hb] at E ⊢
  replace E := Lib.hid E
  clear hb hm hN
  cases b with
  | false =>
    clear hr
    go_enter Try.func49, Try.ntmps49
    go_wp2_with (go_at_call 60; refine (E.out).mono ?_; rintro e w1 ⟨rfl, hs1⟩; have HS1 := Lib.hid hs1; clear hs1)
    go_ret
    exact ⟨rfl, HS1.out⟩
  | true =>
    obtain ⟨hn2, hn5⟩ := hr rfl
    clear hr
    have hw1 : IntKind.i64.wrap (n - 1) = n - 1 := IntWalk.i64_in _ ⟨by omega, by omega⟩
    rw [Bool.true_and]
    obtain ⟨b1, hb1⟩ : ∃ b, inB i 0 (n - 1) = b := ⟨_, rfl⟩
    obtain ⟨b2, hb2⟩ : ∃ b, inB k 0 (n - 1) = b := ⟨_, rfl⟩
    rw [hb1, hb2]
    have E1 := Lib.hid (fun (W : World) => l6In_at i 0 (n - 1) b1 W hb1)
    have E2 := Lib.hid (fun (W : World) => l6In_at k 0 (n - 1) b2 W hb2)
    clear hb1 hb2
    cases b1 <;> cases b2
    all_goals
      go_enter Try.func49, Try.ntmps49
      go_wp2_with (first
        | (go_at_call 60; refine (E.out).mono ?_; rintro e w1 ⟨rfl, hs1⟩; have HS1 := Lib.hid hs1; clear hs1)
        | (go_at_call 61; ((with_reducible refine (E1.out _).mono ?_); rintro e w2 ⟨rfl, rfl⟩))
        | (go_at_call 61; ((with_reducible refine (E2.out _).mono ?_); rintro e w2 ⟨rfl, rfl⟩)))
      go_ret
      exact ⟨rfl, HS1.out⟩

theorem lines_ok {n i k : Int} {cs : List RC} (h : linesB n cs i k = true) : ∃ m j l : Nat, n = m ∧ NetOk m cs ∧ (i = j ∧ j < m) ∧ k = l ∧ l < m := by
  unfold linesB at h
  simp only [Bool.and_eq_true] at h
  obtain ⟨h1, h2, h3⟩ := h
  obtain ⟨m, rfl, hm⟩ := netB_ok h1
  unfold inB at h2 h3
  simp only [decide_eq_true_eq] at h2 h3
  exact ⟨m, i.toNat, k.toNat, rfl, hm, by omega, by omega, by omega⟩

set_option maxHeartbeats 400000 in
theorem specNetPaths_any (a : Option Addr) (cap N : Nat) (n i k : Int) (cs : List RC) (w : World) (hN : cs.length = N) (hcap : N ≤ cap) (h63 : cap ≤ 9223372036854775807) (hm : ChipsR w a cs) :
    Calls Try.prog 14 #[.int .i64 n, .slice a N cap, .int .i64 i, .int .i64 k] w fun e w' => e = .returned (.tuple #[.int .i64 (pathsV n cs i k), .bool (linesB n cs i k)]) ∧ w.Since w.heap.size w' := by
  have E := l6cLines_any a cap N n i k cs w hN (by omega) hm
  unfold pathsV
  cases hb : linesB n cs i k with
  | false =>
    rw [hb] at E
    replace E := Lib.hid E
    rw [if_neg (by simp)]
    clear hb hm hN
    go_enter Try.func14, Try.ntmps14
    go_wp2_with (go_at_call 49; refine (E.out).mono ?_; rintro e w1 ⟨rfl, hs1⟩; have HS1 := Lib.hid hs1; clear hs1)
    go_ret2
    exact ⟨rfl, HS1.out⟩
  | true =>
    rw [hb] at E
    replace E := Lib.hid E
    rw [if_pos rfl]
    obtain ⟨m, j, l, rfl, ho, ⟨rfl, hj⟩, rfl, hl⟩ := lines_ok hb
    have hm5 := ho.hi
    have h10 := ho.len
    have E2 := Lib.hid (fun (W : World) (hs : w.Since w.heap.size W) => l6cPaths_any cs a N cap j l W hN (by omega) hcap h63 ho.rc (by omega) (hm.since hs))
    show Calls Try.prog 14 #[.int .i64 m, .slice a N cap, .int .i64 j, .int .i64 l] w fun e w' => e = .returned (.tuple #[.int .i64 (pathN (cs.map toC) j l), .bool true]) ∧ w.Since w.heap.size w'
    obtain ⟨P, hP⟩ : ∃ P, pathN (cs.map toC) j l = P := ⟨_, rfl⟩
    rw [hP] at E2 ⊢
    clear hb hm hN hP h10
    go_enter Try.func14, Try.ntmps14
    go_wp2_with (first
      | (go_at_call 49; refine (E.out).mono ?_; rintro e w1 ⟨rfl, hs1⟩; have HS1 := Lib.hid hs1; clear hs1)
      | (go_at_call 50; refine (E2.out _ HS1.out).mono ?_; rintro e w2 ⟨rfl, hs2⟩; have HS2 := Lib.hid (HS1.out.trans (since_mono hs2 HS1.out.size)); clear hs2))
    go_ret2
    exact ⟨rfl, HS2.out⟩

noncomputable def famsB (n : Int) (cs : List RC) (s t : Int) : Bool := netB n cs && (inB s 0 (2 ^ n.toNat - 1) && (inB t 0 (2 ^ n.toNat - 1) && (popcS s.toNat == popcS t.toNat)))
noncomputable def famsV (n : Int) (cs : List RC) (s t : Int) : Int := if famsB n cs s t = true then famN (cs.map toC) s.toNat t.toNat else 0
theorem fams_ok {n s t : Int} {cs : List RC} (h : famsB n cs s t = true) : ∃ m j l : Nat, n = m ∧ NetOk m cs ∧ (s = j ∧ j < 2 ^ m ∧ j ≤ 31) ∧ (t = l ∧ l < 2 ^ m ∧ l ≤ 31) ∧ popcS j = popcS l := by
  unfold famsB at h
  simp only [Bool.and_eq_true, beq_iff_eq] at h
  obtain ⟨h1, h2, h3, h4⟩ := h
  obtain ⟨m, rfl, hm⟩ := netB_ok h1
  unfold inB at h2 h3
  simp only [decide_eq_true_eq, Int.toNat_natCast] at h2 h3
  have hp : 2 ^ m ≤ 2 ^ 5 := Nat.pow_le_pow_right (by omega) hm.hi
  have hc : ((2 : Int) ^ m) = ((2 ^ m : Nat) : Int) := by simp
  rw [hc] at h2 h3
  exact ⟨m, s.toNat, t.toNat, rfl, hm, by omega, by omega, h4⟩

theorem p5_fin : ∀ m : Fin 6, (wrap64 (2 ^ m.val) = ((2 ^ m.val : Nat) : Int) ∧ IntKind.i64.wrap (2 ^ m.val) = ((2 ^ m.val : Nat) : Int)) ∧ (2 : Int) ^ m.val = ((2 ^ m.val : Nat) : Int) ∧ 1 ≤ 2 ^ m.val ∧ 2 ^ m.val ≤ 32 := by decide +kernel

set_option maxHeartbeats 400000 in
theorem specNetFamilies_any (a : Option Addr) (cap N : Nat) (n s t : Int) (cs : List RC) (w : World) (hN : cs.length = N) (hcap : N ≤ cap) (h63 : cap ≤ 9223372036854775807) (hm : ChipsR w a cs) :
    Calls Try.prog 18 #[.int .i64 n, .slice a N cap, .int .i64 s, .int .i64 t] w fun e w' => e = .returned (.tuple #[.int .i64 (famsV n cs s t), .bool (famsB n cs s t)]) ∧ w.Since w.heap.size w' := by
  have E := specNetIn_any a cap N n cs w hN (by omega) hm
  cases hb : netB n cs with
  | false =>
    have hf : famsB n cs s t = false := by unfold famsB; rw [hb, Bool.false_and]
    unfold famsV
    rw [hf, if_neg (by simp)]
    rw [hb] at E
    replace E := Lib.hid E
    clear hb hm hN hf
    go_enter Try.func18, Try.ntmps18
    go_wp2_with (go_at_call 60; refine (E.out).mono ?_; rintro e w1 ⟨rfl, hs1⟩; have HS1 := Lib.hid hs1; clear hs1)
    go_ret2
    exact ⟨rfl, HS1.out⟩
  | true =>
    obtain ⟨m, rfl, ho⟩ := netB_ok hb
    rw [hb] at E
    replace E := Lib.hid E
    have hm5 := ho.hi
    have h10 := ho.len
    obtain ⟨⟨p1, p2⟩, p3, p4, p5⟩ := p5_fin ⟨m, by omega⟩
    simp only at p1 p2 p3 p4 p5
    have hfB : famsB m cs s t = (inB s 0 ((2 ^ m : Nat) - 1 : Int) && (inB t 0 ((2 ^ m : Nat) - 1 : Int) && (popcS s.toNat == popcS t.toNat))) := by
      unfold famsB; rw [hb, Bool.true_and, Int.toNat_natCast, p3]
    obtain ⟨M, hM⟩ : ∃ M : Nat, 2 ^ m = M := ⟨_, rfl⟩
    rw [hM] at p1 p2 p3 p4 p5 hfB
    have hw : IntKind.i64.wrap ((M : Int) - 1) = (M : Int) - 1 := IntWalk.i64_in _ ⟨by omega, by omega⟩
    obtain ⟨b1, hb1⟩ : ∃ b, inB s 0 ((M : Int) - 1) = b := ⟨_, rfl⟩
    obtain ⟨b2, hb2⟩ : ∃ b, inB t 0 ((M : Int) - 1) = b := ⟨_, rfl⟩
    have E1 := Lib.hid (fun (W : World) => l6In_at s 0 ((M : Int) - 1) b1 W hb1)
    have E2 := Lib.hid (fun (W : World) => l6In_at t 0 ((M : Int) - 1) b2 W hb2)
    rw [hb1, hb2] at hfB
    by_cases hbb : b1 = true ∧ b2 = true
    · obtain ⟨rfl, rfl⟩ := hbb
      unfold inB at hb1 hb2
      simp only [decide_eq_true_eq] at hb1 hb2
      obtain ⟨j, rfl⟩ : ∃ j : Nat, s = j := ⟨s.toNat, by omega⟩
      obtain ⟨l, rfl⟩ : ∃ l : Nat, t = l := ⟨t.toNat, by omega⟩
      rw [Bool.true_and, Bool.true_and, Int.toNat_natCast, Int.toNat_natCast] at hfB
      have HP1 := Lib.hid (fun (W : World) => l2Size_any j (by omega) W)
      have HP2 := Lib.hid (fun (W : World) => l2Size_any l (by omega) W)
      have E3 := Lib.hid (fun (W : World) (hs : w.Since w.heap.size W) => l6cFamilies_any cs a N cap j l W hN (by omega) hcap h63 ho.five (by omega) (hm.since hs))
      have hV : famsV (m : Int) cs (j : Int) (l : Int) = if famsB m cs j l = true then famN (cs.map toC) j l else 0 := rfl
      obtain ⟨P, hP⟩ : ∃ P, famN (cs.map toC) j l = P := ⟨_, rfl⟩
      obtain ⟨A, hA⟩ : ∃ A, popcS j = A := ⟨_, rfl⟩
      obtain ⟨B, hB⟩ : ∃ B, popcS l = B := ⟨_, rfl⟩
      have hA6 : A ≤ 6 := by rw [← hA]; exact sel_length j 6 6
      have hB6 : B ≤ 6 := by rw [← hB]; exact sel_length l 6 6
      rw [hP] at E3 hV
      rw [hA] at HP1 hfB
      rw [hB] at HP2 hfB
      rw [hV, hfB]
      clear hb hm hN hP hA hB h10 hV hfB hM p3
      by_cases e : A = B
      · subst e
        have e1 : (A == A) = true := by simp
        rw [e1, if_pos rfl]
        clear e1
        go_enter Try.func18, Try.ntmps18
        go_wp2_with (first
          | (go_at_call 60; refine (E.out).mono ?_; rintro e w1 ⟨rfl, hs1⟩; have HS1 := Lib.hid hs1; clear hs1)
          | (go_at_call 61; ((with_reducible refine (E1.out _).mono ?_); rintro e w2 ⟨rfl, rfl⟩))
          | (go_at_call 61; ((with_reducible refine (E2.out _).mono ?_); rintro e w2 ⟨rfl, rfl⟩))
          | (go_at_call 59; ((with_reducible refine (HP1.out _).mono ?_); rintro e w2 ⟨rfl, rfl⟩))
          | (go_at_call 59; ((with_reducible refine (HP2.out _).mono ?_); rintro e w2 ⟨rfl, rfl⟩))
          | (go_at_call 62; refine (E3.out _ HS1.out).mono ?_; rintro e w2 ⟨rfl, hs2⟩; have HS2 := Lib.hid (HS1.out.trans (since_mono hs2 HS1.out.size)); clear hs2))
        go_ret2
        exact ⟨rfl, HS2.out⟩
      · have e1 : (A == B) = false := by simpa using e
        have e2 : (A != B) = true := by simpa using e
        have e3 : ((A : Int) == (B : Int)) = false := by simp; omega
        have e4 : ((A : Int) != (B : Int)) = true := by simp; omega
        rw [e1, if_neg (by simp)]
        clear e
        go_enter Try.func18, Try.ntmps18
        go_wp2_with (first
          | (go_at_call 60; refine (E.out).mono ?_; rintro e w1 ⟨rfl, hs1⟩; have HS1 := Lib.hid hs1; clear hs1)
          | (go_at_call 61; ((with_reducible refine (E1.out _).mono ?_); rintro e w2 ⟨rfl, rfl⟩))
          | (go_at_call 61; ((with_reducible refine (E2.out _).mono ?_); rintro e w2 ⟨rfl, rfl⟩))
          | (go_at_call 59; ((with_reducible refine (HP1.out _).mono ?_); rintro e w2 ⟨rfl, rfl⟩))
          | (go_at_call 59; ((with_reducible refine (HP2.out _).mono ?_); rintro e w2 ⟨rfl, rfl⟩)))
        go_ret2
        exact ⟨rfl, HS1.out⟩
    · have hf : famsB (m : Int) cs s t = false := by
        rw [hfB]
        cases b1 <;> cases b2 <;> simp at hbb ⊢
      unfold famsV
      rw [hf, if_neg (by simp)]
      clear hb hm hN hf hfB hb1 hb2 h10 hM p3
      cases b1 <;> cases b2
      case true.true => exact absurd ⟨rfl, rfl⟩ hbb
      all_goals
        clear hbb
        go_enter Try.func18, Try.ntmps18
        go_wp2_with (first
          | (go_at_call 60; refine (E.out).mono ?_; rintro e w1 ⟨rfl, hs1⟩; have HS1 := Lib.hid hs1; clear hs1)
          | (go_at_call 61; ((with_reducible refine (E1.out _).mono ?_); rintro e w2 ⟨rfl, rfl⟩))
          | (go_at_call 61; ((with_reducible refine (E2.out _).mono ?_); rintro e w2 ⟨rfl, rfl⟩)))
        go_ret2
        exact ⟨rfl, HS1.out⟩

end Go.Proofs.Ytbclpbgomkfabaa

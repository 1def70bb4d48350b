/- The walk of laws.FnNet. -/
import Derived.Test.YtggmiojhglkcgaaDrawN
import Derived.Test.YtggmiojhglkcgaaNetInI
import Derived.Test.YtggmiojhglkcgaaNetU
namespace Go.Proofs.Ytggmiojhglkcgaa
open Go.RowKit Go.Deep

/-- An operation that is guarded, and comes up. -/
theorem wpList_wanted {P : Program} {ops : Array Oper} {Q : Exit → Act → World → Prop} {a : Act} {w : World} {rest : List Oper} {o : Oper} (hw : Region.wanted o (yielded ops a.tmps) = true)
    (h : ∀ K : Act → World → Prop, (∀ a w, wpList P ops Q rest a w → K a w) → o.wp P a w K Q) : wpList P ops Q (o :: rest) a w :=
  wpList_step fun K hK => by rw [if_pos hw]; exact h K hK
theorem ChipsR.take {W : World} {b o : Nat} {cs : List RC} (h : ChipsR W (some ⟨b, o, none⟩) cs) (M : Nat) : ChipsR W (some ⟨b, o, none⟩) (cs.take M) := fun h0 => by
  rw [List.length_take] at h0
  obtain ⟨b', o', e, hc⟩ := h (by omega)
  refine ⟨b', o', e, fun i hi => ?_⟩
  rw [List.length_take] at hi
  have e2 : (cs.take M).getD i rc0 = cs.getD i rc0 := by simp [List.getD, show i < M by omega]
  rw [e2]
  exact hc i (by omega)
theorem netB_take {n : Int} {cs : List RC} (h : netB n cs = true) (M : Nat) : netB n (cs.take M) = true := by
  unfold netB at h ⊢
  simp only [Bool.and_eq_true, decide_eq_true_eq, List.all_eq_true, List.length_take] at h ⊢
  exact ⟨h.1, by omega, fun c hc => h.2.2 c (List.mem_of_mem_take hc)⟩
theorem inB_mono {x a b c : Int} (h : inB x a b = true) (hb : b ≤ c) : inB x a c = true := by
  unfold inB at h ⊢
  simp only [decide_eq_true_eq] at h ⊢
  omega
theorem netB_more {n : Nat} {cs : List RC} (h : netB n cs = true) (hn : n ≤ 4) : netB ((n : Int) + 1) cs = true := by
  unfold netB at h ⊢
  simp only [Bool.and_eq_true, decide_eq_true_eq, List.all_eq_true] at h ⊢
  refine ⟨?_, h.2.1, fun c hc => ?_⟩
  · have := h.1
    unfold inB at this ⊢
    simp only [decide_eq_true_eq] at this ⊢
    omega
  · have h2 := h.2.2 c hc
    unfold chipB at h2 ⊢
    simp only [Bool.and_eq_true] at h2 ⊢
    refine ⟨?_, h2.2⟩
    have h3 := h2.1
    unfold kindB at h3 ⊢
    split
    · rename_i e
      rw [if_pos e] at h3
      exact inB_mono h3 (by omega)
    · rename_i e
      rw [if_neg e] at h3
      split
      · rename_i e2
        rw [if_pos e2] at h3
        exact inB_mono h3 (by omega)
      · rename_i e2
        rw [if_neg e2] at h3
        exact h3

set_option maxRecDepth 100000 in
set_option maxHeartbeats 1000000 in
theorem fnNet (a : Option Addr) (cap n : Nat) (w : World) (hc : n ≤ cap) (h63 : cap ≤ 9223372036854775807) (hb : BytR w a n) :
    Calls Try.prog 3 #[.slice a n cap] w fun e w' => e = .returned (.bool true) ∧ w.Since w.heap.size w' := by
  by_cases hlen : 1048576 < n
  · have hl' : decide ((1048576 : Int) < (n : Int)) = true := by simp; omega
    clear hb
    go_enter Try.func3, Try.ntmps3
    go_wp2
    go_ret
    exact ⟨rfl, World.Since.refl _ _⟩
  · have hl' : decide ((1048576 : Int) < (n : Int)) = false := by simp; omega
    have ED := Lib.hid (drawNetIn_any a n cap w hc h63 hb)
    clear hb
    go_enter Try.func3, Try.ntmps3
    go_wp2_with fail
    refine (ED.out).mono ?_
    rintro e w1 ⟨m, a1, c1, cs, rfl, hs1, hm, hl, ⟨g, rfl⟩, hcl, hc63, ho⟩
    clear ED
    obtain ⟨N, hN⟩ : ∃ N, cs.length = N := ⟨_, rfl⟩
    rw [hN] at hl hcl ⊢
    have HS1 := Lib.hid hs1
    have E1 := fun (W : World) (h : w1.Since w1.heap.size W) => implNetIn_any (some ⟨g, 0, none⟩) c1 N m cs W hN (by omega) (ho.chips.since h)
    have E2 := fun (W : World) (h : w1.Since w1.heap.size W) => specNetIn_any (some ⟨g, 0, none⟩) c1 N m cs W hN (by omega) (ho.chips.since h)
    cases hok : netB m cs with
    | false =>
      simp only [hok] at E1 E2
      replace E1 := Lib.hid E1
      replace E2 := Lib.hid E2
      clear ho hs1 hok hN
      go_wp2_with (first
        | (go_at_call 15; refine (E1.out _ (World.Since.refl _ _)).mono ?_; rintro e w2 ⟨rfl, hs2⟩; have HS2 := Lib.hid hs2; clear hs2)
        | (go_at_call 16; refine (E2.out _ HS2.out).mono ?_; rintro e w3 ⟨rfl, hs3⟩; have HS3 := Lib.hid (HS1.out.trans (since_mono (HS2.out.trans (since_mono hs3 HS2.out.size)) HS1.out.size)); clear hs3))
      go_ret
      exact ⟨rfl, HS3.out⟩
    | true =>
      have E3 : Hid (∀ (_ : m ≤ 4) (W : World) (_ : w1.Since w1.heap.size W), Calls Try.prog 15 #[.int .i64 ((m : Int) + 1), .slice (some ⟨g, 0, none⟩) N c1] W fun e w' => e = .returned (.bool true) ∧ W.Since W.heap.size w') := Lib.hid (fun hm4 W h => by
        have := implNetIn_any (some ⟨g, 0, none⟩) c1 N ((m : Int) + 1) cs W hN (by omega) (ho.chips.since h)
        rw [netB_more hok hm4] at this
        exact this)
      have E4 : Hid (∀ (M : Nat) (_ : N = M + 1) (W : World) (a' : Option Addr) (c' : Nat) (_ : ChipsR W a' (cs.take M)), Calls Try.prog 15 #[.int .i64 m, .slice a' M c'] W fun e w' => e = .returned (.bool true) ∧ W.Since W.heap.size w') := Lib.hid (fun M hM W a' c' h => by
        have := implNetIn_any a' c' M m (cs.take M) W (by rw [List.length_take, hN]; omega) (by omega) h
        rw [netB_take hok M] at this
        exact this)
      have HA := Lib.hid (fun (M : Nat) (W : World) (h : w1.Since w1.heap.size W) => (ho.chips.take M).cells h)
      simp only [hok] at E1 E2
      replace E1 := Lib.hid E1
      replace E2 := Lib.hid E2
      have HN := Lib.hid hN
      obtain ⟨iC, hiC⟩ := infoChip_parts
      have HI := Lib.hid hiC
      have HCB := Lib.hid (fun (W : World) => cb_start W #[] rfl)
      clear ho hs1 hok hN hiC
      by_cases h0 : N = 0
      · subst h0
        by_cases hm4 : m ≤ 4
        · have hmd : decide ((4 : Int) < (m : Int)) = false := by simp; omega
          go_wp2_with (first
            | (go_at_call 15; ((with_reducible refine (E1.out _ (World.Since.refl _ _)).mono ?_); rintro e w2 ⟨rfl, hs2⟩; have HS2 := Lib.hid hs2; clear hs2))
            | (go_at_call 16; refine (E2.out _ HS2.out).mono ?_; rintro e w3 ⟨rfl, hs3⟩; have HS3 := Lib.hid (HS2.out.trans (since_mono hs3 HS2.out.size)); clear hs3)
            | (go_at_call 15; ((with_reducible refine (E3.out hm4 _ HS3.out).mono ?_); rintro e w4 ⟨rfl, hs4⟩; have HS4 := Lib.hid (HS3.out.trans (since_mono hs4 HS3.out.size)); clear hs4)))
          go_ret
          exact ⟨rfl, HS1.out.trans (since_mono HS4.out HS1.out.size)⟩
        · have hmd : decide ((4 : Int) < (m : Int)) = true := by simp; omega
          go_wp2_with (first
            | (go_at_call 15; ((with_reducible refine (E1.out _ (World.Since.refl _ _)).mono ?_); rintro e w2 ⟨rfl, hs2⟩; have HS2 := Lib.hid hs2; clear hs2))
            | (go_at_call 16; refine (E2.out _ HS2.out).mono ?_; rintro e w3 ⟨rfl, hs3⟩; have HS3 := Lib.hid (HS2.out.trans (since_mono hs3 HS2.out.size)); clear hs3))
          go_ret
          exact ⟨rfl, HS1.out.trans (since_mono HS3.out HS1.out.size)⟩
      · obtain ⟨M, rfl⟩ : ∃ M, N = M + 1 := ⟨N - 1, by omega⟩
        clear h0
        have HLT : Hid ((cs.take M).length = M) := Lib.hid (by rw [List.length_take, HN.out]; omega)
        by_cases hm4 : m ≤ 4
        · have hmd : decide ((4 : Int) < (m : Int)) = false := by simp; omega
          go_wp2_with (first
            | (go_at_call 15; ((with_reducible refine (E1.out _ (World.Since.refl _ _)).mono ?_); rintro e w2 ⟨rfl, hs2⟩; have HS2 := Lib.hid hs2; clear hs2))
            | (go_at_call 16; refine (E2.out _ HS2.out).mono ?_; rintro e w3 ⟨rfl, hs3⟩; have HS3 := Lib.hid (HS2.out.trans (since_mono hs3 HS2.out.size)); clear hs3)
            | (go_at_call 15; ((with_reducible refine (E3.out hm4 _ HS6.out).mono ?_); rintro e w4 ⟨rfl, hs4⟩; have HS4 := Lib.hid (HS6.out.trans (since_mono hs4 HS6.out.size)); clear hs4))
            | (at_builtin; refine wpList_wanted (by rfl) (fun K hK => ?_); go_loud (refine wp_append_own _ (.tmp 36) (.tmp 41) 23 rfl w3.heap.size 35 iC (.agg #[.string ⟨#[]⟩, .int .i64 0, .int .i64 0]) 3 32 Try.underlying23 HI.out.1 HI.out.2.1 HI.out.2.2.1 HI.out.2.2.2 rfl (by decide) (.slice (some ⟨w3.heap.size, 0, none⟩) 0 0) 0 [] rfl (HCB.out w3).own ⟨g, 0, none⟩ M c1 (ch3 (cs.take M)) rfl (by rw [ch3_length, HLT.out]) (HA.out M _ (HS3.out.alloc HS3.out.size _)) (ch3_one _) (by unfold maxLen; omega) (by omega) (by simp) ?_); go_loud (intro v' w5 hown' hgrow _); refine hK _ _ ?_; clear hK K; go_loud (obtain ⟨va, vc, hve, hvo, _, _⟩ := (CB.push (HCB.out w3) (ds := cs.take M) (n := 0 + M) (by rw [HLT.out]; rfl) (World.Since.refl _ _) hown' hgrow).ownC); go_loud (have hS5 := (CB.push (HCB.out w3) (ds := cs.take M) (n := 0 + M) (by rw [HLT.out]; rfl) (World.Since.refl _ _) hown' hgrow).since); go_loud (rw [List.nil_append] at hve hvo); go_loud (rw [HLT.out] at hve; subst hve); have HO5 := Lib.hid hvo.chips; have HS5 := Lib.hid (HS3.out.trans (since_mono hS5 HS3.out.size)); clear hown' hgrow hvo hS5)
            | (go_at_call 15; ((with_reducible refine (E4.out M rfl _ _ _ HO5.out).mono ?_); rintro e w6 ⟨rfl, hs6⟩; have HS6 := Lib.hid (HS5.out.trans (since_mono hs6 HS5.out.size)); clear hs6)))
          go_ret
          exact ⟨rfl, HS1.out.trans (since_mono HS4.out HS1.out.size)⟩
        · have hmd : decide ((4 : Int) < (m : Int)) = true := by simp; omega
          go_wp2_with (first
            | (go_at_call 15; ((with_reducible refine (E1.out _ (World.Since.refl _ _)).mono ?_); rintro e w2 ⟨rfl, hs2⟩; have HS2 := Lib.hid hs2; clear hs2))
            | (go_at_call 16; refine (E2.out _ HS2.out).mono ?_; rintro e w3 ⟨rfl, hs3⟩; have HS3 := Lib.hid (HS2.out.trans (since_mono hs3 HS2.out.size)); clear hs3)
            | (at_builtin; refine wpList_wanted (by rfl) (fun K hK => ?_); go_loud (refine wp_append_own _ (.tmp 36) (.tmp 41) 23 rfl w3.heap.size 35 iC (.agg #[.string ⟨#[]⟩, .int .i64 0, .int .i64 0]) 3 32 Try.underlying23 HI.out.1 HI.out.2.1 HI.out.2.2.1 HI.out.2.2.2 rfl (by decide) (.slice (some ⟨w3.heap.size, 0, none⟩) 0 0) 0 [] rfl (HCB.out w3).own ⟨g, 0, none⟩ M c1 (ch3 (cs.take M)) rfl (by rw [ch3_length, HLT.out]) (HA.out M _ (HS3.out.alloc HS3.out.size _)) (ch3_one _) (by unfold maxLen; omega) (by omega) (by simp) ?_); go_loud (intro v' w5 hown' hgrow _); refine hK _ _ ?_; clear hK K; go_loud (obtain ⟨va, vc, hve, hvo, _, _⟩ := (CB.push (HCB.out w3) (ds := cs.take M) (n := 0 + M) (by rw [HLT.out]; rfl) (World.Since.refl _ _) hown' hgrow).ownC); go_loud (have hS5 := (CB.push (HCB.out w3) (ds := cs.take M) (n := 0 + M) (by rw [HLT.out]; rfl) (World.Since.refl _ _) hown' hgrow).since); go_loud (rw [List.nil_append] at hve hvo); go_loud (rw [HLT.out] at hve; subst hve); have HO5 := Lib.hid hvo.chips; have HS5 := Lib.hid (HS3.out.trans (since_mono hS5 HS3.out.size)); clear hown' hgrow hvo hS5)
            | (go_at_call 15; ((with_reducible refine (E4.out M rfl _ _ _ HO5.out).mono ?_); rintro e w6 ⟨rfl, hs6⟩; have HS6 := Lib.hid (HS5.out.trans (since_mono hs6 HS5.out.size)); clear hs6)))
          go_ret
          exact ⟨rfl, HS1.out.trans (since_mono HS6.out HS1.out.size)⟩

end Go.Proofs.Ytggmiojhglkcgaa

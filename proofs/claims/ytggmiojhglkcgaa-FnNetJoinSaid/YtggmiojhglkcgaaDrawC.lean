/- What draws chips. -/
import Derived.Test.YtggmiojhglkcgaaChipR
import Derived.Test.YtggmiojhglkcgaaDraw1
import Derived.Test.YtggmiojhglkcgaaDrawOne
namespace Go.Proofs.Ytggmiojhglkcgaa
open Go.RowKit Go.Deep

/-- Chips of one's own, in a block from B on. -/
def CW (B : Nat) (w : World) (v : Value) (cs : List RC) : Prop := w.ownsRow B 35 3 v cs.length (ch3 cs)
theorem CW.kept {B : Nat} {w w' : World} {v : Value} {cs : List RC} {G : Nat} (h : CW B w v cs) (hg : w.grownBy w' (some G)) (hG : G < B) : CW B w' v cs :=
  World.ownsRow.kept h hg (by
    cases hv : v.ownBlock with
    | none => exact .inl rfl
    | some k => exact .inr (fun e => by injection e with e; have := (World.ownsRow.lt h k hv).1; omega))
theorem CW.alloc {B : Nat} {w : World} {v : Value} {cs : List RC} (h : CW B w v cs) (o : Obj) : CW B (w.alloc o) v cs :=
  World.ownsRow.kept h (row := none) (World.grownBy_alloc w o none) (by
    cases hv : v.ownBlock with
    | none => exact .inl rfl
    | some k => exact .inr (by simp))
theorem CW.snoc {B : Nat} {w : World} {v : Value} {cs : List RC} {c : RC} {n : Nat} (hn : n = cs.length + 1) (h : w.ownsRow B 35 3 v n (ch3 cs ++ ch3 [c])) : CW B w v (cs ++ [c]) := by
  subst hn
  unfold CW
  rw [ch3_app, List.length_append]
  exact h

set_option maxHeartbeats 1000000 in
theorem of_any (w0 w : World) (G nb c p q c5 : Nat) (a : Option Addr) (h : RD w0 w G a nb c 116 p) (hp : p ≤ 100000) (hq : ∀ x, x < 5 → ∃ s, w.cell? ⟨q, x, none⟩ = some (.string s)) (hqG : q ≠ G) :
    Calls Try.prog 122 #[.pointer (some ⟨G, 0, none⟩), .slice (some ⟨q, 0, none⟩) 5 c5] w fun e w' => ∃ s, e = .returned (.string s) ∧ w.grownBy w' (some G) ∧ RD w0 w' G a nb c 116 (p + 1) := by
  have E := Lib.hid (pick_any w0 w G nb c p a 5 h hp)
  have HQ := Lib.hid hq
  clear h hq
  go_enter Try.func122, Try.ntmps122
  go_wp2_with fail
  refine (E.out).mono ?_
  rintro e w1 ⟨x, rfl, hx, hg, hd⟩
  obtain ⟨s, hs⟩ := HQ.out x (by omega)
  have hs1 := cell_grown hs hg hqG
  have hx5 : x < 5 := by omega
  have HG := Lib.hid hg
  have HD := Lib.hid hd
  clear hx hs hg hd
  go_wp2_with fail
  go_ret
  exact ⟨s, rfl, HG.out, HD.out⟩

set_option maxRecDepth 100000 in
set_option maxHeartbeats 1000000 in
theorem l91Chips_any (w0 w : World) (G nb c p n most : Nat) (a : Option Addr) (h : RD w0 w G a nb c 116 p) (hn : n ≤ 10) (hm : most ≤ 10) (hp : p ≤ 50000) :
    Calls Try.prog 84 #[.pointer (some ⟨G, 0, none⟩), .int .i64 n, .int .i64 most] w fun e w' => ∃ v cs p', e = .returned v ∧ cs.length ≤ 12 ∧ v ≠ .slice none 0 0 ∧ w.grownBy w' (some G) ∧ RD w0 w' G a nb c 116 p' ∧ p' ≤ p + 100 ∧ CW w.heap.size w' v cs := by
  obtain ⟨iC, hiC⟩ := infoChip_parts
  have HI := Lib.hid hiC
  have hGW := h.lt
  have HRD := Lib.hid h
  have hST : CW w.heap.size (w.alloc (.cells #[] 35)) (.slice (some ⟨w.heap.size, 0, none⟩) 0 0) [] := World.ownsRow_made w #[] 0 (Nat.le_refl _) (Nat.zero_le _) rfl
  have HST := Lib.hid hST
  clear h hiC hST
  go_enter Try.func84, Try.ntmps84
  go_wp2_with fail
  refine (pick_any w0 _ G nb c _ a _ (HRD.out.grown (World.grownBy_alloc w _ none) (fun k e => by cases e)) (by omega)).mono ?_
  rintro e w1 ⟨κ, rfl, hκ, hg, hd⟩
  have hk : κ ≤ 10 := by omega
  have HW1 := Lib.hid (HST.out.kept hg hGW)
  have HG1 := Lib.hid (grown_trans (World.grownBy_alloc w _ _) hg)
  have HD1 := Lib.hid hd
  clear hg hd hκ HRD HST
  go_wp2_with fail
  go_loopg [7, 9, 10, 11] κ (fun g v i _ _ wr => ∃ (r p' : Nat) (cs : List RC), r ≤ κ ∧ g = κ - r ∧ i = .int .i64 (r : Nat) ∧ cs.length = r ∧ v ≠ .slice none 0 0 ∧ w.grownBy wr (some G) ∧ RD w0 wr G a nb c 116 p' ∧ p' ≤ p + 1 + 7 * r ∧ CW w.heap.size wr v cs)
  case atStart => exact ⟨0, _, [], Nat.zero_le _, rfl, rfl, rfl, by simp, HG1.out, HD1.out, by omega, HW1.out⟩
  case round =>
    obtain ⟨r, p', cs, hr, rfl, rfl, hl, hnv, hgw, hd, hp', hW⟩ := hrel
    clear HW1 HG1 HD1
    have HW := Lib.hid hW
    have HG := Lib.hid hgw
    have HD := Lib.hid hd
    have HL := Lib.hid hl
    have HNV := Lib.hid hnv
    have hzw := hgw.size
    clear hW hgw hd hl hnv
    by_cases hlt : r < κ
    · go_wp2_with fail
      refine (of_any w0 _ G nb c _ _ _ a (HD.out.grown (World.grownBy_alloc _ _ none) (fun k e => by cases e)) (by omega) (fun x hx => ?_) (by omega)).mono ?_
      · rcases show x = 0 ∨ x = 1 ∨ x = 2 ∨ x = 3 ∨ x = 4 by omega with rfl | rfl | rfl | rfl | rfl
        all_goals exact ⟨_, by rw [World.cell?_alloc_new]; rfl⟩
      rintro e w2 ⟨K, rfl, hg2, hd2⟩
      have HW := Lib.hid ((HW.out.alloc _).kept hg2 hGW)
      have HG := Lib.hid (grown_trans (grown_alloc HG.out _) hg2)
      have HD := Lib.hid hd2
      clear hg2 hd2
      go_wp2_with fail
      refine (pick_any w0 _ G nb c _ a _ HD.out (by omega)).mono ?_
      rintro e w3 ⟨L, rfl, _, hg3, hd3⟩
      have HW := Lib.hid (HW.out.kept hg3 hGW)
      have HG := Lib.hid (grown_trans HG.out hg3)
      have HD := Lib.hid hd3
      clear hg3 hd3
      by_cases hb : K.toList = [104]
      · have hbt : (K.toList == [104]) = true := by simpa using hb
        clear hb
        go_wp2_with (first
          | (go_at_call 83; refine (pick_any w0 _ G nb c _ a _ HD.out (by omega)).mono ?_; rintro e w2 ⟨y, rfl, hy, hg, hd⟩; have HW := Lib.hid (HW.out.kept hg hGW); have HG := Lib.hid (grown_trans HG.out hg); have HD := Lib.hid hd; clear hd hg hy)
          | (at_builtin; (refine wpList_append_own _ rfl _ _ 23 rfl w.heap.size 35 iC (.agg #[.string ⟨#[]⟩, .int .i64 0, .int .i64 0]) 3 32 Try.underlying23 HI.out.1 HI.out.2.1 HI.out.2.2.1 HI.out.2.2.2 rfl (by decide) _ _ _ rfl (HW.out.alloc _) _ 1 1 (ch3 [⟨_, _, _⟩]) rfl rfl (by exact news3 _ ⟨_, _, _⟩ _) (ch3_one _) (by have := HL.out; unfold maxLen; omega) (by have := HL.out; omega) (by have := HG.out.size; simp; omega) ?_); intro v' w3 hown' hgr hnn; have hne := fun i e => (World.ownsRow.lt (HW.out.alloc (.cells #[] 0)) i e).1; have HW3 := Lib.hid (CW.snoc rfl hown'); have HG3 := Lib.hid (grown_new (grown_alloc HG.out _) hgr hne); have HD3 := Lib.hid ((HD.out.grown (World.grownBy_alloc _ _ none) (fun k e => by cases e)).grown hgr (fun i e => by have := hne i e; omega)); have HNN := Lib.hid hnn; clear hown' hgr hnn hne))
        go_roundg (κ - (r + 1))
        case measure => omega
        case rel => exact ⟨r + 1, _, _, by omega, rfl, by go_num, by rw [List.length_append, HL.out]; rfl, fun e => HNV.out (HNN.out.1 e).1, HG3.out, HD3.out, by omega, HW3.out⟩
      · have hbt : (K.toList == [104]) = false := by simpa using hb
        clear hb
        go_wp2_with (first
          | (go_at_call 83; refine (pick_any w0 _ G nb c _ a _ HD.out (by omega)).mono ?_; rintro e w2 ⟨y, rfl, hy, hg, hd⟩; have HW := Lib.hid (HW.out.kept hg hGW); have HG := Lib.hid (grown_trans HG.out hg); have HD := Lib.hid hd; clear hd hg hy)
          | (at_builtin; (refine wpList_append_own _ rfl _ _ 23 rfl w.heap.size 35 iC (.agg #[.string ⟨#[]⟩, .int .i64 0, .int .i64 0]) 3 32 Try.underlying23 HI.out.1 HI.out.2.1 HI.out.2.2.1 HI.out.2.2.2 rfl (by decide) _ _ _ rfl (HW.out.alloc _) _ 1 1 (ch3 [⟨_, _, _⟩]) rfl rfl (by exact news3 _ ⟨_, _, _⟩ _) (ch3_one _) (by have := HL.out; unfold maxLen; omega) (by have := HL.out; omega) (by have := HG.out.size; simp; omega) ?_); intro v' w3 hown' hgr hnn; have hne := fun i e => (World.ownsRow.lt (HW.out.alloc (.cells #[] 0)) i e).1; have HW3 := Lib.hid (CW.snoc rfl hown'); have HG3 := Lib.hid (grown_new (grown_alloc HG.out _) hgr hne); have HD3 := Lib.hid ((HD.out.grown (World.grownBy_alloc _ _ none) (fun k e => by cases e)).grown hgr (fun i e => by have := hne i e; omega)); have HNN := Lib.hid hnn; clear hown' hgr hnn hne))
        go_roundg (κ - (r + 1))
        case measure => omega
        case rel => exact ⟨r + 1, _, _, by omega, rfl, by go_num, by rw [List.length_append, HL.out]; rfl, fun e => HNV.out (HNN.out.1 e).1, HG3.out, HD3.out, by omega, HW3.out⟩
    · obtain rfl : r = κ := by omega
      go_wp2_with fail
      refine (pick_any w0 _ G nb c _ a _ HD.out (by omega)).mono ?_
      rintro e w2 ⟨y, rfl, _, hg2, hd2⟩
      have HW := Lib.hid (HW.out.kept hg2 hGW)
      have HG := Lib.hid (grown_trans HG.out hg2)
      have HD := Lib.hid hd2
      clear hg2 hd2
      by_cases hy : y = 0
      · subst hy
        go_wp2_with (at_builtin; (refine wpList_append_own _ rfl _ _ 23 rfl w.heap.size 35 iC (.agg #[.string ⟨#[]⟩, .int .i64 0, .int .i64 0]) 3 32 Try.underlying23 HI.out.1 HI.out.2.1 HI.out.2.2.1 HI.out.2.2.2 rfl (by decide) _ _ _ rfl (HW.out.alloc _) _ 1 1 (ch3 [⟨_, _, _⟩]) rfl rfl (by exact news3 _ ⟨_, _, _⟩ _) (ch3_one _) (by have := HL.out; unfold maxLen; omega) (by have := HL.out; omega) (by have := HG.out.size; simp; omega) ?_); intro v' w3 hown' hgr hnn; have hne := fun i e => (World.ownsRow.lt (HW.out.alloc (.cells #[] 0)) i e).1; have HW3 := Lib.hid (CW.snoc rfl hown'); have HG3 := Lib.hid (grown_new (grown_alloc HG.out _) hgr hne); have HD3 := Lib.hid ((HD.out.grown (World.grownBy_alloc _ _ none) (fun k e => by cases e)).grown hgr (fun i e => by have := hne i e; omega)); have HNN := Lib.hid hnn; clear hown' hgr hnn hne)
        go_ret
        exact ⟨_, _, _, rfl, by rw [List.length_append, HL.out]; simp; omega, fun e => HNV.out (HNN.out.1 e).1, HG3.out, HD3.out, by omega, HW3.out⟩
      · have hyb : ((y : Int) == 0) = false := by simp; omega
        go_wp2_with fail
        go_ret
        exact ⟨_, _, _, rfl, by rw [HL.out]; omega, HNV.out, HG.out, HD.out, by omega, HW.out⟩

/-- A call has drawn chips. -/
def DrawnC (w w' : World) (a : Option Addr) (cap : Nat) (cs : List RC) : Prop :=
  cs.length ≤ 12 ∧ (∃ g, a = some ⟨g, 0, none⟩) ∧ cs.length ≤ cap ∧ cap ≤ 9223372036854775807 ∧ OwnC w.heap.size w'.heap.size w' a cs
theorem CW.drawn {w w1 w' : World} {v : Value} {cs : List RC} (h : CW w1.heap.size w' v cs) (hw : w.heap.size ≤ w1.heap.size) (hl : cs.length ≤ 12) (hv : v ≠ .slice none 0 0) : ∃ a cap, v = .slice a cs.length cap ∧ DrawnC w w' a cap cs := by
  have hm : maxLen = 9223372036854775807 := rfl
  have h' : w'.ownsRow w1.heap.size 35 3 v cs.length (ch3 cs) := h
  rcases h'.2 with ⟨hv', h0⟩ | ⟨g, cap, cur, rfl, hb, hg, hn, hmx, hs, ht⟩
  · exact absurd hv' hv
  · refine ⟨_, cap, rfl, hl, ⟨g, rfl⟩, hn, by omega, fun _ => ⟨g, rfl, ⟨by omega, (Array.getElem?_eq_some_iff.1 hg).1⟩, fun i hi => ?_⟩⟩
    obtain ⟨e1, e2, e3⟩ := ch3_get cs i hi
    have hf : ∀ j, w'.frozen? ⟨g, j, none⟩ = false := fun j => by simp [World.frozen?, hg]
    exact ⟨⟨(World.ownsRow.cellAt h' (i * 3) (by omega)).trans e1, (World.ownsRow.cellAt h' (i * 3 + 1) (by omega)).trans e2, (World.ownsRow.cellAt h' (i * 3 + 2) (by omega)).trans e3⟩, hf _, hf _, hf _⟩

set_option maxHeartbeats 1000000 in
theorem l92Net_any (a : Option Addr) (nb cb : Nat) (w : World) (hc : nb ≤ cb) (h63 : cb ≤ 9223372036854775807) (hb : BytR w a nb) :
    Calls Try.prog 55 #[.slice a nb cb] w fun e w' => ∃ (n : Nat) (a' : Option Addr) (cap : Nat) (cs : List RC), e = .returned (.tuple #[.int .i64 n, .slice a' cs.length cap]) ∧ w.Since w.heap.size w' ∧ (2 ≤ n ∧ n ≤ 5) ∧ DrawnC w w' a' cap cs := by
  have E := Lib.hid (l6Open_any a nb cb w hc h63 hb)
  clear hb
  go_enter Try.func55, Try.ntmps55
  go_wp2_with fail
  refine (E.out).mono ?_
  rintro e w1 ⟨n', c', rfl, hs, hz, hd⟩
  have HD1 := Lib.hid hd
  have HS := Lib.hid hs
  have hz1 : w.heap.size < w1.heap.size := by omega
  clear hd hs hz
  go_wp2_with fail
  refine (pick_any w _ w.heap.size n' c' _ a _ HD1.out (by omega)).mono ?_
  rintro e w2 ⟨y2, rfl, hy2, hg2, hd2⟩
  have HD2 := Lib.hid hd2
  have HG2 := Lib.hid hg2
  clear hd2 hg2
  obtain ⟨n, hn, hhn⟩ : ∃ n : Nat, IntKind.i64.wrap (2 + (y2 : Int)) = n ∧ n = y2 + 2 := ⟨y2 + 2, (IntWalk.i64_in _ ⟨by omega, by omega⟩).trans (by omega), rfl⟩
  have hbn : 2 ≤ n ∧ n ≤ 5 := by omega
  clear hhn hy2
  go_wp2_with fail
  refine (l91Chips_any w _ w.heap.size n' c' _ n 8 a HD2.out (by omega) (by omega) (by omega)).mono ?_
  rintro e w3 ⟨v, cs, p', rfl, hl, hnv, hg3, hd3, hp', hW⟩
  have hz2 := HG2.out.size
  obtain ⟨a', cap, rfl, hD⟩ := hW.drawn (w := w) (by omega) hl hnv
  have HD := Lib.hid hD
  have HS3 := Lib.hid (HS.out.trans (since_grown (grown_trans HG2.out hg3) (Nat.le_refl _) (by omega)))
  clear hl hnv hg3 hd3 hW hD
  go_wp2_with fail
  go_ret2
  exact ⟨_, _, _, _, rfl, HS3.out, hbn, HD.out⟩

end Go.Proofs.Ytggmiojhglkcgaa

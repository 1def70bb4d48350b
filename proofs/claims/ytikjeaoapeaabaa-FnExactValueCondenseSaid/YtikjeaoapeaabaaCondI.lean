/- The contracts of middle, hasZero and condensed. -/
import Derived.Test.YtikjeaoapeaabaaCondP
import Derived.Test.YtikjeaoapeaabaaSeek
import Derived.Test.YtikjeaoapeaabaaPartImpl
import Derived.Test.YtikjeaoapeaabaaBehind
namespace Go.Proofs.Ytikjeaoapeaabaa
open Go.RowKit Go.Deep

theorem sel_mid : ∀ m : Fin 7, 1 ≤ m.val → (sel (2 ^ m.val - 2) (m.val + 1) (m.val + 1)).map (·.1) = (List.range (m.val - 1)).map (· + 1) := by decide +kernel
theorem mid_wrap : ∀ m : Fin 7, 1 ≤ m.val → IntKind.i64.wrap (((2 ^ (m.val - 1) - 1 : Nat) : Int) * 2) = ((2 ^ m.val - 2 : Nat) : Int) ∧ 2 ^ m.val - 2 ≤ 63 := by decide +kernel
theorem tabF_rec7 {m : Nat} (h1 : 1 ≤ m) (h6 : m ≤ 7) (X : Nat → Nat → Int) : Rec7 (tabF m m X) := by
  refine ⟨by rw [tabF_length]; exact h1, by rw [tabF_length]; exact h6, by rw [tabF_len _ _ _ _ (by omega)]; omega, fun {r} hr => ?_⟩
  rw [tabF_length] at hr
  rw [tabF_len _ _ _ _ hr, tabF_len _ _ _ _ (by omega)]
theorem partL_mid {m : Nat} (h1 : 1 ≤ m) (h6 : m ≤ 6) (f : Nat → Nat → Int) : partL (tabF (m + 1) (m + 1) f) (2 ^ m - 2) (2 ^ m - 2) = tabF (m - 1) (m - 1) (fun i k => f (i + 1) (k + 1)) := by
  have e := sel_mid ⟨m, by omega⟩ h1
  simp only at e
  have hl : (tabF (m + 1) (m + 1) f).length = m + 1 := tabF_length _ _ _
  have hw : ((tabF (m + 1) (m + 1) f).getD 0 []).length = m + 1 := tabF_len _ _ _ _ (by omega)
  have hp : ∀ x : List Int, pickTo (2 ^ m - 2) x (m + 1) (m + 1) = (List.range (m - 1)).map (fun k => x.getD (k + 1) 0) := fun x => by
    have e2 : pickTo (2 ^ m - 2) x (m + 1) (m + 1) = ((sel (2 ^ m - 2) (m + 1) (m + 1)).map (·.1)).map (fun j => x.getD j 0) := by rw [List.map_map]; rfl
    rw [e2, e, List.map_map]; rfl
  have e3 : partL (tabF (m + 1) (m + 1) f) (2 ^ m - 2) (2 ^ m - 2) = ((sel (2 ^ m - 2) (m + 1) (m + 1)).map (·.1)).map (fun r => pickTo (2 ^ m - 2) ((tabF (m + 1) (m + 1) f).getD r []) (m + 1) (m + 1)) := by
    unfold partL partRows
    rw [hl, hw, List.map_map]; rfl
  rw [e3, e, List.map_map]
  unfold tabF
  refine List.map_congr_left fun i hi => ?_
  have hi' := List.mem_range.1 hi
  show pickTo _ ((tabF (m + 1) (m + 1) f).getD (i + 1) []) _ _ = _
  rw [hp]
  refine List.map_congr_left fun k hk => ?_
  have hk' := List.mem_range.1 hk
  exact tabF_at _ _ _ (i + 1) (k + 1) (by omega) (by omega)

set_option maxRecDepth 100000 in
set_option maxHeartbeats 1000000 in
theorem middle_any (a : Option Addr) (cap m M : Nat) (f : Nat → Nat → Int) (w : World) (h2 : 2 ≤ m) (h6 : m ≤ 6) (hM : M = m + 1) (hm : MatR w a (tabF M M f)) :
    Calls Try.prog 116 #[.slice a M cap] w fun e w' => ∃ a' cap', e = .returned (.slice a' (m - 1) cap') ∧ w.Since w.heap.size w' ∧ MatR w' a' (tabF (m - 1) (m - 1) (fun i k => f (i + 1) (k + 1))) := by
  obtain ⟨e1, e2⟩ := mid_wrap ⟨m, by omega⟩ (by show 1 ≤ m; omega)
  simp only at e1 e2
  have E1 := fullSet_any (m - 1) (by omega) w
  have hpm := partL_mid (m := m) (by omega) h6 f
  subst hM
  have E2 := part_rec7 a cap (m + 1) (2 ^ m - 2) (2 ^ m - 2) (tabF (m + 1) (m + 1) f) w (tabF_length _ _ _) (tabF_rec7 (by omega) (by omega) f) e2 e2 hm
  rw [hpm, tabF_length] at E2
  obtain ⟨M, hM⟩ : ∃ M, m + 1 = M := ⟨_, rfl⟩
  have hsub : IntKind.i64.wrap ((M : Int) - 2) = ((m - 1 : Nat) : Int) := (IntWalk.i64_in _ ⟨by omega, by omega⟩).trans (by omega)
  rw [hM] at E2 ⊢
  obtain ⟨S, hS⟩ : ∃ S, 2 ^ m - 2 = S := ⟨_, rfl⟩
  obtain ⟨q, hq⟩ : ∃ q, m - 1 = q := ⟨_, rfl⟩
  obtain ⟨B, hB⟩ : ∃ B, 2 ^ q - 1 = B := ⟨_, rfl⟩
  rw [hS] at E2 e1
  rw [hq] at E1 E2 e1 hsub ⊢
  rw [hB] at E1 e1
  replace E1 := Lib.hid E1
  replace E2 := Lib.hid E2
  clear hm hpm hS e2 hB hM hq
  go_enter Try.func116, Try.ntmps116
  go_wp2_with fail
  refine (E1.out).mono ?_
  rintro e w' ⟨rfl, rfl⟩
  go_wp2_with fail
  refine (E2.out).mono ?_
  rintro e w2 ⟨a', c', rfl, hs, ho, _⟩
  go_wp2
  go_ret
  exact ⟨a', c', rfl, hs, ho.matR⟩

set_option maxHeartbeats 400000 in
theorem hasZero1_any (r : Option Addr) (c m : Nat) (x : List Int) (w : World) (hx : x.length = m) (hm : m ≤ 1048576) (hr : RowR w r x) :
    Calls Try.prog 126 #[.slice r m c] w fun e w' => e = .returned (.bool (decide ((0 : Int) ∈ x))) ∧ w = w' := by
  have E := Lib.hid (contains_any r c m x 0 w hx hm hr)
  clear hx hr
  go_enter Try.func126, Try.ntmps126
  go_wp2_with fail
  refine (E.out).mono ?_
  rintro e w' ⟨rfl, rfl⟩
  go_wp2
  go_ret
  exact ⟨rfl, rfl⟩

set_option maxHeartbeats 400000 in
theorem containsFunc_any (K : Nat) (p : Nat → Bool) (a : Option Addr) (cap n : Nat) (l : List (List Int)) (w : World) (hn : l.length = n) (hm : MatR w a l) (eg : ∀ args w, (callFunc K args).run Try.prog w = .ok (.enter K args) w) (h63 : n ≤ 1048576)
    (hp : ∀ (i : Nat) (r : Option Addr) (c : Nat), i < n → RowR w r (l.getD i []) → Calls Try.prog K #[.slice r (l.getD i []).length c] w fun e w' => e = .returned (.bool (p i)) ∧ w = w') :
    Calls Try.prog 125 #[.slice a n cap, .func (.func K) #[] #[]] w fun e w' => w = w' ∧ ((e = .returned (.bool true) ∧ ∃ i, i < n ∧ p i = true) ∨ (e = .returned (.bool false) ∧ ∀ i, i < n → p i = false)) := by
  have E := Lib.hid (indexFunc_any K p a cap n l w hn hm eg h63 hp)
  clear hn hm hp
  go_enter Try.func125, Try.ntmps125
  go_wp2_with fail
  refine (E.out).mono ?_
  rintro e w' ⟨r, rfl, hr, rfl⟩
  rcases hr with ⟨i, hi, rfl, hpi, _⟩ | ⟨rfl, hno⟩
  · have hge : (i : Int) ≥ 0 := by omega
    have HP := Lib.hid hpi
    clear hpi
    go_wp2
    go_ret
    exact ⟨rfl, .inl ⟨by first | rfl | simp, i, hi, HP.out⟩⟩
  · have HP := Lib.hid hno
    clear hno
    go_wp2
    go_ret
    exact ⟨rfl, .inr ⟨by first | rfl | simp, HP.out⟩⟩

theorem mem_tabF {q : Nat} {f : Nat → Nat → Int} {i : Nat} (hi : i < q) : ((0 : Int) ∈ (tabF q q f).getD i []) ↔ ∃ k, k < q ∧ f i k = 0 := by
  rw [tabF_get _ _ _ _ hi]
  simp only [List.mem_map, List.mem_range]

set_option maxHeartbeats 400000 in
theorem hasZero_any (a : Option Addr) (cap q : Nat) (f : Nat → Nat → Int) (w : World) (h6 : q ≤ 6) (hm : MatR w a (tabF q q f)) :
    Calls Try.prog 117 #[.slice a q cap] w fun e w' => w = w' ∧ ((e = .returned (.bool true) ∧ ∃ i k, i < q ∧ k < q ∧ f i k = 0) ∨ (e = .returned (.bool false) ∧ ∀ i k, i < q → k < q → f i k ≠ 0)) := by
  have E := Lib.hid (containsFunc_any 126 (fun i => decide ((0 : Int) ∈ (tabF q q f).getD i [])) a cap q (tabF q q f) w (tabF_length _ _ _) hm (enters_of Try.func126 (by kernel_rfl) rfl) (by omega)
    (fun i r c hi hr => hasZero1_any r c _ _ w rfl (by rw [tabF_len _ _ _ _ hi]; omega) hr))
  clear hm
  go_enter Try.func117, Try.ntmps117
  go_wp2_with fail
  refine (E.out).mono ?_
  rintro e w' ⟨rfl, ⟨rfl, i, hi, hp⟩ | ⟨rfl, hno⟩⟩
  · have HP := Lib.hid ((mem_tabF hi).1 (of_decide_eq_true hp))
    clear hp
    go_wp2
    go_ret
    obtain ⟨k, hk, h0⟩ := HP.out
    exact ⟨rfl, .inl ⟨rfl, i, k, hi, hk, h0⟩⟩
  · have HP := Lib.hid hno
    clear hno
    go_wp2
    go_ret
    exact ⟨rfl, .inr ⟨rfl, fun i k hi hk h0 => of_decide_eq_false (HP.out i hi) ((mem_tabF hi).2 ⟨k, hk, h0⟩)⟩⟩

/-- What a number is made of. -/
structure CNum (y1 y2 y3 y4 v z : Int) : Prop where
  ne : v ≠ 0
  w1 : IntKind.i64.wrap (y1 * y2) = y1 * y2
  w2 : IntKind.i64.wrap (y3 * y4) = y3 * y4
  w3 : IntKind.i64.wrap (y1 * y2 - y3 * y4) = v * z
  w4 : IntKind.i64.wrap z = z
  w5 : Int.tdiv (v * z) v = z

set_option maxHeartbeats 2000000 in
theorem condEntry_any (p r i k m q cap cap2 : Nat) (a a2 : Option Addr) (T G X : Nat → Nat → Int) (w : World) (hq : q + 1 = m) (h6 : m ≤ 6) (hT : GR w a m T) (hG : GR w a2 q G) (hX : CNum (T i k) (T (i + 1) (k + 1)) (T i (k + 1)) (T (i + 1) k) (G i k) (X i k))
    (hbox : w.cell? ⟨p, 0, none⟩ = some (.slice a m cap)) (hbox2 : w.cell? ⟨r, 0, none⟩ = some (.slice a2 q cap2)) (hi : i < q) (hk : k < q) :
    Calls Try.prog 127 #[.int .i64 i, .int .i64 k, .pointer (some ⟨p, 0, none⟩), .pointer (some ⟨r, 0, none⟩)] w fun e w' => e = .returned (.int .i64 (X i k)) ∧ w.Since w.heap.size w' := by
  obtain ⟨ip, hip⟩ : ∃ x, i + 1 = x := ⟨_, rfl⟩
  obtain ⟨kp, hkp⟩ : ∃ x, k + 1 = x := ⟨_, rfl⟩
  rw [hip, hkp] at hX
  obtain ⟨b, o, A, C, rfl, gtop, gc⟩ := hT
  obtain ⟨d, s, A2, C2, rfl, htop, hc⟩ := hG
  obtain ⟨b1, o1, t1, c1⟩ := gc i k (by omega) (by omega)
  obtain ⟨b2, o2, t2, c2⟩ := gc ip kp (by omega) (by omega)
  obtain ⟨b3, o3, t3, c3⟩ := gc i kp (by omega) (by omega)
  obtain ⟨b4, o4, t4, c4⟩ := gc ip k (by omega) (by omega)
  have e13 := t1.symm.trans t3
  have e24 := t2.symm.trans t4
  simp only [Option.some.injEq, Value.slice.injEq, Addr.mk.injEq, and_true] at e13 e24
  obtain ⟨rfl, rfl⟩ := e13
  obtain ⟨rfl, rfl⟩ := e24
  obtain ⟨b5, o5, t5, c5⟩ := hc i k hi hk
  obtain ⟨h0, w1, w2, w3, w4, w5⟩ := hX
  have hv0 : (G i k == 0) = false := by simpa using h0
  have hvn : G i k ≠ 0 := h0
  obtain ⟨y1, h1'⟩ : ∃ y, T i k = y := ⟨_, rfl⟩
  obtain ⟨y2, h2'⟩ : ∃ y, T ip kp = y := ⟨_, rfl⟩
  obtain ⟨y3, h3'⟩ : ∃ y, T i kp = y := ⟨_, rfl⟩
  obtain ⟨y4, h4'⟩ : ∃ y, T ip k = y := ⟨_, rfl⟩
  obtain ⟨z, hz'⟩ : ∃ z, X i k = z := ⟨_, rfl⟩
  obtain ⟨v, hv'⟩ : ∃ v, G i k = v := ⟨_, rfl⟩
  rw [h1'] at c1 w1 w3
  rw [h2'] at c2 w1 w3
  rw [h3'] at c3 w2 w3
  rw [h4'] at c4 w2 w3
  rw [hz'] at w3 w4 w5 ⊢
  rw [hv'] at c5 w3 w5 hv0 hvn
  have hi6 : i ≤ 5 := by omega
  have wi' : IntKind.i64.wrap ((i : Int) + 1) = (ip : Int) := (IntWalk.i64_in _ ⟨by omega, by omega⟩).trans (by omega)
  have wk' : IntKind.i64.wrap ((k : Int) + 1) = (kp : Int) := (IntWalk.i64_in _ ⟨by omega, by omega⟩).trans (by omega)
  have hk6 : k ≤ 5 := by omega
  have hi1 : i < m := by omega
  have hk1 : k < m := by omega
  have hi2 : ip < m := by omega
  have hk2 : kp < m := by omega
  clear hip hkp gc hc gtop htop h0 h1' h2' h3' h4' hz' hv' hq
  go_enter Try.func127, Try.ntmps127
  go_wp2
  go_quiet (fail)
  go_wp2
  go_ret
  exact ⟨rfl, since_drewN (World.Since.refl _ _) _⟩

set_option maxRecDepth 100000 in
set_option maxHeartbeats 2000000 in
theorem condensed_any (m q cap cap2 : Nat) (a a2 : Option Addr) (T G X : Nat → Nat → Int) (w : World) (hq : q + 1 = m) (h6 : m ≤ 6) (hT : GR w a m T) (hG : GR w a2 q G) (hX : ∀ i k, i < q → k < q → CNum (T i k) (T (i + 1) (k + 1)) (T i (k + 1)) (T (i + 1) k) (G i k) (X i k)) :
    Calls Try.prog 118 #[.slice a m cap, .slice a2 q cap2] w fun e w' => e = .returned (.slice (some ⟨w.heap.size + 1 + 1, 0, none⟩) q q) ∧ w.Since w.heap.size w' ∧ OwnT w.heap.size w'.heap.size w' (some ⟨w.heap.size + 1 + 1, 0, none⟩) (tabF q q X) := by
  have hnt := fun (W : World) (hs : w.Since w.heap.size W) (hb0 : W.cell? ⟨w.heap.size, 0, none⟩ = some (.slice a m cap)) (hb1 : W.cell? ⟨w.heap.size + 1, 0, none⟩ = some (.slice a2 q cap2)) =>
    newTable_any 127 #[.pointer (some ⟨w.heap.size, 0, none⟩), .pointer (some ⟨w.heap.size + 1, 0, none⟩)] q q X W (by omega) (by omega) (enters_of Try.func127 (by kernel_rfl) rfl)
      (fun W' i k hs' hi hk => condEntry_any w.heap.size (w.heap.size + 1) i k m q cap cap2 a a2 T G X W' hq h6 (hT.since (hs.trans (since_mono hs' hs.size))) (hG.since (hs.trans (since_mono hs' hs.size))) (hX i k hi hk) ((hs'.cell (a := ⟨w.heap.size, 0, none⟩) (World.block_lt_of_cell? _ _ hb0)).trans hb0) ((hs'.cell (a := ⟨w.heap.size + 1, 0, none⟩) (World.block_lt_of_cell? _ _ hb1)).trans hb1) hi hk)
  have HS1 := Lib.hid (show w.Since w.heap.size ((w.alloc (.cells #[.slice a m cap] 54)).alloc (.cells #[.slice a2 q cap2] 54)) from (((World.Since.refl _ _).alloc (Nat.le_refl _) _).alloc (by simp) _))
  have hc0 := cell_new_l w (.slice a m cap) 54
  have hc1 := cell_new_l (w.alloc (.cells #[.slice a m cap] 54)) (.slice a2 q cap2) 54
  simp only [World.size_alloc] at hc1
  have hcb0 : ((w.alloc (.cells #[.slice a m cap] 54)).alloc (.cells #[.slice a2 q cap2] 54)).cell? ⟨w.heap.size, 0, none⟩ = some (.slice a m cap) := cell_alloc_l _ hc0.1
  have hcb1 := hc1.1
  have E := hnt _ HS1.out hcb0 hcb1
  have hz : ((w.alloc (.cells #[.slice a m cap] 54)).alloc (.cells #[.slice a2 q cap2] 54)).heap.size = w.heap.size + 1 + 1 := by simp
  rw [hz] at E
  replace E := Lib.hid E
  clear hnt hT hG hX hc0 hc1 hz hcb0
  go_enter Try.func118, Try.ntmps118
  go_wp2_with fail
  refine (E.out).mono ?_
  rintro e w1 ⟨rfl, hs2, ho⟩
  go_wp2
  go_ret
  exact ⟨rfl, HS1.out.trans (since_mono hs2 (by omega)), ho.mono (by omega) (Nat.le_refl _)⟩

set_option maxHeartbeats 400000 in
theorem ones1_any (i k : Nat) (w : World) : Calls Try.prog 115 #[.int .i64 i, .int .i64 k] w fun e w' => e = .returned (.int .i64 1) ∧ w.Since w.heap.size w' := by
  go_enter Try.func115, Try.ntmps115
  go_wp2
  go_ret
  exact ⟨rfl, World.Since.refl _ _⟩

theorem ones_any (M : Nat) (hM : M ≤ 1000) (w : World) : Calls Try.prog 68 #[.int .i64 M, .int .i64 M, .func (.func 115) #[] #[]] w fun e w' => e = .returned (.slice (some ⟨w.heap.size, 0, none⟩) M M) ∧ w.Since w.heap.size w' ∧ OwnT w.heap.size w'.heap.size w' (some ⟨w.heap.size, 0, none⟩) (tabF M M (fun _ _ => 1)) :=
  newTable_any 115 #[] M M (fun _ _ => 1) w hM hM (enters_of Try.func115 (by kernel_rfl) rfl) (fun W i k _ _ _ => ones1_any i k W)

end Go.Proofs.Ytikjeaoapeaabaa

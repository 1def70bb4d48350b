/- impl.PosTimes: a table times a column. -/
import Derived.Test.YtcnbffflgodheaaTurnR
import Derived.Test.YtcnbffflgodheaaMakeImpl
import Derived.Test.YtcnbffflgodheaaOwnR
import Derived.Test.YtcnbffflgodheaaImpl1
namespace Go.Proofs.Ytcnbffflgodheaa
open Go.RowKit Go.Deep

/-- The sums of the products of the rows and the numbers. -/
def ptL (l : List (List Int)) (x : List Int) (m : Nat) : List Int := (List.range l.length).map fun i => sumN (fun k => at2 l i k * x.getD k 0) m
theorem ptL_length (l : List (List Int)) (x : List Int) (m : Nat) : (ptL l x m).length = l.length := by simp [ptL]
noncomputable def ptOk (l : List (List Int)) (x : List Int) : Bool := tabIn l && (decide (x.length = (l.getD 0 []).length) && numsIn x)
theorem sumN_congrL {f g : Nat → Int} : ∀ n, (∀ j, j < n → f j = g j) → sumN f n = sumN g n
  | 0, _ => by simp [sumN]
  | n + 1, h => by
    have h1 := sumN_congrL n (fun j hj => h j (by omega))
    simp only [sumN]
    rw [h1, h n (by omega)]
theorem tabIn_one {x : List Int} {m : Nat} (hx : x.length = m) (h1 : 1 ≤ m) (h6 : m ≤ 6) (hN : NumsIn x m) : TabIn [x] := by
  refine ⟨by simp, by simp, fun r hr => ?_⟩
  have hr0 : r = 0 := by simp at hr; omega
  subst hr0
  exact ⟨rfl, by show 1 ≤ x.length; omega, by show x.length ≤ 6; omega, by rw [← hx] at hN; exact hN⟩
theorem mat_one {W : World} {b : Nat} {a : Option Addr} {m cap : Nat} {x : List Int} (hx : x.length = m) (hc : W.cell? ⟨b, 0, none⟩ = some (.slice a m cap)) (hr : RowR W a x) : MatR W (some ⟨b, 0, none⟩) [x] := fun _ => by
  refine ⟨b, 0, fun _ => a, fun _ => cap, rfl, fun r hr0 => ?_⟩
  have h0 : r = 0 := by simp at hr0; omega
  subst h0
  refine ⟨?_, hr⟩
  show W.cell? ⟨b, 0 + 0, none⟩ = some (.slice a x.length cap)
  rw [hx]
  exact hc
theorem ptL_row {l : List (List Int)} {x : List Int} {m : Nat} (hx : x.length = m) (hl : 1 ≤ l.length) (hm1 : 1 ≤ m) : (turnL (makeL l (turnL [x]))).getD 0 [] = ptL l x m := by
  have e1 : (turnL [x]).length = m := (turnL_length [x]).trans hx
  have e2 : ((turnL [x]).getD 0 []).length = 1 := tabF_len _ _ _ _ (by show 0 < x.length; omega)
  have e3 : (makeL l (turnL [x])).length = l.length := makeL_length _ _
  have e4 : ((makeL l (turnL [x])).getD 0 []).length = 1 := (tabF_len _ _ _ _ (by omega)).trans e2
  have e5 : (turnL (makeL l (turnL [x]))).getD 0 [] = (List.range l.length).map fun i => at2 (makeL l (turnL [x])) i 0 := by
    unfold turnL
    rw [tabF_get _ _ _ _ (by have := e4; unfold turnL at this; omega)]
    congr 1
    have := e3
    unfold turnL at this
    rw [this]
  rw [e5]
  unfold ptL
  apply List.map_congr_left
  intro i hi
  have hi' : i < l.length := List.mem_range.1 hi
  have e6 : at2 (makeL l (turnL [x])) i 0 = sumN (dotF l (turnL [x]) i 0) (turnL [x]).length := tabF_at _ _ _ _ _ hi' (by omega)
  rw [e6, e1]
  refine sumN_congrL m fun k hk => ?_
  have e7 : at2 (turnL [x]) k 0 = x.getD k 0 := tabF_at _ _ _ _ _ (by show k < x.length; omega) (by simp)
  show at2 l i k * at2 (turnL [x]) k 0 = _
  rw [e7]
theorem rec_col {l u : List (List Int)} (hT : TabIn l) (hu : (u.getD 0 []).length = 1) : Rec (makeL l u) := by
  have h1 := hT.1
  have h6 := hT.2.1
  have e3 : (makeL l u).length = l.length := makeL_length _ _
  have e4 : ∀ r, r < l.length → ((makeL l u).getD r []).length = 1 := fun r hr => (tabF_len _ _ _ _ hr).trans hu
  exact ⟨by omega, by omega, by rw [e4 0 (by omega)]; omega, fun {r} hr => by rw [e4 r (by omega), e4 0 (by omega)]⟩

set_option maxRecDepth 100000 in
set_option maxHeartbeats 2000000 in
theorem timesList_any (a a2 : Option Addr) (cap cap2 n m : Nat) (l : List (List Int)) (x : List Int) (w : World) (hn : l.length = n) (hT : TabIn l) (hm : MatR w a l) (hx : x.length = m) (hxm : (l.getD 0 []).length = m) (hN : NumsIn x m) (hr : RowR w a2 x) :
    Calls Try.prog 89 #[.slice a n cap, .slice a2 m cap2] w fun e w' => ∃ a' cap', e = .returned (.slice a' n cap') ∧ w.Since w.heap.size w' ∧ OwnR w.heap.size w'.heap.size w' a' (ptL l x m) := by
  have hw := hT.width
  have h1 := hT.1
  have h6 := hT.2.1
  rw [hxm] at hw
  rw [hn] at h1 h6
  have hTx := tabIn_one hx hw.1 hw.2 hN
  have hTu : TabIn (turnL [x]) := tabIn_of (tabIn_turn hTx)
  have hul : (turnL [x]).length = m := (turnL_length [x]).trans hx
  have huw : ((turnL [x]).getD 0 []).length = 1 := tabF_len _ _ _ _ (by show 0 < x.length; omega)
  have hC := rec_col hT huw
  have hcl : (makeL l (turnL [x])).length = n := (makeL_length _ _).trans hn
  have hcw : ((makeL l (turnL [x])).getD 0 []).length = 1 := (tabF_len _ _ _ _ (by omega)).trans huw
  have hrow := ptL_row (l := l) hx (by omega) hw.1
  have hlen := (ptL_length l x m).trans hn
  have htl : (turnL (makeL l (turnL [x]))).length = 1 := (turnL_length _).trans hcw
  have E1 := Lib.hid (fun (W : World) (hs : w.Since w.heap.size W) (hc : W.cell? ⟨w.heap.size, 0, none⟩ = some (.slice a2 m cap2)) => turned_any (some ⟨w.heap.size, 0, none⟩) 1 1 [x] W rfl hTx (mat_one hx hc (hr.since hs)))
  have E2 := Lib.hid (fun (W : World) (b : Option Addr) (c : Nat) (hs : w.Since w.heap.size W) (hb : MatR W b (turnL [x])) => product_any a cap n l b c m (turnL [x]) W hn hT (hm.since hs) hul hTu hxm hb)
  have E3 := Lib.hid (fun (W : World) (b : Option Addr) (c : Nat) (hb : MatR W b (makeL l (turnL [x]))) => turnedR_any b c n (makeL l (turnL [x])) W hcl hC hb)
  have hxx : ([x].getD 0 []).length = m := hx
  rw [hxx] at E1
  rw [hcw] at E3
  have HROW := Lib.hid hrow
  have HLEN := Lib.hid hlen
  have HTL := Lib.hid htl
  have hs1 : w.Since w.heap.size (w.alloc (.cells #[.slice a2 m cap2] 42)) := (World.Since.refl _ w).alloc (Nat.le_refl _) _
  have hc1 := (cell_new_l w (.slice a2 m cap2) 42).1
  have HS1 := Lib.hid hs1
  have HC1 := Lib.hid hc1
  clear hTx hTu hul huw hC hcl hcw hrow hlen htl hxx hs1 hc1 hm hr hT hn hx hxm hN
  go_enter Try.func89, Try.ntmps89
  go_wp2_with fail
  refine (E1.out _ HS1.out HC1.out).mono ?_
  rintro e w1 ⟨rfl, hs2, ho2⟩
  have HS2 := Lib.hid (HS1.out.trans (since_mono hs2 HS1.out.size))
  have hz0 : (w.alloc (.cells #[.slice a2 m cap2] 42)).heap.size = w.heap.size + 1 := by simp
  have hm2 := ho2.matR
  rw [hz0] at hm2
  have HM2 := Lib.hid hm2
  clear hs2 ho2 hm2 hz0
  go_wp2_with fail
  refine (E2.out _ _ _ HS2.out HM2.out).mono ?_
  rintro e w2 ⟨rfl, hs3, ho3⟩
  have HS3 := Lib.hid (HS2.out.trans (since_mono hs3 HS2.out.size))
  have HM3 := Lib.hid ho3.matR
  clear hs3 ho3
  go_wp2_with fail
  refine (E3.out _ _ _ HM3.out).mono ?_
  rintro e w3 ⟨rfl, hs4, ho4⟩
  have HS4 := Lib.hid (HS3.out.trans (since_mono hs4 HS3.out.size))
  have hz3 := HS3.out.size
  obtain ⟨b, A, G, C, e, hb, hrs, _⟩ := ho4 (by rw [HTL.out]; omega)
  obtain ⟨c0, hg⟩ := hrs 0 (by rw [HTL.out]; omega)
  rw [HROW.out, HLEN.out] at c0 hg
  have HR := Lib.hid (show OwnR w.heap.size w3.heap.size w3 (A 0) (ptL l x m) from fun h0 => by
    rw [HLEN.out] at h0
    obtain ⟨g1, g2, g3⟩ := hg h0
    exact ⟨G 0, g1, ⟨by omega, g2.2.1⟩, fun i hi => g3 i (by rw [HLEN.out] at hi; exact hi)⟩)
  injection e with e
  injection e with e1 e2 e3
  subst e1
  clear hs4 ho4 hrs hg hb
  go_wp2
  go_ret
  exact ⟨_, _, rfl, HS4.out, HR.out⟩

def PtI (w : World) (ok : Bool) (M : List Int) (e : Ending) (w' : World) : Prop :=
  ∃ a cap, e = .returned (.tuple #[.slice a (if ok then M else []).length cap, .bool ok]) ∧ w.Since w.heap.size w' ∧ OwnR w.heap.size w'.heap.size w' a (if ok then M else [])
def PtS (w : World) (ok : Bool) (M : List Int) (e : Ending) (w' : World) : Prop :=
  ∃ a cap, e = .returned (.tuple #[.slice a (if ok then M else []).length cap, .bool ok]) ∧ w.Since w.heap.size w' ∧ InR w.heap.size w'.heap.size w' a (if ok then M else [])
theorem ptI_no {w w' : World} {ok : Bool} {M : List Int} {e : Ending} (h : ok = false) (a : Option Addr) (cap : Nat) (he : e = .returned (.tuple #[.slice a 0 cap, .bool false])) (hs : w.Since w.heap.size w') : PtI w ok M e w' := by
  subst h; exact ⟨a, cap, he, hs, OwnR.nil _ _ _ _⟩
theorem ptS_no {w w' : World} {ok : Bool} {M : List Int} {e : Ending} (h : ok = false) (a : Option Addr) (cap : Nat) (he : e = .returned (.tuple #[.slice a 0 cap, .bool false])) (hs : w.Since w.heap.size w') : PtS w ok M e w' := by
  subst h; exact ⟨a, cap, he, hs, InR.nil _ _ _ _⟩
theorem ptI_yes {w w' : World} {ok : Bool} {M : List Int} {e : Ending} {q : Nat} (h : ok = true) (hM : M.length = q) (a : Option Addr) (cap : Nat) (he : e = .returned (.tuple #[.slice a q cap, .bool true])) (hs : w.Since w.heap.size w') (hr : OwnR w.heap.size w'.heap.size w' a M) : PtI w ok M e w' := by
  subst h; subst hM; exact ⟨a, cap, he, hs, hr⟩
theorem ptS_yes {w w' : World} {ok : Bool} {M : List Int} {e : Ending} {q : Nat} (h : ok = true) (hM : M.length = q) (a : Option Addr) (cap : Nat) (he : e = .returned (.tuple #[.slice a q cap, .bool true])) (hs : w.Since w.heap.size w') (hr : InR w.heap.size w'.heap.size w' a M) : PtS w ok M e w' := by
  subst h; subst hM; exact ⟨a, cap, he, hs, hr⟩

set_option maxRecDepth 100000 in
set_option maxHeartbeats 2000000 in
theorem implPosTimes_any (a a2 : Option Addr) (cap cap2 n m : Nat) (l : List (List Int)) (x : List Int) (w : World) (hn : l.length = n) (hx : x.length = m) (h63 : m ≤ 1048576) (hsz : szL l ≤ 1048576) (hm : MatR w a l) (hr : RowR w a2 x) :
    Calls Try.prog 46 #[.slice a n cap, .slice a2 m cap2] w (PtI w (ptOk l x) (ptL l x m)) := by
  have E := implTableIn_any a cap n l w hn hsz hm
  cases hT : tabIn l with
  | false =>
    rw [hT] at E
    replace E := Lib.hid E
    have HF := Lib.hid (show ptOk l x = false by simp [ptOk, hT])
    clear hT hsz hm hn hx hr
    go_enter Try.func46, Try.ntmps46
    go_wp2_with fail
    refine (E.out).mono ?_
    rintro e w1 ⟨rfl, hs⟩
    go_wp2
    go_ret2
    exact ptI_no HF.out _ _ rfl hs
  | true =>
    rw [hT] at E
    replace E := Lib.hid E
    have hTT := tabIn_of hT
    have hw := hTT.width
    have h1 := hTT.1
    rw [hn] at h1
    have E2 := Lib.hid (fun (W : World) (hs : w.Since w.heap.size W) => width_any a cap n l W hn (by omega) (by have := hTT.2.1; omega) (hm.since hs))
    have E3 := Lib.hid (fun (W : World) (hs : w.Since w.heap.size W) => entriesIn_any a2 cap2 m x W hx h63 (hr.since hs))
    by_cases hxm : (l.getD 0 []).length = m
    · cases hN : numsIn x with
      | false =>
        rw [hN] at E3
        rw [hxm] at E2
        have HF := Lib.hid (show ptOk l x = false by simp [ptOk, hN])
        clear hT hsz hm hn hx hr hTT hw hxm hN
        go_enter Try.func46, Try.ntmps46
        go_wp2_with fail
        refine (E.out).mono ?_
        rintro e w1 ⟨rfl, hs⟩
        go_wp2_with fail
        refine (E2.out _ hs).mono ?_
        rintro e w2 ⟨rfl, rfl⟩
        go_wp2_with fail
        refine (E3.out _ hs).mono ?_
        rintro e w2 ⟨rfl, rfl⟩
        go_wp2
        go_ret2
        exact ptI_no HF.out _ _ rfl hs
      | true =>
        rw [hN] at E3
        rw [hxm] at E2
        have hNN : NumsIn x m := by have := numsIn_of hN; rwa [hx] at this
        have HF := Lib.hid (show ptOk l x = true by unfold ptOk; rw [hT, hN, hx, hxm]; simp)
        have E4 := Lib.hid (fun (W : World) (hs : w.Since w.heap.size W) => timesList_any a a2 cap cap2 n m l x W hn hTT (hm.since hs) hx hxm hNN (hr.since hs))
        have HL := Lib.hid ((ptL_length l x m).trans hn)
        clear hT hsz hm hn hx hr hTT hw hxm hN hNN
        go_enter Try.func46, Try.ntmps46
        go_wp2_with fail
        refine (E.out).mono ?_
        rintro e w1 ⟨rfl, hs⟩
        go_wp2_with fail
        refine (E2.out _ hs).mono ?_
        rintro e w2 ⟨rfl, rfl⟩
        go_wp2_with fail
        refine (E3.out _ hs).mono ?_
        rintro e w2 ⟨rfl, rfl⟩
        go_wp2_with fail
        refine (E4.out _ hs).mono ?_
        rintro e w3 ⟨a3, c3, rfl, hs3, ho⟩
        go_wp2
        go_ret2
        exact ptI_yes HF.out HL.out a3 c3 rfl (hs.trans (since_mono hs3 hs.size)) (ho.mono hs.size (Nat.le_refl _))
    · obtain ⟨k, hk⟩ : ∃ k, (l.getD 0 []).length = k := ⟨_, rfl⟩
      rw [hk] at E2 hxm
      have hne : ((m : Int) != (k : Int)) = true := by simp; omega
      have HF := Lib.hid (show ptOk l x = false by unfold ptOk; rw [hx, hk]; simp [show ¬ m = k by omega])
      clear hT hsz hm hn hx hr hTT hw hxm hk
      go_enter Try.func46, Try.ntmps46
      go_wp2_with fail
      refine (E.out).mono ?_
      rintro e w1 ⟨rfl, hs⟩
      go_wp2_with fail
      refine (E2.out _ hs).mono ?_
      rintro e w2 ⟨rfl, rfl⟩
      go_wp2
      go_ret2
      exact ptI_no HF.out _ _ rfl hs

end Go.Proofs.Ytcnbffflgodheaa

import Derived.Test.YtikjeaoapeaabaaSolveP
import Derived.Test.YtikjeaoapeaabaaOwnR
import Derived.Test.YtikjeaoapeaabaaOrdDet
import Derived.Test.YtikjeaoapeaabaaMinorV
import Derived.Test.YtikjeaoapeaabaaImpl1
import Derived.Test.YtikjeaoapeaabaaCopy
import Derived.Test.YtikjeaoapeaabaaOtherV
import Derived.StillTailTactics
import Derived.Test.YtikjeaoapeaabaaTimesImpl
import Derived.Test.YtikjeaoapeaabaaRowsV
import Derived.Test.YtikjeaoapeaabaaDet
import Derived.Test.YtikjeaoapeaabaaPartImpl
import Derived.Test.YtikjeaoapeaabaaRoads
import Derived.Test.YtikjeaoapeaabaaPivotsI
import Derived.Test.YtikjeaoapeaabaaLawValueSolve
import Derived.Test.YtikjeaoapeaabaaRows
import Derived.Test.YtikjeaoapeaabaaData
import Derived.ProofKit
import Derived.Deep.Matrix

section
namespace Go.Proofs.Ytikjeaoapeaabaa
open Go.RowKit Go.Deep

def slvT (l : List (List Int)) (b : List Int) (n k : Nat) : List (List Int) := tabF n n (setC (at2 l) k (fun i => b.getD i 0))
def slvR (l : List (List Int)) (b : List Int) (n j : Nat) : List Int := (List.range j).map fun k => dt n (setC (at2 l) k (fun i => b.getD i 0))
theorem slvR_succ (l : List (List Int)) (b : List Int) (n j : Nat) : slvR l b n (j + 1) = slvR l b n j ++ [dt n (setC (at2 l) j (fun i => b.getD i 0))] := by simp [slvR, List.range_succ]
theorem slvR_length (l : List (List Int)) (b : List Int) (n j : Nat) : (slvR l b n j).length = j := by simp [slvR]
theorem slvR_get (l : List (List Int)) (b : List Int) (n j k : Nat) (h : k < j) : (slvR l b n j).getD k 0 = dt n (setC (at2 l) k (fun i => b.getD i 0)) := by simp [slvR, List.getD, h]
noncomputable def slvOk (l : List (List Int)) (b : List Int) (n : Nat) : Bool := sqB l && (b.length == n && (numsIn b && (dt n (at2 l) != 0)))

theorem slv_sq {l : List (List Int)} {b : List Int} {n k : Nat} (hs : sqB l = true) (hn : l.length = n) (hb : b.length = n) (hi : numsIn b = true) : SqD n (slvT l b n k) ∧ ordF (slvT l b n k) n n 0 = dt n (setC (at2 l) k (fun i => b.getD i 0)) ∧ TabIn (slvT l b n k) := by
  obtain ⟨hT, hw⟩ := sqB_of hs
  have h6 := hT.2.1
  have h1 := hT.1
  rw [hn] at h6 h1 hw
  have hN := numsIn_of hi
  have hlen : (slvT l b n k).length = n := tabF_length _ _ _
  have hrow : ∀ r, r < n → ((slvT l b n k).getD r []).length = n := fun r hr => tabF_len _ _ _ _ hr
  have hat : ∀ r c, r < n → c < n → ((slvT l b n k).getD r []).getD c 0 = setC (at2 l) k (fun i => b.getD i 0) r c := fun r c hr hc => tabF_at _ _ _ r c hr hc
  have hTT : TabIn (slvT l b n k) := by
    refine ⟨by rw [hlen]; exact h1, by rw [hlen]; exact h6, fun r hr => ?_⟩
    rw [hlen] at hr
    refine ⟨by rw [hrow r hr, hrow 0 (by omega)], by rw [hrow r hr]; exact h1, by rw [hrow r hr]; exact h6, fun c hc => ?_⟩
    rw [hrow r hr] at hc
    rw [hat r c hr hc]
    unfold setC
    split
    · have := hN r (by rw [hb]; exact hr)
      omega
    · exact hT.at (by omega) (by omega)
  refine ⟨⟨hlen, fun _ => ⟨hTT, hrow 0 (by omega)⟩⟩, ?_, hTT⟩
  rw [ordF_all _ h6]
  exact dt_congr n fun i j hi hj => hat i j hi hj

theorem slv_bd {l : List (List Int)} {b : List Int} {n k : Nat} (hs : sqB l = true) (hn : l.length = n) (hb : b.length = n) (hi : numsIn b = true) : -349920000000 ≤ dt n (setC (at2 l) k (fun i => b.getD i 0)) ∧ dt n (setC (at2 l) k (fun i => b.getD i 0)) ≤ 349920000000 := by
  obtain ⟨⟨h1, h2⟩, h3, h4⟩ := slv_sq (k := k) hs hn hb hi
  have h6 := h4.2.1
  have h0 := h4.1
  have hw := (h2 (by omega)).2
  rw [h1] at h6
  rw [← h3, ordF_all _ h6]
  have zb := dt_bd n (at2 (slvT l b n k)) h6 (fun i j hi hj => h4.at (by rw [h1]; exact hi) (by omega))
  have : bdN n ≤ 349920000000 := by
    have h : n = 0 ∨ n = 1 ∨ n = 2 ∨ n = 3 ∨ n = 4 ∨ n = 5 ∨ n = 6 := by omega
    rcases h with h | h | h | h | h | h | h <;> (subst h; decide)
  omega

def SpecS (w : World) (ok : Bool) (v : Int) (M : List Int) (e : Ending) (w' : World) : Prop :=
  ∃ a cap, e = .returned (.tuple #[.int .i64 (if ok then v else 0), .slice a (if ok then M else []).length cap, .bool ok]) ∧ w.Since w.heap.size w' ∧ InR w.heap.size w'.heap.size w' a (if ok then M else [])
def ImplS (w : World) (ok : Bool) (v : Int) (M : List Int) (e : Ending) (w' : World) : Prop :=
  ∃ a cap, e = .returned (.tuple #[.int .i64 (if ok then v else 0), .slice a (if ok then M else []).length cap, .bool ok]) ∧ w.Since w.heap.size w' ∧ OwnR w.heap.size w'.heap.size w' a (if ok then M else [])

theorem specS_no {w w' : World} {ok : Bool} {v : Int} {M : List Int} {e : Ending} (h : ok = false) (a : Option Addr) (cap : Nat) (he : e = .returned (.tuple #[.int .i64 0, .slice a 0 cap, .bool false])) (hs : w.Since w.heap.size w') : SpecS w ok v M e w' := by
  subst h; exact ⟨a, cap, he, hs, InR.nil _ _ _ _⟩
theorem implS_no {w w' : World} {ok : Bool} {v : Int} {M : List Int} {e : Ending} (h : ok = false) (a : Option Addr) (cap : Nat) (he : e = .returned (.tuple #[.int .i64 0, .slice a 0 cap, .bool false])) (hs : w.Since w.heap.size w') : ImplS w ok v M e w' := by
  subst h; exact ⟨a, cap, he, hs, OwnR.nil _ _ _ _⟩
theorem specS_yes {w w' : World} {ok : Bool} {v : Int} {M : List Int} {e : Ending} {q : Nat} (h : ok = true) (hM : M.length = q) (a : Option Addr) (cap : Nat) (he : e = .returned (.tuple #[.int .i64 v, .slice a q cap, .bool true])) (hs : w.Since w.heap.size w') (hr : InR w.heap.size w'.heap.size w' a M) : SpecS w ok v M e w' := by
  subst h; subst hM; exact ⟨a, cap, he, hs, hr⟩
theorem implS_yes {w w' : World} {ok : Bool} {v : Int} {M : List Int} {e : Ending} {q : Nat} (h : ok = true) (hM : M.length = q) (a : Option Addr) (cap : Nat) (he : e = .returned (.tuple #[.int .i64 v, .slice a q cap, .bool true])) (hs : w.Since w.heap.size w') (hr : OwnR w.heap.size w'.heap.size w' a M) : ImplS w ok v M e w' := by
  subst h; subst hM; exact ⟨a, cap, he, hs, hr⟩
theorem slvOk_sq {l : List (List Int)} {b : List Int} {n : Nat} (h : sqB l = false) : slvOk l b n = false := by unfold slvOk; rw [h]; rfl
theorem slvOk_len {l : List (List Int)} {b : List Int} {n : Nat} (h : b.length ≠ n) : slvOk l b n = false := by
  unfold slvOk
  have : (b.length == n) = false := by simpa using h
  rw [this]; simp
theorem slvOk_num {l : List (List Int)} {b : List Int} {n : Nat} (h : numsIn b = false) : slvOk l b n = false := by unfold slvOk; rw [h]; simp
theorem slvOk_val {l : List (List Int)} {b : List Int} {n : Nat} (h : dt n (at2 l) = 0) : slvOk l b n = false := by unfold slvOk; rw [h]; simp
theorem slvOk_yes {l : List (List Int)} {b : List Int} {n : Nat} (h1 : sqB l = true) (h2 : b.length = n) (h3 : numsIn b = true) (h4 : dt n (at2 l) ≠ 0) : slvOk l b n = true := by
  unfold slvOk
  rw [h1, h3, h2]; simpa using h4
theorem slvOk_of {l : List (List Int)} {b : List Int} {n : Nat} (h : slvOk l b n = true) : sqB l = true ∧ b.length = n ∧ numsIn b = true ∧ dt n (at2 l) ≠ 0 := by
  unfold slvOk at h
  simp only [Bool.and_eq_true] at h
  exact ⟨h.1, by simpa using h.2.1, h.2.2.1, by simpa using h.2.2.2⟩

structure SV (w1 wr : World) (b n : Nat) (A : Nat → Option Addr) (G C : Nat → Nat) (l : List (List Int)) (B : List Int) (k i hi : Nat) : Prop where
  since : w1.Since w1.heap.size wr
  size : hi ≤ wr.heap.size
  own : OwnD w1.heap.size hi wr b A G C n (fun _ => n) (fun r c => if c = k ∧ r < i then B.getD r 0 else at2 l r c)
theorem SV.start {w w1 : World} {a : Option Addr} {l : List (List Int)} {B : List Int} {n k : Nat} (h : OwnT w.heap.size w1.heap.size w1 a l) (hn : l.length = n) (h1 : 0 < n) (hm : ∀ r, r < n → (l.getD r []).length = n) (hs : w.Since w.heap.size w1) :
    ∃ b A G C, a = some ⟨b, 0, none⟩ ∧ (w.heap.size ≤ b ∧ b < w1.heap.size) ∧ SV w w1 b n A G C l B k 0 w1.heap.size := by
  obtain ⟨b, A, G, C, e, hb, hD⟩ := h.parts (by omega)
  rw [hn] at hD
  refine ⟨b, A, G, C, e, hb, hs, Nat.le_refl _, ⟨fun r hr => by rw [← hm r hr]; exact hD.top r hr, fun r hr h0 => hD.addr r hr (by rw [hm r hr]; exact h0), fun r hr h0 => hD.inside r hr (by rw [hm r hr]; exact h0), fun r hr i hi => ?_,
    fun r hr i hi => hD.free r hr i (by rw [hm r hr]; exact hi), fun r r' hr hr' h0 h0' e => hD.apart r r' hr hr' (by rw [hm r hr]; exact h0) (by rw [hm r' hr']; exact h0') e⟩⟩
  rw [hD.cell r hr i (by rw [hm r hr]; exact hi), if_neg (by omega)]
  rfl
theorem SV.store {w1 wr : World} {b n : Nat} {A : Nat → Option Addr} {G C : Nat → Nat} {l : List (List Int)} {B : List Int} {k i hi : Nat} (h : SV w1 wr b n A G C l B k i hi) (hi' : i < n) (hk : k < n) (q : Nat) :
    SV w1 ((wr.drewN q).setCell ⟨G i, k, none⟩ (.int .i64 (B.getD i 0))) b n A G C l B k (i + 1) hi := by
  have hin := h.own.inside i hi' (by omega)
  have ho : OwnD w1.heap.size hi (wr.drewN q) b A G C n (fun _ => n) (fun r c => if c = k ∧ r < i then B.getD r 0 else at2 l r c) := ⟨h.own.top, h.own.addr, h.own.inside, h.own.cell, h.own.free, h.own.apart⟩
  refine ⟨(since_drewN h.since q).setCell (by show w1.heap.size ≤ G i; omega) _, by simpa using h.size, (ho.store hi' hk _).congr fun r _ c _ => ?_⟩
  by_cases e : r = i ∧ c = k
  · rw [if_pos e, if_pos (by omega), e.1]
  · rw [if_neg e]
    by_cases h2 : c = k ∧ r < i
    · rw [if_pos h2, if_pos (by omega)]
    · rw [if_neg h2, if_neg (by omega)]
theorem SV.done {w1 wr : World} {b n : Nat} {A : Nat → Option Addr} {G C : Nat → Nat} {l : List (List Int)} {B : List Int} {k hi : Nat} (h : SV w1 wr b n A G C l B k n hi) (hb : w1.heap.size ≤ b ∧ b < hi) : MatR wr (some ⟨b, 0, none⟩) (slvT l B n k) :=
  (h.own.ownT hb (tabF_length _ _ _) (fun _ hr => tabF_len _ _ _ _ hr) (fun r hr c hc => by
    rw [tabF_at _ _ _ _ _ hr hc]
    unfold setC
    by_cases e : c = k
    · rw [if_pos e, if_pos ⟨e, hr⟩]
    · rw [if_neg e, if_neg (fun h => e h.1)])).matR

end Go.Proofs.Ytikjeaoapeaabaa
end

section
namespace Go.Proofs.Ytikjeaoapeaabaa
open Go.RowKit Go.Deep

set_option maxRecDepth 100000 in
set_option maxHeartbeats 4000000 in
theorem specValueSolve_yes (a a2 : Option Addr) (cap cap2 n : Nat) (l : List (List Int)) (x : List Int) (w : World) (hn : l.length = n) (hx : x.length = n) (hsz : szL l ≤ 1048576) (hs : sqB l = true) (hm : MatR w a l) (hr : RowR w a2 x) :
    Calls Try.prog 32 #[.slice a n cap, .slice a2 n cap2] w (SpecS w (slvOk l x n) (dt n (at2 l)) (slvR l x n n)) := by
  obtain ⟨i3, hi3⟩ := info3_parts
  have HJ := Lib.hid hi3
  have hmix : Try.prog.follows .mixedOrders = true := by kernel_rfl
  have E := fun (W : World) (hd : w.Since w.heap.size W) => l2Square_any a cap n l W hn hsz (hm.since hd)
  simp only [hs] at E
  replace E := Lib.hid E
  obtain ⟨hT, hw⟩ := sqB_of hs
  have h6 := hT.2.1
  have h1 := hT.1
  rw [hn] at h6 h1 hw
  have hrow : ∀ r, r < n → (l.getD r []).length = n := fun r hr => by rw [hT.row (by omega), ← hw]
  have hsq : SqD n l := ⟨hn, fun _ => ⟨hT, hw.symm⟩⟩
  have EV := fun (W : World) (hd : w.Since w.heap.size W) => l2Value_sq a cap n l hsq W (hm.since hd)
  rw [ordF_all l h6] at EV
  have E1 := Lib.hid (fun (W : World) (hd : w.Since w.heap.size W) => l1Copy_top a cap n l W hn hT (hm.since hd))
  have HSV := Lib.hid (fun (W W1 : World) (a' : Option Addr) (k : Nat) (h : OwnT W.heap.size W1.heap.size W1 a' l) (hs : W.Since W.heap.size W1) => SV.start (B := x) (k := k) h hn (by omega) hrow hs)
  have EU := Lib.hid (fun (hi : numsIn x = true) (k : Nat) (u : Option Addr) (c : Nat) (W : World) (h : MatR W u (slvT l x n k)) => by
    have q := slv_sq (k := k) hs hn hx hi
    have e := l2Value_sq u c n (slvT l x n k) q.1 W h
    rw [q.2.1] at e
    exact e)
  have HBD := Lib.hid (fun (hi : numsIn x = true) (k : Nat) => slv_bd (k := k) hs hn hx hi)
  have HNO := Lib.hid (fun (h : numsIn x = false) => slvOk_num (l := l) (n := n) h)
  have HZ := Lib.hid (fun (h : dt n (at2 l) = 0) => slvOk_val (b := x) h)
  have HYES := Lib.hid (fun (h : numsIn x = true) (h2 : dt n (at2 l) ≠ 0) => slvOk_yes hs hx h h2)
  have HR := Lib.hid (fun (W : World) (hd : w.Since w.heap.size W) => hr.since hd)
  have HX := Lib.hid hx
  obtain ⟨d, hd⟩ : ∃ d, dt n (at2 l) = d := ⟨_, rfl⟩
  simp only [hd] at EV
  rw [hd] at HZ HYES ⊢
  replace EV := Lib.hid EV
  clear hm hT hw hn hs hsz hrow hsq hr hx hd hi3
  go_enter Try.func32, Try.ntmps32
  go_wp2_with fail
  refine (E.out _ ?_).mono ?_
  · exact (World.Since.refl _ _).alloc (Nat.le_refl _) _
  rintro e w1 ⟨rfl, hdr⟩
  have HS1 := Lib.hid (((World.Since.refl w.heap.size w).alloc (Nat.le_refl _) (.cells #[] 3)).trans (hdr.since w.heap.size))
  have HRB := Lib.hid (RB.later (rb_start w #[] rfl) (hdr.since (w.alloc (.cells #[] 3)).heap.size))
  clear hdr
  go_wp2
  go_loopg [8] n (fun g i wr => ∃ k : Nat, k ≤ n ∧ g = n - k ∧ i = .int .i64 k ∧ w1 = wr ∧ NumsIn x k)
  case atStart => exact ⟨0, Nat.zero_le _, rfl, rfl, rfl, fun r hr => absurd hr (Nat.not_lt_zero _)⟩
  case round =>
    obtain ⟨k, hk, rfl, rfl, rfl, hN⟩ := hrel
    by_cases hlt : k < n
    · obtain ⟨b, o, rfl, hc⟩ := HR.out w1 HS1.out (by rw [HX.out]; omega)
      have cj := hc k (by rw [HX.out]; exact hlt)
      obtain ⟨y, hy⟩ : ∃ y, y = x.getD k 0 := ⟨_, rfl⟩
      rw [← hy] at cj
      have HY := Lib.hid hy
      clear hc hy
      cases hiy : inB y (-30) 30 with
      | true =>
        have E1' := Lib.hid (l6In_at y (-30) 30 true w1 hiy)
        have HI := Lib.hid hiy
        clear hiy
        go_wp2_with fail
        refine (E1'.out).mono ?_
        rintro e w' ⟨rfl, rfl⟩
        go_wp2
        go_roundg (n - (k + 1))
        case measure => omega
        case rel => exact ⟨k + 1, by omega, rfl, by go_num, rfl, hN.succ (by rw [← HY.out]; exact HI.out)⟩
      | false =>
        have E1' := Lib.hid (l6In_at y (-30) 30 false w1 hiy)
        have hno := Lib.hid (HNO.out (numsIn_false fun hT => by
          have := hT k (by rw [HX.out]; exact hlt)
          rw [← HY.out] at this
          simp [inB] at hiy
          omega))
        clear hiy
        go_wp2_with fail
        refine (E1'.out).mono ?_
        rintro e w' ⟨rfl, rfl⟩
        go_wp2
        go_ret3
        exact specS_no hno.out _ _ rfl (HS1.out.alloc HS1.out.size _)
    · have hkn : k = n := by omega
      subst hkn
      have hin : numsIn x = true := numsIn_true (by rw [HX.out]; exact hN)
      have EU2 := Lib.hid (EU.out hin)
      have HB2 := Lib.hid (HBD.out hin)
      have HY2 := Lib.hid (HYES.out hin)
      clear EU HBD HYES HNO hN hin
      go_wp2_with fail
      refine (EV.out w1 HS1.out).mono ?_
      rintro e w2 ⟨rfl, hdr⟩
      have HS2 := Lib.hid (HS1.out.trans (hdr.since w.heap.size))
      have HRB2 := Lib.hid (HRB.out.later (hdr.since w1.heap.size))
      clear hdr
      by_cases hd0 : d = 0
      · have hno := Lib.hid (HZ.out hd0)
        subst hd0
        go_wp2
        go_ret3
        exact specS_no hno.out _ _ rfl (HS2.out.alloc HS2.out.size _)
      · have hdb : (d == 0) = false := by simpa using hd0
        have hyes := Lib.hid (HY2.out hd0)
        clear HY2 HZ
        go_wp2
        go_loopg [7, 10, 11, 12] k (fun g v q _ _ wr => ∃ j : Nat, j ≤ k ∧ g = k - j ∧ q = .int .i64 j ∧ RB w wr v (slvR l x k j))
        case atStart => exact ⟨0, Nat.zero_le _, rfl, rfl, HRB2.out⟩
        case round =>
          obtain ⟨j, hj, rfl, rfl, hI⟩ := hrel
          clear HRB2
          have HII := Lib.hid hI
          have hle := slvR_length l x k j
          have hzi := hI.since.size
          clear hI
          by_cases hjn : j < k
          · have EC := Lib.hid (E1.out wr HII.out.since)
            go_wp2_with fail
            refine (EC.out).mono ?_
            rintro e w3 ⟨a3, c3, rfl, hs3, ho3, _⟩
            obtain ⟨b, A, G, C, rfl, hbb, hSV⟩ := HSV.out wr w3 a3 j ho3 hs3
            have HV := Lib.hid hSV
            have hz3 := hs3.size
            clear ho3 hSV
            have HS3 := Lib.hid hs3
            clear hs3
            go_wp2
            go_loopg [12] k (fun g i wi => ∃ r : Nat, r ≤ k ∧ g = k - r ∧ i = .int .i64 r ∧ SV wr wi b k A G C l x j r w3.heap.size)
            case atStart => exact ⟨0, Nat.zero_le _, rfl, rfl, HV.out⟩
            case round =>
              obtain ⟨r, hr, rfl, rfl, hV⟩ := hrel
              clear HV
              by_cases hrk : r < k
              · have hww : w.Since w.heap.size wr := HII.out.since.trans (since_mono hV.since hzi)
                obtain ⟨bx, ox, rfl, hcx⟩ := HR.out wr hww (by rw [HX.out]; omega)
                have cx := hcx r (by rw [HX.out]; exact hrk)
                obtain ⟨y, hy⟩ : ∃ y, y = x.getD r 0 := ⟨_, rfl⟩
                rw [← hy] at cx
                have c1 := hV.own.top r hrk
                have hA := hV.own.addr r hrk (by omega)
                rw [hA] at c1
                have c2 := hV.own.cell r hrk j hjn
                have c3' := hV.own.free r hrk j hjn
                obtain ⟨z, hz⟩ : ∃ z, z = (if j = j ∧ r < r then x.getD r 0 else at2 l r j) := ⟨_, rfl⟩
                rw [← hz] at c2
                have HN2 := Lib.hid (hV.store hrk hjn 1)
                rw [← hy] at HN2
                clear hy hz hcx hww hA hV
                go_wp2
                go_still_tail 10, hmix
                go_wp2
                go_roundg (k - (r + 1))
                case measure => omega
                case rel => exact ⟨r + 1, by omega, rfl, by go_num, HN2.out⟩
              · have hrk' : r = k := by omega
                subst hrk'
                have hM := hV.done hbb
                have HIV := Lib.hid (HII.out.later hV.since)
                have EUU := Lib.hid (EU2.out j (some ⟨b, 0, none⟩) c3 wr hM)
                have hb5 := HB2.out j
                obtain ⟨z, hz⟩ : ∃ z, dt r (setC (at2 l) j (fun i => x.getD i 0)) = z := ⟨_, rfl⟩
                rw [hz] at EUU hb5
                have HZV := Lib.hid hz
                clear hV hM hz
                go_wp2_with fail
                refine (EUU.out).mono ?_
                rintro e w5 ⟨rfl, hdr⟩
                have HI5 := Lib.hid (HIV.out.later (hdr.since wr.heap.size))
                have hz5 := HI5.out.since.size
                clear hdr
                go_wp2_with (at_builtin; (refine wpList_append_own _ rfl _ _ 33 rfl w.heap.size 3 i3 (.int .i64 0) 1 8 Try.underlying33 HJ.out.1 HJ.out.2.1 HJ.out.2.2.1 HJ.out.2.2.2 rfl (by decide) _ _ _ rfl (HI5.out.own.alloc _) ⟨w5.heap.size, 0, none⟩ 1 1 [.int .i64 z] rfl rfl (cell_one_at _ _ _ rfl) (fun x hx => by simp at hx; subst hx; rfl) (by unfold maxLen; omega) (by omega) (by simp; omega) ?_); intro v' w6 hown' hgrow _)
                have hP := HI5.out.push hown' hgrow
                rw [← HZV.out, ← slvR_succ] at hP
                have HP := Lib.hid hP
                clear hP hown' hgrow
                go_roundg (r - (j + 1))
                case measure => omega
                case rel => exact ⟨j + 1, by omega, rfl, by go_num, HP.out⟩
          · have hjk : j = k := by omega
            subst hjk
            obtain ⟨ra, rcp, hv, hrw⟩ := HII.out.slice
            rw [slvR_length] at hv
            subst hv
            have HRW := Lib.hid hrw
            clear hrw
            go_wp2
            go_ret3
            exact specS_yes hyes.out (slvR_length l x j j) ra rcp rfl HII.out.since (fun h0 => by
              obtain ⟨G, e, h2, h3⟩ := HRW.out h0
              exact ⟨G, 0, e, ⟨h2, h3.lt⟩, fun i hi => by rw [Nat.zero_add]; exact h3.cell hi⟩)

set_option maxHeartbeats 1000000 in
theorem specValueSolve_any (a a2 : Option Addr) (cap cap2 n n2 : Nat) (l : List (List Int)) (x : List Int) (w : World) (hn : l.length = n) (hx : x.length = n2) (_h63 : n2 ≤ 1048576) (hsz : szL l ≤ 1048576) (hm : MatR w a l) (hr : RowR w a2 x) :
    Calls Try.prog 32 #[.slice a n cap, .slice a2 n2 cap2] w (SpecS w (slvOk l x n) (dt n (at2 l)) (slvR l x n n)) := by
  by_cases hq : sqB l = true ∧ n2 = n
  · obtain ⟨hs, rfl⟩ := hq
    exact specValueSolve_yes a a2 cap cap2 n2 l x w hn hx hsz hs hm hr
  · have hno := Lib.hid (show slvOk l x n = false by
      cases hs : sqB l with
      | false => exact slvOk_sq hs
      | true => exact slvOk_len (fun h => hq ⟨hs, by omega⟩))
    have E := fun (W : World) (hd : w.Since w.heap.size W) => l2Square_any a cap n l W hn hsz (hm.since hd)
    have hnn : n ≤ 1048576 := by unfold szL at hsz; omega
    cases hs : sqB l with
    | false =>
      simp only [hs] at E
      replace E := Lib.hid E
      clear hs hm hn hsz hr hx hq
      go_enter Try.func32, Try.ntmps32
      go_wp2_with fail
      refine (E.out _ ?_).mono ?_
      · exact (World.Since.refl _ _).alloc (Nat.le_refl _) _
      rintro e w1 ⟨rfl, hdr⟩
      have HS1 := Lib.hid (((World.Since.refl w.heap.size w).alloc (Nat.le_refl _) (.cells #[] 3)).trans (hdr.since w.heap.size))
      clear hdr
      go_wp2
      go_ret3
      exact specS_no hno.out _ _ rfl HS1.out
    | true =>
      simp only [hs] at E
      replace E := Lib.hid E
      have hne : n2 ≠ n := fun h => hq ⟨hs, h⟩
      have hne' : ((n2 : Int) != (n : Int)) = true := by simp; omega
      clear hs hm hn hsz hr hx hq
      go_enter Try.func32, Try.ntmps32
      go_wp2_with fail
      refine (E.out _ ?_).mono ?_
      · exact (World.Since.refl _ _).alloc (Nat.le_refl _) _
      rintro e w1 ⟨rfl, hdr⟩
      have HS1 := Lib.hid (((World.Since.refl w.heap.size w).alloc (Nat.le_refl _) (.cells #[] 3)).trans (hdr.since w.heap.size))
      clear hdr
      go_wp2
      go_ret3
      exact specS_no hno.out _ _ rfl HS1.out

end Go.Proofs.Ytikjeaoapeaabaa
end

section
namespace Go.Proofs.Ytikjeaoapeaabaa
open Go.RowKit Go.Deep

set_option maxHeartbeats 1000000 in
theorem colEntry_any (pt pc pb i k c n cap cap2 : Nat) (a a2 : Option Addr) (l : List (List Int)) (x : List Int) (w : World) (hn : l.length = n) (hx : x.length = n) (h6 : n ≤ 6) (hrow : ∀ r, r < n → (l.getD r []).length = n) (hm : MatR w a l) (hr : RowR w a2 x)
    (ht : w.cell? ⟨pt, 0, none⟩ = some (.slice a n cap)) (hc : w.cell? ⟨pc, 0, none⟩ = some (.int .i64 c)) (hb : w.cell? ⟨pb, 0, none⟩ = some (.slice a2 n cap2)) (hi : i < n) (hk : k < n) :
    Calls Try.prog 96 #[.int .i64 i, .int .i64 k, .pointer (some ⟨pc, 0, none⟩), .pointer (some ⟨pb, 0, none⟩), .pointer (some ⟨pt, 0, none⟩)] w fun e w' => e = .returned (.int .i64 (setC (at2 l) c (fun i => x.getD i 0) i k)) ∧ w.Since w.heap.size w' := by
  by_cases e : k = c
  · have e' : ((k : Int) == (c : Int)) = true := by simp; omega
    have hv : setC (at2 l) c (fun i => x.getD i 0) i k = x.getD i 0 := by unfold setC; rw [if_pos e]
    rw [hv]
    obtain ⟨b, o, rfl, hcx⟩ := hr (by omega)
    have cx := hcx i (by omega)
    obtain ⟨y, hy⟩ : ∃ y, x.getD i 0 = y := ⟨_, rfl⟩
    rw [hy] at cx ⊢
    clear hcx hm hv hn hx hrow hy e
    go_enter Try.func96, Try.ntmps96
    go_wp2
    go_ret
    exact ⟨rfl, World.Since.refl _ _⟩
  · have e' : ((k : Int) == (c : Int)) = false := by simp; omega
    have hv : setC (at2 l) c (fun i => x.getD i 0) i k = at2 l i k := by unfold setC; rw [if_neg e]
    rw [hv]
    obtain ⟨b, o, A, C, rfl, h3⟩ := hm (by omega)
    obtain ⟨g1, g2⟩ := h3 i (by omega)
    have hri := hrow i hi
    obtain ⟨b', o', hA, g3⟩ := g2 (by omega)
    rw [hA, hri] at g1
    have g4 := g3 k (by omega)
    obtain ⟨y, hy⟩ : ∃ y, (l.getD i []).getD k 0 = y := ⟨_, rfl⟩
    rw [hy] at g4
    rw [show at2 l i k = y from hy]
    clear h3 g2 g3 hA hri hr hv hn hx hrow hy e
    go_enter Try.func96, Try.ntmps96
    go_wp2
    go_ret
    exact ⟨rfl, World.Since.refl _ _⟩

set_option maxRecDepth 100000 in
set_option maxHeartbeats 2000000 in
theorem withColumn_any (a a2 : Option Addr) (cap cap2 n c : Nat) (l : List (List Int)) (x : List Int) (w : World) (hn : l.length = n) (hx : x.length = n) (h1 : 1 ≤ n) (h6 : n ≤ 6) (hrow : ∀ r, r < n → (l.getD r []).length = n) (hm : MatR w a l) (hr : RowR w a2 x) :
    Calls Try.prog 75 #[.slice a n cap, .int .i64 c, .slice a2 n cap2] w fun e w' => e = .returned (.slice (some ⟨w.heap.size + 1 + 1 + 1, 0, none⟩) n n) ∧ w.Since w.heap.size w' ∧ OwnT w.heap.size w'.heap.size w' (some ⟨w.heap.size + 1 + 1 + 1, 0, none⟩) (slvT l x n c) := by
  have hwid := fun (W : World) (hs : w.Since w.heap.size W) => width_any a cap n l W hn (by omega) (by omega) (hm.since hs)
  rw [hrow 0 (by omega)] at hwid
  have hnt := fun (W : World) (hs : w.Since w.heap.size W) (hb0 : W.cell? ⟨w.heap.size, 0, none⟩ = some (.slice a n cap)) (hb1 : W.cell? ⟨w.heap.size + 1, 0, none⟩ = some (.int .i64 c)) (hb2 : W.cell? ⟨w.heap.size + 1 + 1, 0, none⟩ = some (.slice a2 n cap2)) =>
    newTable_any 96 #[.pointer (some ⟨w.heap.size + 1, 0, none⟩), .pointer (some ⟨w.heap.size + 1 + 1, 0, none⟩), .pointer (some ⟨w.heap.size, 0, none⟩)] n n (setC (at2 l) c (fun i => x.getD i 0)) W (by omega) (by omega) (enters_of Try.func96 (by kernel_rfl) rfl)
      (fun W' i k hs' hi hk => colEntry_any w.heap.size (w.heap.size + 1) (w.heap.size + 1 + 1) i k c n cap cap2 a a2 l x W' hn hx h6 hrow (hm.since (hs.trans (since_mono hs' hs.size))) (hr.since (hs.trans (since_mono hs' hs.size))) ((hs'.cell (a := ⟨w.heap.size, 0, none⟩) (World.block_lt_of_cell? _ _ hb0)).trans hb0) ((hs'.cell (a := ⟨w.heap.size + 1, 0, none⟩) (World.block_lt_of_cell? _ _ hb1)).trans hb1) ((hs'.cell (a := ⟨w.heap.size + 1 + 1, 0, none⟩) (World.block_lt_of_cell? _ _ hb2)).trans hb2) hi hk)
  have htl : slvT l x n c = tabF n n (setC (at2 l) c (fun i => x.getD i 0)) := rfl
  rw [htl]
  obtain ⟨F, hF⟩ : ∃ F, setC (at2 l) c (fun i => x.getD i 0) = F := ⟨_, rfl⟩
  rw [hF] at hnt ⊢
  have HW := Lib.hid hwid
  have HNT := Lib.hid hnt
  obtain ⟨W0, hW0⟩ : ∃ W0, W0 = (((w.alloc (.cells #[.slice a n cap] 54)).alloc (.cells #[.int .i64 c] 3)).alloc (.cells #[.slice a2 n cap2] 33)) := ⟨_, rfl⟩
  have HS1 := Lib.hid (show w.Since w.heap.size W0 from by rw [hW0]; exact (((World.Since.refl w.heap.size w).alloc (Nat.le_refl _) _).alloc (by simp) _).alloc (by simp; omega) _)
  have hc0 := cell_new_l w (.slice a n cap) 54
  have hc1 := cell_new_l (w.alloc (.cells #[.slice a n cap] 54)) (.int .i64 c) 3
  have hc2 := cell_new_l ((w.alloc (.cells #[.slice a n cap] 54)).alloc (.cells #[.int .i64 c] 3)) (.slice a2 n cap2) 33
  simp only [World.size_alloc] at hc1 hc2
  have hcb0 : W0.cell? ⟨w.heap.size, 0, none⟩ = some (.slice a n cap) := by rw [hW0]; exact cell_alloc_l _ (cell_alloc_l _ hc0.1)
  have hcb1 : W0.cell? ⟨w.heap.size + 1, 0, none⟩ = some (.int .i64 c) := by rw [hW0]; exact cell_alloc_l _ hc1.1
  have hcb2 : W0.cell? ⟨w.heap.size + 1 + 1, 0, none⟩ = some (.slice a2 n cap2) := by rw [hW0]; exact hc2.1
  have hz0 : W0.heap.size = w.heap.size + 1 + 1 + 1 := by rw [hW0]; simp
  have HZ := Lib.hid hz0
  clear hwid hnt hm hn hx hrow hr htl hc0 hc1 hc2 hF hz0
  go_enter Try.func75, Try.ntmps75
  go_wp2
  rw [← hW0]
  clear hW0
  go_region_held3 (fun w' => w'.cell? ⟨w.heap.size, 0, none⟩ = some (.slice a n cap)) (go_keep)
    (first
      | (go_at_call 61; refine (HW.out _ ?_).mono ?_; (exact World.Since.drew HS1.out); rintro e w1 ⟨rfl, rfl⟩)
      | (go_at_call 68; refine (HNT.out _ ?_ ?_ ?_ ?_).mono ?_; (exact World.Since.drew HS1.out); (exact hcb0); (exact hcb1); (exact hcb2); rintro e w1 ⟨rfl, hs2, ho⟩; have hcc := hs2.cell (a := ⟨w.heap.size, 0, none⟩) (World.block_lt_of_cell? _ _ hcb0); simp only [World.cell?_drew, hcb0] at hcc))
  all_goals
    go_wp2
    go_ret
    refine ⟨by rw [← HZ.out]; rfl, HS1.out.trans (since_mono (since_of_drew hs2) (by show w.heap.size ≤ W0.heap.size; have := HZ.out; omega)), ?_⟩
    rw [← HZ.out]
    exact ho.mono (by show w.heap.size ≤ W0.heap.size; have := HZ.out; omega) (Nat.le_refl _)

end Go.Proofs.Ytikjeaoapeaabaa
end

section
namespace Go.Proofs.Ytikjeaoapeaabaa
open Go.RowKit Go.Deep

theorem sn_tmod (k : Nat) (h : k < 64) : (Int.tmod (k : Int) 2 == 0) = !decide (k % 2 = 1) := by
  have h2 : ∀ k : Fin 64, (Int.tmod (k.val : Int) 2 == 0) = !decide (k.val % 2 = 1) := by decide +kernel
  exact h2 ⟨k, h⟩

set_option maxHeartbeats 400000 in
theorem signOf_any (k : Nat) (h : k < 64) (w : World) :
    Calls Try.prog 70 #[.int .i64 k] w fun e w' => e = .returned (.int .i64 (sn k)) ∧ w = w' := by
  have e := sn_tmod k h
  by_cases ho : k % 2 = 1
  · have e2 : sn k = -1 := if_pos ho
    rw [e2]
    have e3 : (Int.tmod (k : Int) 2 == 0) = false := by rw [e]; simp [ho]
    clear e h
    go_enter Try.func70, Try.ntmps70
    go_wp2
    go_ret
    exact ⟨rfl, rfl⟩
  · have e2 : sn k = 1 := if_neg ho
    rw [e2]
    have e3 : (Int.tmod (k : Int) 2 == 0) = true := by rw [e]; simp [ho]
    clear e h
    go_enter Try.func70, Try.ntmps70
    go_wp2
    go_ret
    exact ⟨rfl, rfl⟩

set_option maxHeartbeats 1000000 in
theorem isSquare_any (a : Option Addr) (cap n : Nat) (l : List (List Int)) (w : World) (hn : l.length = n) (hsz : szL l ≤ 1048576) (hm : MatR w a l) :
    Calls Try.prog 67 #[.slice a n cap] w fun e w' => e = .returned (.bool (sqB l)) ∧ w.Since w.heap.size w' := by
  have E := fits_any a cap n l w hn hsz hm
  cases hT : tabIn l with
  | false =>
    have hs : sqB l = false := by unfold sqB; rw [hT]; rfl
    rw [hs]
    rw [hT] at E
    replace E := Lib.hid E
    clear hs hT hn hsz hm
    go_enter Try.func67, Try.ntmps67
    go_wp2_with fail
    refine (E.out).mono ?_
    rintro e w1 ⟨rfl, hd⟩
    have HD := Lib.hid hd
    clear hd
    go_wp2
    go_ret
    exact ⟨rfl, HD.out⟩
  | true =>
    have hTT := tabIn_of hT
    have h1 := hTT.1
    have h6 := hTT.2.1
    rw [hn] at h1 h6
    obtain ⟨m, hmm⟩ : ∃ m, (l.getD 0 []).length = m := ⟨_, rfl⟩
    have hs : sqB l = (n == m) := by unfold sqB; rw [hT, hn, hmm]; rfl
    rw [hs]
    rw [hT] at E
    replace E := Lib.hid E
    have EW := fun (W : World) (h : w.Since w.heap.size W) => width_any a cap n l W hn (by omega) (by omega) (hm.since h)
    rw [hmm] at EW
    replace EW := Lib.hid EW
    clear hs hT hTT hn hsz hm hmm
    go_enter Try.func67, Try.ntmps67
    go_wp2_with fail
    refine (E.out).mono ?_
    rintro e w1 ⟨rfl, hd⟩
    have HD := Lib.hid hd
    clear hd
    go_wp2_with fail
    refine (EW.out w1 HD.out).mono ?_
    rintro e w2 ⟨rfl, rfl⟩
    have hb : ((n : Int) == (m : Int)) = (n == m) := by
      by_cases e : n = m
      · subst e; simp
      · rw [beq_eq_false_iff_ne.2 e, beq_eq_false_iff_ne.2 (by omega)]
    go_wp2
    go_ret
    refine ⟨?_, HD.out⟩
    rw [← hb]
    rfl

set_option maxHeartbeats 2000000 in
theorem without_any (a : Option Addr) (cap n r k : Nat) (l : List (List Int)) (w : World) (hn : l.length = n) (hT : TabIn l) (hw : (l.getD 0 []).length = n) (hr : r < n) (hk : k < n) (hm : MatR w a l) :
    Calls Try.prog 71 #[.slice a n cap, .int .i64 r, .int .i64 k] w fun e w' => ∃ a' cap', e = .returned (.slice a' (partL l (2 ^ n - 1 - 2 ^ r) (2 ^ n - 1 - 2 ^ k)).length cap') ∧ w.Since w.heap.size w' ∧ OwnT w.heap.size w'.heap.size w' a' (partL l (2 ^ n - 1 - 2 ^ r) (2 ^ n - 1 - 2 ^ k)) := by
  have h6 := hT.2.1
  rw [hn] at h6
  have E1 := fun (W : World) => allRows_any a cap n W h6
  have E2 := fun (W : World) (h : w.Since w.heap.size W) => width_any a cap n l W hn (by omega) (by omega) (hm.since h)
  rw [hw] at E2
  have E3 := fun (W : World) => fullSet_any n h6 W
  have e1 := andNot_fin ⟨n, by omega⟩ ⟨r, by omega⟩ hr
  have e2 := andNot_fin ⟨n, by omega⟩ ⟨k, by omega⟩ hk
  have e3 := pow63 ⟨n, by omega⟩
  have w1 := pow_in ⟨r, by omega⟩
  have w2 := pow_in ⟨k, by omega⟩
  simp only at e1 e2 e3 w1 w2
  have hm1 : min r 64 = r := by omega
  have hm2 : min k 64 = k := by omega
  have E4 := fun (W : World) (h : w.Since w.heap.size W) => part_any a cap n (2 ^ n - 1 - 2 ^ r) (2 ^ n - 1 - 2 ^ k) l W hn hT (Nat.le_trans (Nat.sub_le _ _) e3) (Nat.le_trans (Nat.sub_le _ _) e3) (hm.since h)
  obtain ⟨s, hs⟩ : ∃ s, s = 2 ^ n - 1 - 2 ^ r := ⟨_, rfl⟩
  obtain ⟨c, hc⟩ : ∃ s, s = 2 ^ n - 1 - 2 ^ k := ⟨_, rfl⟩
  obtain ⟨Aa, hA⟩ : ∃ s, s = 2 ^ n - 1 := ⟨_, rfl⟩
  rw [← hs, ← hA] at e1
  rw [← hc, ← hA] at e2
  simp only [← hs, ← hc] at E4 ⊢
  simp only [← hA] at E1 E3
  have H1 := Lib.hid E1
  have H2 := Lib.hid E2
  have H3 := Lib.hid E3
  have H4 := Lib.hid E4
  clear E1 E2 E3 E4 hs hc hA hT hm hn hw e3
  go_enter Try.func71, Try.ntmps71
  go_wp2
  go_region_held3 (fun _ => True) (exact trivial)
    (first
      | (go_at_call 93; refine (H1.out _).mono ?_; rintro e w3 ⟨rfl, rfl⟩)
      | (go_at_call 61; refine (H2.out _ ?_).mono ?_; (exact (World.Since.refl _ _).drew); rintro e w3 ⟨rfl, rfl⟩)
      | (go_at_call 89; refine (H3.out _).mono ?_; rintro e w3 ⟨rfl, rfl⟩)
      | (go_at_call 64; refine (H4.out _ ?_).mono ?_; (exact (World.Since.refl _ _).drew); rintro e w3 ⟨a', cap', rfl, hs2, ho⟩))
  all_goals
    go_wp2
    go_ret
    exact ⟨a', cap', rfl, since_of_drew hs2, ho⟩

end Go.Proofs.Ytikjeaoapeaabaa
end

section
namespace Go.Proofs.Ytikjeaoapeaabaa
open Go.RowKit Go.Deep

theorem since_of_map {W w' : World} {o : Obj} (hg : (W.alloc o).grownBy w' (some W.heap.size)) : W.Since W.heap.size w' := by
  have h0 := (World.Since.refl W.heap.size W).alloc (Nat.le_refl _) o
  have h1 := hg.size
  simp only [World.size_alloc] at h1
  exact ⟨hg.os.trans h0.os, hg.tape.trans h0.tape, hg.output.trans h0.output, by omega, fun k hk => (hg.block k (by simp; omega) (by intro e; injection e with e; omega)).trans (h0.block k hk)⟩

set_option maxHeartbeats 400000 in
theorem anyValue_of (rb : Nat) (a : Option Addr) (n cap : Nat) (x : Int) (W : World) (hr : RoadsAt W rb) (ht : ∀ W', W.grownBy W' (some rb) → Calls Try.prog 103 #[.slice a n cap] W' (fun e w' => e = .returned (.int .i64 x) ∧ W'.Since W'.heap.size w')) :
    Calls Try.prog 63 #[.map (some rb), .slice a n cap] W (fun e w' => e = .returned (.int .i64 x) ∧ W.grownBy w' (some rb) ∧ RoadsAt w' rb) := by
  have E := Lib.hid (roads_2 rb a n cap x W hr ht)
  clear hr ht
  go_enter Try.func63, Try.ntmps63
  go_wp2_with fail
  refine (E.out).mono ?_
  rintro e w' ⟨rfl, hg, hr⟩
  go_wp2
  go_ret
  exact ⟨rfl, hg, hr⟩

set_option maxHeartbeats 800000 in
theorem square_0 (a : Option Addr) (cap n : Nat) (l : List (List Int)) (x : Int) (w : World) (hn : l.length = n) (hsz : szL l ≤ 1048576) (hm : MatR w a l) (ht : sqB l = true → ∀ W', MatR W' a l → Calls Try.prog 101 #[.slice a n cap] W' (fun e w' => e = .returned (.int .i64 x) ∧ W'.Since W'.heap.size w')) :
    Calls Try.prog 51 #[.slice a n cap, .int .i64 0] w (SpecW w (sqB l) x) := by
  have E := isSquare_any a cap n l w hn hsz hm
  cases hs : sqB l with
  | false =>
    rw [hs] at E
    replace E := Lib.hid E
    clear hs hm hn hsz ht
    go_enter Try.func51, Try.ntmps51
    go_wp2_with fail
    refine (E.out).mono ?_
    rintro e w1 ⟨rfl, hd⟩
    have HD := Lib.hid hd
    clear hd
    go_wp2
    go_ret2
    exact ⟨rfl, HD.out⟩
  | true =>
    rw [hs] at E
    replace E := Lib.hid E
    have E2 := Lib.hid (fun (W : World) (hd : w.Since w.heap.size W) => roads_0 W.heap.size a n cap x (W.alloc (.map #[] 0)) (roads_made W) (fun W' hg => ht hs W' (hm.since (hd.trans (since_mono (since_of_map hg) hd.size)))))
    clear hs hm hn hsz ht
    have hmm := @run_makeMap Try.prog
    go_enter Try.func51, Try.ntmps51
    go_wp2_with fail
    refine (E.out).mono ?_
    rintro e w1 ⟨rfl, hd⟩
    have HD := Lib.hid hd
    clear hd
    go_wp2_with fail
    refine (E2.out w1 HD.out).mono ?_
    rintro e w2 ⟨rfl, hg, hr⟩
    have HS2 := Lib.hid (HD.out.trans (since_mono (since_of_map hg) HD.out.size))
    clear hg hr
    go_wp2
    go_ret2
    exact ⟨rfl, HS2.out⟩

set_option maxHeartbeats 400000 in
theorem implValueOrders_of (a : Option Addr) (cap n : Nat) (l : List (List Int)) (x : Int) (w : World) (hn : l.length = n) (hsz : szL l ≤ 1048576) (hm : MatR w a l) (ht : sqB l = true → ∀ W', MatR W' a l → Calls Try.prog 101 #[.slice a n cap] W' (fun e w' => e = .returned (.int .i64 x) ∧ W'.Since W'.heap.size w')) :
    Calls Try.prog 41 #[.slice a n cap] w (SpecW w (sqB l) x) := by
  have E := square_0 a cap n l x w hn hsz hm ht
  unfold SpecW at E ⊢
  generalize (if (sqB l) = true then x else 0) = y at E ⊢
  generalize (sqB l) = b at E ⊢
  replace E := Lib.hid E
  clear hn hsz hm ht
  go_enter Try.func41, Try.ntmps41
  go_wp2_with fail
  refine (E.out).mono ?_
  rintro e w1 ⟨rfl, hd⟩
  go_wp2
  go_ret2
  exact ⟨rfl, hd⟩

set_option maxHeartbeats 800000 in
theorem square_1 (a : Option Addr) (cap n : Nat) (l : List (List Int)) (x : Int) (w : World) (hn : l.length = n) (hsz : szL l ≤ 1048576) (hm : MatR w a l) (ht : sqB l = true → ∀ W', MatR W' a l → Calls Try.prog 102 #[.slice a n cap] W' (fun e w' => e = .returned (.int .i64 x) ∧ W'.Since W'.heap.size w')) :
    Calls Try.prog 51 #[.slice a n cap, .int .i64 1] w (SpecW w (sqB l) x) := by
  have E := isSquare_any a cap n l w hn hsz hm
  cases hs : sqB l with
  | false =>
    rw [hs] at E
    replace E := Lib.hid E
    clear hs hm hn hsz ht
    go_enter Try.func51, Try.ntmps51
    go_wp2_with fail
    refine (E.out).mono ?_
    rintro e w1 ⟨rfl, hd⟩
    have HD := Lib.hid hd
    clear hd
    go_wp2
    go_ret2
    exact ⟨rfl, HD.out⟩
  | true =>
    rw [hs] at E
    replace E := Lib.hid E
    have E2 := Lib.hid (fun (W : World) (hd : w.Since w.heap.size W) => roads_1 W.heap.size a n cap x (W.alloc (.map #[] 0)) (roads_made W) (fun W' hg => ht hs W' (hm.since (hd.trans (since_mono (since_of_map hg) hd.size)))))
    clear hs hm hn hsz ht
    have hmm := @run_makeMap Try.prog
    go_enter Try.func51, Try.ntmps51
    go_wp2_with fail
    refine (E.out).mono ?_
    rintro e w1 ⟨rfl, hd⟩
    have HD := Lib.hid hd
    clear hd
    go_wp2_with fail
    refine (E2.out w1 HD.out).mono ?_
    rintro e w2 ⟨rfl, hg, hr⟩
    have HS2 := Lib.hid (HD.out.trans (since_mono (since_of_map hg) HD.out.size))
    clear hg hr
    go_wp2
    go_ret2
    exact ⟨rfl, HS2.out⟩

set_option maxHeartbeats 400000 in
theorem implValueRows_of (a : Option Addr) (cap n : Nat) (l : List (List Int)) (x : Int) (w : World) (hn : l.length = n) (hsz : szL l ≤ 1048576) (hm : MatR w a l) (ht : sqB l = true → ∀ W', MatR W' a l → Calls Try.prog 102 #[.slice a n cap] W' (fun e w' => e = .returned (.int .i64 x) ∧ W'.Since W'.heap.size w')) :
    Calls Try.prog 18 #[.slice a n cap] w (SpecW w (sqB l) x) := by
  have E := square_1 a cap n l x w hn hsz hm ht
  unfold SpecW at E ⊢
  generalize (if (sqB l) = true then x else 0) = y at E ⊢
  generalize (sqB l) = b at E ⊢
  replace E := Lib.hid E
  clear hn hsz hm ht
  go_enter Try.func18, Try.ntmps18
  go_wp2_with fail
  refine (E.out).mono ?_
  rintro e w1 ⟨rfl, hd⟩
  go_wp2
  go_ret2
  exact ⟨rfl, hd⟩

set_option maxHeartbeats 800000 in
theorem square_2 (a : Option Addr) (cap n : Nat) (l : List (List Int)) (x : Int) (w : World) (hn : l.length = n) (hsz : szL l ≤ 1048576) (hm : MatR w a l) (ht : sqB l = true → ∀ W', MatR W' a l → Calls Try.prog 103 #[.slice a n cap] W' (fun e w' => e = .returned (.int .i64 x) ∧ W'.Since W'.heap.size w')) :
    Calls Try.prog 51 #[.slice a n cap, .int .i64 2] w (SpecW w (sqB l) x) := by
  have E := isSquare_any a cap n l w hn hsz hm
  cases hs : sqB l with
  | false =>
    rw [hs] at E
    replace E := Lib.hid E
    clear hs hm hn hsz ht
    go_enter Try.func51, Try.ntmps51
    go_wp2_with fail
    refine (E.out).mono ?_
    rintro e w1 ⟨rfl, hd⟩
    have HD := Lib.hid hd
    clear hd
    go_wp2
    go_ret2
    exact ⟨rfl, HD.out⟩
  | true =>
    rw [hs] at E
    replace E := Lib.hid E
    have E2 := Lib.hid (fun (W : World) (hd : w.Since w.heap.size W) => roads_2 W.heap.size a n cap x (W.alloc (.map #[] 0)) (roads_made W) (fun W' hg => ht hs W' (hm.since (hd.trans (since_mono (since_of_map hg) hd.size)))))
    clear hs hm hn hsz ht
    have hmm := @run_makeMap Try.prog
    go_enter Try.func51, Try.ntmps51
    go_wp2_with fail
    refine (E.out).mono ?_
    rintro e w1 ⟨rfl, hd⟩
    have HD := Lib.hid hd
    clear hd
    go_wp2_with fail
    refine (E2.out w1 HD.out).mono ?_
    rintro e w2 ⟨rfl, hg, hr⟩
    have HS2 := Lib.hid (HD.out.trans (since_mono (since_of_map hg) HD.out.size))
    clear hg hr
    go_wp2
    go_ret2
    exact ⟨rfl, HS2.out⟩

set_option maxHeartbeats 400000 in
theorem implValuePivots_of (a : Option Addr) (cap n : Nat) (l : List (List Int)) (x : Int) (w : World) (hn : l.length = n) (hsz : szL l ≤ 1048576) (hm : MatR w a l) (ht : sqB l = true → ∀ W', MatR W' a l → Calls Try.prog 103 #[.slice a n cap] W' (fun e w' => e = .returned (.int .i64 x) ∧ W'.Since W'.heap.size w')) :
    Calls Try.prog 21 #[.slice a n cap] w (SpecW w (sqB l) x) := by
  have E := square_2 a cap n l x w hn hsz hm ht
  unfold SpecW at E ⊢
  generalize (if (sqB l) = true then x else 0) = y at E ⊢
  generalize (sqB l) = b at E ⊢
  replace E := Lib.hid E
  clear hn hsz hm ht
  go_enter Try.func21, Try.ntmps21
  go_wp2_with fail
  refine (E.out).mono ?_
  rintro e w1 ⟨rfl, hd⟩
  go_wp2
  go_ret2
  exact ⟨rfl, hd⟩

set_option maxHeartbeats 800000 in
theorem square_3 (a : Option Addr) (cap n : Nat) (l : List (List Int)) (x : Int) (ok : Bool) (w : World) (hn : l.length = n) (hsz : szL l ≤ 1048576) (hm : MatR w a l) (ht : sqB l = true → ∀ W', MatR W' a l → Calls Try.prog 104 #[.slice a n cap] W' (fun e w' => e = .returned (.tuple #[.int .i64 (if ok then x else 0), .bool ok]) ∧ W'.Since W'.heap.size w')) :
    Calls Try.prog 51 #[.slice a n cap, .int .i64 3] w (SpecW w (sqB l && ok) x) := by
  have E := isSquare_any a cap n l w hn hsz hm
  cases hs : sqB l with
  | false =>
    rw [hs] at E
    replace E := Lib.hid E
    clear hs hm hn hsz ht
    go_enter Try.func51, Try.ntmps51
    go_wp2_with fail
    refine (E.out).mono ?_
    rintro e w1 ⟨rfl, hd⟩
    have HD := Lib.hid hd
    clear hd
    go_wp2
    go_ret2
    exact ⟨rfl, HD.out⟩
  | true =>
    rw [hs] at E
    replace E := Lib.hid E
    have E2 := Lib.hid (fun (W : World) (hd : w.Since w.heap.size W) => roads_3 W.heap.size a n cap (if ok then x else 0) ok (W.alloc (.map #[] 0)) (roads_made W) (fun W' hg => ht hs W' (hm.since (hd.trans (since_mono (since_of_map hg) hd.size)))))
    clear hs hm hn hsz ht
    generalize hy : (if ok = true then x else 0) = y at E2
    have hmm := @run_makeMap Try.prog
    go_enter Try.func51, Try.ntmps51
    go_wp2_with fail
    refine (E.out).mono ?_
    rintro e w1 ⟨rfl, hd⟩
    have HD := Lib.hid hd
    clear hd
    go_wp2_with fail
    refine (E2.out w1 HD.out).mono ?_
    rintro e w2 ⟨rfl, hg, hr⟩
    have HS2 := Lib.hid (HD.out.trans (since_mono (since_of_map hg) HD.out.size))
    clear hg hr
    go_wp2
    go_ret2
    exact ⟨by rw [← hy]; cases ok <;> rfl, HS2.out⟩

set_option maxHeartbeats 400000 in
theorem implValueCondense_of (a : Option Addr) (cap n : Nat) (l : List (List Int)) (x : Int) (ok : Bool) (w : World) (hn : l.length = n) (hsz : szL l ≤ 1048576) (hm : MatR w a l) (ht : sqB l = true → ∀ W', MatR W' a l → Calls Try.prog 104 #[.slice a n cap] W' (fun e w' => e = .returned (.tuple #[.int .i64 (if ok then x else 0), .bool ok]) ∧ W'.Since W'.heap.size w')) :
    Calls Try.prog 23 #[.slice a n cap] w (SpecW w (sqB l && ok) x) := by
  have E := square_3 a cap n l x ok w hn hsz hm ht
  unfold SpecW at E ⊢
  generalize (if (sqB l && ok) = true then x else 0) = y at E ⊢
  generalize (sqB l && ok) = b at E ⊢
  replace E := Lib.hid E
  clear hn hsz hm ht
  go_enter Try.func23, Try.ntmps23
  go_wp2_with fail
  refine (E.out).mono ?_
  rintro e w1 ⟨rfl, hd⟩
  go_wp2
  go_ret2
  exact ⟨rfl, hd⟩

end Go.Proofs.Ytikjeaoapeaabaa
end

section
namespace Go.Proofs.Ytikjeaoapeaabaa
open Go.RowKit Go.Deep

def oc1 (s : Int) : Int := IntKind.u64.wrap (bits BinOp.and IntKind.u64 (s / 2) 6148914691236517205 + bits BinOp.and IntKind.u64 s 6148914691236517205)
def oc2 (x : Int) : Int := IntKind.u64.wrap (bits BinOp.and IntKind.u64 (x / 4) 3689348814741910323 + bits BinOp.and IntKind.u64 x 3689348814741910323)
def oc3 (x : Int) : Int := bits BinOp.and IntKind.u64 (IntKind.u64.wrap (x / 16 + x)) 1085102592571150095
def oc4 (x : Int) : Int := IntKind.u64.wrap (x + x / 256)
def oc5 (x : Int) : Int := IntKind.u64.wrap (x + x / 65536)
def oc6 (x : Int) : Int := IntKind.u64.wrap (x + x / 4294967296)
def ocF (s : Int) : Int := bits BinOp.and IntKind.i64 (wrap64 (oc6 (oc5 (oc4 (oc3 (oc2 (oc1 s))))))) 127
theorem ocF_fin : ∀ s : Fin 64, ocF s.val = popcS s.val := by decide +kernel

set_option maxRecDepth 100000 in
set_option maxHeartbeats 1000000 in
theorem ones64_any (s : Nat) (h : s < 64) (w : World) :
    Calls Try.prog 106 #[.int .u64 s] w fun e w' => e = .returned (.int .i64 (popcS s)) ∧ w = w' := by
  go_enter Try.func106, Try.ntmps106
  go_wp2
  go_ret
  refine ⟨?_, rfl⟩
  have e := ocF_fin ⟨s, h⟩
  simp only [ocF, oc6, oc5, oc4, oc3, oc2, oc1] at e
  exact congrArg (fun z => Ending.returned (Value.int IntKind.i64 z)) e

set_option maxHeartbeats 400000 in
theorem ones_any (s : Nat) (h : s < 64) (w : World) :
    Calls Try.prog 90 #[.int .u64 s] w fun e w' => e = .returned (.int .i64 (popcS s)) ∧ w = w' := by
  have E := Lib.hid (ones64_any s h w)
  go_enter Try.func90, Try.ntmps90
  go_wp2_with fail
  refine (E.out).mono ?_
  rintro e w' ⟨rfl, rfl⟩
  go_wp2
  go_ret
  exact ⟨rfl, rfl⟩

set_option maxHeartbeats 400000 in
theorem members_any (s : Nat) (h : s < 64) (w : World) :
    Calls Try.prog 62 #[.int .i64 s] w fun e w' => e = .returned (.int .i64 (popcS s)) ∧ w = w' := by
  have E := Lib.hid (ones_any s h w)
  go_enter Try.func62, Try.ntmps62
  go_wp2_with fail
  refine (E.out).mono ?_
  rintro e w' ⟨rfl, rfl⟩
  go_wp2
  go_ret
  exact ⟨rfl, rfl⟩

set_option maxHeartbeats 400000 in
theorem isSet_any (x : Int) (n : Nat) (hn : n ≤ 6) (w : World) :
    Calls Try.prog 60 #[.int .i64 x, .int .i64 n] w fun e w' => e = .returned (.bool (inB x 0 (2 ^ n - 1 : Nat))) ∧ w = w' := by
  have E1 := Lib.hid (fullSet_any n hn w)
  have E2 := Lib.hid (inRange_any x 0 (2 ^ n - 1 : Nat) w)
  go_enter Try.func60, Try.ntmps60
  go_wp2_with fail
  refine (E1.out).mono ?_
  rintro e w' ⟨rfl, rfl⟩
  go_wp2_with fail
  refine (E2.out).mono ?_
  rintro e w' ⟨rfl, rfl⟩
  go_wp2
  go_ret
  exact ⟨rfl, rfl⟩

end Go.Proofs.Ytikjeaoapeaabaa
end

section
namespace Go.Proofs.Ytikjeaoapeaabaa
open Go.RowKit Go.Deep

theorem OwnT.but {lo hi rb : Nat} {w w' : World} {a : Option Addr} {l : List (List Int)} (h : OwnT lo hi w a l) (hb : rb < lo) (hg : w.grownBy w' (some rb)) : MatR w' a l := by
  intro h0
  obtain ⟨b, A, G, C, e, hbl, hr, _⟩ := h h0
  have hc : ∀ (x k : Nat) (v : Value), lo ≤ x → w.cell? ⟨x, k, none⟩ = some v → w'.cell? ⟨x, k, none⟩ = some v := fun x k v hx hv =>
    (World.cell?_of_block (a := ⟨x, k, none⟩) (hg.block x (World.block_lt_of_cell? _ _ hv) (by intro e; injection e with e; omega))).trans hv
  refine ⟨b, 0, A, C, e, fun r hrl => ?_⟩
  obtain ⟨c1, c2⟩ := hr r hrl
  rw [Nat.zero_add]
  refine ⟨hc _ _ _ hbl.1 c1, fun hp => ?_⟩
  obtain ⟨eA, hG, c3⟩ := c2 hp
  exact ⟨G r, 0, eA, fun i hi => by rw [Nat.zero_add]; exact hc _ _ _ hG.1 (c3 i hi).1⟩

theorem since_map (w : World) : w.Since w.heap.size (w.alloc (.map #[] 0)) := (World.Since.refl w.heap.size w).alloc (Nat.le_refl _) _

set_option maxRecDepth 100000 in
set_option maxHeartbeats 2000000 in
theorem implValueMinor_any (a : Option Addr) (cap n : Nat) (l : List (List Int)) (s c : Int) (w : World) (hn : l.length = n) (hsz : szL l ≤ 1048576) (hm : MatR w a l) :
    Calls Try.prog 25 #[.slice a n cap, .int .i64 s, .int .i64 c] w (SpecW w (minorOk l s c) (minorV l s c)) := by
  have E := Lib.hid (implTableIn_any a cap n l w hn hsz hm)
  cases hT : tabIn l with
  | false =>
    have hok : minorOk l s c = false := by unfold minorOk; rw [hT]; rfl
    rw [hT] at E
    rw [hok]
    clear hT hsz hm hn hok
    go_enter Try.func25, Try.ntmps25
    go_wp2_with fail
    refine (E.out).mono ?_
    rintro e w1 ⟨rfl, hd⟩
    have HS := Lib.hid hd
    clear hd
    go_wp2
    go_ret2
    exact ⟨rfl, HS.out⟩
  | true =>
    have hTT := tabIn_of hT
    rw [hT] at E
    have h6 := hTT.2.1
    have h1 := hTT.1
    have hw := hTT.width
    rw [hn] at h6 h1
    have EI := fun (W : World) => isSet_any s n h6 W
    cases hb : inB s 0 (2 ^ n - 1 : Nat) with
    | false =>
      have hok : minorOk l s c = false := by unfold minorOk; rw [hT, hn, hb]; rfl
      rw [hok]
      rw [hb] at EI
      replace EI := Lib.hid EI
      clear hT hsz hm hn hok hTT hb
      go_enter Try.func25, Try.ntmps25
      go_wp2_with fail
      refine (E.out).mono ?_
      rintro e w1 ⟨rfl, hd⟩
      have HS := Lib.hid hd
      clear hd
      go_wp2_with fail
      refine (EI.out w1).mono ?_
      rintro e w2 ⟨rfl, rfl⟩
      go_wp2
      go_ret2
      exact ⟨rfl, HS.out⟩
    | true =>
      have EW := fun (W : World) (h : w.Since w.heap.size W) => width_any a cap n l W hn (by omega) (by omega) (hm.since h)
      obtain ⟨m, hmm⟩ : ∃ m, (l.getD 0 []).length = m := ⟨_, rfl⟩
      rw [hmm] at hw EW
      have EC := fun (W : World) => isSet_any c m hw.2 W
      rw [hb] at EI
      cases hbc : inB c 0 (2 ^ m - 1 : Nat) with
      | false =>
        have hok : minorOk l s c = false := by unfold minorOk; rw [hT, hn, hb, hmm, hbc]; rfl
        rw [hok]
        rw [hbc] at EC
        replace EI := Lib.hid EI
        replace EC := Lib.hid EC
        replace EW := Lib.hid EW
        clear hT hsz hm hn hok hTT hb hbc hmm
        go_enter Try.func25, Try.ntmps25
        go_wp2_with fail
        refine (E.out).mono ?_
        rintro e w1 ⟨rfl, hd⟩
        have HS := Lib.hid hd
        clear hd
        go_wp2_with fail
        refine (EI.out w1).mono ?_
        rintro e w2 ⟨rfl, rfl⟩
        go_wp2_with fail
        refine (EW.out w1 HS.out).mono ?_
        rintro e w2 ⟨rfl, rfl⟩
        go_wp2_with fail
        refine (EC.out w1).mono ?_
        rintro e w2 ⟨rfl, rfl⟩
        go_wp2
        go_ret2
        exact ⟨rfl, HS.out⟩
      | true =>
        rw [hbc] at EC
        have hp6 : 2 ^ n ≤ 2 ^ 6 := Nat.pow_le_pow_right (by omega) h6
        have hp6' : 2 ^ m ≤ 2 ^ 6 := Nat.pow_le_pow_right (by omega) hw.2
        have hpn : 1 ≤ 2 ^ n := Nat.pow_pos (by omega)
        have hpm : 1 ≤ 2 ^ m := Nat.pow_pos (by omega)
        obtain ⟨s', hs', hsl⟩ : ∃ s' : Nat, s = s' ∧ s' < 2 ^ n := by
          simp [inB] at hb
          exact ⟨s.toNat, by omega, by omega⟩
        obtain ⟨c', hc', hcl⟩ : ∃ c' : Nat, c = c' ∧ c' < 2 ^ m := by
          simp [inB] at hbc
          exact ⟨c.toNat, by omega, by omega⟩
        subst hs' hc'
        have EM1 := fun (W : World) => members_any s' (by omega) W
        have EM2 := fun (W : World) => members_any c' (by omega) W
        replace EI := Lib.hid EI
        replace EC := Lib.hid EC
        replace EW := Lib.hid EW
        by_cases hpc : popcS s' = popcS c'
        · have hok : minorOk l s' c' = true := by unfold minorOk; rw [hT, hn, hb, hmm, hbc]; simp [hpc]
          rw [hok]
          have hsq := part_sq hTT (s := s') (c := c') (by rw [hn]; exact hsl) (by rw [hmm]; exact hcl) hpc
          have hv : minorV l s' c' = dt (popcS s') (at2 (partL l s' c')) := by
            unfold minorV
            simp only [Int.toNat_natCast]
            exact ordF_all _ (popcS_le s')
          rw [hv]
          have EP := fun (W : World) (h : w.Since w.heap.size W) => part_any a cap n s' c' l W hn hTT (by omega) (by omega) (hm.since h)
          rw [hsq.1] at EP
          have EV := fun (a2 : Option Addr) (c2 : Nat) (V : World) (h : MatR V a2 (partL l s' c')) => byPivots_any (popcS s') (partL l s' c') a2 c2 V hsq (popcS_le s') h
          rw [← hpc] at EM2
          have hk6 := popcS_le s'
          obtain ⟨L, hL⟩ : ∃ L, L = partL l s' c' := ⟨_, rfl⟩
          obtain ⟨k, hk⟩ : ∃ k, k = popcS s' := ⟨_, rfl⟩
          simp only [← hk] at EM1 EM2 EP EV hk6 ⊢
          simp only [← hL] at EP EV ⊢
          obtain ⟨x, hx⟩ : ∃ x, x = dt k (at2 L) := ⟨_, rfl⟩
          simp only [← hx] at EV ⊢
          replace EM1 := Lib.hid EM1
          replace EM2 := Lib.hid EM2
          replace EP := Lib.hid EP
          replace EV := Lib.hid EV
          have hmk := @run_makeMap Try.prog
          clear hT hsz hm hn hok hTT hb hbc hmm hpc hsq hv hk hL hx
          go_enter Try.func25, Try.ntmps25
          go_wp2_with fail
          refine (E.out).mono ?_
          rintro e w1 ⟨rfl, hd⟩
          have HS := Lib.hid hd
          clear hd
          go_wp2_with fail
          refine (EI.out w1).mono ?_
          rintro e w2 ⟨rfl, rfl⟩
          go_wp2_with fail
          refine (EW.out w1 HS.out).mono ?_
          rintro e w2 ⟨rfl, rfl⟩
          go_wp2_with fail
          refine (EC.out w1).mono ?_
          rintro e w2 ⟨rfl, rfl⟩
          go_wp2_with fail
          refine (EM1.out w1).mono ?_
          rintro e w2 ⟨rfl, rfl⟩
          go_wp2_with fail
          refine (EM2.out w1).mono ?_
          rintro e w2 ⟨rfl, rfl⟩
          go_wp2_with fail
          refine (EP.out _ (HS.out.trans (since_mono (since_map w1) HS.out.size))).mono ?_
          rintro e w3 ⟨a3, c3, rfl, hs3, ho3⟩
          have HR := Lib.hid ((roads_made w1).kept (grown_of_since (row := none) hs3) (by simp))
          have HS3 := Lib.hid (HS.out.trans (since_mono ((since_map w1).trans (since_mono hs3 (by simp))) HS.out.size))
          have HA := Lib.hid (anyValue_of w1.heap.size a3 k c3 x w3 HR.out (fun W' hg => EV.out a3 c3 W' (ho3.but (rb := w1.heap.size) (by simp) hg)))
          have hlt : w.heap.size ≤ w1.heap.size := HS.out.size
          have HSP := Lib.hid (fun (w4 : World) (hg : w3.grownBy w4 (some w1.heap.size)) => (show w.Since w.heap.size w4 from ⟨hg.os.trans HS3.out.os, hg.tape.trans HS3.out.tape, hg.output.trans HS3.out.output, Nat.le_trans HS3.out.size hg.size, fun j hj => (hg.block j (Nat.lt_of_lt_of_le hj HS3.out.size) (by intro e; injection e with e; omega)).trans (HS3.out.block j hj)⟩))
          clear hs3 ho3
          go_wp2_with fail
          refine (HA.out).mono ?_
          rintro e w4 ⟨rfl, hg, hr⟩
          have HS4 := Lib.hid (HSP.out w4 hg)
          clear hg hr
          go_wp2
          go_ret2
          exact ⟨rfl, HS4.out⟩
        · have hok : minorOk l s' c' = false := by unfold minorOk; rw [hT, hn, hb, hmm, hbc]; simp [hpc]
          rw [hok]
          obtain ⟨x1, hx1⟩ : ∃ x, x = popcS s' := ⟨_, rfl⟩
          obtain ⟨x2, hx2⟩ : ∃ x, x = popcS c' := ⟨_, rfl⟩
          have hne : ((x1 : Int) != (x2 : Int)) = true := by simp; omega
          simp only [← hx1] at EM1
          simp only [← hx2] at EM2
          replace EM1 := Lib.hid EM1
          replace EM2 := Lib.hid EM2
          clear hT hsz hm hn hok hTT hb hbc hmm hpc hx1 hx2
          go_enter Try.func25, Try.ntmps25
          go_wp2_with fail
          refine (E.out).mono ?_
          rintro e w1 ⟨rfl, hd⟩
          have HS := Lib.hid hd
          clear hd
          go_wp2_with fail
          refine (EI.out w1).mono ?_
          rintro e w2 ⟨rfl, rfl⟩
          go_wp2_with fail
          refine (EW.out w1 HS.out).mono ?_
          rintro e w2 ⟨rfl, rfl⟩
          go_wp2_with fail
          refine (EC.out w1).mono ?_
          rintro e w2 ⟨rfl, rfl⟩
          go_wp2_with fail
          refine (EM1.out w1).mono ?_
          rintro e w2 ⟨rfl, rfl⟩
          go_wp2_with fail
          refine (EM2.out w1).mono ?_
          rintro e w2 ⟨rfl, rfl⟩
          go_wp2
          go_ret2
          exact ⟨rfl, HS.out⟩

end Go.Proofs.Ytikjeaoapeaabaa
end

section
namespace Go.Proofs.Ytikjeaoapeaabaa
open Go.RowKit Go.Deep

theorem since_rb {w W W' : World} {rb : Nat} (h : w.Since w.heap.size W) (hg : W.grownBy W' (some rb)) (hb : w.heap.size ≤ rb) : w.Since w.heap.size W' :=
  h.grown hg h.size (fun k e => by cases e; exact hb)
theorem row_kept {W W' : World} {P n : Nat} {f : Nat → Value} {row : Option Nat} (h : W.rowIs P 3 n f) (hg : W.grownBy W' row) (hne : some P ≠ row) : W'.rowIs P 3 n f := h.of_block (hg.block _ h.lt hne)

set_option maxRecDepth 100000 in
set_option maxHeartbeats 4000000 in
theorem implValueSolve_yes (a a2 : Option Addr) (cap cap2 n : Nat) (l : List (List Int)) (x : List Int) (w : World) (hn : l.length = n) (hx : x.length = n) (hsz : szL l ≤ 1048576) (hs : sqB l = true) (hm : MatR w a l) (hr : RowR w a2 x) :
    Calls Try.prog 34 #[.slice a n cap, .slice a2 n cap2] w (ImplS w (slvOk l x n) (dt n (at2 l)) (slvR l x n n)) := by
  have E := fun (W : World) (hd : w.Since w.heap.size W) => isSquare_any a cap n l W hn hsz (hm.since hd)
  simp only [hs] at E
  replace E := Lib.hid E
  obtain ⟨hT, hw⟩ := sqB_of hs
  have h6 := hT.2.1
  have h1 := hT.1
  rw [hn] at h6 h1 hw
  have hrow : ∀ r, r < n → (l.getD r []).length = n := fun r hr => by rw [hT.row (by omega), ← hw]
  have hsq : SqD n l := ⟨hn, fun _ => ⟨hT, hw.symm⟩⟩
  have EN := Lib.hid (fun (W : World) (hd : w.Since w.heap.size W) => entriesIn_any a2 cap2 n x W hx (by omega) (hr.since hd))
  have EV := Lib.hid (fun (W : World) (hR : RoadsAt W w.heap.size) (hd : w.Since w.heap.size W) => anyValue_of w.heap.size a n cap (dt n (at2 l)) W hR (fun W' hg => byPivots_any n l a cap W' hsq h6 (hm.since (since_rb hd hg (Nat.le_refl _)))))
  have EC := Lib.hid (fun (c : Nat) (W : World) (hd : w.Since w.heap.size W) => withColumn_any a a2 cap cap2 n c l x W hn hx h1 h6 hrow (hm.since hd) (hr.since hd))
  have EU := Lib.hid (fun (hi : numsIn x = true) (k : Nat) (u : Option Addr) (c lo hi' : Nat) (W : World) (hlo : w.heap.size < lo) (hR : RoadsAt W w.heap.size) (h : OwnT lo hi' W u (slvT l x n k)) => by
    have q := slv_sq (k := k) hs hn hx hi
    have e := anyValue_of w.heap.size u n c (dt n (at2 (slvT l x n k))) W hR (fun W' hg => byPivots_any n (slvT l x n k) u c W' q.1 h6 (h.but hlo hg))
    rw [← ordF_all _ h6, q.2.1] at e
    exact e)
  have HBD := Lib.hid (fun (hi : numsIn x = true) (k : Nat) => slv_bd (k := k) hs hn hx hi)
  have HNO := Lib.hid (fun (h : numsIn x = false) => slvOk_num (l := l) (n := n) h)
  have HZ := Lib.hid (fun (h : dt n (at2 l) = 0) => slvOk_val (b := x) h)
  have HYES := Lib.hid (fun (h : numsIn x = true) (h2 : dt n (at2 l) ≠ 0) => slvOk_yes hs hx h h2)
  obtain ⟨d, hd⟩ : ∃ d, dt n (at2 l) = d := ⟨_, rfl⟩
  rw [hd] at EV HZ HYES ⊢
  obtain ⟨ni, hni⟩ : ∃ b, numsIn x = b := ⟨_, rfl⟩
  rw [hni] at EU HBD HNO HYES
  simp only [hni] at EN
  obtain ⟨W0, hW0⟩ : ∃ W0, W0 = w.alloc (.map #[] 0) := ⟨_, rfl⟩
  have HS0 := Lib.hid (show w.Since w.heap.size W0 by rw [hW0]; exact (World.Since.refl _ _).alloc (Nat.le_refl _) _)
  have HR0 := Lib.hid (show RoadsAt W0 w.heap.size by rw [hW0]; exact roads_made w)
  have HZ0 := Lib.hid (show W0.heap.size = w.heap.size + 1 by rw [hW0]; simp)
  have hmk := @run_makeMap Try.prog
  clear hm hT hw hn hs hsz hrow hsq hr hx hd hni
  go_enter Try.func34, Try.ntmps34
  go_wp2_with fail
  rw [← hW0]
  refine (E.out W0 HS0.out).mono ?_
  rintro e w1 ⟨rfl, hs1⟩
  have HS1 := Lib.hid (HS0.out.trans (since_mono hs1 HS0.out.size))
  have HR1 := Lib.hid (HR0.out.kept (grown_of_since (row := none) hs1) (by simp))
  have HZ1 := Lib.hid (show w.heap.size < w1.heap.size by have := HZ0.out; have := hs1.size; omega)
  clear hs1 hW0 hmk
  go_wp2_with fail
  refine (EN.out w1 HS1.out).mono ?_
  rintro e w2 ⟨rfl, rfl⟩
  cases ni with
  | false =>
    have hno := Lib.hid (HNO.out rfl)
    go_wp2
    go_ret3
    exact implS_no hno.out _ _ rfl HS1.out
  | true =>
    go_wp2_with fail
    refine (EV.out w1 HR1.out HS1.out).mono ?_
    rintro e w2 ⟨rfl, hg2, hr2⟩
    have HS2 := Lib.hid (since_rb HS1.out hg2 (Nat.le_refl _))
    have HR2 := Lib.hid hr2
    have HZ2 := Lib.hid (show w.heap.size < w2.heap.size by have := HZ1.out; have := hg2.size; omega)
    clear hg2 hr2
    by_cases hd0 : d = 0
    · have hno := Lib.hid (HZ.out hd0)
      subst hd0
      go_wp2
      go_ret3
      exact implS_no hno.out _ _ rfl HS2.out
    · have hdb : (d == 0) = false := by simpa using hd0
      have hyes := Lib.hid (HYES.out trivial hd0)
      have hmk := run_make_row' (P := Try.prog) 33 3 (.int .i64 0) 8 Try.underlying33 Try.info3 rfl .i64 .i64 n (by omega) (by omega)
      have HRW := Lib.hid ((World.rowIs_made w2 (.int .i64 0) n 3).congr (g := fun j => if j < 0 then .int .i64 ((slvR l x n n).getD j 0) else .int .i64 0) (fun j _ => by simp))
      have HS3 := Lib.hid (HS2.out.alloc HS2.out.size (.cells (madeCells #[.int .i64 0] n) 3))
      have HR3 := Lib.hid (HR2.out.kept (World.grownBy_alloc w2 (.cells (madeCells #[.int .i64 0] n) 3) none) (by simp))
      obtain ⟨P, hP⟩ : ∃ P, P = w2.heap.size := ⟨_, rfl⟩
      rw [← hP] at HRW HZ2
      clear HNO HZ HYES HS2 HR2
      go_wp2
      clear hmk
      rw [← hP]
      have hPz := Lib.hid hP
      clear hP
      go_loopg [11, 39] n (fun g _ i wr => ∃ j : Nat, j ≤ n ∧ g = n - j ∧ i = .int .i64 j ∧ w.Since w.heap.size wr ∧ RoadsAt wr w.heap.size ∧ wr.rowIs P 3 n (fun q => if q < j then .int .i64 ((slvR l x n n).getD q 0) else .int .i64 0))
      case atStart => exact ⟨0, Nat.zero_le _, rfl, rfl, HS3.out, HR3.out, HRW.out⟩
      case round =>
        obtain ⟨j, hj, rfl, rfl, hS, hR, hW⟩ := hrel
        clear HS3 HR3 HRW
        have HSS := Lib.hid hS
        have HRR := Lib.hid hR
        have HWW := Lib.hid hW
        have hPlt := hW.lt
        have hP2 := HZ2.out
        clear hS hR hW
        by_cases hjn : j < n
        · have ECC := Lib.hid (EC.out j wr HSS.out)
          have hzw := HSS.out.size
          obtain ⟨z, hz⟩ : ∃ z, dt n (setC (at2 l) j (fun i => x.getD i 0)) = z := ⟨_, rfl⟩
          have hzb := HBD.out trivial j
          have EU3 := fun (u : Option Addr) (c lo hi' : Nat) (W : World) (h1 : w.heap.size < lo) (h2 : RoadsAt W w.heap.size) (h3 : OwnT lo hi' W u (slvT l x n j)) => EU.out trivial j u c lo hi' W h1 h2 h3
          rw [hz] at hzb
          simp only [hz] at EU3
          replace EU3 := Lib.hid EU3
          have hzv : (slvR l x n n).getD j 0 = z := by rw [slvR_get l x n n j hjn, hz]
          have HZV := Lib.hid hzv
          clear hz hzv
          go_wp2_with fail
          refine (ECC.out).mono ?_
          rintro e w3 ⟨rfl, hs3, ho3⟩
          have HR4 := Lib.hid (HRR.out.kept (grown_of_since (row := none) hs3) (by simp))
          have HS4 := Lib.hid (HSS.out.trans (since_mono hs3 HSS.out.size))
          have HW4 := Lib.hid (row_kept HWW.out (grown_of_since (row := none) hs3) (by simp))
          have EVV := Lib.hid (EU3.out _ n wr.heap.size w3.heap.size w3 (by omega) HR4.out ho3)
          clear hs3 ho3
          go_wp2_with fail
          refine (EVV.out).mono ?_
          rintro e w4 ⟨rfl, hg4, hr4⟩
          have hW5 := row_kept HW4.out hg4 (by intro e; injection e with e; omega)
          have HS5 := Lib.hid (since_rb HS4.out hg4 (Nat.le_refl _))
          have HR5 := Lib.hid hr4
          have c1 := hW5.cell (i := j) hjn
          simp only [Nat.lt_irrefl, if_false] at c1
          have c2 := hW5.frozen j
          have HW5 := Lib.hid hW5
          clear hg4 hr4 hW5
          go_wp2
          have hN := HW5.out.set j (.int .i64 z)
          have HN := Lib.hid (hN.congr (g := fun q => if q < j + 1 then .int .i64 ((slvR l x n n).getD q 0) else .int .i64 0) (fun q hq => by
            by_cases e : q = j
            · subst e; rw [if_pos rfl, if_pos (by omega), HZV.out]
            · rw [if_neg e]
              by_cases h2 : q < j
              · rw [if_pos h2, if_pos (by omega)]
              · rw [if_neg h2, if_neg (by omega)]))
          clear hN c1 c2
          go_roundg (n - (j + 1))
          case measure => omega
          case rel => exact ⟨j + 1, by omega, rfl, by go_num, HS5.out.setCell (by show w.heap.size ≤ P; omega) _, HR5.out.kept (row := some P) ⟨rfl, rfl, rfl, by simp, fun k hk hne => Below.heap_setCell _ _ _ _ (fun e => hne (by rw [e]))⟩ (by intro e; injection e with e; omega), HN.out⟩
        · have hjn' : j = n := by omega
          subst hjn'
          go_wp2
          go_ret3
          refine implS_yes hyes.out (slvR_length l x j j) (some ⟨P, 0, none⟩) j rfl HSS.out (fun h0 => ⟨P, rfl, ⟨by omega, hPlt⟩, fun i hi => ?_⟩)
          rw [slvR_length] at hi
          have c1 := HWW.out.cell (i := i) hi
          rw [if_pos hi] at c1
          exact ⟨c1, HWW.out.frozen i⟩

set_option maxHeartbeats 1000000 in
theorem implValueSolve_any (a a2 : Option Addr) (cap cap2 n n2 : Nat) (l : List (List Int)) (x : List Int) (w : World) (hn : l.length = n) (hx : x.length = n2) (_h63 : n2 ≤ 1048576) (hsz : szL l ≤ 1048576) (hm : MatR w a l) (hr : RowR w a2 x) :
    Calls Try.prog 34 #[.slice a n cap, .slice a2 n2 cap2] w (ImplS w (slvOk l x n) (dt n (at2 l)) (slvR l x n n)) := by
  by_cases hq : sqB l = true ∧ n2 = n
  · obtain ⟨hs, rfl⟩ := hq
    exact implValueSolve_yes a a2 cap cap2 n2 l x w hn hx hsz hs hm hr
  · have hno := Lib.hid (show slvOk l x n = false by
      cases hs : sqB l with
      | false => exact slvOk_sq hs
      | true => exact slvOk_len (fun h => hq ⟨hs, by omega⟩))
    have E := fun (W : World) (hd : w.Since w.heap.size W) => isSquare_any a cap n l W hn hsz (hm.since hd)
    have hnn : n ≤ 1048576 := by unfold szL at hsz; omega
    obtain ⟨W0, hW0⟩ : ∃ W0, W0 = w.alloc (.map #[] 0) := ⟨_, rfl⟩
    have HS0 := Lib.hid (show w.Since w.heap.size W0 by rw [hW0]; exact (World.Since.refl _ _).alloc (Nat.le_refl _) _)
    have hmk := @run_makeMap Try.prog
    cases hs : sqB l with
    | false =>
      simp only [hs] at E
      replace E := Lib.hid E
      clear hs hm hn hsz hr hx hq
      go_enter Try.func34, Try.ntmps34
      go_wp2_with fail
      rw [← hW0]
      refine (E.out W0 HS0.out).mono ?_
      rintro e w1 ⟨rfl, hs1⟩
      have HS1 := Lib.hid (HS0.out.trans (since_mono hs1 HS0.out.size))
      clear hs1 hW0 hmk
      go_wp2
      go_ret3
      exact implS_no hno.out _ _ rfl HS1.out
    | true =>
      simp only [hs] at E
      replace E := Lib.hid E
      have hne : n2 ≠ n := fun h => hq ⟨hs, h⟩
      have hne' : ((n2 : Int) != (n : Int)) = true := by simp; omega
      clear hs hm hn hsz hr hx hq
      go_enter Try.func34, Try.ntmps34
      go_wp2_with fail
      rw [← hW0]
      refine (E.out W0 HS0.out).mono ?_
      rintro e w1 ⟨rfl, hs1⟩
      have HS1 := Lib.hid (HS0.out.trans (since_mono hs1 HS0.out.size))
      clear hs1 hW0 hmk
      go_wp2
      go_ret3
      exact implS_no hno.out _ _ rfl HS1.out

end Go.Proofs.Ytikjeaoapeaabaa
end

section
namespace Go.Proofs.Ytikjeaoapeaabaa
open Go.RowKit Go.Deep

theorem lawValueSolve (a0 : Option Addr) (cap0 n0 : Nat) (l0 : List (List Int)) (a1 : Option Addr) (cap1 n1 : Nat) (l1 : List Int) (w : World) (hn0 : l0.length = n0) (h630 : n0 ≤ 9223372036854775807) (hl0 : ∀ r, r < l0.length → (l0.getD r []).length ≤ 9223372036854775807) (hm0 : MatR w a0 l0) (hn1 : l1.length = n1) (h631 : n1 ≤ 9223372036854775807) (hm1 : RowR w a1 l1) :
    Calls Try.prog 9 #[.slice a0 n0 cap0, .slice a1 n1 cap1] w fun e w' => e = .returned (.bool true) ∧ w.Since w.heap.size w' :=
  lawValueSolve_aux a0 cap0 n0 l0 a1 cap1 n1 l1 (slvOk l0 l1 n0) (if slvOk l0 l1 n0 = true then dt n0 (at2 l0) else 0) (if slvOk l0 l1 n0 = true then slvR l0 l1 n0 n0 else []) w hn0 h630 hl0 hm0 hn1 h631 hm1
    (by
      cases h : slvOk l0 l1 n0 with
      | false => simp
      | true =>
        rw [if_pos rfl, slvR_length]
        have h2 := (sqB_of (slvOk_of h).1).1.2.1
        omega)
    (fun hz W b0 c0 b1 c1 h0 h1 => (specValueSolve_any b0 b1 c0 c1 n0 n1 l0 l1 W hn0 hn1 hz.2 hz.1 h0 h1).mono fun _ _ h => h)
    (fun hz W b0 c0 b1 c1 h0 h1 => (implValueSolve_any b0 b1 c0 c1 n0 n1 l0 l1 W hn0 hn1 hz.2 hz.1 h0 h1).mono fun _ _ h => h)

end Go.Proofs.Ytikjeaoapeaabaa
end

section
namespace Go.Proofs.Ytikjeaoapeaabaa
open Go.ChangeShapes Go.WideShapes Go.ChangeAt Go.RowKit Go.Deep

theorem below_since' {B : Nat} {w w' : World} (h : Below B w w') : w.Since B w' := ⟨h.os, h.tape, h.output, h.size, h.block⟩
theorem since_below' {B : Nat} {w w' : World} (h : w.Since B w') : Below B w w' := ⟨h.os, h.tape, h.output, h.size, h.block⟩

section
variable {H : Type} {enc : TypeId × Value → H} {P : Program}
theorem post_of_below {f : Func} {s : ChangeSpec} {apart fresh handsOn again : Bool} {W W' : World} {args : Array Value} {v : Value} {ds gs : List (DataW H)} {before pa pv : List MemPlace}
    (hW : DataW.Whole enc P f.params.toList s.vars apart W args.toList ds gs before)
    (hres : ∀ (b : Nat) (sp : Nat → Bool) (hd : Bool), DataW.TrodAll enc P W' b sp hd f.resultTypes.toList (v.resultList f.resultTypes.size) (s.fn H (ds ++ gs)).results [])
    (hargs : ∀ sp : Nat → Bool, (∀ p ∈ before, sp p.block = true) → DataW.TrodAll enc P W' 0 sp true f.params.toList args.toList (s.fn H (ds ++ gs)).args pa)
    (hvars : ∀ sp : Nat → Bool, (∀ p ∈ before, sp p.block = true) → DataW.TrodVars enc P W' sp s.vars (s.fn H (ds ++ gs)).vars pv)
    (hps : before = pa ++ pv) (hb : Below W.heap.size W W') (hag : again = false) :
    s.post enc P f apart fresh handsOn again W args v W' := by
  have hlt : ∀ p ∈ before, p.block < W.heap.size := fun p hp => hW.lt p hp
  have hold : ∀ p ∈ before, (fun b => decide (b < W.heap.size)) p.block = true := fun p hp => by simpa using hlt p hp
  refine ⟨ds, gs, before, [], pa, pv, hW, hres _ _ _, hargs _ hold, hvars _ hold, World.keptBut_mono (fun p hp => ⟨hp, ?_⟩) (hb.frame (· ∈ before)), fun h => ?_⟩
  · rw [hps, List.mem_append] at hp
    exact Or.inr hp
  · rw [hag] at h; cases h

theorem open_mat {W : World} {t e q : TypeId} {a : Option Addr} {n cap : Nat} {d : DataW H} {p : List MemPlace} (ht : P.underlying t = some (.slice e)) (he : P.underlying e = some (.slice q)) (hq : P.underlying q = some (.int .i64))
    (ce : P.cellsOf e = 1) (cq : P.cellsOf q = 1) (h : DataW.Trod enc P W 0 (fun _ => true) true t (.slice a n cap) d p) :
    ∃ l : List (List Int), l.length = n ∧ MatR W a l ∧ n ≤ 9223372036854775807 ∧ ∀ r, r < l.length → (l.getD r []).length ≤ 9223372036854775807 := by
  obtain ⟨fuel, hf⟩ := h
  rcases open_int_rows ht he hq ce cq hf with ⟨hcs, _⟩ | ⟨a', len', cap', A, L, C, Z, hcs, _, hl, hm, _, hrows⟩
  · simp [Value.cells] at hcs
    obtain ⟨rfl, rfl, rfl⟩ := hcs
    exact ⟨[], rfl, (fun h => by simp at h), by omega, fun r hr => by simp at hr⟩
  · simp [Value.cells] at hcs
    obtain ⟨rfl, rfl, rfl⟩ := hcs
    have hmx : maxLen = 9223372036854775807 := rfl
    have hlen : ∀ r, r < n → ((Z r).take (L r)).length = L r := fun r hr => by
      obtain ⟨_, h1, _, h2, _⟩ := hrows r (by omega)
      rw [List.length_take]; omega
    have hget : ∀ r, r < n → ((List.range n).map fun r => (Z r).take (L r)).getD r [] = (Z r).take (L r) := fun r hr => by simp [List.getD, hr]
    refine ⟨(List.range n).map fun r => (Z r).take (L r), by simp, fun h => ?_, by omega, fun r hr => ?_⟩
    · obtain ⟨b, o, spot⟩ := a'
      simp at h
      have hspot : spot = none := by simpa [Addr.add] using World.cell?_spot (hrows 0 (by omega)).1
      subst hspot
      refine ⟨b, o, A, C, rfl, fun r hr => ?_⟩
      simp at hr
      rw [hget r hr, hlen r hr]
      obtain ⟨g1, g2, g3, g4, g5, g6, g7⟩ := hrows r (by omega)
      refine ⟨by rw [← add_plain]; exact g1, fun h0 => ?_⟩
      rw [hlen r hr] at h0
      cases hA : A r with
      | none => have := g6 hA; omega
      | some a'' =>
        obtain ⟨_, hcell⟩ := g7 a'' hA
        obtain ⟨b', o', sp⟩ := a''
        have hs : sp = none := by simpa [Addr.add] using World.cell?_spot (hcell 0 (by omega))
        subst hs
        refine ⟨b', o', rfl, fun i hi => ?_⟩
        rw [hlen r hr] at hi
        rw [← add_plain, hcell i (by omega)]
        congr 2
        simp [List.getD, hi]
    · simp at hr
      rw [hget r hr, hlen r hr]
      obtain ⟨_, h1, h2, _⟩ := hrows r (by omega)
      omega
end

theorem Try.own : ownKnob Try.prog.godebug = none := by kernel_rfl
theorem Try.laidOut : laidOutB Try.prog = true := by kernel_rfl
theorem Try.cellsR : Try.prog.cellsOf 33 = 1 := by kernel_rfl
theorem Try.cellsI : Try.prog.cellsOf 3 = 1 := by kernel_rfl

end Go.Proofs.Ytikjeaoapeaabaa
end

section
namespace Go.Proofs.Ytikjeaoapeaabaa
open Go.ChangeShapes Go.WideShapes Go.ChangeAt Go.RowKit Go.Deep

theorem open_row {H : Type} {enc : TypeId × Value → H} {P : Program} {W : World} {t e : TypeId} {a : Option Addr} {n cap : Nat} {d : DataW H} {p : List MemPlace} (ht : P.underlying t = some (.slice e)) (he : P.underlying e = some (.int .i64)) (ce : P.cellsOf e = 1)
    (h : DataW.Trod enc P W 0 (fun _ => true) true t (.slice a n cap) d p) : ∃ x : List Int, x.length = n ∧ RowR W a x ∧ n ≤ 9223372036854775807 := by
  obtain ⟨fuel, hf⟩ := h
  rcases open_ints ht he ce hf with ⟨hcs, _⟩ | ⟨a', len, cap', zs, hcs, _, hl, hm, hlen, _, hcell, _⟩
  · simp [Value.cells] at hcs
    obtain ⟨rfl, rfl, rfl⟩ := hcs
    exact ⟨[], rfl, (fun h => by simp at h), by omega⟩
  · simp [Value.cells] at hcs
    obtain ⟨rfl, rfl, rfl⟩ := hcs
    have hmx : maxLen = 9223372036854775807 := rfl
    have hzl : zs.length = cap := by simpa using hlen
    refine ⟨zs.take n, by rw [List.length_take]; omega, fun h0 => ?_, by omega⟩
    have h0' : 0 < n := by rw [List.length_take] at h0; omega
    obtain ⟨b, o, spot⟩ := a'
    have hspot : spot = none := by simpa [Addr.add] using World.cell?_spot (hcell 0 (by omega))
    subst hspot
    refine ⟨b, o, rfl, fun i hi => ?_⟩
    have hi2 : i < n := by rw [List.length_take] at hi; omega
    rw [← add_plain, hcell i (by omega)]
    congr 2
    simp [List.getD, hi2]

end Go.Proofs.Ytikjeaoapeaabaa
end

/- Columns put in place: what ValueSolve is to answer. -/
import Derived.Test.YtkfondipmhjhjaaSolveP
import Derived.Test.YtkfondipmhjhjaaOwnR
import Derived.Test.YtkfondipmhjhjaaOrdDet
import Derived.Test.YtkfondipmhjhjaaMinorV
import Derived.Test.YtkfondipmhjhjaaImpl1
namespace Go.Proofs.Ytkfondipmhjhjaa
open Go.RowKit Go.Deep

/-- The square with column k put in place. -/
def slvT (l : List (List Int)) (b : List Int) (n k : Nat) : List (List Int) := tabF n n (setC (at2 l) k (fun i => b.getD i 0))
/-- The values so far. -/
def slvR (l : List (List Int)) (b : List Int) (n j : Nat) : List Int := (List.range j).map fun k => dt n (setC (at2 l) k (fun i => b.getD i 0))
theorem slvR_succ (l : List (List Int)) (b : List Int) (n j : Nat) : slvR l b n (j + 1) = slvR l b n j ++ [dt n (setC (at2 l) j (fun i => b.getD i 0))] := by simp [slvR, List.range_succ]
theorem slvR_length (l : List (List Int)) (b : List Int) (n j : Nat) : (slvR l b n j).length = j := by simp [slvR]
theorem slvR_get (l : List (List Int)) (b : List Int) (n j k : Nat) (h : k < j) : (slvR l b n j).getD k 0 = dt n (setC (at2 l) k (fun i => b.getD i 0)) := by simp [slvR, List.getD, h]
/-- Does ValueSolve succeed? -/
noncomputable def slvOk (l : List (List Int)) (b : List Int) (n : Nat) : Bool := sqB l && (b.length == n && (numsIn b && (dt n (at2 l) != 0)))

theorem slv_sq {l : List (List Int)} {b : List Int} {n k : Nat} (hs : sqB l = true) (hn : l.length = n) (hb : b.length = n) (hi : numsIn b = true) : SqD n (slvT l b n k) ∧ ordF (slvT l b n k) n n 0 = dt n (setC (at2 l) k (fun i => b.getD i 0)) ∧ TabIn (slvT l b n k) := by
  obtain ⟨hT, hw⟩ := sqB_of hs
  have h6 := hT.2.1
  have h1 := hT.1
  rw [hn] at h6 h1 hw
  have hN := numsIn_of hi
  have hlen : (slvT l b n k).length = n := tabF_length _ _ _
  have hrow : ∀ r, r < n → ((slvT l b n k).getD r []).length = n := fun r hr => tabF_len _ _ _ _ hr
  have hat : ∀ r c, r < n → c < n → ((slvT l b n k).getD r []).getD c 0 = setC (at2 l) k (fun i => b.getD i 0) r c := fun r c hr hc => tabF_at _ _ _ r c hr hc
  have hTT : TabIn (slvT l b n k) := by
    refine ⟨by rw [hlen]; exact h1, by rw [hlen]; exact h6, fun r hr => ?_⟩
    rw [hlen] at hr
    refine ⟨by rw [hrow r hr, hrow 0 (by omega)], by rw [hrow r hr]; exact h1, by rw [hrow r hr]; exact h6, fun c hc => ?_⟩
    rw [hrow r hr] at hc
    rw [hat r c hr hc]
    unfold setC
    split
    · have := hN r (by rw [hb]; exact hr)
      omega
    · exact hT.at (by omega) (by omega)
  refine ⟨⟨hlen, fun _ => ⟨hTT, hrow 0 (by omega)⟩⟩, ?_, hTT⟩
  rw [ordF_all _ h6]
  exact dt_congr n fun i j hi hj => hat i j hi hj

theorem slv_bd {l : List (List Int)} {b : List Int} {n k : Nat} (hs : sqB l = true) (hn : l.length = n) (hb : b.length = n) (hi : numsIn b = true) : -349920000000 ≤ dt n (setC (at2 l) k (fun i => b.getD i 0)) ∧ dt n (setC (at2 l) k (fun i => b.getD i 0)) ≤ 349920000000 := by
  obtain ⟨⟨h1, h2⟩, h3, h4⟩ := slv_sq (k := k) hs hn hb hi
  have h6 := h4.2.1
  have h0 := h4.1
  have hw := (h2 (by omega)).2
  rw [h1] at h6
  rw [← h3, ordF_all _ h6]
  have zb := dt_bd n (at2 (slvT l b n k)) h6 (fun i j hi hj => h4.at (by rw [h1]; exact hi) (by omega))
  have : bdN n ≤ 349920000000 := by
    have h : n = 0 ∨ n = 1 ∨ n = 2 ∨ n = 3 ∨ n = 4 ∨ n = 5 ∨ n = 6 := by omega
    rcases h with h | h | h | h | h | h | h <;> (subst h; decide)
  omega

/-- What is answered: a number, a row, and whether there is one. -/
def SpecS (w : World) (ok : Bool) (v : Int) (M : List Int) (e : Ending) (w' : World) : Prop :=
  ∃ a cap, e = .returned (.tuple #[.int .i64 (if ok then v else 0), .slice a (if ok then M else []).length cap, .bool ok]) ∧ w.Since w.heap.size w' ∧ InR w.heap.size w'.heap.size w' a (if ok then M else [])
def ImplS (w : World) (ok : Bool) (v : Int) (M : List Int) (e : Ending) (w' : World) : Prop :=
  ∃ a cap, e = .returned (.tuple #[.int .i64 (if ok then v else 0), .slice a (if ok then M else []).length cap, .bool ok]) ∧ w.Since w.heap.size w' ∧ OwnR w.heap.size w'.heap.size w' a (if ok then M else [])

theorem specS_no {w w' : World} {ok : Bool} {v : Int} {M : List Int} {e : Ending} (h : ok = false) (a : Option Addr) (cap : Nat) (he : e = .returned (.tuple #[.int .i64 0, .slice a 0 cap, .bool false])) (hs : w.Since w.heap.size w') : SpecS w ok v M e w' := by
  subst h; exact ⟨a, cap, he, hs, InR.nil _ _ _ _⟩
theorem implS_no {w w' : World} {ok : Bool} {v : Int} {M : List Int} {e : Ending} (h : ok = false) (a : Option Addr) (cap : Nat) (he : e = .returned (.tuple #[.int .i64 0, .slice a 0 cap, .bool false])) (hs : w.Since w.heap.size w') : ImplS w ok v M e w' := by
  subst h; exact ⟨a, cap, he, hs, OwnR.nil _ _ _ _⟩
theorem specS_yes {w w' : World} {ok : Bool} {v : Int} {M : List Int} {e : Ending} {q : Nat} (h : ok = true) (hM : M.length = q) (a : Option Addr) (cap : Nat) (he : e = .returned (.tuple #[.int .i64 v, .slice a q cap, .bool true])) (hs : w.Since w.heap.size w') (hr : InR w.heap.size w'.heap.size w' a M) : SpecS w ok v M e w' := by
  subst h; subst hM; exact ⟨a, cap, he, hs, hr⟩
theorem implS_yes {w w' : World} {ok : Bool} {v : Int} {M : List Int} {e : Ending} {q : Nat} (h : ok = true) (hM : M.length = q) (a : Option Addr) (cap : Nat) (he : e = .returned (.tuple #[.int .i64 v, .slice a q cap, .bool true])) (hs : w.Since w.heap.size w') (hr : OwnR w.heap.size w'.heap.size w' a M) : ImplS w ok v M e w' := by
  subst h; subst hM; exact ⟨a, cap, he, hs, hr⟩
theorem slvOk_sq {l : List (List Int)} {b : List Int} {n : Nat} (h : sqB l = false) : slvOk l b n = false := by unfold slvOk; rw [h]; rfl
theorem slvOk_len {l : List (List Int)} {b : List Int} {n : Nat} (h : b.length ≠ n) : slvOk l b n = false := by
  unfold slvOk
  have : (b.length == n) = false := by simpa using h
  rw [this]; simp
theorem slvOk_num {l : List (List Int)} {b : List Int} {n : Nat} (h : numsIn b = false) : slvOk l b n = false := by unfold slvOk; rw [h]; simp
theorem slvOk_val {l : List (List Int)} {b : List Int} {n : Nat} (h : dt n (at2 l) = 0) : slvOk l b n = false := by unfold slvOk; rw [h]; simp
theorem slvOk_yes {l : List (List Int)} {b : List Int} {n : Nat} (h1 : sqB l = true) (h2 : b.length = n) (h3 : numsIn b = true) (h4 : dt n (at2 l) ≠ 0) : slvOk l b n = true := by
  unfold slvOk
  rw [h1, h3, h2]; simpa using h4
theorem slvOk_of {l : List (List Int)} {b : List Int} {n : Nat} (h : slvOk l b n = true) : sqB l = true ∧ b.length = n ∧ numsIn b = true ∧ dt n (at2 l) ≠ 0 := by
  unfold slvOk at h
  simp only [Bool.and_eq_true] at h
  exact ⟨h.1, by simpa using h.2.1, h.2.2.1, by simpa using h.2.2.2⟩

/-- The copy while its column k is put in place. -/
structure SV (w1 wr : World) (b n : Nat) (A : Nat → Option Addr) (G C : Nat → Nat) (l : List (List Int)) (B : List Int) (k i hi : Nat) : Prop where
  since : w1.Since w1.heap.size wr
  size : hi ≤ wr.heap.size
  own : OwnD w1.heap.size hi wr b A G C n (fun _ => n) (fun r c => if c = k ∧ r < i then B.getD r 0 else at2 l r c)
theorem SV.start {w w1 : World} {a : Option Addr} {l : List (List Int)} {B : List Int} {n k : Nat} (h : OwnT w.heap.size w1.heap.size w1 a l) (hn : l.length = n) (h1 : 0 < n) (hm : ∀ r, r < n → (l.getD r []).length = n) (hs : w.Since w.heap.size w1) :
    ∃ b A G C, a = some ⟨b, 0, none⟩ ∧ (w.heap.size ≤ b ∧ b < w1.heap.size) ∧ SV w w1 b n A G C l B k 0 w1.heap.size := by
  obtain ⟨b, A, G, C, e, hb, hD⟩ := h.parts (by omega)
  rw [hn] at hD
  refine ⟨b, A, G, C, e, hb, hs, Nat.le_refl _, ⟨fun r hr => by rw [← hm r hr]; exact hD.top r hr, fun r hr h0 => hD.addr r hr (by rw [hm r hr]; exact h0), fun r hr h0 => hD.inside r hr (by rw [hm r hr]; exact h0), fun r hr i hi => ?_,
    fun r hr i hi => hD.free r hr i (by rw [hm r hr]; exact hi), fun r r' hr hr' h0 h0' e => hD.apart r r' hr hr' (by rw [hm r hr]; exact h0) (by rw [hm r' hr']; exact h0') e⟩⟩
  rw [hD.cell r hr i (by rw [hm r hr]; exact hi), if_neg (by omega)]
  rfl
theorem SV.store {w1 wr : World} {b n : Nat} {A : Nat → Option Addr} {G C : Nat → Nat} {l : List (List Int)} {B : List Int} {k i hi : Nat} (h : SV w1 wr b n A G C l B k i hi) (hi' : i < n) (hk : k < n) (q : Nat) :
    SV w1 ((wr.drewN q).setCell ⟨G i, k, none⟩ (.int .i64 (B.getD i 0))) b n A G C l B k (i + 1) hi := by
  have hin := h.own.inside i hi' (by omega)
  have ho : OwnD w1.heap.size hi (wr.drewN q) b A G C n (fun _ => n) (fun r c => if c = k ∧ r < i then B.getD r 0 else at2 l r c) := ⟨h.own.top, h.own.addr, h.own.inside, h.own.cell, h.own.free, h.own.apart⟩
  refine ⟨(since_drewN h.since q).setCell (by show w1.heap.size ≤ G i; omega) _, by simpa using h.size, (ho.store hi' hk _).congr fun r _ c _ => ?_⟩
  by_cases e : r = i ∧ c = k
  · rw [if_pos e, if_pos (by omega), e.1]
  · rw [if_neg e]
    by_cases h2 : c = k ∧ r < i
    · rw [if_pos h2, if_pos (by omega)]
    · rw [if_neg h2, if_neg (by omega)]
theorem SV.done {w1 wr : World} {b n : Nat} {A : Nat → Option Addr} {G C : Nat → Nat} {l : List (List Int)} {B : List Int} {k hi : Nat} (h : SV w1 wr b n A G C l B k n hi) (hb : w1.heap.size ≤ b ∧ b < hi) : MatR wr (some ⟨b, 0, none⟩) (slvT l B n k) :=
  (h.own.ownT hb (tabF_length _ _ _) (fun _ hr => tabF_len _ _ _ _ hr) (fun r hr c hc => by
    rw [tabF_at _ _ _ _ _ hr hc]
    unfold setC
    by_cases e : c = k
    · rw [if_pos e, if_pos ⟨e, hr⟩]
    · rw [if_neg e, if_neg (fun h => e h.1)])).matR

end Go.Proofs.Ytkfondipmhjhjaa

/- Chapter 9: the contracts of impl.ChainPairs and impl.ChainParts. -/
import Derived.Test.YtdbomnhlgaohaaaChainI
import Derived.ArgAppend
namespace Go.Proofs.Ytdbomnhlgaohaaa
open Go.RowKit Go.Deep

set_option maxHeartbeats 1000000 in
theorem chProduct_any (b o m cap : Nat) (f : Nat → Int) (w : World) (h7 : m ≤ 7) (hf : ∀ j, -9 ≤ f j ∧ f j ≤ 9) (hc : ∀ i, i < m → w.cell? ⟨b, o + i, none⟩ = some (.int .i64 (f i))) :
    Calls Try.prog 79 #[.slice (some ⟨b, o, none⟩) m cap] w fun e w' => e = .returned (.int .i64 (pdF f m)) ∧ w = w' := by
  have HF := Lib.hid hf
  have HC := Lib.hid hc
  clear hf hc
  go_enter Try.func79, Try.ntmps79
  go_wp2
  go_loopg [3, 5, 8] m (fun g p _ i wr => ∃ k : Nat, k ≤ m ∧ g = m - k ∧ i = .int .i64 k ∧ p = .int .i64 (pdF f k) ∧ w = wr)
  case atStart => exact ⟨0, Nat.zero_le _, rfl, rfl, rfl, rfl⟩
  case round =>
    obtain ⟨k, hk, rfl, rfl, rfl, rfl⟩ := hrel
    by_cases hlt : k < m
    · have cj := HC.out k hlt
      have b1 := pd_lt HF.out (n := k + 1) (by omega)
      have hs : pdF f (k + 1) = pdF f k * f k := rfl
      obtain ⟨y, hy⟩ : ∃ y, f k = y := ⟨_, rfl⟩
      obtain ⟨p, hp⟩ : ∃ p, pdF f k = p := ⟨_, rfl⟩
      obtain ⟨r, hr⟩ : ∃ r, pdF f (k + 1) = r := ⟨_, rfl⟩
      rw [hy] at cj hs
      rw [hp] at hs ⊢
      rw [hr] at b1 hs
      have hw1 : wrap64 (p * y) = r := by rw [← hs]; unfold wrap64; omega
      have HR := Lib.hid hr
      have HW := Lib.hid hw1
      clear hy hp hr hs
      go_wp2
      go_roundg (m - (k + 1))
      case measure => omega
      case rel => exact ⟨k + 1, by omega, rfl, by go_num, by rw [HR.out, ← HW.out], rfl⟩
    · have : k = m := by omega
      subst this
      go_wp2
      go_ret
      exact ⟨rfl, rfl⟩

theorem ints_at (f : Nat → Int) (n j : Nat) (u : Value) (h : ((List.range n).map fun i => Value.int .i64 (f i))[j]? = some u) : j < n ∧ u = .int .i64 (f j) := by
  obtain ⟨h1, h2⟩ := List.getElem?_eq_some_iff.1 h
  simp at h1 h2
  exact ⟨h1, h2.symm⟩

set_option maxRecDepth 100000 in
set_option maxHeartbeats 1000000 in
theorem withoutPair_any (b o m cap i : Nat) (f : Nat → Int) (w : World) (h2 : i + 2 ≤ m) (h7 : m ≤ 7) (hcap : m ≤ cap) (h63 : cap ≤ 9223372036854775807) (hc : ∀ i, i < m → w.cell? ⟨b, o + i, none⟩ = some (.int .i64 (f i))) :
    Calls Try.prog 80 #[.slice (some ⟨b, o, none⟩) m cap, .int .i64 i] w fun e w' => ∃ b' o' c', e = .returned (.slice (some ⟨b', o', none⟩) (m - 2) c') ∧ m - 2 ≤ c' ∧ c' ≤ 9223372036854775807 ∧ w.Since w.heap.size w' ∧ ∀ j, j < m - 2 → w'.cell? ⟨b', o' + j, none⟩ = some (.int .i64 (wpF f i j)) := by
  have EP1 := Lib.hid (chPart_any b o m cap 0 i 0 i w rfl rfl (by omega) (by omega) h63)
  have EP2 := Lib.hid (chPart_any b o m cap (i + 2) m ((i : Int) + 2) m w (by omega) rfl (by omega) (by omega) h63)
  obtain ⟨k, hk⟩ : ∃ k, m - (i + 2) = k := ⟨_, rfl⟩
  rw [hk] at EP2
  rw [Nat.sub_zero] at EP1
  obtain ⟨i3, hi3⟩ := info3_parts
  have HI := Lib.hid hi3
  have HM := Lib.hid (show m - 2 = i + k by omega)
  have HO := Lib.hid (show ∀ q, (q = o + 0 ∨ i = 0) → ∀ j u, ((List.range i).map fun j => Value.int .i64 (f j))[j]? = some u → w.cell? ⟨b, q + j, none⟩ = some u from fun q hq j u hj => by
    obtain ⟨h1, rfl⟩ := ints_at _ _ _ _ hj
    obtain rfl : q = o := by omega
    exact hc j (by omega))
  have HN := Lib.hid (show ∀ q, (q = o + (i + 2) ∨ k = 0) → ∀ j u, ((List.range k).map fun j => Value.int .i64 (f (j + i + 2)))[j]? = some u → w.cell? ((⟨b, q, none⟩ : Addr).add j) = some u from fun q hq j u hj => by
    obtain ⟨h1, rfl⟩ := ints_at (fun j => f (j + i + 2)) _ _ _ hj
    obtain rfl : q = o + (i + 2) := by omega
    rw [Go.WideShapes.add_plain]
    have := hc (j + i + 2) (by omega)
    rw [show o + (j + i + 2) = o + (i + 2) + j by omega] at this
    exact this)
  have HK := Lib.hid hk
  have hkb : i + k ≤ 7 := by omega
  have HC := Lib.hid hc
  clear hk hi3 hc
  go_enter Try.func80, Try.ntmps80
  go_wp2_with fail
  refine (EP1.out).mono ?_
  rintro e w' ⟨q1, rfl, hq1, rfl⟩
  have HQ1 := Lib.hid hq1
  clear hq1
  go_wp2_with fail
  refine (EP2.out).mono ?_
  rintro e w' ⟨q2, rfl, hq2, rfl⟩
  have HQ2 := Lib.hid hq2
  clear hq2
  by_cases hk0 : k = 0
  · subst hk0
    have HS := Lib.hid (World.Since.refl w.heap.size w)
    go_wp2_with (at_builtin; refine wpList_append_arg w rfl _ _ 45 rfl 3 i3 (.int .i64 0) 1 8 Try.underlying45 HI.out.1 HI.out.2.1 HI.out.2.2.1 HI.out.2.2.2 rfl (by decide) b q1 i i ((List.range i).map fun j => Value.int .i64 (f j)) rfl (by simp) (HO.out q1 HQ1.out) ⟨b, q2, none⟩ 0 0 [] rfl rfl (fun j u h => by simp at h) (fun u hu => by simp at hu) (fun _ j hj => by simp at hj) (by unfold maxLen; omega) (by omega) (fun _ => ?_) (fun h => absurd h (by omega)))
    go_ret
    refine ⟨b, q1, i, ?_, by rw [HM.out]; omega, by omega, HS.out, fun j hj => ?_⟩
    · rw [HM.out]; rfl
    · rw [HM.out] at hj
      have := HO.out q1 HQ1.out j (.int .i64 (f j)) (by simp [show j < i by omega])
      unfold wpF
      rw [if_pos (by omega)]
      exact this
  · go_wp2_with (at_builtin; refine wpList_append_arg w rfl _ _ 45 rfl 3 i3 (.int .i64 0) 1 8 Try.underlying45 HI.out.1 HI.out.2.1 HI.out.2.2.1 HI.out.2.2.2 rfl (by decide) b q1 i i ((List.range i).map fun j => Value.int .i64 (f j)) rfl (by simp) (HO.out q1 HQ1.out) ⟨b, q2, none⟩ k k ((List.range k).map fun j => Value.int .i64 (f (j + i + 2))) rfl (by simp) (HN.out q2 HQ2.out) (fun u hu => by obtain ⟨z, _, rfl⟩ := List.mem_map.1 hu; rfl) (fun h => absurd h (by omega)) (by unfold maxLen; omega) (by omega) (fun h => absurd h (by omega)) (fun _ v' w2 hown hg => ?_))
    rcases hown.2 with ⟨hv, hl0⟩ | ⟨G, cp, cur, rfl, hBG, hheap, hle, hmax, h5, h6⟩
    · exact absurd hl0 (by omega)
    · have HCE := Lib.hid (hown.cells (g := G) rfl)
      have HS := Lib.hid ((World.Since.refl w.heap.size w).grown hg (Nat.le_refl _) (fun _ e => by simp at e))
      clear hown hg hheap h5 h6
      go_wp2
      go_ret
      refine ⟨G, 0, cp, ?_, by rw [HM.out]; omega, by unfold maxLen at hmax; omega, HS.out, fun j hj => ?_⟩
      · rw [HM.out]; rfl
      · rw [HM.out] at hj
        have := HCE.out j (.int .i64 (wpF f i j)) (by
          by_cases hji : j < i
          · rw [List.getElem?_append_left (by simp; omega)]
            simp [hji, wpF]
          · rw [List.getElem?_append_right (by simp; omega)]
            simp [hji, wpF, show j - i < k by omega]
            exact congrArg f (by omega))
        rw [Go.WideShapes.add_plain] at this
        exact this

set_option maxRecDepth 100000 in
set_option maxHeartbeats 1000000 in
theorem sumOfPairs_any (m : Nat) : ∀ (b o cap p : Nat) (P : Int) (f : Nat → Int) (w : World), P = (p : Int) → m ≤ 7 → p ≤ m → m ≤ cap → cap ≤ 9223372036854775807 → (∀ j, -9 ≤ f j ∧ f j ≤ 9) → (∀ i, i < m → w.cell? ⟨b, o + i, none⟩ = some (.int .i64 (f i))) →
    Calls Try.prog 55 #[.slice (some ⟨b, o, none⟩) m cap, .int .i64 P] w fun e w' => e = .returned (.int .i64 (rsF f m p)) ∧ w.Since w.heap.size w' := by
  induction m using Nat.strongRecOn with
  | _ m ih =>
    intro b o cap p P f w hP h7 hpm hcap h63 hf hc
    subst hP
    have E1 := Lib.hid (chProduct_any b o m cap f w h7 hf hc)
    have HF := Lib.hid hf
    have EW := Lib.hid (fun (k : Nat) (W : World) (h2 : k + 2 ≤ m) (hs : w.Since w.heap.size W) => withoutPair_any b o m cap k f W h2 h7 hcap h63 (fun i hi => (hs.cell (World.block_lt_of_cell? _ _ (hc i hi))).trans (hc i hi)))
    have IH := Lib.hid ih
    obtain ⟨M, hM⟩ : ∃ M : Int, (m : Int) - 1 = M := ⟨_, rfl⟩
    have hw1 : wrap64 ((m : Int) - 1) = M := by rw [← hM]; unfold wrap64; omega
    have HM := Lib.hid hM
    have HS0 := Lib.hid (World.Since.refl w.heap.size w)
    obtain ⟨T, hT⟩ : ∃ T, rsF f m p + pdF f m = T := ⟨_, rfl⟩
    have hst : pdF f m = T - rsF f m p := by rw [← hT]; omega
    have hTb : -200000000000000 ≤ T ∧ T ≤ 200000000000000 := by
      have h1 := rs_lt hf h7 hpm
      have h2 := pd_lt hf h7
      omega
    have HST := Lib.hid hst
    have HT := Lib.hid hT
    clear ih hf hc hM hT hst
    go_enter Try.func55, Try.ntmps55
    go_wp2_with fail
    refine (E1.out).mono ?_
    rintro e w' ⟨rfl, rfl⟩
    go_wp2
    go_loopg [5, 6] (m - p) (fun g s i wr => ∃ k : Nat, p ≤ k ∧ (k = p ∨ k + 1 ≤ m) ∧ g = m - k ∧ i = .int .i64 k ∧ s = .int .i64 (T - rsF f m k) ∧ w.Since w.heap.size wr)
    case atStart => exact ⟨p, Nat.le_refl _, .inl rfl, rfl, rfl, by rw [HST.out], HS0.out⟩
    case round =>
      obtain ⟨k, hpk, hk, rfl, rfl, rfl, hS⟩ := hrel
      have HS := Lib.hid hS
      clear hS
      by_cases hlt : k + 2 ≤ m
      · have hb : decide ((k : Int) < M) = true := by have := HM.out; simp; omega
        have hstep := rs_step f (m - k - 2) k
        rw [show k + (m - k - 2) + 2 = m by omega, show k + (m - k - 2) = m - 2 by omega] at hstep
        have b1 := rs_lt HF.out h7 (p := k) (by omega)
        have b2 := rs_lt HF.out h7 (p := k + 1) (by omega)
        have b3 := rs_lt (f := wpF f k) (wpF_lt HF.out k) (m := m - 2) (p := k) (by omega) (by omega)
        obtain ⟨x, hx⟩ : ∃ x, rsF f m k = x := ⟨_, rfl⟩
        obtain ⟨y, hy⟩ : ∃ y, rsF f m (k + 1) = y := ⟨_, rfl⟩
        obtain ⟨z, hz⟩ : ∃ z, rsF (wpF f k) (m - 2) k = z := ⟨_, rfl⟩
        rw [hx] at hstep b1 ⊢
        rw [hy] at hstep b2
        rw [hz] at hstep b3
        obtain ⟨s, hs⟩ : ∃ s, T - x = s := ⟨_, rfl⟩
        rw [hs]
        have hw2 : wrap64 (s + z) = T - y := by rw [← hs, hstep]; unfold wrap64; omega
        have HW := Lib.hid hw2
        have HY := Lib.hid hy
        have HZ := Lib.hid hz
        clear hx hy hz hs hstep b1 b2 b3
        go_wp2_with fail
        refine (EW.out k wr hlt HS.out).mono ?_
        rintro e w2 ⟨b', o', c', rfl, hc1, hc2, hs2, hcell⟩
        have HS2 := Lib.hid (HS.out.trans (since_mono hs2 HS.out.size))
        have HC2 := Lib.hid hcell
        clear hs2 hcell
        go_wp2_with fail
        refine (IH.out (m - 2) (by omega) b' o' c' k k (wpF f k) w2 rfl (by omega) (by omega) hc1 hc2 (wpF_lt HF.out k) HC2.out).mono ?_
        rintro e w3 ⟨rfl, hs3⟩
        have HS3 := Lib.hid (HS2.out.trans (since_mono hs3 HS2.out.size))
        clear hs3
        rw [HZ.out]
        go_wp2
        go_roundg (m - (k + 1))
        case measure => omega
        case rel => exact ⟨k + 1, by omega, .inr (by omega), rfl, by go_num, by rw [HY.out, ← HW.out], HS3.out⟩
      · have hb : decide ((k : Int) < M) = false := by have := HM.out; simp; omega
        have he : T - rsF f m k = rsF f m p := by
          have hk2 : rsF f m k = pdF f m := by
            by_cases hkm : k = m
            · rw [hkm]; exact rs_end f m
            · obtain rfl : m = k + 1 := by omega
              exact rs_last f k
          rw [hk2, ← HT.out]
          omega
        rw [he]
        go_wp2
        go_ret
        exact ⟨rfl, HS.out⟩

set_option maxHeartbeats 1000000 in
theorem implChainPairs_any (a : Option Addr) (cap m : Nat) (x : List Int) (w : World) (hn : x.length = m) (h63 : m ≤ 9223372036854775807) (hm : RowR w a x) :
    Calls Try.prog 24 #[.slice a m cap] w fun e w' => e = .returned (.tuple #[.int .i64 (if l9B x = true then chV x else 0), .bool (l9B x)]) ∧ w.Since w.heap.size w' := by
  cases hok : l9B x with
  | false =>
    have E := Lib.hid (newChain_no a cap m x w hn h63 hm hok)
    clear hok hm hn
    go_enter Try.func24, Try.ntmps24
    go_wp2_with fail
    refine (E.out).mono ?_
    rintro e w' ⟨rfl, rfl⟩
    go_wp2
    go_ret2
    exact ⟨rfl, World.Since.refl _ _⟩
  | true =>
    have E := Lib.hid (newChain_ok a cap m x w hn hm hok)
    have h6 := (l9B_of hok).2
    rw [hn] at h6
    have HV := Lib.hid (show rsF (fun i => x.getD i 0) m 0 = chV x by rw [rs_all]; unfold chV; rw [hn])
    have H9 := Lib.hid (l9B_all9 hok)
    clear hok hm hn
    go_enter Try.func24, Try.ntmps24
    go_wp2_with fail
    refine (E.out).mono ?_
    rintro e w1 ⟨rfl, hs, hc⟩
    have HS := Lib.hid hs
    have HC := Lib.hid hc
    clear hs hc
    go_wp2_with fail
    refine (sumOfPairs_any m w.heap.size 0 m 0 0 (fun i => x.getD i 0) w1 rfl (by omega) (Nat.zero_le _) (Nat.le_refl _) (by omega) H9.out HC.out).mono ?_
    rintro e w' ⟨rfl, hs2⟩
    rw [HV.out]
    go_wp2
    go_ret2
    exact ⟨rfl, HS.out.trans (since_mono hs2 HS.out.size)⟩

/-- What valueWithout gives for the parts of ChainParts. -/
theorem without01 (b o m cap : Nat) (f : Nat → Int) (w : World) (h7 : m ≤ 7) (hcap : m ≤ cap) (h63 : cap ≤ 9223372036854775807) (hf : ∀ j, -9 ≤ f j ∧ f j ≤ 9) (hc : ∀ i, i < m → w.cell? ⟨b, o + i, none⟩ = some (.int .i64 (f i))) :
    Calls Try.prog 57 #[.slice (some ⟨b, o, none⟩) m cap, .int .i64 0, .int .i64 1] w fun e w' => e = .returned (.int .i64 (kP f m)) ∧ w = w' := by
  cases m with
  | zero => exact without_no b o 0 cap 0 1 0 1 w rfl rfl (by omega) (by omega)
  | succ n =>
    refine without_ok b o (n + 1) cap 0 1 0 1 (kf f n) w rfl rfl (by omega) hcap h63 (fun q hq => ?_)
    have := chValue_any n b q n f w (by omega) (Nat.le_refl _) (by omega) hf (fun i hi => by
      obtain rfl : q = o := by omega
      exact hc i (by omega))
    rw [show n + 1 - 1 - 0 = n by omega]
    exact this
theorem without10 (b o m cap : Nat) (f : Nat → Int) (w : World) (h7 : m ≤ 7) (hcap : m ≤ cap) (h63 : cap ≤ 9223372036854775807) (hf : ∀ j, -9 ≤ f j ∧ f j ≤ 9) (hc : ∀ i, i < m → w.cell? ⟨b, o + i, none⟩ = some (.int .i64 (f i))) :
    Calls Try.prog 57 #[.slice (some ⟨b, o, none⟩) m cap, .int .i64 1, .int .i64 0] w fun e w' => e = .returned (.int .i64 (kT f m)) ∧ w = w' := by
  cases m with
  | zero => exact without_no b o 0 cap 1 0 1 0 w rfl rfl (by omega) (by omega)
  | succ n =>
    refine without_ok b o (n + 1) cap 1 0 1 0 (kT f (n + 1)) w rfl rfl (by omega) hcap h63 (fun q hq => ?_)
    have := chValue_any n b q n (fun i => f (i + 1)) w (by omega) (Nat.le_refl _) (by omega) (fun j => hf (j + 1)) (fun i hi => by
      obtain rfl : q = o + 1 := by omega
      have := hc (i + 1) (by omega)
      rw [show o + (i + 1) = o + 1 + i by omega] at this
      exact this)
    rw [show n + 1 - 0 - 1 = n by omega]
    exact this
theorem without11 (b o m cap : Nat) (f : Nat → Int) (w : World) (h7 : m ≤ 7) (hcap : m ≤ cap) (h63 : cap ≤ 9223372036854775807) (hf : ∀ j, -9 ≤ f j ∧ f j ≤ 9) (hc : ∀ i, i < m → w.cell? ⟨b, o + i, none⟩ = some (.int .i64 (f i))) :
    Calls Try.prog 57 #[.slice (some ⟨b, o, none⟩) m cap, .int .i64 1, .int .i64 1] w fun e w' => e = .returned (.int .i64 (kD f m)) ∧ w = w' := by
  by_cases h2 : 2 ≤ m
  · obtain ⟨n, rfl⟩ : ∃ n, m = n + 2 := ⟨m - 2, by omega⟩
    refine without_ok b o (n + 2) cap 1 1 1 1 (kD f (n + 2)) w rfl rfl (by omega) hcap h63 (fun q hq => ?_)
    have := chValue_any n b q n (fun i => f (i + 1)) w (by omega) (Nat.le_refl _) (by omega) (fun j => hf (j + 1)) (fun i hi => by
      obtain rfl : q = o + 1 := by omega
      have := hc (i + 1) (by omega)
      rw [show o + (i + 1) = o + 1 + i by omega] at this
      exact this)
    rw [show n + 2 - 1 - 1 = n by omega]
    exact this
  · have h0 : kD f m = 0 := by
      rcases Nat.lt_or_ge m 1 with h | h
      · obtain rfl : m = 0 := by omega
        rfl
      · obtain rfl : m = 1 := by omega
        rfl
    rw [h0]
    exact without_no b o m cap 1 1 1 1 w rfl rfl (by omega) (by omega)

theorem own4 {lo : Nat} (w : World) (p q r s : Int) (h : lo ≤ w.heap.size) : OwnR lo (w.alloc (.cells #[.int .i64 p, .int .i64 q, .int .i64 r, .int .i64 s] 3)).heap.size (w.alloc (.cells #[.int .i64 p, .int .i64 q, .int .i64 r, .int .i64 s] 3)) (some ⟨w.heap.size, 0, none⟩) [p, q, r, s] := fun _ => ⟨w.heap.size, rfl, ⟨h, by simp⟩, fun i hi => by
  have hb := World.alloc_heap_new w (.cells #[.int .i64 p, .int .i64 q, .int .i64 r, .int .i64 s] 3)
  refine ⟨?_, by unfold World.frozen?; rw [hb]; rfl⟩
  unfold World.cell?
  simp only [List.length_cons, List.length_nil] at hi
  rw [hb]
  match i, hi with
  | 0, _ => rfl
  | 1, _ => rfl
  | 2, _ => rfl
  | 3, _ => rfl
  | i + 4, h => omega⟩

set_option maxRecDepth 100000 in
set_option maxHeartbeats 1000000 in
theorem implChainParts_any (a : Option Addr) (cap m : Nat) (x : List Int) (w : World) (hn : x.length = m) (h63 : m ≤ 9223372036854775807) (hm : RowR w a x) :
    Calls Try.prog 27 #[.slice a m cap] w fun e w' => ∃ a' cap', e = .returned (.tuple #[.slice a' (resR (l9B x) (paL (fun i => x.getD i 0) m)).length cap', .bool (l9B x)]) ∧ w.Since w.heap.size w' ∧ OwnR w.heap.size w'.heap.size w' a' (resR (l9B x) (paL (fun i => x.getD i 0) m)) := by
  cases hok : l9B x with
  | false =>
    have E := Lib.hid (newChain_no a cap m x w hn h63 hm hok)
    clear hok hm hn
    go_enter Try.func27, Try.ntmps27
    go_wp2_with fail
    refine (E.out).mono ?_
    rintro e w' ⟨rfl, rfl⟩
    go_wp2
    go_ret2
    exact ⟨_, _, rfl, World.Since.refl _ _, OwnR.nil _ _ _ _⟩
  | true =>
    have E := Lib.hid (newChain_ok a cap m x w hn hm hok)
    have h6 := (l9B_of hok).2
    rw [hn] at h6
    have h9 := l9B_all9 hok
    obtain ⟨f, hf⟩ : ∃ f : Nat → Int, f = fun i => x.getD i 0 := ⟨_, rfl⟩
    have h9' : ∀ j, -9 ≤ f j ∧ f j ≤ 9 := fun j => by rw [hf]; exact h9 j
    rw [← hf]
    have H9 := Lib.hid h9'
    have HX := Lib.hid (show ∀ i, x.getD i 0 = f i from fun i => by rw [hf])
    rw [show resR true (paL f m) = [kf f m, kP f m, kT f m, kD f m] from rfl]
    have EE := Lib.hid (fun (W : World) (hc : ∀ i, i < m → W.cell? ⟨w.heap.size, 0 + i, none⟩ = some (.int .i64 (f i))) => And.intro (chValue_any m w.heap.size 0 m f W (by omega) (Nat.le_refl _) (by omega) h9' hc) (And.intro (without01 w.heap.size 0 m m f W (by omega) (Nat.le_refl _) (by omega) h9' hc) (And.intro (without10 w.heap.size 0 m m f W (by omega) (Nat.le_refl _) (by omega) h9' hc) (without11 w.heap.size 0 m m f W (by omega) (Nat.le_refl _) (by omega) h9' hc))))
    obtain ⟨v0, hv0⟩ : ∃ v, kf f m = v := ⟨_, rfl⟩
    obtain ⟨v1, hv1⟩ : ∃ v, kP f m = v := ⟨_, rfl⟩
    obtain ⟨v2, hv2⟩ : ∃ v, kT f m = v := ⟨_, rfl⟩
    obtain ⟨v3, hv3⟩ : ∃ v, kD f m = v := ⟨_, rfl⟩
    rw [hv0, hv1, hv2, hv3] at EE
    rw [hv0, hv1, hv2, hv3]
    clear hok hm hn h9 h9' hf hv0 hv1 hv2 hv3
    go_enter Try.func27, Try.ntmps27
    go_wp2_with fail
    refine (E.out).mono ?_
    rintro e w1 ⟨rfl, hs, hc⟩
    have HS := Lib.hid hs
    have HE := Lib.hid (EE.out w1 fun i hi => by rw [← HX.out i]; exact hc i hi)
    clear hs hc
    go_wp2_with fail
    refine (HE.out.1).mono ?_
    rintro e w' ⟨rfl, rfl⟩
    go_wp2_with fail
    refine (HE.out.2.1).mono ?_
    rintro e w' ⟨rfl, rfl⟩
    go_wp2_with fail
    refine (HE.out.2.2.1).mono ?_
    rintro e w' ⟨rfl, rfl⟩
    go_wp2_with fail
    refine (HE.out.2.2.2).mono ?_
    rintro e w' ⟨rfl, rfl⟩
    go_wp2
    go_ret2
    exact ⟨_, _, rfl, HS.out.alloc HS.out.size _, own4 w1 v0 v1 v2 v3 HS.out.size⟩

end Go.Proofs.Ytdbomnhlgaohaaa

/- Chapter 9: the contracts of impl.newChain, of chains' parts, and of their values. -/
import Derived.Test.YtdbomnhlgaohaaaChainG
import Derived.Test.YtdbomnhlgaohaaaChainR
import Derived.Test.YtdbomnhlgaohaaaChainS
import Derived.Laws.CopyOwn
namespace Go.Proofs.Ytdbomnhlgaohaaa
open Go.RowKit Go.Deep

theorem l9B_split (x : List Int) : l9B x = (rngB x (-9) 9 && decide ((x.length : Int) ≤ 6)) := rfl

set_option maxHeartbeats 1000000 in
theorem newChain_no (a : Option Addr) (cap m : Nat) (x : List Int) (w : World) (hn : x.length = m) (h63 : m ≤ 9223372036854775807) (hm : RowR w a x) (hok : l9B x = false) :
    Calls Try.prog 47 #[.slice a m cap] w fun e w' => e = .returned (.tuple #[.slice none 0 0, .bool false]) ∧ w = w' := by
  by_cases h6 : 6 < m
  · have hb : decide ((6 : Int) < (m : Int)) = true := by simp; omega
    clear hm hn hok
    go_enter Try.func47, Try.ntmps47
    go_wp2
    go_ret2
    exact ⟨rfl, rfl⟩
  · have hr : rngB x (-9) 9 = false := by
      rw [l9B_split, hn, show decide ((m : Int) ≤ 6) = true by simp; omega, Bool.and_true] at hok
      exact hok
    have E := allInRange_any a cap m x (-9) 9 w hn h63 hm
    rw [hr] at E
    replace E := Lib.hid E
    have hb : decide ((6 : Int) < (m : Int)) = false := by simp; omega
    clear hm hn hok hr
    go_enter Try.func47, Try.ntmps47
    go_wp2_with fail
    refine (E.out).mono ?_
    rintro e w' ⟨rfl, rfl⟩
    go_wp2
    go_ret2
    exact ⟨rfl, rfl⟩

theorem copy_all {P : Program} (w : World) (dT sT e : TypeId) (hu : P.underlying dT = some (.slice e)) (hsz : (P.info? e).map (·.size) = some 1) (g m cap : Nat) (a : Option Addr) (C : Array Value) (t : TypeId) (hg : w.heap[g]? = some (.cells C t (0, 0))) (hC : C.size = m)
    (cs : List Value) (hcl : cs.length = m) (hsrc : 0 < m → ∃ ad, a = some ad ∧ ∀ j v, cs[j]? = some v → w.cell? (ad.add j) = some v) (h1 : ∀ v ∈ cs, v.oneCell' = true) :
    ∃ w2, (∀ ty, (Builtin.copy_ #[dT, sT] ty #[.slice (some ⟨g, 0, none⟩) m m, .slice a m cap]).run P w = .ok (.int .i64 m) w2) ∧ w2.heap[g]? = some (.cells cs.toArray t (0, 0)) ∧ Below g w w2 := by
  by_cases h0 : m = 0
  · subst h0
    obtain rfl : cs = [] := List.eq_nil_of_length_eq_zero hcl
    refine ⟨w, fun ty => run_copy_none (P := P) w dT sT ty e (some ⟨g, 0, none⟩) a 0 0 0 cap hu hsz (by simp), ?_, Below.refl _ _⟩
    rw [hg, Array.eq_empty_of_size_eq_zero hC]
  · obtain ⟨ad, rfl, hs⟩ := hsrc (by omega)
    refine ⟨_, fun ty => ?_, setRow_heap w g C cs.toArray t (0, 0) hg, below_setRow (Below.refl g w) (Nat.le_refl _) _⟩
    have := run_copy_row (P := P) w dT sT ty e g 0 m m ad m cap C t cs hu hsz hg (by rw [hcl]; simp) hs (by omega) h1
    rw [this, hcl]
    have e : (C.toList.take 0 ++ cs ++ C.toList.drop (0 + m)) = cs := by
      rw [List.take_zero, List.nil_append, List.drop_eq_nil_of_le (by rw [Array.length_toList]; omega), List.append_nil]
    rw [e]
    rfl

set_option maxRecDepth 100000 in
set_option maxHeartbeats 2000000 in
theorem newChain_ok (a : Option Addr) (cap m : Nat) (x : List Int) (w : World) (hn : x.length = m) (hm : RowR w a x) (hok : l9B x = true) :
    Calls Try.prog 47 #[.slice a m cap] w fun e w' => e = .returned (.tuple #[.slice (some ⟨w.heap.size, 0, none⟩) m m, .bool true]) ∧ w.Since w.heap.size w' ∧ ∀ i, i < m → w'.cell? ⟨w.heap.size, 0 + i, none⟩ = some (.int .i64 (x.getD i 0)) := by
  have h6 := (l9B_of hok).2
  rw [hn] at h6
  have hr : rngB x (-9) 9 = true := by
    rw [l9B_split, Bool.and_eq_true] at hok
    exact hok.1
  have E := allInRange_any a cap m x (-9) 9 w hn (by omega) hm
  rw [hr] at E
  replace E := Lib.hid E
  have hb : decide ((6 : Int) < (m : Int)) = false := by simp; omega
  have hmk := run_make_row' (P := Try.prog) 45 3 (.int .i64 0) 8 Try.underlying45 Try.info3 rfl .i64 .i64 m (by omega) (by omega)
  obtain ⟨i3, hi3⟩ := info3_parts
  have hsz3 : (Try.prog.info? 3).map (·.size) = some 1 := by rw [hi3.1]; exact congrArg some hi3.2.2.1
  obtain ⟨C, hC⟩ : ∃ C, madeCells #[Value.int .i64 0] m = C := ⟨_, rfl⟩
  have hCs : C.size = m := by rw [← hC]; exact made_size m
  rw [hC] at hmk
  obtain ⟨cs, hcs⟩ : ∃ cs, x.map (Value.int .i64) = cs := ⟨_, rfl⟩
  have hcl : cs.length = m := by rw [← hcs, List.length_map, hn]
  obtain ⟨w2, hcopy, hheap, hbel⟩ := copy_all (P := Try.prog) (w.alloc (.cells C 3)) 45 23 3 Try.underlying45 hsz3 w.heap.size m cap a C 3 (World.alloc_heap_new w _) hCs cs hcl (fun h0 => by
    obtain ⟨b, o, rfl, hc⟩ := hm (by omega)
    refine ⟨⟨b, o, none⟩, rfl, fun j v hj => ?_⟩
    obtain ⟨hjl, he⟩ := List.getElem?_eq_some_iff.1 hj
    have hjx : j < x.length := by omega
    have c := hc j hjx
    rw [Go.WideShapes.add_plain]
    rw [cell_alloc_l _ c, ← he]
    subst hcs
    simp [List.getD, hjx]) (fun v hv => by
    rw [← hcs] at hv
    obtain ⟨z, _, rfl⟩ := List.mem_map.1 hv
    rfl)
  have HFIN := Lib.hid (show ∀ i, i < m → w2.cell? ⟨w.heap.size, 0 + i, none⟩ = some (.int .i64 (x.getD i 0)) from fun i hi => by
    unfold World.cell?
    rw [hheap, ← hcs]
    simp [List.getD, show i < x.length by omega])
  have HS := Lib.hid (((World.Since.refl w.heap.size w).alloc (Nat.le_refl _) (.cells C 3)).trans (below_since hbel))
  clear hm hn hok hr hC hCs hcs hcl hi3 hheap hbel hsz3
  go_enter Try.func47, Try.ntmps47
  go_wp2_with fail
  refine (E.out).mono ?_
  rintro e w' ⟨rfl, rfl⟩
  go_wp2
  go_ret2
  exact ⟨rfl, HS.out, HFIN.out⟩

set_option maxHeartbeats 1000000 in
theorem chPart_any (b o m cap i j : Nat) (I J : Int) (w : World) (hI : I = (i : Int)) (hJ : J = (j : Int)) (h1 : i ≤ j) (h2 : j ≤ cap) (_ : cap ≤ 9223372036854775807) :
    Calls Try.prog 81 #[.slice (some ⟨b, o, none⟩) m cap, .int .i64 I, .int .i64 J] w fun e w' => ∃ q, e = .returned (.slice (some ⟨b, q, none⟩) (j - i) (j - i)) ∧ (q = o + i ∨ j - i = 0) ∧ w = w' := by
  subst hI
  subst hJ
  go_enter Try.func81, Try.ntmps81
  go_wp2
  · go_ret
    exact ⟨⟨_, rfl⟩, rfl⟩
  · go_ret
    exact ⟨_, rfl, .inl rfl, rfl⟩

theorem wrap_sub {m j d : Nat} (h : m - j = d) (hj : j ≤ m) (h63 : m ≤ 9223372036854775807) : wrap64 ((m : Int) - (j : Int)) = (d : Int) := by
  subst h
  unfold wrap64
  omega
theorem wrap_addn {i j s : Nat} (h : i + j = s) (h63 : s ≤ 9223372036854775807) : wrap64 ((i : Int) + (j : Int)) = (s : Int) := by
  subst h
  unfold wrap64
  omega

set_option maxHeartbeats 1000000 in
theorem without_ok (b o m cap i j : Nat) (I J v : Int) (w : World) (hI : I = (i : Int)) (hJ : J = (j : Int)) (h : i + j ≤ m) (hc : m ≤ cap) (h63 : cap ≤ 9223372036854775807)
    (hV : ∀ q, (q = o + i ∨ m - j - i = 0) → Calls Try.prog 48 #[.slice (some ⟨b, q, none⟩) (m - j - i) (m - j - i)] w fun e w' => e = .returned (.int .i64 v) ∧ w = w') :
    Calls Try.prog 57 #[.slice (some ⟨b, o, none⟩) m cap, .int .i64 I, .int .i64 J] w fun e w' => e = .returned (.int .i64 v) ∧ w = w' := by
  have hs := wrap_addn (i := i) (j := j) rfl (by omega)
  have hd := wrap_sub (m := m) (j := j) rfl (by omega) (by omega)
  rw [← hI, ← hJ] at hs
  rw [← hJ] at hd
  have EP := Lib.hid (chPart_any b o m cap i (m - j) I ((m - j : Nat) : Int) w hI rfl (by omega) (by omega) h63)
  have EV := Lib.hid hV
  have hb : decide ((m : Int) < ((i + j : Nat) : Int)) = false := by simp; omega
  obtain ⟨s, hs'⟩ : ∃ s : Int, ((i + j : Nat) : Int) = s := ⟨_, rfl⟩
  obtain ⟨d, hd'⟩ : ∃ d : Int, ((m - j : Nat) : Int) = d := ⟨_, rfl⟩
  rw [hs'] at hs hb
  rw [hd'] at hd EP
  clear hV hI hJ hs' hd'
  go_enter Try.func57, Try.ntmps57
  go_wp2_with fail
  refine (EP.out).mono ?_
  rintro e w' ⟨q, rfl, hq, rfl⟩
  go_wp2_with fail
  refine (EV.out q hq).mono ?_
  rintro e w' ⟨rfl, rfl⟩
  go_wp2
  go_ret
  exact ⟨rfl, rfl⟩

set_option maxHeartbeats 1000000 in
theorem without_no (b o m cap i j : Nat) (I J : Int) (w : World) (hI : I = (i : Int)) (hJ : J = (j : Int)) (h : m < i + j) (h63 : i + j ≤ 9223372036854775807) :
    Calls Try.prog 57 #[.slice (some ⟨b, o, none⟩) m cap, .int .i64 I, .int .i64 J] w fun e w' => e = .returned (.int .i64 0) ∧ w = w' := by
  have hs := wrap_addn (i := i) (j := j) rfl (by omega)
  rw [← hI, ← hJ] at hs
  have hb : decide ((m : Int) < ((i + j : Nat) : Int)) = true := by simp; omega
  obtain ⟨s, hs'⟩ : ∃ s : Int, ((i + j : Nat) : Int) = s := ⟨_, rfl⟩
  rw [hs'] at hs hb
  clear hI hJ hs'
  go_enter Try.func57, Try.ntmps57
  go_wp2
  go_ret
  exact ⟨rfl, rfl⟩

set_option maxRecDepth 100000 in
set_option maxHeartbeats 1000000 in
theorem chValue_any (m : Nat) : ∀ (b o cap : Nat) (f : Nat → Int) (w : World), m ≤ 7 → m ≤ cap → cap ≤ 9223372036854775807 → (∀ j, -9 ≤ f j ∧ f j ≤ 9) → (∀ i, i < m → w.cell? ⟨b, o + i, none⟩ = some (.int .i64 (f i))) →
    Calls Try.prog 48 #[.slice (some ⟨b, o, none⟩) m cap] w fun e w' => e = .returned (.int .i64 (kf f m)) ∧ w = w' := by
  induction m using Nat.strongRecOn with
  | _ m ih =>
    intro b o cap f w h7 hcap h63 hf hc
    by_cases h0 : m = 0
    · subst h0
      clear hc hf ih
      go_enter Try.func48, Try.ntmps48
      go_wp2
      go_ret
      exact ⟨rfl, rfl⟩
    · obtain ⟨n, hn⟩ : ∃ n, m = n + 1 := ⟨m - 1, by omega⟩
      have E1 := without_ok b o m cap 0 1 0 1 (kf f n) w rfl rfl (by omega) hcap h63 (fun q hq => by
        have := ih n (by omega) b q n f w (by omega) (Nat.le_refl _) (by omega) hf (fun i hi => by
          obtain rfl : q = o := by omega
          exact hc i (by omega))
        rw [show m - 1 - 0 = n by omega]
        exact this)
      have E2 : Calls Try.prog 57 #[.slice (some ⟨b, o, none⟩) m cap, .int .i64 0, .int .i64 2] w fun e w' => e = .returned (.int .i64 (kQ f m)) ∧ w = w' := by
        by_cases h2 : 2 ≤ m
        · obtain ⟨k, rfl⟩ : ∃ k, m = k + 2 := ⟨m - 2, by omega⟩
          refine without_ok b o (k + 2) cap 0 2 0 2 (kf f k) w rfl rfl (by omega) hcap h63 (fun q hq => ?_)
          have := ih k (by omega) b q k f w (by omega) (Nat.le_refl _) (by omega) hf (fun i hi => by
            obtain rfl : q = o := by omega
            exact hc i (by omega))
          rw [show k + 2 - 2 - 0 = k by omega]
          exact this
        · obtain rfl : m = 1 := by omega
          exact without_no b o 1 cap 0 2 0 2 w rfl rfl (by omega) (by omega)
      have c0 := hc n (by omega)
      rw [show n = m - 1 by omega] at c0
      have hy9 := hf n
      have b1 := kf_lt hf (n := n) (by omega)
      have b3 := kf_lt hf (n := m) h7
      have hk : kf f m = f n * kf f n + kQ f m := by rw [hn]; exact kf_kQ f n
      have hm0 : ((m : Int) == 0) = false := by simp; omega
      have hlt : m - 1 < m := by omega
      have hl1 : (1 : Int) ≤ (m : Int) := by omega
      obtain ⟨y, hy⟩ : ∃ y, f n = y := ⟨_, rfl⟩
      obtain ⟨p, hp⟩ : ∃ p, kf f n = p := ⟨_, rfl⟩
      obtain ⟨q, hq⟩ : ∃ q, kQ f m = q := ⟨_, rfl⟩
      obtain ⟨r, hr⟩ : ∃ r, kf f m = r := ⟨_, rfl⟩
      rw [show m - 1 = n by omega, hy, show n = m - 1 by omega] at c0
      rw [hy] at hy9 hk
      rw [hp] at b1 hk E1
      rw [hq] at hk E2
      rw [hr] at b3 hk ⊢
      have hm9 := mul9 (b := p) hy9 (c := 10000000) b1
      obtain ⟨z, hz⟩ : ∃ z, y * p = z := ⟨_, rfl⟩
      rw [hz] at hm9 hk
      have hw1 : wrap64 (y * p) = z := by rw [hz]; unfold wrap64; omega
      have hw2 : wrap64 (z + q) = r := by rw [← hk]; unfold wrap64; omega
      have HW2 := Lib.hid hw2
      replace E1 := Lib.hid E1
      replace E2 := Lib.hid E2
      clear ih hf hc hn hy hp hq hr hz hk
      go_enter Try.func48, Try.ntmps48
      go_wp2_with fail
      refine (E1.out).mono ?_
      rintro e w' ⟨rfl, rfl⟩
      go_wp2_with fail
      refine (E2.out).mono ?_
      rintro e w' ⟨rfl, rfl⟩
      go_wp2
      go_ret
      exact ⟨ret_int HW2.out, rfl⟩

set_option maxHeartbeats 1000000 in
theorem implChainValue_any (a : Option Addr) (cap m : Nat) (x : List Int) (w : World) (hn : x.length = m) (h63 : m ≤ 9223372036854775807) (hm : RowR w a x) :
    Calls Try.prog 16 #[.slice a m cap] w fun e w' => e = .returned (.tuple #[.int .i64 (if l9B x = true then chV x else 0), .bool (l9B x)]) ∧ w.Since w.heap.size w' := by
  cases hok : l9B x with
  | false =>
    have E := Lib.hid (newChain_no a cap m x w hn h63 hm hok)
    clear hok hm hn
    go_enter Try.func16, Try.ntmps16
    go_wp2_with fail
    refine (E.out).mono ?_
    rintro e w' ⟨rfl, rfl⟩
    go_wp2
    go_ret2
    exact ⟨rfl, World.Since.refl _ _⟩
  | true =>
    have E := Lib.hid (newChain_ok a cap m x w hn hm hok)
    have h6 := (l9B_of hok).2
    rw [hn] at h6
    have HV := Lib.hid (show kf (fun i => x.getD i 0) m = chV x by unfold chV; rw [hn])
    have H9 := Lib.hid (l9B_all9 hok)
    clear hok hm hn
    go_enter Try.func16, Try.ntmps16
    go_wp2_with fail
    refine (E.out).mono ?_
    rintro e w1 ⟨rfl, hs, hc⟩
    have HS := Lib.hid hs
    have HC := Lib.hid hc
    clear hs hc
    go_wp2_with fail
    refine (chValue_any m w.heap.size 0 m (fun i => x.getD i 0) w1 (by omega) (Nat.le_refl _) (by omega) H9.out HC.out).mono ?_
    rintro e w' ⟨rfl, rfl⟩
    rw [HV.out]
    go_wp2
    go_ret2
    exact ⟨rfl, HS.out⟩

end Go.Proofs.Ytdbomnhlgaohaaa

/- Chapter 8: squares whose rows are told by stretches of a list. -/
import Derived.Test.YtjlcbkbekogblaaKnownS
import Derived.Laws.EntriesVeiled
namespace Go.Proofs.Ytjlcbkbekogblaa
open Go.RowKit Go.Deep

set_option maxHeartbeats 1000000 in
theorem numberAt_any (b o n cap k : Nat) (v : Int) (W : World) (hk : k < n) (hx : W.cell? ⟨b, o + k, none⟩ = some (.int .i64 v)) :
    Calls Try.prog 87 #[.slice (some ⟨b, o, none⟩) n cap, .int .i64 k] W fun e w' => e = .returned (.int .i64 v) ∧ Drawn W w' := by
  have hkk : (k : Int) < (n : Int) := by omega
  go_enter Try.func87, Try.ntmps87
  go_wp2
  go_ret
  exact ⟨rfl, Drawn.refl _⟩

set_option maxRecDepth 100000 in
set_option maxHeartbeats 2000000 in
theorem toldEntryS_any (K : Nat) (caps : Array Value) (B b o n cap i k : Nat) (x : Value) (v : Int) (W : World)
    (hb : W.heap[B]? = some (.cells #[.slice (some ⟨b, o, none⟩) n cap, .func (.func K) #[] caps] 59)) (hi : i < n) (hx : W.cell? ⟨b, o + i, none⟩ = some x)
    (eg : ∀ args w, (callFunc K args).run Try.prog w = .ok (.enter K args) w)
    (hE : ∀ W', Drawn W W' → Calls Try.prog K (#[x, .int .i64 k] ++ caps) W' fun e w' => e = .returned (.int .i64 v) ∧ Drawn W' w') (hx1 : ∃ a n c, x = .slice a n c) :
    Calls Try.prog 93 #[.int .i64 i, .int .i64 k, .pointer (some ⟨B, 0, none⟩)] W fun e w' => e = .returned (.int .i64 v) ∧ Drawn W w' := by
  obtain ⟨xa, xn, xc, rfl⟩ := hx1
  obtain ⟨c0, c1⟩ := told_cells hb
  have hii : (i : Int) < (n : Int) := by omega
  have HE := Lib.hid hE
  clear hE hb
  go_enter Try.func93, Try.ntmps93
  go_wp2
  go_quiet ((refine Calls.quiet_of (HE.out _ ?_); exact Drawn.mk _ _))
  go_wp2
  go_ret
  exact ⟨rfl, Drawn.mk _ _⟩

set_option maxRecDepth 100000 in
set_option maxHeartbeats 2000000 in
theorem toldTableS_any (K : Nat) (caps : Array Value) (b o n cap : Nat) (x : Nat → Value) (f : Nat → Nat → Int) (w : World) (hn : n ≤ 1000)
    (hx : ∀ i, i < n → w.cell? ⟨b, o + i, none⟩ = some (x i)) (hx1 : ∀ i, i < n → ∃ a n c, x i = .slice a n c)
    (eg : ∀ args w, (callFunc K args).run Try.prog w = .ok (.enter K args) w)
    (hE : ∀ (W : World) (i k : Nat), w.Since w.heap.size W → i < n → k < n → Calls Try.prog K (#[x i, .int .i64 k] ++ caps) W fun e w' => e = .returned (.int .i64 (f i k)) ∧ Drawn W w') :
    Calls Try.prog 88 #[.agg #[.slice (some ⟨b, o, none⟩) n cap, .func (.func K) #[] caps]] w fun e w' => ∃ G, e = .returned (.slice (some ⟨G, 0, none⟩) n n) ∧ w.Since w.heap.size w' ∧ OwnT w.heap.size w'.heap.size w' (some ⟨G, 0, none⟩) (tabF n n f) := by
  obtain ⟨w1, hw1⟩ : ∃ w1, w.alloc (.cells #[.slice (some ⟨b, o, none⟩) n cap, .func (.func K) #[] caps] 59) = w1 := ⟨_, rfl⟩
  have hb1 : w1.heap[w.heap.size]? = some (.cells #[.slice (some ⟨b, o, none⟩) n cap, .func (.func K) #[] caps] 59) := by rw [← hw1]; exact World.alloc_heap_new w _
  have hs1 : w.Since w.heap.size w1 := by rw [← hw1]; exact (World.Since.refl _ _).alloc (Nat.le_refl _) _
  have hz1 : w1.heap.size = w.heap.size + 1 := by rw [← hw1]; simp
  have E := newTable_any 93 #[.pointer (some ⟨w.heap.size, 0, none⟩)] n n f w1 hn hn (enters_of Try.func93 (by kernel_rfl) rfl)
    (fun W i k hs hi hk => (toldEntryS_any K caps w.heap.size b o n cap i k (x i) (f i k) W ((hs.block _ (by omega)).trans hb1) hi (((hs1.trans (since_mono hs hs1.size)).cell (a := ⟨b, o + i, none⟩) (World.block_lt_of_cell? _ _ (hx i hi))).trans (hx i hi)) eg
      (fun W' hd => hE W' i k ((hs1.trans (since_mono hs hs1.size)).trans (hd.since _)) hi hk) (hx1 i hi)).mono fun _ _ h => ⟨h.1, h.2.since _⟩)
  replace E := Lib.hid E
  have c0 := (told_cells hb1).1
  clear hE hx hx1
  go_enter Try.func88, Try.ntmps88
  go_wp2_with fail
  refine (E.out).mono ?_
  rintro e w' ⟨rfl, hs, ho⟩
  go_wp2
  go_ret
  rw [hz1] at ho
  exact ⟨_, rfl, hs1.trans (since_mono hs hs1.size), ho.mono (by omega) (Nat.le_refl _)⟩

set_option maxRecDepth 100000 in
set_option maxHeartbeats 2000000 in
theorem toldResultS_any (K : Nat) (caps : Array Value) (b o n cap : Nat) (x : Nat → Value) (f : Nat → Nat → Int) (w : World) (hn : n ≤ 1000)
    (hx : ∀ i, i < n → w.cell? ⟨b, o + i, none⟩ = some (x i)) (hx1 : ∀ i, i < n → ∃ a n c, x i = .slice a n c)
    (eg : ∀ args w, (callFunc K args).run Try.prog w = .ok (.enter K args) w)
    (hE : ∀ (W : World) (i k : Nat), w.Since w.heap.size W → i < n → k < n → Calls Try.prog K (#[x i, .int .i64 k] ++ caps) W fun e w' => e = .returned (.int .i64 (f i k)) ∧ Drawn W w') :
    Calls Try.prog 75 #[.agg #[.slice (some ⟨b, o, none⟩) n cap, .func (.func K) #[] caps]] w (ImplT w (tabIn (tabF n n f)) (tabF n n f)) := by
  obtain ⟨w1, hw1⟩ : ∃ w1, w.alloc (.cells #[.slice (some ⟨b, o, none⟩) n cap, .func (.func K) #[] caps] 59) = w1 := ⟨_, rfl⟩
  have hs1 : w.Since w.heap.size w1 := by rw [← hw1]; exact (World.Since.refl _ _).alloc (Nat.le_refl _) _
  have hz1 : w1.heap.size = w.heap.size + 1 := by rw [← hw1]; simp
  have hb1 : w1.heap[w.heap.size]? = some (.cells #[.slice (some ⟨b, o, none⟩) n cap, .func (.func K) #[] caps] 59) := by rw [← hw1]; exact World.alloc_heap_new w _
  obtain ⟨c0, c1⟩ := told_cells hb1
  have E := Lib.hid (toldTableS_any K caps b o n cap x f w1 hn (fun i hi => (hs1.cell (a := ⟨b, o + i, none⟩) (World.block_lt_of_cell? _ _ (hx i hi))).trans (hx i hi)) hx1 eg
    (fun W i k hs hi hk => hE W i k (hs1.trans (since_mono hs hs1.size)) hi hk))
  have HT := Lib.hid (tabF_length n n f)
  have HSZ := Lib.hid (szL_tabF n n f hn hn)
  obtain ⟨T, hT⟩ : ∃ T, tabF n n f = T := ⟨_, rfl⟩
  rw [hT] at E HT HSZ ⊢
  clear hE hx hT hb1 hx1
  go_enter Try.func75, Try.ntmps75
  go_wp2_with fail
  refine (E.out).mono ?_
  rintro e w2 ⟨G, rfl, hs2, ho2⟩
  have hs12 := hs1.trans (since_mono hs2 hs1.size)
  have HS := Lib.hid hs12
  have HO := Lib.hid ho2
  clear hs2 ho2 hs12 E
  go_wp2_with fail
  refine (result_any _ _ _ _ _ T w2 HT.out HSZ.out HO.out).mono ?_
  rintro e w3 ⟨a, cap', rfl, hs3, ho3⟩
  go_wp2
  go_ret2
  exact ⟨a, cap', rfl, HS.out.trans (since_mono hs3 HS.out.size), ho3.mono (by omega) hs3.size⟩

/-- The stretches being written. -/
structure SL (w wr : World) (n c : Nat) (x : Nat → Value) : Prop where
  since : w.Since w.heap.size wr
  row : wr.rowIs (w.heap.size + 1) 31 n (fun k => if k < c then x k else .slice none 0 0)
  res : ∃ u v, wr.heap[w.heap.size]? = some (.cells #[u, v] 59)

set_option maxRecDepth 100000 in
set_option maxHeartbeats 4000000 in
theorem toldByStretches_any (b o L cap n first : Nat) (step : Int) (low : Nat → Nat) (w : World) (hn : n ≤ 6) (hL : L ≤ 20) (hcap : L ≤ cap ∧ cap ≤ 9223372036854775807) (hf : first ≤ 6)
    (hlow : ∀ i, i < n → (first : Int) + (i : Int) * step = (low i : Int) ∧ low i + n ≤ L) :
    Calls Try.prog 74 #[.slice (some ⟨b, o, none⟩) L cap, .int .i64 n, .int .i64 first, .int .i64 step] w fun e w' => ∃ B, e = .returned (.agg #[.slice (some ⟨B, 0, none⟩) n n, .func (.func 87) #[] #[]]) ∧ w.Since w.heap.size w' ∧ ∀ i, i < n → w'.cell? ⟨B, 0 + i, none⟩ = some (.slice (some ⟨b, o + low i, none⟩) n (cap - low i)) := by
  have hmk := run_make_row' (P := Try.prog) 22 31 (.slice none 0 0) 24 Try.underlying22 Try.info31 rfl .i64 .i64 n (by omega) (by omega)
  have HLOW := Lib.hid hlow
  clear hlow
  go_enter Try.func74, Try.ntmps74
  go_wp2
  obtain ⟨x, hx⟩ : ∃ x : Nat → Value, x = fun i => .slice (some ⟨b, o + low i, none⟩) n (cap - low i) := ⟨_, rfl⟩
  have HX := Lib.hid (fun i => congrFun hx i)
  clear hx
  have hst : SL w ((w.alloc (.cells #[.slice none 0 0, Value.nilFunc] 59)).alloc (.cells (madeCells #[.slice none 0 0] n) 31)) n 0 x := by
    have r := World.rowIs_made (w.alloc (.cells #[.slice none 0 0, Value.nilFunc] 59)) (.slice none 0 0) n 31
    simp only [World.size_alloc] at r
    exact ⟨((World.Since.refl _ w).alloc (Nat.le_refl _) _).alloc (by simp) _, r.congr (fun k _ => by simp), ⟨_, _, (Below.heap_alloc _ _ _ (by simp)).trans (World.alloc_heap_new w _)⟩⟩
  have HST := Lib.hid hst
  clear hst hmk
  go_loopg [10, 15] n (fun g _ i wr => ∃ c : Nat, c ≤ n ∧ g = n - c ∧ i = .int .i64 c ∧ SL w wr n c x)
  case atStart => exact ⟨0, Nat.zero_le _, rfl, rfl, HST.out⟩
  case round =>
    obtain ⟨c, hc, rfl, rfl, hR⟩ := hrel
    clear HST
    by_cases hlt : c < n
    · have hc1 := hR.row.cell (i := c) hlt
      have hf1 := hR.row.frozen c
      simp only [Nat.lt_irrefl, if_false] at hc1
      have hP : SL w (wr.setCell ⟨w.heap.size + 1, c, none⟩ (x c)) n (c + 1) x := by
        obtain ⟨u, v, hr⟩ := hR.res
        refine ⟨hR.since.setCell (by show w.heap.size ≤ w.heap.size + 1; omega) _, (hR.row.set c _).congr (fun k _ => ?_), ⟨u, v, ?_⟩⟩
        · by_cases e : k = c
          · subst e; simp
          · rw [if_neg e]
            by_cases h : k < c
            · rw [if_pos h, if_pos (by omega)]
            · rw [if_neg h, if_neg (by omega)]
        · rw [Below.heap_setCell _ _ _ _ (by show w.heap.size ≠ w.heap.size + 1; omega)]; exact hr
      rw [HX.out c] at hP
      have HP := Lib.hid hP
      obtain ⟨hl1, hl2⟩ := HLOW.out c hlt
      obtain ⟨d, hd⟩ : ∃ d, (c : Int) * step = d := ⟨_, rfl⟩
      rw [hd] at hl1
      have hdd : -6 ≤ d ∧ d ≤ 20 := by omega
      have hmul : wrap64 ((c : Int) * step) = d := by rw [hd]; unfold wrap64; omega
      obtain ⟨lo, hlo⟩ : ∃ lo, low c = lo := ⟨_, rfl⟩
      rw [hlo] at hl1 hl2 HP
      have hcc1 : (n : Int) ≤ (cap : Int) - (lo : Int) := by omega
      clear hR hP hd hlo
      go_wp2
      go_roundg (n - (c + 1))
      case measure => omega
      case rel => exact ⟨c + 1, by omega, rfl, by go_num, HP.out⟩
    · have hcc : c = n := by omega
      subst hcc
      obtain ⟨u, v, hr⟩ := hR.res
      obtain ⟨c0, c1⟩ := told_cells hr
      have f0 : wr.frozen? ⟨w.heap.size, 0, none⟩ = false := by simp [World.frozen?, hr]
      have f1 : wr.frozen? ⟨w.heap.size, 1, none⟩ = false := by simp [World.frozen?, hr]
      obtain ⟨S, hS⟩ : ∃ S : Value, S = .slice (some ⟨w.heap.size + 1, 0, none⟩) c c := ⟨_, rfl⟩
      obtain ⟨F, hF⟩ : ∃ F : Value, F = .func (.func 87) #[] #[] := ⟨_, rfl⟩
      have d0 : (wr.setCell ⟨w.heap.size, 0, none⟩ S).cell? ⟨w.heap.size, 0, none⟩ = some S := World.cell?_setCell_same' _ _ _ (by rw [c0]; rfl)
      have d1 : (wr.setCell ⟨w.heap.size, 0, none⟩ S).cell? ⟨w.heap.size, 1, none⟩ = some v := by rw [World.cell?_setCell_other _ _ _ _ (fun e => by injection e with _ e2; omega)]; exact c1
      have g1 : (wr.setCell ⟨w.heap.size, 0, none⟩ S).frozen? ⟨w.heap.size, 1, none⟩ = false := by rw [World.frozen?_setCell]; exact f1
      have e0 : ((wr.setCell ⟨w.heap.size, 0, none⟩ S).setCell ⟨w.heap.size, 1, none⟩ F).cell? ⟨w.heap.size, 0, none⟩ = some S := by rw [World.cell?_setCell_other _ _ _ _ (fun e => by injection e with _ e2; omega)]; exact d0
      have e1 : ((wr.setCell ⟨w.heap.size, 0, none⟩ S).setCell ⟨w.heap.size, 1, none⟩ F).cell? ⟨w.heap.size, 1, none⟩ = some F := World.cell?_setCell_same' _ _ _ (by rw [d1]; rfl)
      have hs2 : w.Since w.heap.size ((wr.setCell ⟨w.heap.size, 0, none⟩ S).setCell ⟨w.heap.size, 1, none⟩ F) := (hR.since.setCell (Nat.le_refl _) _).setCell (Nat.le_refl _) _
      have hrow2 : ((wr.setCell ⟨w.heap.size, 0, none⟩ S).setCell ⟨w.heap.size, 1, none⟩ F).rowIs (w.heap.size + 1) 31 c (fun k => if k < c then x k else .slice none 0 0) := (hR.row.setOther (by show w.heap.size + 1 ≠ w.heap.size; omega) _).setOther (by show w.heap.size + 1 ≠ w.heap.size; omega) _
      have HS2 := Lib.hid hs2
      have HROW := Lib.hid hrow2
      rw [hS] at d0 d1 g1 e0 e1 HS2 HROW
      rw [hF] at e0 e1 HS2 HROW
      clear hS hF hs2 hrow2 hR hr
      go_wp2
      refine bodyPost_ret (v := .agg #[.slice (some ⟨w.heap.size + 1, 0, none⟩) c c, .func (.func 87) #[] #[]]) ?_ rfl ⟨w.heap.size + 1, rfl, HS2.out, fun i hi => ?_⟩
      · simp [results, Try.f74, go_sem, e0, e1]
      · have := HROW.out.cell (i := i) hi
        rw [if_pos hi, HX.out i] at this
        rw [Nat.zero_add]
        exact this

def suL (n : Nat) (x : List Int) : List (List Int) := tabF n n fun i k => x.getD (i + k) 0
def suB (n : Int) (L : Nat) : Bool := inB n 1 6 && decide ((L : Int) = 2 * n - 1)
theorem suB_of {n : Int} {L : Nat} (h : suB n L = true) : 1 ≤ n ∧ n ≤ 6 ∧ (L : Int) = 2 * n - 1 := by
  simp only [suB, Bool.and_eq_true, inB, decide_eq_true_eq] at h
  exact ⟨h.1.1, h.1.2, h.2⟩

set_option maxRecDepth 100000 in
set_option maxHeartbeats 2000000 in
theorem implKnownSums_any (n : Int) (a : Option Addr) (L cap : Nat) (x : List Int) (w : World) (hn : x.length = L) (h63 : cap ≤ 9223372036854775807) (hc : L ≤ cap) (hm : RowR w a x) :
    Calls Try.prog 42 #[.int .i64 n, .slice a L cap] w (ImplT w (suB n L && tabIn (suL n.toNat x)) (suL n.toNat x)) := by
  have E1 := isSide_any n w
  have hsp : suB n L = (inB n 1 6 && decide ((L : Int) = 2 * n - 1)) := rfl
  cases h1 : inB n 1 6 with
  | false =>
    rw [h1, Bool.false_and] at hsp
    rw [hsp, Bool.false_and]
    rw [h1] at E1
    replace E1 := Lib.hid E1
    clear hm hn h1 hsp
    go_enter Try.func42, Try.ntmps42
    go_wp2_with fail
    refine (E1.out).mono ?_
    rintro e w' ⟨rfl, rfl⟩
    go_wp2
    go_ret2
    exact ⟨_, _, rfl, World.Since.refl _ _, OwnT.nil _ _ _ _⟩
  | true =>
    rw [h1] at E1
    replace E1 := Lib.hid E1
    have h16 := of_decide_eq_true h1
    obtain ⟨m, rfl⟩ := Int.eq_ofNat_of_zero_le (show 0 ≤ n by omega)
    rw [Int.toNat_natCast]
    by_cases h2 : (L : Int) = 2 * (m : Int) - 1
    · rw [h1, decide_eq_true h2] at hsp
      rw [hsp, Bool.and_self, Bool.true_and]
      have hne : ((L : Int) != 2 * (m : Int) - 1) = false := by simp [h2]
      obtain ⟨b, o, rfl, hcx⟩ := hm (by omega)
      have E2 := Lib.hid (toldByStretches_any b o L cap m 0 1 (fun i => i) w (by omega) (by omega) ⟨hc, h63⟩ (by omega) (fun i hi => ⟨by simp, by omega⟩))
      have E3 := Lib.hid (fun (W : World) (hs : w.Since w.heap.size W) (B : Nat) (hc : ∀ i, i < m → W.cell? ⟨B, 0 + i, none⟩ = some (.slice (some ⟨b, o + i, none⟩) m (cap - i))) => toldResultS_any 87 #[] B 0 m m (fun i => .slice (some ⟨b, o + i, none⟩) m (cap - i)) (fun i k => x.getD (i + k) 0) W (by omega) hc (fun i _ => ⟨_, _, _, rfl⟩) (enters_of Try.func87 (by kernel_rfl) rfl)
        (fun V i k hv hi hk => numberAt_any b (o + i) m (cap - i) k (x.getD (i + k) 0) V hk (by
          have c := hcx (i + k) (by omega)
          rw [show o + i + k = o + (i + k) by omega]
          exact ((hs.trans (since_mono hv hs.size)).cell (a := ⟨b, o + (i + k), none⟩) (World.block_lt_of_cell? _ _ c)).trans c)))
      have hLL : tabF m m (fun i k => x.getD (i + k) 0) = suL m x := rfl
      simp only [hLL] at E3
      obtain ⟨T, hT⟩ : ∃ T, suL m x = T := ⟨_, rfl⟩
      simp only [hT] at E3
      rw [hT]
      have hL0 : (L : Int) = 2 * (m : Int) - 1 := h2
      clear hLL hT hcx hn h1 hsp h2
      go_enter Try.func42, Try.ntmps42
      go_wp2_with fail
      refine (E1.out).mono ?_
      rintro e w' ⟨rfl, rfl⟩
      go_wp2_with fail
      refine (E2.out).mono ?_
      rintro e w1 ⟨B, rfl, hs1, hc1⟩
      have HS1 := Lib.hid hs1
      have HC1 := Lib.hid hc1
      clear hs1 hc1
      go_wp2_with fail
      refine (E3.out _ HS1.out B HC1.out).mono ?_
      rintro e w3 ⟨a', c', rfl, hs3, ho3⟩
      go_wp2
      go_ret2
      exact ⟨a', c', rfl, HS1.out.trans (since_mono hs3 HS1.out.size), ho3.mono HS1.out.size (Nat.le_refl _)⟩
    · rw [h1, decide_eq_false h2] at hsp
      rw [hsp]
      have hne : ((L : Int) != 2 * (m : Int) - 1) = true := by simp [h2]
      clear hm hn h1 hsp
      go_enter Try.func42, Try.ntmps42
      go_wp2_with fail
      refine (E1.out).mono ?_
      rintro e w' ⟨rfl, rfl⟩
      go_wp2
      go_ret2
      exact ⟨_, _, rfl, World.Since.refl _ _, OwnT.nil _ _ _ _⟩

end Go.Proofs.Ytjlcbkbekogblaa

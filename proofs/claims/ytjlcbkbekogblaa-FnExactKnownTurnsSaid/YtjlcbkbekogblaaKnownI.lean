/- Chapter 8: squares whose rows are told by numbers: impl.toldSquare of numbers, and the squares made so. -/
import Derived.Test.YtjlcbkbekogblaaKnownY
import Derived.Test.YtjlcbkbekogblaaUnitImpl
import Derived.BigQuiet
namespace Go.Proofs.Ytjlcbkbekogblaa
open Go.RowKit Go.Deep

theorem told_cells {W : World} {b : Nat} {s g : Value} {t : TypeId} (h : W.heap[b]? = some (.cells #[s, g] t)) : W.cell? ⟨b, 0, none⟩ = some s ∧ W.cell? ⟨b, 1, none⟩ = some g := by
  simp [World.cell?, h]

set_option maxRecDepth 100000 in
set_option maxHeartbeats 2000000 in
theorem toldEntry_any (K : Nat) (caps : Array Value) (B b o n cap i k : Nat) (x v : Int) (W : World)
    (hb : W.heap[B]? = some (.cells #[.slice (some ⟨b, o, none⟩) n cap, .func (.func K) #[] caps] 53)) (hi : i < n) (hx : W.cell? ⟨b, o + i, none⟩ = some (.int .i64 x))
    (eg : ∀ args w, (callFunc K args).run Try.prog w = .ok (.enter K args) w)
    (hE : ∀ W', Drawn W W' → Calls Try.prog K (#[.int .i64 x, .int .i64 k] ++ caps) W' fun e w' => e = .returned (.int .i64 v) ∧ Drawn W' w') :
    Calls Try.prog 92 #[.int .i64 i, .int .i64 k, .pointer (some ⟨B, 0, none⟩)] W fun e w' => e = .returned (.int .i64 v) ∧ Drawn W w' := by
  obtain ⟨c0, c1⟩ := told_cells hb
  have hii : (i : Int) < (n : Int) := by omega
  have HE := Lib.hid hE
  clear hE hb
  go_enter Try.func92, Try.ntmps92
  go_wp2
  go_quiet ((refine Calls.quiet_of (HE.out _ ?_); exact Drawn.mk _ _))
  go_wp2
  go_ret
  exact ⟨rfl, Drawn.mk _ _⟩

set_option maxRecDepth 100000 in
set_option maxHeartbeats 2000000 in
theorem toldTable_any (K : Nat) (caps : Array Value) (b o n cap : Nat) (x : Nat → Int) (f : Nat → Nat → Int) (w : World) (hn : n ≤ 1000)
    (hx : ∀ i, i < n → w.cell? ⟨b, o + i, none⟩ = some (.int .i64 (x i)))
    (eg : ∀ args w, (callFunc K args).run Try.prog w = .ok (.enter K args) w)
    (hE : ∀ (W : World) (i k : Nat), w.Since w.heap.size W → i < n → k < n → Calls Try.prog K (#[.int .i64 (x i), .int .i64 k] ++ caps) W fun e w' => e = .returned (.int .i64 (f i k)) ∧ Drawn W w') :
    Calls Try.prog 84 #[.agg #[.slice (some ⟨b, o, none⟩) n cap, .func (.func K) #[] caps]] w fun e w' => ∃ G, e = .returned (.slice (some ⟨G, 0, none⟩) n n) ∧ w.Since w.heap.size w' ∧ OwnT w.heap.size w'.heap.size w' (some ⟨G, 0, none⟩) (tabF n n f) := by
  obtain ⟨w1, hw1⟩ : ∃ w1, w.alloc (.cells #[.slice (some ⟨b, o, none⟩) n cap, .func (.func K) #[] caps] 53) = w1 := ⟨_, rfl⟩
  have hb1 : w1.heap[w.heap.size]? = some (.cells #[.slice (some ⟨b, o, none⟩) n cap, .func (.func K) #[] caps] 53) := by rw [← hw1]; exact World.alloc_heap_new w _
  have hs1 : w.Since w.heap.size w1 := by rw [← hw1]; exact (World.Since.refl _ _).alloc (Nat.le_refl _) _
  have hz1 : w1.heap.size = w.heap.size + 1 := by rw [← hw1]; simp
  have E := newTable_any 92 #[.pointer (some ⟨w.heap.size, 0, none⟩)] n n f w1 hn hn (enters_of Try.func92 (by kernel_rfl) rfl)
    (fun W i k hs hi hk => (toldEntry_any K caps w.heap.size b o n cap i k (x i) (f i k) W ((hs.block _ (by omega)).trans hb1) hi (((hs1.trans (since_mono hs hs1.size)).cell (a := ⟨b, o + i, none⟩) (World.block_lt_of_cell? _ _ (hx i hi))).trans (hx i hi)) eg
      (fun W' hd => hE W' i k ((hs1.trans (since_mono hs hs1.size)).trans (hd.since _)) hi hk)).mono fun _ _ h => ⟨h.1, h.2.since _⟩)
  replace E := Lib.hid E
  have c0 := (told_cells hb1).1
  clear hE hx
  go_enter Try.func84, Try.ntmps84
  go_wp2_with fail
  refine (E.out).mono ?_
  rintro e w' ⟨rfl, hs, ho⟩
  go_wp2
  go_ret
  rw [hz1] at ho
  exact ⟨_, rfl, hs1.trans (since_mono hs hs1.size), ho.mono (by omega) (Nat.le_refl _)⟩

set_option maxRecDepth 100000 in
set_option maxHeartbeats 2000000 in
theorem toldResult_any (K : Nat) (caps : Array Value) (b o n cap : Nat) (x : Nat → Int) (f : Nat → Nat → Int) (w : World) (hn : n ≤ 1000)
    (hx : ∀ i, i < n → w.cell? ⟨b, o + i, none⟩ = some (.int .i64 (x i)))
    (eg : ∀ args w, (callFunc K args).run Try.prog w = .ok (.enter K args) w)
    (hE : ∀ (W : World) (i k : Nat), w.Since w.heap.size W → i < n → k < n → Calls Try.prog K (#[.int .i64 (x i), .int .i64 k] ++ caps) W fun e w' => e = .returned (.int .i64 (f i k)) ∧ Drawn W w') :
    Calls Try.prog 63 #[.agg #[.slice (some ⟨b, o, none⟩) n cap, .func (.func K) #[] caps]] w (ImplT w (tabIn (tabF n n f)) (tabF n n f)) := by
  obtain ⟨w1, hw1⟩ : ∃ w1, w.alloc (.cells #[.slice (some ⟨b, o, none⟩) n cap, .func (.func K) #[] caps] 53) = w1 := ⟨_, rfl⟩
  have hs1 : w.Since w.heap.size w1 := by rw [← hw1]; exact (World.Since.refl _ _).alloc (Nat.le_refl _) _
  have hz1 : w1.heap.size = w.heap.size + 1 := by rw [← hw1]; simp
  have hb1 : w1.heap[w.heap.size]? = some (.cells #[.slice (some ⟨b, o, none⟩) n cap, .func (.func K) #[] caps] 53) := by rw [← hw1]; exact World.alloc_heap_new w _
  obtain ⟨c0, c1⟩ := told_cells hb1
  have E := Lib.hid (toldTable_any K caps b o n cap x f w1 hn (fun i hi => (hs1.cell (a := ⟨b, o + i, none⟩) (World.block_lt_of_cell? _ _ (hx i hi))).trans (hx i hi)) eg
    (fun W i k hs hi hk => hE W i k (hs1.trans (since_mono hs hs1.size)) hi hk))
  have HT := Lib.hid (tabF_length n n f)
  have HSZ := Lib.hid (szL_tabF n n f hn hn)
  obtain ⟨T, hT⟩ : ∃ T, tabF n n f = T := ⟨_, rfl⟩
  rw [hT] at E HT HSZ ⊢
  clear hE hx hT hb1
  go_enter Try.func63, Try.ntmps63
  go_wp2_with fail
  refine (E.out).mono ?_
  rintro e w2 ⟨G, rfl, hs2, ho2⟩
  have hs12 := hs1.trans (since_mono hs2 hs1.size)
  have HS := Lib.hid hs12
  have HO := Lib.hid ho2
  clear hs2 ho2 hs12 E
  go_wp2_with fail
  refine (result_any _ _ _ _ _ T w2 HT.out HSZ.out HO.out).mono ?_
  rintro e w3 ⟨a, cap', rfl, hs3, ho3⟩
  go_wp2
  go_ret2
  exact ⟨a, cap', rfl, HS.out.trans (since_mono hs3 HS.out.size), ho3.mono (by omega) hs3.size⟩

end Go.Proofs.Ytjlcbkbekogblaa

/- Coordinates in an array, and those that are told. -/
import Derived.Test.YtbedkjpbdkgjpaaColl
import Derived.Test.YtbedkjpbdkgjpaaPlaceR
namespace Go.Proofs.Ytbedkjpbdkgjpaa
open Go.RowKit Go.Deep

/-- The first r coordinates, at their sets. -/
def crdTo (k n : Nat) (p : List Int) (r : Nat) (s : Nat) : Int := if s ∈ (setsTo k (2 ^ n)).take r then atP p s else 0
def crd (k n : Nat) (p : List Int) (s : Nat) : Int := if s < 2 ^ n ∧ popcS s = k then atP p s else 0
theorem crdTo_zero (k n : Nat) (p : List Int) : crdTo k n p 0 = fun _ => 0 := by funext s; simp [crdTo]
theorem crdTo_all (k n : Nat) (p : List Int) {r : Nat} (h : (setsTo k (2 ^ n)).length = r) : crdTo k n p r = crd k n p := by
  funext s
  unfold crdTo crd
  rw [List.take_of_length_le (by omega)]
  simp only [setsTo_mem k]
theorem crdTo_succ {k n r s : Nat} {p : List Int} (h : (setsTo k (2 ^ n))[r]? = some s) : crdTo k n p (r + 1) = fun j => if j = s then p.getD r 0 else crdTo k n p r j := by
  obtain ⟨h1, h2, _⟩ := setsTo_idx k _ h
  funext j
  unfold crdTo
  rw [List.take_add_one, h]
  by_cases e : j = s
  · subst e
    rw [if_pos (by simp), if_pos rfl]
    unfold atP
    rw [h2, h1]
  · rw [if_neg e]
    simp [e]

set_option maxRecDepth 100000 in
set_option maxHeartbeats 2000000 in
theorem spread_any (k n : Nat) (hn : n ≤ 5) (a : Option Addr) (cap m : Nat) (p : List Int) (w : World) (hp : p.length = m) (hm : (setsTo k (2 ^ n)).length = m) (hr : RowR w a p) :
    Calls Try.prog 71 #[.int .i64 k, .int .i64 n, .slice a m cap] w fun e w' => e = .returned (.agg (arr (crd k n p))) ∧ w.Since w.heap.size w' := by
  have HP := Lib.hid hp
  have HM := Lib.hid hm
  have HR := Lib.hid (fun (W : World) (hd : w.Since w.heap.size W) => hr.since hd)
  have hle : m ≤ 32 := by have := setsTo_len k (2 ^ n); have := pow_le5 hn; omega
  obtain ⟨W1, hW1⟩ : ∃ W1, w.alloc (.cells (arr fun _ => 0) 48) = W1 := ⟨_, rfl⟩
  have b6 : ArrAt W1 w.heap.size (fun _ => 0) := by rw [← hW1]; exact ArrAt.new _ _
  have s1 : w.Since w.heap.size W1 := by rw [← hW1]; exact (World.Since.refl _ _).alloc (Nat.le_refl _) _
  have z1 : W1.heap.size = w.heap.size + 1 := by rw [← hW1]; simp
  obtain ⟨W2, hW2⟩ : ∃ W2, W1.alloc (.cells (arr fun _ => 0) 48) = W2 := ⟨_, rfl⟩
  have b7 : ArrAt W2 (w.heap.size + 1) (fun _ => 0) := by rw [← hW2, ← z1]; exact ArrAt.new _ _
  replace b6 : ArrAt W2 w.heap.size (fun _ => 0) := by rw [← hW2]; exact b6.alloc _
  have s2 : w.Since w.heap.size W2 := by rw [← hW2]; exact s1.alloc (by omega) _
  have z2 : W2.heap.size = w.heap.size + 2 := by rw [← hW2]; simp [z1]
  obtain ⟨W3, hW3⟩ : ∃ W3, (W2.alloc (.cells #[.int .i64 n] 3)).alloc (.cells #[.int .i64 k] 3) = W3 := ⟨_, rfl⟩
  have bN : W3.cell? ⟨W2.heap.size, 0, none⟩ = some (.int .i64 n) := by rw [← hW3]; exact cell_alloc_l _ (Boxed.new W2 3 _).cell
  have bK : W3.cell? ⟨W2.heap.size + 1, 0, none⟩ = some (.int .i64 k) := by rw [← hW3]; have := (Boxed.new (W2.alloc (.cells #[.int .i64 n] 3)) 3 (.int .i64 k)).cell; rwa [World.size_alloc] at this
  have s3 : w.Since w.heap.size W3 := by rw [← hW3]; exact (s2.alloc (by omega) _).alloc (by simp; omega) _
  have z3 : W3.heap.size = w.heap.size + 4 := by rw [← hW3]; simp [z2]
  replace b6 : ArrAt W3 w.heap.size (fun _ => 0) := by rw [← hW3]; exact (b6.alloc _).alloc _
  replace b7 : ArrAt W3 (w.heap.size + 1) (fun _ => 0) := by rw [← hW3]; exact (b7.alloc _).alloc _
  rw [z2] at bN bK
  have EC := Lib.hid (collectSets_any (w.heap.size + 2) (w.heap.size + 2 + 1) n k W3 (by omega) (by omega) (by omega) bN bK)
  clear bN bK hp hm hr
  have hl : (setsI k (2 ^ n)).length = m := by rw [setsI_length, HM.out]
  have hsi : ∀ r, r < m → ∃ s : Nat, s < 32 ∧ (setsI k (2 ^ n)).getD r 0 = (s : Int) ∧ crdTo k n p (r + 1) = fun j => if j = s then p.getD r 0 else crdTo k n p r j := fun r hr => by
    have hr' : r < (setsTo k (2 ^ n)).length := by rw [HM.out]; exact hr
    have e : (setsTo k (2 ^ n))[r]? = some (setsTo k (2 ^ n))[r] := List.getElem?_eq_getElem hr'
    refine ⟨_, ?_, ?_, crdTo_succ e⟩
    · have := (setsTo_idx k _ e).2.2; have := pow_le5 hn; omega
    · unfold setsI; rw [List.getD_eq_getElem?_getD, List.getElem?_map, e]; rfl
  have HSI := Lib.hid hsi
  have hc0 := crdTo_zero k n p
  have HC1 := Lib.hid (crdTo_all k n p HM.out)
  obtain ⟨SI, hSI⟩ : ∃ SI, setsI k (2 ^ n) = SI := ⟨_, rfl⟩
  rw [hSI] at EC hl HSI
  have HL := Lib.hid hl
  have B6 := Lib.hid b6
  have B7 := Lib.hid b7
  have S3 := Lib.hid s3
  have HC0 := Lib.hid hc0
  clear hsi hc0 hl hSI b6 b7 s1 s2 s3 z1
  go_enter Try.func71, Try.ntmps71
  go_wp2_with (first
    | (go_at_call 70; rw [zero_lit, hW1, hW2]; refine (sets_any _ _ _).mono ?_; rintro e w' ⟨rfl, rfl⟩; rw [hW3]; clear hW1 hW2 hW3)
    | (go_at_call 69; refine (EC.out).mono ?_; rintro e w4 ⟨v, rfl, hR4⟩; obtain ⟨a4, c4, rfl, hR5⟩ := hR4.slice; rw [HL.out]; have HR4 := Lib.hid hR4.since; have HR5 := Lib.hid hR5; clear hR4 hR5))
  go_loopg [15] m (fun g i wr => ∃ r : Nat, r ≤ m ∧ g = m - r ∧ i = .int .i64 r ∧ ArrAt wr w.heap.size (fun _ => 0) ∧ ArrAt wr (w.heap.size + 1) (crdTo k n p r) ∧ w.Since w.heap.size wr ∧ ∀ j, j < m → ∃ G, a4 = some ⟨G, 0, none⟩ ∧ w.heap.size + 4 ≤ G ∧ wr.cell? ⟨G, j, none⟩ = some (.int .i64 (SI.getD j 0)))
  case atStart =>
    have h4 := HR4.out
    have hz4 := h4.size
    refine ⟨0, Nat.zero_le _, rfl, rfl, B6.out.since h4, ?_, S3.out.trans (since_mono h4 S3.out.size), fun j hj => ?_⟩
    · rw [HC0.out]; exact B7.out.since h4
    · obtain ⟨G, e, h1, h2⟩ := HR5.out (by rw [HL.out]; omega)
      exact ⟨G, e, by omega, h2.cell (by rw [HL.out]; exact hj)⟩
  case round =>
    obtain ⟨r, hr, rfl, rfl, h6, h7, hS, hG⟩ := hrel
    by_cases hlt : r < m
    · obtain ⟨G, rfl, hG4, hcG⟩ := hG r hlt
      obtain ⟨s, hs, hs1, hs2⟩ := HSI.out r hlt
      rw [hs1] at hcG
      obtain ⟨b, o, rfl, hc⟩ := HR.out wr hS (by rw [HP.out]; omega)
      have hcr := hc r (by rw [HP.out]; exact hlt)
      obtain ⟨y, hy⟩ : ∃ y, p.getD r 0 = y := ⟨_, rfl⟩
      rw [hy] at hcr hs2
      have hcs := h7.cell hs
      have hfs := h7.frozen s
      have HS := Lib.hid hS
      have H6 := Lib.hid h6
      have H7 := Lib.hid h7
      have HGG := Lib.hid hG
      have HS2 := Lib.hid hs2
      clear hS h6 h7 hG hs1 hs2 hc hy EC
      go_wp2
      go_roundg (m - (r + 1))
      case measure => omega
      case rel =>
        refine ⟨r + 1, by omega, rfl, by go_num, H6.out.setOther (by omega) _, by rw [HS2.out]; exact H7.out.set hs _, HS.out.setCell (by simp) _, fun j hj => ?_⟩
        obtain ⟨G', e, h1, h2⟩ := HGG.out j hj
        exact ⟨G', e, h1, by rw [World.cell?_setCell_other _ _ _ _ (by intro e; injection e; omega)]; exact h2⟩
    · obtain rfl : r = m := by omega
      rw [HC1.out] at h7
      have HS := Lib.hid hS
      have H6 := Lib.hid h6
      have H7 := Lib.hid h7
      clear hG hS h6 h7 EC
      go_wp2_with (first
        | (with_reducible (show wpList _ _ _ (Oper.mk _ (Op.load _ _) 48 _ _ _ :: _) _ _); refine wpList_load_arr rfl _ rfl _ rfl _ H7.out ?_)
        | (with_reducible (show wpList _ _ _ (Oper.mk _ (Op.store 48 _ _) _ _ _ _ :: _) _ _); refine wpList_store_arr rfl _ _ rfl _ rfl _ _ H6.out rfl ?_))
      refine bodyPost_ret (v := .agg (arr (crd k n p))) (results_cell_row rfl _ _ w.heap.size 48 _ _ _ rfl H6.out.row und48 rfl (info48c _)) rfl ⟨rfl, since_setRow HS.out _ _ (Nat.le_refl _)⟩

end Go.Proofs.Ytbedkjpbdkgjpaa

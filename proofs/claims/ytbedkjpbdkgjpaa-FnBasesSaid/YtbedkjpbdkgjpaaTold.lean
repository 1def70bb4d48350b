/- Coordinates that are told: the contracts of toldCoordinates and PlaceIn. -/
import Derived.Test.YtbedkjpbdkgjpaaSpread
namespace Go.Proofs.Ytbedkjpbdkgjpaa
open Go.RowKit Go.Deep

theorem crd_fit {k n : Nat} {p : List Int} (hn : n ≤ 5) (hp : p.length = (setsTo k (2 ^ n)).length) : fitB (crd k n p) = decide (NumsC p p.length) := by
  have hpw := pow_le5 hn
  by_cases h : NumsC p p.length
  · rw [decide_eq_true h]
    refine (fitTo_iff 32).mpr fun i hi => ?_
    unfold crd
    by_cases hc : i < 2 ^ n ∧ popcS i = k
    · rw [if_pos hc]
      have e := atP_mem hp hc.1 hc.2
      obtain ⟨j, hj, he⟩ := List.getElem_of_mem e
      have := h j hj
      rw [List.getD_eq_getElem?_getD, List.getElem?_eq_getElem hj] at this
      simp only [Option.getD_some, he] at this
      simp [inB, this]
    · rw [if_neg hc]
      decide
  · rw [decide_eq_false h]
    cases hf : fitB (crd k n p) with
    | false => rfl
    | true =>
      refine absurd (fun j hj => ?_) h
      have e : (setsTo k (2 ^ n))[j]? = some ((setsTo k (2 ^ n))[j]'(by omega)) := List.getElem?_eq_getElem _
      obtain ⟨h1, h2, h3⟩ := setsTo_idx k _ e
      have := (fitTo_iff 32).mp hf ((setsTo k (2 ^ n))[j]'(by omega)) (by omega)
      unfold crd at this
      rw [if_pos ⟨h3, h2⟩] at this
      unfold atP at this
      rw [h2, h1] at this
      simpa [inB] using this

/-- What toldCoordinates hands back. -/
def ToldP (w : World) (k n : Int) (p : List Int) (e : Ending) (w' : World) : Prop :=
  ∃ C, e = .returned (.tuple #[.agg (arr C), .bool (placeB k n p)]) ∧ w.Since w.heap.size w' ∧ (placeB k n p = true → C = crd k.toNat n.toNat p)

set_option maxRecDepth 100000 in
set_option maxHeartbeats 2000000 in
theorem told_any (k n : Int) (a : Option Addr) (cap m : Nat) (p : List Int) (w : World) (hp : p.length = m) (hr : RowR w a p) :
    Calls Try.prog 46 #[.int .i64 k, .int .i64 n, .slice a m cap] w (ToldP w k n p) := by
  obtain ⟨W1, hW1⟩ : ∃ W1, w.alloc (.cells (arr fun _ => 0) 48) = W1 := ⟨_, rfl⟩
  have b6 : ArrAt W1 w.heap.size (fun _ => 0) := by rw [← hW1]; exact ArrAt.new _ _
  have s1 : w.Since w.heap.size W1 := by rw [← hW1]; exact (World.Since.refl _ _).alloc (Nat.le_refl _) _
  have z1 : W1.heap.size = w.heap.size + 1 := by rw [← hW1]; simp
  have E1 := isPlace_any k n W1
  cases hb : inB n 2 5 && inB k 1 (n - 1) with
  | false =>
    have HF := Lib.hid (show placeB k n p = false by unfold placeB; rw [← Bool.and_assoc, hb]; rfl)
    rw [hb] at E1
    replace E1 := Lib.hid E1
    have B6 := Lib.hid b6
    have S1 := Lib.hid s1
    clear hb hr hp b6 s1
    go_enter Try.func46, Try.ntmps46
    go_wp2_with (first
      | (go_at_call 68; rw [zero_lit, hW1]; refine (E1.out).mono ?_; rintro e w2 ⟨rfl, rfl⟩; clear hW1)
      | (with_reducible (show wpList _ _ _ (Oper.mk _ (Op.store 48 _ _) _ _ _ _ :: _) _ _); simp only [zero_lit]; refine wpList_store_arr rfl _ _ rfl _ rfl _ _ B6.out rfl ?_))
    refine bodyPost_ret (v := .tuple #[.agg (arr fun _ => 0), .bool false]) (results_arr_tmp (fn := Try.f46) (p := 6) (u := 7) rfl _ _ w.heap.size _ rfl B6.out.row) rfl ⟨_, by rw [HF.out], since_setRow S1.out _ _ (Nat.le_refl _), fun h => by rw [HF.out] at h; cases h⟩
  | true =>
  have hkn : 2 ≤ n ∧ n ≤ 5 ∧ 1 ≤ k ∧ k ≤ n - 1 := by simp [inB] at hb; omega
  obtain ⟨k', rfl⟩ : ∃ k' : Nat, k = k' := ⟨k.toNat, by omega⟩
  obtain ⟨n', rfl⟩ : ∃ n' : Nat, n = n' := ⟨n.toNat, by omega⟩
  obtain ⟨hb1, hb2⟩ : inB (n' : Int) 2 5 = true ∧ inB (k' : Int) 1 ((n' : Int) - 1) = true := by simpa using hb
  obtain ⟨W3, hW3⟩ : ∃ W3, (W1.alloc (.cells #[.int .i64 n'] 3)).alloc (.cells #[.int .i64 k'] 3) = W3 := ⟨_, rfl⟩
  have bN : W3.cell? ⟨W1.heap.size, 0, none⟩ = some (.int .i64 n') := by rw [← hW3]; exact cell_alloc_l _ (Boxed.new W1 3 _).cell
  have bK : W3.cell? ⟨W1.heap.size + 1, 0, none⟩ = some (.int .i64 k') := by rw [← hW3]; have := (Boxed.new (W1.alloc (.cells #[.int .i64 n'] 3)) 3 (.int .i64 k')).cell; rwa [World.size_alloc] at this
  have s3 : w.Since w.heap.size W3 := by rw [← hW3]; exact (s1.alloc (by omega) _).alloc (by simp; omega) _
  have z3 : W3.heap.size = w.heap.size + 3 := by rw [← hW3]; simp [z1]
  replace b6 : ArrAt W3 w.heap.size (fun _ => 0) := by rw [← hW3]; exact (b6.alloc _).alloc _
  rw [z1] at bN bK
  have EC := collectSets_any (w.heap.size + 1) (w.heap.size + 1 + 1) n' k' W3 (by omega) (by omega) (by omega) bN bK
  have hl := setsI_length k' (2 ^ n')
  obtain ⟨L, hL⟩ : ∃ L, (setsTo k' (2 ^ n')).length = L := ⟨_, rfl⟩
  rw [hL] at hl
  have HLL := Lib.hid hl
  replace EC := Lib.hid EC
  have B6 := Lib.hid b6
  have S3 := Lib.hid s3
  rw [hb] at E1
  replace E1 := Lib.hid E1
  have HR := Lib.hid (fun (W : World) (hd : w.Since w.heap.size W) => hr.since hd)
  by_cases hml : m = L
  · have hml' : ((m : Int) != (L : Int)) = false := by simp; omega
    have HPB := Lib.hid (show placeB k' n' p = fitB (crd k' n' p) by unfold placeB; rw [hb1, hb2, crd_fit (by omega) (by omega)]; simp; intro; omega)
    have ES := Lib.hid (fun (W : World) (h : RowR W a p) => spread_any k' n' (by omega) a cap m p W hp (by omega) h)
    have EF := fun (W : World) => fit_any (crd k' n' p) W
    obtain ⟨C, hC⟩ : ∃ C, crd k' n' p = C := ⟨_, rfl⟩
    obtain ⟨f, hf⟩ : ∃ f, fitB C = f := ⟨_, rfl⟩
    rw [hC] at EF HPB ES
    rw [hf] at EF HPB
    replace EF := Lib.hid EF
    have HC := Lib.hid hC
    have HML := Lib.hid hml
    clear hb hb1 hb2 hL hl hr hp b6 s1 s3 bN bK hC hf hml
    go_enter Try.func46, Try.ntmps46
    go_wp2_with (first
      | (go_at_call 68; rw [zero_lit, hW1]; refine (E1.out).mono ?_; rintro e w2 ⟨rfl, rfl⟩; clear hW1)
      | (go_at_call 70; refine (sets_any _ _ _).mono ?_; rintro e w' ⟨rfl, rfl⟩; rw [hW3]; clear hW3)
      | (go_at_call 69; refine (EC.out).mono ?_; rintro e w4 ⟨v, rfl, hR4⟩; obtain ⟨a4, c4, rfl, _⟩ := hR4.slice; rw [HLL.out]; have HS4 := Lib.hid hR4.since; clear hR4)
      | (go_at_call 71; refine (ES.out _ (HR.out _ (S3.out.trans (since_mono HS4.out S3.out.size)))).mono ?_; rintro e w5 ⟨rfl, hs5⟩; have HS5 := Lib.hid hs5; clear hs5)
      | (with_reducible (show wpList _ _ _ (Oper.mk _ (Op.store 48 _ _) _ _ _ _ :: _) _ _); rw [zero_lit]; refine wpList_store_arr rfl _ _ rfl _ rfl _ _ (ArrAt.new _ _) rfl ?_))
    have t4 := S3.out.trans (since_mono HS4.out S3.out.size)
    have t5 := t4.trans (since_mono HS5.out t4.size)
    have t6 : w.Since w.heap.size ((w5.alloc (.cells (arr fun _ => 0) 48)).setRow w5.heap.size (arr C)) := since_setRow (t5.alloc t5.size _) _ _ t5.size
    have c8 : ArrAt ((w5.alloc (.cells (arr fun _ => 0) 48)).setRow w5.heap.size (arr C)) w5.heap.size C := (ArrAt.new _ _).row
    have c6 : ArrAt ((w5.alloc (.cells (arr fun _ => 0) 48)).setRow w5.heap.size (arr C)) w.heap.size (fun _ => 0) := (((B6.out.since HS4.out).since HS5.out).alloc _).rowOther (by have := t5.size; have := (B6.out.since HS4.out).since HS5.out; have := this.lt; omega) _
    obtain ⟨V, hV⟩ : ∃ V, (w5.alloc (.cells (arr fun _ => 0) 48)).setRow w5.heap.size (arr C) = V := ⟨_, rfl⟩
    have hne : w.heap.size ≠ w5.heap.size := by have := ((B6.out.since HS4.out).since HS5.out).lt; omega
    obtain ⟨B, hB⟩ : ∃ B, w5.heap.size = B := ⟨_, rfl⟩
    rw [hV] at t6 c8 c6 ⊢
    rw [hB] at hne c8 ⊢
    clear t4 t5 hV hB HS4 HS5
    refine wp_region_held_drew (S := fun W => ArrAt W B C ∧ (∃ D, ArrAt W w.heap.size D) ∧ w.Since w.heap.size W) (by kernel_rfl) ⟨c8, ⟨_, c6⟩, t6.drew⟩ (fun hS => ?_)
    refine wpAnyH_take (i := 0) rfl (by kernel_rfl) (by kernel_rfl) (by kernel_rfl) (fun _ _ _ h => h) (yieldsIf_load_arr rfl _ rfl B rfl C (fun _ h => h.1)) hS ?_
    refine wpAnyH_take (i := 1) rfl (by kernel_rfl) (by kernel_rfl) (by kernel_rfl) (fun _ _ _ h => h) (yieldsIf_load_arr rfl _ rfl B rfl C (fun _ h => h.1)) hS ?_
    simp only [Act.put, List.setIfInBounds_toArray]
    refine wpAnyH_ready (rs := [2]) (by kernel_rfl) (by simp) (AllReadyH.cons rfl (fun K hK => ?_) AllReadyH.nil)
    go_simp
    go_at_call 72
    refine (EF.out _).mono ?_
    rintro e w6 ⟨rfl, hs6⟩
    go_wp2_with fail
    have c8' := hS.1.since hs6
    have c6' := (ArrAt.drew c6).since hs6
    have t6' := hS.2.2.trans (since_mono hs6 hS.2.2.size)
    refine hK.out _ _ ⟨c8', ⟨_, c6'⟩, t6'⟩ (fun _ => ?_)
    clear hK K hS hs6 c8 c6 t6
    refine wpAnyH_ready (rs := [3]) (by kernel_rfl) (by simp) (AllReadyH.cons rfl (fun K hK => ?_) AllReadyH.nil)
    rw [if_pos (by rfl)]
    refine wp_store_arr _ _ rfl w.heap.size rfl _ C c6' rfl ?_
    have c8'' : ArrAt (w6.setRow w.heap.size (arr C)) B C := c8'.rowOther (fun e => hne e.symm) _
    have c6'' : ArrAt (w6.setRow w.heap.size (arr C)) w.heap.size C := c6'.row
    have t6'' := since_setRow t6' w.heap.size (arr C) (Nat.le_refl _)
    refine hK.out _ _ ⟨c8'', ⟨_, c6''⟩, t6''⟩ (fun _ => ?_)
    clear hK K c8' c6' t6'
    simp only [Act.put]
    refine wpAnyH_ready (rs := [4]) (by kernel_rfl) (by simp) (AllReadyH.cons rfl (fun K hK => ?_) AllReadyH.nil)
    go_simp
    refine hK.out _ _ ⟨c8'', ⟨_, c6''⟩, t6''⟩ (fun _ => ?_)
    clear hK K
    refine wpAnyH_done (by kernel_rfl) ?_ _
    go_wp2
    refine bodyPost_ret (v := .tuple #[.agg (arr C), .bool f]) (results_arr_tmp (fn := Try.f46) (p := 6) (u := 7) rfl _ _ w.heap.size _ rfl c6'') rfl ⟨C, by rw [HPB.out], t6'', fun _ => HC.out.symm⟩
  · have hml' : ((m : Int) != (L : Int)) = true := by simp; omega
    have HPB := Lib.hid (show placeB k' n' p = false from placeB_len (by simp only [Int.toNat_natCast]; omega))
    clear hb hb1 hb2 hL hl hr hp b6 s1 s3 bN bK hml
    go_enter Try.func46, Try.ntmps46
    go_wp2_with (first
      | (go_at_call 68; rw [zero_lit, hW1]; refine (E1.out).mono ?_; rintro e w2 ⟨rfl, rfl⟩; clear hW1)
      | (go_at_call 70; refine (sets_any _ _ _).mono ?_; rintro e w' ⟨rfl, rfl⟩; rw [hW3]; clear hW3)
      | (go_at_call 69; refine (EC.out).mono ?_; rintro e w4 ⟨v, rfl, hR4⟩; obtain ⟨a4, c4, rfl, _⟩ := hR4.slice; rw [HLL.out]; have HS4 := Lib.hid hR4.since; have B4 := Lib.hid (B6.out.since hR4.since); clear hR4)
      | (with_reducible (show wpList _ _ _ (Oper.mk _ (Op.store 48 _ _) _ _ _ _ :: _) _ _); simp only [zero_lit]; refine wpList_store_arr rfl _ _ rfl _ rfl _ _ B4.out rfl ?_))
    refine bodyPost_ret (v := .tuple #[.agg (arr fun _ => 0), .bool false]) (results_arr_tmp (fn := Try.f46) (p := 6) (u := 7) rfl _ _ w.heap.size _ rfl B4.out.row) rfl ⟨_, by rw [HPB.out], since_setRow (S3.out.trans (since_mono HS4.out S3.out.size)) _ _ (Nat.le_refl _), fun h => by rw [HPB.out] at h; cases h⟩

set_option maxRecDepth 100000 in
set_option maxHeartbeats 1000000 in
theorem implPlaceIn_any (k n : Int) (a : Option Addr) (cap m : Nat) (p : List Int) (w : World) (hm : p.length = m) (_hmx : m ≤ 1048576) (hr : RowR w a p) :
    Calls Try.prog 17 #[.int .i64 k, .int .i64 n, .slice a m cap] w fun e w' => e = .returned (.bool (placeB k n p)) ∧ w.Since w.heap.size w' := by
  have E := told_any k n a cap m p w hm hr
  obtain ⟨b, hb⟩ : ∃ b, placeB k n p = b := ⟨_, rfl⟩
  unfold ToldP at E
  rw [hb] at E ⊢
  replace E := Lib.hid E
  clear hb hr hm
  go_enter Try.func17, Try.ntmps17
  go_wp2_with (first
    | (go_at_call 46; refine (E.out).mono ?_; rintro e w2 ⟨C, rfl, hs, _⟩; have HS := Lib.hid hs; clear hs)
    | (with_reducible (show wpList _ _ _ (Oper.mk _ (Op.store 48 _ _) _ _ _ _ :: _) _ _); rw [zero_lit]; refine wpList_store_arr rfl _ _ rfl _ rfl _ _ (ArrAt.new _ _) rfl ?_))
  go_ret
  exact ⟨rfl, since_setRow (HS.out.alloc HS.out.size _) _ _ HS.out.size⟩

end Go.Proofs.Ytbedkjpbdkgjpaa

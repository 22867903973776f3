/- ChainEnds: the walk. -/
import Derived.Test.YtmgjjopngebecabDoorSK
import Derived.Test.YtmgjjopngebecabDoorEnP
import Derived.Test.YtmgjjopngebecabDoorRL
import Derived.Test.YtmgjjopngebecabDoorTnB
import Derived.Deep.DeepCutAuto
namespace Go.Proofs.YtmgjjopngebecabDoor
open Go.RowKit Go.Maps

theorem newReader_enter6 (v u z : Value) (W : World) : (callFunc 20 #[v, u, z]).run Tryd.prog W = .ok (.enter 20 #[v, u, z]) W := by kernel_rfl
theorem acts_enter6 (v : Value) (W : World) : (callFunc 21 #[v]).run Tryd.prog W = .ok (.enter 21 #[v]) W := by kernel_rfl
theorem broken_enter6 (v : Value) (W : World) : (callFunc 26 #[v]).run Tryd.prog W = .ok (.enter 26 #[v]) W := by kernel_rfl
theorem started_enter6 (W : World) : (callFunc 13 #[]).run Tryd.prog W = .ok (.enter 13 #[]) W := by kernel_rfl
theorem sectors_enter6 (v : Value) (W : World) : (callFunc 11 #[v]).run Tryd.prog W = .ok (.enter 11 #[v]) W := by kernel_rfl
/-- What a reader has read, told. -/
theorem Rd.nums6 {w : World} {B p pr up ug : Nat} {hs : List Int} {fi le : Int} {fr to_ : Nat} {nv bv : Value} {S : RS} (h : Rd w B p pr up ug hs fi le fr to_ nv bv S) (hl : S.ns.length ≤ 65536) (h0 : 0 < S.ns.length) :
    Calls Tryd.prog 23 #[.pointer (some ⟨pr, 0, none⟩)] w fun e w' => ∃ g2 c2, e = .returned (.slice (some ⟨g2, 0, none⟩) S.ns.length c2) ∧ Row w' w.heap.size 3 (.slice (some ⟨g2, 0, none⟩) S.ns.length c2) (iV S.ns) ∧ Below w.heap.size w w' := by
  have hc := h.cells.2.2.2.1
  rcases h.row.2 with ⟨hv, h1⟩ | ⟨g, cap, cur, hv, _⟩
  · rw [iV_len] at h1; omega
  · rw [iV_len] at hv
    subst hv
    exact numbers_calls hc h.row hl h0
set_option maxRecDepth 100000 in
set_option maxHeartbeats 8000000 in
theorem ends_walk {w : World} {sn fn tn heap fi le : Int} {hs : List Int} {ra ta : Option Addr} {rn rc tl tc : Nat} {raw : List (Int × List Int)} {tk : List Int} (hr : IsSpots w (.slice ra rn rc) raw) (htk : IsT w (.slice ta tl tc) tk) (hhl : hs.length = 32) (hhb : ∀ x ∈ hs, 0 ≤ x ∧ x ≤ 255) (hT : TT w) :
    Calls Tryd.prog 4 #[.agg #[.int .i64 sn, .slice ra rn rc, .int .i64 fn, .int .i64 tn, .slice ta tl tc], .int .i64 heap, .agg (refV hs fi le).toArray] w fun e w' => e = .returned (.bool true) ∧ Below w.heap.size w w' := by
  obtain ⟨n, hn⟩ : ∃ n : Nat, (wholeI sn 2 200).toNat = n := ⟨_, rfl⟩
  have hn2 : 2 ≤ n ∧ n ≤ 200 := by have := wholeI_in sn (show (2 : Int) ≤ 200 by omega); omega
  obtain ⟨IMS, hIMS⟩ : ∃ IMS, laidI n (List.replicate n zsec) (raw.take 400) = IMS := ⟨_, rfl⟩
  have HNL : Hid (IMS.length = n) := hide (by rw [← hIMS, laidI_len, List.length_replicate])
  obtain ⟨B, hB⟩ : ∃ B, w.heap.size = B := ⟨_, rfl⟩
  obtain ⟨w1, hw1⟩ : ∃ w1, w.alloc (.cells #[.int .i64 sn, .slice ra rn rc, .int .i64 fn, .int .i64 tn, .slice ta tl tc] 25) = w1 := ⟨_, rfl⟩
  obtain ⟨gq, hgq⟩ : ∃ gq, w1.heap.size = gq := ⟨_, rfl⟩
  obtain ⟨w2, hw2⟩ : ∃ w2, w1.alloc (.cells (refV hs fi le).toArray 34) = w2 := ⟨_, rfl⟩
  have hb12 : Below w1.heap.size w1 w2 := by rw [← hw2]; exact (Below.refl _ _).alloc (Nat.le_refl _) _
  have hA1 : Arr w2 B 25 [.int .i64 sn, .slice ra rn rc, .int .i64 fn, .int .i64 tn, .slice ta tl tc] := by
    have h1 : Arr w1 B 25 [.int .i64 sn, .slice ra rn rc, .int .i64 fn, .int .i64 tn, .slice ta tl tc] := by rw [← hw1, ← hB]; exact Arr.new _ _ _
    exact h1.below hb12
  have hAq : Arr w2 gq 34 (refV hs fi le) := by rw [← hw2, ← hgq]; exact Arr.new _ _ _
  have hb1 : Below w.heap.size w w2 := by
    have h1 : Below w.heap.size w w1 := by rw [← hw1]; exact (Below.refl _ _).alloc (Nat.le_refl _) _
    exact h1.trans (hb12.mono h1.size)
  have HLD := hide (laid_calls (sn := sn) (fn := fn) (tn := tn) (hr.below hb1) (isT_belowL htk hb1) (hT.below hb1))
  rw [hn, hIMS] at HLD
  generalize frI sn fn = FR at HLD
  generalize toI sn fn tn = TO at HLD
  generalize takenW _ _ _ _ = WS at HLD
  generalize takenR _ _ _ _ = RS0 at HLD
  obtain ⟨hn2a, hn2b⟩ := hn2
  have hgqlt : gq < w2.heap.size := hAq.lt
  have HB := hide hB
  have HW1 := hide hw1
  have HW2 := hide hw2
  have HGQ : Hid (w.heap.size + 1 = gq) := hide (by rw [← hgq, ← hw1]; simp)
  have HB1 := hide hb1
  have HT := hide hT
  have HAQ := hide hAq
  have HHL := hide hhl
  have HHB := hide hhb
  have c10 : w2.cell? ⟨B, 0, none⟩ = some (.int .i64 sn) := arr_cell hA1 rfl
  have c11 : w2.cell? ⟨B, 1, none⟩ = some (.slice ra rn rc) := arr_cell hA1 rfl
  have c12 : w2.cell? ⟨B, 2, none⟩ = some (.int .i64 fn) := arr_cell hA1 rfl
  have c13 : w2.cell? ⟨B, 3, none⟩ = some (.int .i64 tn) := arr_cell hA1 rfl
  have c14 : w2.cell? ⟨B, 4, none⟩ = some (.slice ta tl tc) := arr_cell hA1 rfl
  have HNU := hide (fun n W => num6_calls n W)
  clear hr htk hT hn hIMS hB hw1 hw2 hgq hb1 hA1 hAq hb12 hhl hhb
  go_enter Tryd.func4, Tryd.ntmps4
  go_upto_region 1 with fail
  rw [HW1.out, HW2.out, HGQ.out, HB.out]
  go_wp2_with fail
  refine (unhide HLD).mono ?_
  rintro e w3 ⟨gx, p, gl, gm, V, m1, g, gw, m2, gr, gb, rfl, hL⟩
  obtain ⟨ga, gac, us, hc2, _, hArr⟩ := hL.l6.image HNL.out (by omega)
  have hc0 : w3.cell? ⟨gx, 0, none⟩ = some (.pointer (some ⟨p, 0, none⟩)) := arr_cell hArr rfl
  obtain ⟨h, hh, hh1, hh2⟩ : ∃ h : Nat, wholeI heap 1 (n : Int) = (h : Int) ∧ 1 ≤ h ∧ h ≤ n := by
    have h1 := wholeI_in heap (show (1 : Int) ≤ (n : Int) by omega)
    exact ⟨(wholeI heap 1 (n : Int)).toNat, by omega, by omega, by omega⟩
  have HWH : Hid (∀ W, Calls Tryd.prog 14 #[.int .i64 heap, .int .i64 1, .int .i64 (n : Int)] W fun e w' => e = .returned (.int .i64 (h : Int)) ∧ w' = W) := hide (fun W => by
    have h1 := whole6_calls heap (show (0 : Int) ≤ 1 by omega) (show (1 : Int) ≤ (n : Int) by omega) (by omega) W
    rw [hh] at h1
    exact h1)
  have hb3 : Below w.heap.size w w3 := HB1.out.trans (hL.l6.low.mono HB1.out.size)
  have hD3 := hL.dk
  have hla3 : (⟨IMS, fun _ => [], 0, 0, 0⟩ : AD).la.length = n := HNL.out
  have hxp : gx ≠ p := blk_unlike hArr hD3.blk (by decide)
  have hgx3 : gx < w3.heap.size := hArr.lt
  have hAq3 : Arr w3 gq 34 (refV hs fi le) := by
    have h1 : w3.heap[gq]? = w2.heap[gq]? := hL.l6.low.block gq hgqlt
    unfold Arr at *
    rw [h1]
    exact HAQ.out
  have HS3 : Hid (∀ W, Below w3.heap.size w3 W → W.cell? ⟨gx, 0, none⟩ = some (.pointer (some ⟨p, 0, none⟩)) ∧ W.rangeAt gq 0 (refV hs fi le)) := hide (fun W hW => ⟨arr_cell (hArr.below hW) rfl, arr_range (ds := []) (by rw [List.append_nil]; exact hAq3.below hW)⟩)
  have hpB : w2.heap.size ≤ p := hL.lo.1
  have hFtB : ∀ x, Ft p gl gm V x → w2.heap.size ≤ x := fun x hx => ft_lo hL.vn hL.lo.1 hL.lo.2.1 hL.lo.2.2 x hx
  have hiR := infoRef HHL.out fi le
  have hund := Tryd.underlying34
  have HARR := hide hArr
  have HD3 := hide hD3
  have HB3 := hide hb3
  have HAQ3 := hide hAq3
  have HXP := hide hxp
  have HFTB := hide hFtB
  clear HLD hL hArr hD3 hb3 hAq3 hxp hFtB hh c10 c11 c12 c13 c14
  by_cases hbad : secN le = 0 ∨ h = n ∨ fi < (h : Int) ∨ (n : Int) ≤ fi
  · obtain ⟨q, hq0, hq⟩ : ∃ q : Int, q ≠ 0 ∧ ∀ W, Below w3.heap.size w3 W → Calls Tryd.prog 20 #[.pointer (some ⟨p, 0, none⟩), .int .i64 (h : Int), .agg (refV hs fi le).toArray] W fun e w' => e = .returned (.tuple #[.pointer none, .int .i64 q]) ∧ Below W.heap.size W w' := by
      by_cases e1 : secN le = 0
      · exact ⟨2, by omega, fun W hW => newReader_long (HD3.out.below hW) HHL.out fi le hh1 (by rw [hla3]; exact hh2) e1⟩
      · by_cases e2 : h = n
        · exact ⟨61, by omega, fun W hW => newReader_none (HD3.out.below hW) HHL.out fi le hh1 (by rw [hla3]; exact e2) e1⟩
        · exact ⟨61, by omega, fun W hW => newReader_first (HD3.out.below hW) HHL.out fi le hh1 (by rw [hla3]; omega) e1 (by rw [hla3]; rcases hbad with h | h | h | h; exact absurd h e1; exact absurd h e2; exact Or.inl h; exact Or.inr h)⟩
    have HNR := hide hq
    have HT3 := hide (HT.out.below HB3.out)
    have hqn : (q != 0) = true := by simp; exact hq0
    clear hbad hq hq0 HD3
    go_wp2_with (go_at_call 14; refine (unhide HWH _).mono ?_; rintro e w4 ⟨rfl, hw4⟩; obtain rfl := hw4.symm; clear hw4)
    refine wp_region_held_drew (S := fun W => W.cell? ⟨gx, 0, none⟩ = some (.pointer (some ⟨p, 0, none⟩)) ∧ W.rangeAt gq 0 (refV hs fi le)) (by kernel_rfl) (unhide HS3 _ (Below.refl _ _).drew) (fun hHeld => ?_)
    refine wpAnyH_take (i := 0) (v := .pointer (some ⟨gx, 0, none⟩)) rfl (by kernel_rfl) (by kernel_rfl) (by kernel_rfl) (fun _ _ _ h => h) (Or.inl ⟨by rfl, fun w hSw => by obtain ⟨hS1, hS2⟩ := hSw; go_simp⟩) (by assumption) ?_
    simp only [List.getElem_toArray, List.getElem_cons_zero, Act.put, List.setIfInBounds_toArray, List.set_cons_zero, List.set_cons_succ]
    refine wpAnyH_take (i := 1) (v := .pointer (some ⟨gx, 0, none⟩)) rfl (by kernel_rfl) (by kernel_rfl) (by kernel_rfl) (fun _ _ _ h => h) (Or.inl ⟨by rfl, fun w hSw => by obtain ⟨hS1, hS2⟩ := hSw; go_simp⟩) (by assumption) ?_
    simp only [List.getElem_toArray, List.getElem_cons_succ, List.getElem_cons_zero, Act.put, List.setIfInBounds_toArray, List.set_cons_zero, List.set_cons_succ]
    refine wpAnyH_take (i := 2) (v := .pointer (some ⟨gx, 0, none⟩)) rfl (by kernel_rfl) (by kernel_rfl) (by kernel_rfl) (fun _ _ _ h => h) (Or.inl ⟨by rfl, fun w hSw => by obtain ⟨hS1, hS2⟩ := hSw; go_simp⟩) (by assumption) ?_
    simp only [List.getElem_toArray, List.getElem_cons_succ, List.getElem_cons_zero, Act.put, List.setIfInBounds_toArray, List.set_cons_zero, List.set_cons_succ]
    refine wpAnyH_take (i := 3) (v := .pointer (some ⟨p, 0, none⟩)) rfl (by kernel_rfl) (by kernel_rfl) (by kernel_rfl) (fun _ _ _ h => h) (Or.inl ⟨by rfl, fun w hSw => by obtain ⟨hS1, hS2⟩ := hSw; go_simp⟩) (by assumption) ?_
    simp only [List.getElem_toArray, List.getElem_cons_succ, List.getElem_cons_zero, Act.put, List.setIfInBounds_toArray, List.set_cons_zero, List.set_cons_succ]
    refine wpAnyH_take (i := 4) (v := .int .i64 (h : Int)) rfl (by kernel_rfl) (by kernel_rfl) (by kernel_rfl) (fun _ _ _ h => h) (Or.inl ⟨by rfl, fun w hSw => by obtain ⟨hS1, hS2⟩ := hSw; go_simp⟩) (by assumption) ?_
    simp only [List.getElem_toArray, List.getElem_cons_succ, List.getElem_cons_zero, Act.put, List.setIfInBounds_toArray, List.set_cons_zero, List.set_cons_succ]
    refine wpAnyH_take (i := 5) (v := .agg (refV hs fi le).toArray) rfl (by kernel_rfl) (by kernel_rfl) (by kernel_rfl) (fun _ _ _ h => h) (yieldsIf_load_mid (by rfl) _ _ rfl _ _ rfl _ _ (fun w hSw => hSw.2) hund rfl hiR) (by assumption) ?_
    simp only [List.getElem_toArray, List.getElem_cons_succ, List.getElem_cons_zero, Act.put, List.setIfInBounds_toArray, List.set_cons_zero, List.set_cons_succ]
    refine wpAnyH_ready (rs := [6]) (by kernel_rfl) (by simp) (AllReadyH.cons rfl (fun K hK => ?_) AllReadyH.nil)
    refine step_call3C (by rfl) 20 newReader_enter6 (.tmp 33) (.tmp 34) (.tmp 35) _ rfl rfl rfl rfl (unhide HNR _ (Below.refl _ _).drew) ?_
    rintro e w5 ⟨rfl, hb5⟩
    have hx5 : Below w3.heap.size w3 w5 := ((Below.refl _ _).drew : Below w3.heap.size w3 w3.drew).trans (hb5.mono (Nat.le_refl _))
    refine ⟨_, rfl, ?_⟩
    refine hK.out _ _ (unhide HS3 _ hx5) (fun hJ0 => ?_)
    clear hK K
    simp only [List.getElem_toArray, List.getElem_cons_succ, List.getElem_cons_zero, Act.put, List.setIfInBounds_toArray, List.set_cons_zero, List.set_cons_succ]
    refine wpAnyH_take (i := 7) (v := .tuple #[.pointer none, .int .i64 q]) rfl (by kernel_rfl) (by kernel_rfl) (by kernel_rfl) (fun _ _ _ h => h) (Or.inl ⟨by rfl, fun w hSw => by obtain ⟨hS1, hS2⟩ := hSw; go_simp⟩) (by assumption) ?_
    simp only [List.getElem_toArray, List.getElem_cons_succ, List.getElem_cons_zero, Act.put, List.setIfInBounds_toArray, List.set_cons_zero, List.set_cons_succ]
    refine wpAnyH_take (i := 8) (v := .pointer none) rfl (by kernel_rfl) (by kernel_rfl) (by kernel_rfl) (fun _ _ _ h => h) (Or.inl ⟨by rfl, fun w hSw => by obtain ⟨hS1, hS2⟩ := hSw; go_simp⟩) (by assumption) ?_
    simp only [List.getElem_toArray, List.getElem_cons_succ, List.getElem_cons_zero, Act.put, List.setIfInBounds_toArray, List.set_cons_zero, List.set_cons_succ]
    refine wpAnyH_take (i := 9) (v := .int .i64 q) rfl (by kernel_rfl) (by kernel_rfl) (by kernel_rfl) (fun _ _ _ h => h) (Or.inl ⟨by rfl, fun w hSw => by obtain ⟨hS1, hS2⟩ := hSw; go_simp⟩) (by assumption) ?_
    simp only [List.getElem_toArray, List.getElem_cons_succ, List.getElem_cons_zero, Act.put, List.setIfInBounds_toArray, List.set_cons_zero, List.set_cons_succ]
    refine wpAnyH_take (i := 10) (v := .pointer none) rfl (by kernel_rfl) (by kernel_rfl) (by kernel_rfl) (fun _ _ _ h => h) (Or.inl ⟨by rfl, fun w hSw => by obtain ⟨hS1, hS2⟩ := hSw; go_simp⟩) (by assumption) ?_
    simp only [List.getElem_toArray, List.getElem_cons_succ, List.getElem_cons_zero, Act.put, List.setIfInBounds_toArray, List.set_cons_zero, List.set_cons_succ]
    refine wpAnyH_take (i := 11) (v := .int .i64 q) rfl (by kernel_rfl) (by kernel_rfl) (by kernel_rfl) (fun _ _ _ h => h) (Or.inl ⟨by rfl, fun w hSw => by obtain ⟨hS1, hS2⟩ := hSw; go_simp⟩) (by assumption) ?_
    simp only [List.getElem_toArray, List.getElem_cons_succ, List.getElem_cons_zero, Act.put, List.setIfInBounds_toArray, List.set_cons_zero, List.set_cons_succ]
    refine wpAnyH_done (by kernel_rfl) ?_ _
    have HST := hide (started_calls (HT3.out.below hx5))
    have HX5 := hide (HB3.out.trans (hx5.mono HB3.out.size))
    clear hHeld hJ0 hb5 hx5 hc0 hc2
    go_wp2_with (first
      | (go_at_call 10; refine (unhide HNU _ _).mono ?_; rintro e w6 ⟨rfl, hw6⟩; obtain rfl := hw6.symm; clear hw6)
      | (go_at_call 13; refine (unhide HST).mono ?_; rintro e w7 ⟨rfl, hb7⟩))
    go_ret
    exact ⟨rfl, HX5.out.trans (hb7.mono HX5.out.size)⟩
  · have hz : secN le ≠ 0 := fun e => hbad (Or.inl e)
    have hhn : h < n := by
      have h1 : h ≠ n := fun e => hbad (Or.inr (Or.inl e))
      omega
    obtain ⟨f, hf⟩ : ∃ f : Nat, fi = (f : Int) := ⟨fi.toNat, by
      have h1 : ¬ fi < (h : Int) := fun e => hbad (Or.inr (Or.inr (Or.inl e)))
      omega⟩
    have hff : h ≤ f ∧ f < n := by
      have h1 : ¬ fi < (h : Int) := fun e => hbad (Or.inr (Or.inr (Or.inl e)))
      have h2 : ¬ (n : Int) ≤ fi := fun e => hbad (Or.inr (Or.inr (Or.inr e)))
      omega
    subst hf
    obtain ⟨K, hK⟩ : ∃ K : Nat, secN le = (K : Int) := ⟨(secN le).toNat, by have := secN_lo le; omega⟩
    have hK1 : 1 ≤ K ∧ K ≤ 2185 := by have := secN_hi le; omega
    have hle0 : 0 ≤ le := (cnt_ok (le := le) (place := 0) (Int.le_refl _) (by omega)).2.2.1
    obtain ⟨S0, hS0⟩ : ∃ S0 : RS, (⟨[], claimW h n (newW (n - h)) (f : Int), f, [], 0⟩ : RS) = S0 := ⟨_, rfl⟩
    have HNR : Hid (∀ W, Below w3.heap.size w3 W → Calls Tryd.prog 20 #[.pointer (some ⟨p, 0, none⟩), .int .i64 (h : Int), .agg (refV hs (f : Int) le).toArray] W fun e w' => ∃ pr up ug, e = .returned (.tuple #[.pointer (some ⟨pr, 0, none⟩), .int .i64 0]) ∧ Rd w' W.heap.size p pr up ug hs (f : Int) le h n (.slice none 0 0) (.slice none 0 0) S0 ∧ W.heap.size ≤ pr ∧ W.heap.size ≤ up ∧ W.heap.size ≤ ug ∧ Below W.heap.size W w') := hide (fun W hW => by
      have h1 := newReader_good (heap := h) (fi := f) (HD3.out.below hW) HHL.out HHB.out le hh1 (by rw [hla3]; exact hhn) hz (by rw [hla3]; exact hff)
      rw [hla3, hS0] at h1
      exact h1)
    have HRI : Hid (Ri h n le S0) := hide (by rw [← hS0]; exact ri_begin hff hle0)
    have HRN : Hid (S0.ns = [] ∧ S0.nx = f ∧ S0.by_ = [] ∧ S0.br = 0) := hide (by rw [← hS0]; exact ⟨rfl, rfl, rfl, rfl⟩)
    have HT3 := hide (HT.out.below HB3.out)
    have HKK := hide hK
    clear hbad hz hK hS0
    go_wp2_with (go_at_call 14; refine (unhide HWH _).mono ?_; rintro e w4 ⟨rfl, hw4⟩; obtain rfl := hw4.symm; clear hw4)
    refine wp_region_held_drew (S := fun W => W.cell? ⟨gx, 0, none⟩ = some (.pointer (some ⟨p, 0, none⟩)) ∧ W.rangeAt gq 0 (refV hs (f : Int) le)) (by kernel_rfl) (unhide HS3 _ (Below.refl _ _).drew) (fun hHeld => ?_)
    refine wpAnyH_take (i := 0) (v := .pointer (some ⟨gx, 0, none⟩)) rfl (by kernel_rfl) (by kernel_rfl) (by kernel_rfl) (fun _ _ _ h => h) (Or.inl ⟨by rfl, fun w hSw => by obtain ⟨hS1, hS2⟩ := hSw; go_simp⟩) (by assumption) ?_
    simp only [List.getElem_toArray, List.getElem_cons_zero, Act.put, List.setIfInBounds_toArray, List.set_cons_zero, List.set_cons_succ]
    refine wpAnyH_take (i := 1) (v := .pointer (some ⟨gx, 0, none⟩)) rfl (by kernel_rfl) (by kernel_rfl) (by kernel_rfl) (fun _ _ _ h => h) (Or.inl ⟨by rfl, fun w hSw => by obtain ⟨hS1, hS2⟩ := hSw; go_simp⟩) (by assumption) ?_
    simp only [List.getElem_toArray, List.getElem_cons_succ, List.getElem_cons_zero, Act.put, List.setIfInBounds_toArray, List.set_cons_zero, List.set_cons_succ]
    refine wpAnyH_take (i := 2) (v := .pointer (some ⟨gx, 0, none⟩)) rfl (by kernel_rfl) (by kernel_rfl) (by kernel_rfl) (fun _ _ _ h => h) (Or.inl ⟨by rfl, fun w hSw => by obtain ⟨hS1, hS2⟩ := hSw; go_simp⟩) (by assumption) ?_
    simp only [List.getElem_toArray, List.getElem_cons_succ, List.getElem_cons_zero, Act.put, List.setIfInBounds_toArray, List.set_cons_zero, List.set_cons_succ]
    refine wpAnyH_take (i := 3) (v := .pointer (some ⟨p, 0, none⟩)) rfl (by kernel_rfl) (by kernel_rfl) (by kernel_rfl) (fun _ _ _ h => h) (Or.inl ⟨by rfl, fun w hSw => by obtain ⟨hS1, hS2⟩ := hSw; go_simp⟩) (by assumption) ?_
    simp only [List.getElem_toArray, List.getElem_cons_succ, List.getElem_cons_zero, Act.put, List.setIfInBounds_toArray, List.set_cons_zero, List.set_cons_succ]
    refine wpAnyH_take (i := 4) (v := .int .i64 (h : Int)) rfl (by kernel_rfl) (by kernel_rfl) (by kernel_rfl) (fun _ _ _ h => h) (Or.inl ⟨by rfl, fun w hSw => by obtain ⟨hS1, hS2⟩ := hSw; go_simp⟩) (by assumption) ?_
    simp only [List.getElem_toArray, List.getElem_cons_succ, List.getElem_cons_zero, Act.put, List.setIfInBounds_toArray, List.set_cons_zero, List.set_cons_succ]
    refine wpAnyH_take (i := 5) (v := .agg (refV hs (f : Int) le).toArray) rfl (by kernel_rfl) (by kernel_rfl) (by kernel_rfl) (fun _ _ _ h => h) (yieldsIf_load_mid (by rfl) _ _ rfl _ _ rfl _ _ (fun w hSw => hSw.2) hund rfl hiR) (by assumption) ?_
    simp only [List.getElem_toArray, List.getElem_cons_succ, List.getElem_cons_zero, Act.put, List.setIfInBounds_toArray, List.set_cons_zero, List.set_cons_succ]
    refine wpAnyH_ready (rs := [6]) (by kernel_rfl) (by simp) (AllReadyH.cons rfl (fun K hK => ?_) AllReadyH.nil)
    refine step_call3C (by rfl) 20 newReader_enter6 (.tmp 33) (.tmp 34) (.tmp 35) _ rfl rfl rfl rfl (unhide HNR _ (Below.refl _ _).drew) ?_
    rintro e w5 ⟨pr, up, ug, rfl, hR5, hpr, hup, hug, hb5⟩
    have hx5 : Below w3.heap.size w3 w5 := ((Below.refl _ _).drew : Below w3.heap.size w3 w3.drew).trans (hb5.mono (Nat.le_refl _))
    refine ⟨_, rfl, ?_⟩
    refine hK.out _ _ (unhide HS3 _ hx5) (fun hJ0 => ?_)
    clear hK K
    simp only [List.getElem_toArray, List.getElem_cons_succ, List.getElem_cons_zero, Act.put, List.setIfInBounds_toArray, List.set_cons_zero, List.set_cons_succ]
    refine wpAnyH_take (i := 7) (v := .tuple #[.pointer (some ⟨pr, 0, none⟩), .int .i64 0]) rfl (by kernel_rfl) (by kernel_rfl) (by kernel_rfl) (fun _ _ _ h => h) (Or.inl ⟨by rfl, fun w hSw => by obtain ⟨hS1, hS2⟩ := hSw; go_simp⟩) (by assumption) ?_
    simp only [List.getElem_toArray, List.getElem_cons_succ, List.getElem_cons_zero, Act.put, List.setIfInBounds_toArray, List.set_cons_zero, List.set_cons_succ]
    refine wpAnyH_take (i := 8) (v := .pointer (some ⟨pr, 0, none⟩)) rfl (by kernel_rfl) (by kernel_rfl) (by kernel_rfl) (fun _ _ _ h => h) (Or.inl ⟨by rfl, fun w hSw => by obtain ⟨hS1, hS2⟩ := hSw; go_simp⟩) (by assumption) ?_
    simp only [List.getElem_toArray, List.getElem_cons_succ, List.getElem_cons_zero, Act.put, List.setIfInBounds_toArray, List.set_cons_zero, List.set_cons_succ]
    refine wpAnyH_take (i := 9) (v := .int .i64 0) rfl (by kernel_rfl) (by kernel_rfl) (by kernel_rfl) (fun _ _ _ h => h) (Or.inl ⟨by rfl, fun w hSw => by obtain ⟨hS1, hS2⟩ := hSw; go_simp⟩) (by assumption) ?_
    simp only [List.getElem_toArray, List.getElem_cons_succ, List.getElem_cons_zero, Act.put, List.setIfInBounds_toArray, List.set_cons_zero, List.set_cons_succ]
    refine wpAnyH_take (i := 10) (v := .pointer (some ⟨pr, 0, none⟩)) rfl (by kernel_rfl) (by kernel_rfl) (by kernel_rfl) (fun _ _ _ h => h) (Or.inl ⟨by rfl, fun w hSw => by obtain ⟨hS1, hS2⟩ := hSw; go_simp⟩) (by assumption) ?_
    simp only [List.getElem_toArray, List.getElem_cons_succ, List.getElem_cons_zero, Act.put, List.setIfInBounds_toArray, List.set_cons_zero, List.set_cons_succ]
    refine wpAnyH_take (i := 11) (v := .int .i64 0) rfl (by kernel_rfl) (by kernel_rfl) (by kernel_rfl) (fun _ _ _ h => h) (Or.inl ⟨by rfl, fun w hSw => by obtain ⟨hS1, hS2⟩ := hSw; go_simp⟩) (by assumption) ?_
    simp only [List.getElem_toArray, List.getElem_cons_succ, List.getElem_cons_zero, Act.put, List.setIfInBounds_toArray, List.set_cons_zero, List.set_cons_succ]
    refine wpAnyH_done (by kernel_rfl) ?_ _
    have hD5 := HD3.out.below hx5
    have HAC := hide (acts_calls (arr_cell hD5.blk (j := 2) rfl) (arr_cell hD5.blk (j := 3) rfl) (arr_cell hD5.blk (j := 4) rfl))
    have HD5 := hide hD5
    have hc05 := (unhide HS3 _ hx5).1
    have HX5 := hide hx5
    have HR5 := hide hR5
    clear hHeld hJ0 hb5 hD5 hx5 hR5 hc0 hc2
    go_wp2_with fail
    refine (unhide HAC).mono ?_
    rintro e w6 ⟨rfl, hb6⟩
    obtain ⟨D0, hD0⟩ : ∃ D0 : AD, (⟨IMS, fun _ => [], 0, 0, 0⟩ : AD) = D0 := ⟨_, rfl⟩
    have hla0 : D0.la.length = n := by rw [← hD0]; exact hla3
    have hrd0 : D0.rd = 0 ∧ D0.wt = 0 ∧ D0.fl = 0 := by rw [← hD0]; exact ⟨rfl, rfl, rfl⟩
    obtain ⟨B5, hB5⟩ : ∃ B5, w3.drew.heap.size = B5 := ⟨_, rfl⟩
    have hB53 : B5 = w3.heap.size := by rw [← hB5]; rfl
    have hR5 := HR5.out
    have hD5 := HD5.out
    rw [hB5] at hR5 hpr hup hug
    rw [hD0] at hD5
    obtain ⟨gz, hgz⟩ : ∃ gz, w6.heap.size = gz := ⟨_, rfl⟩
    obtain ⟨w7, hw7⟩ : ∃ w7, w6.alloc (.cells #[.int .i64 0, .int .i64 0, .int .i64 0] 60) = w7 := ⟨_, rfl⟩
    have hb57 : Below w5.heap.size w5 w7 := by rw [← hw7]; exact hb6.alloc hb6.size _
    have hAz : Arr w7 gz 60 [.int .i64 0, .int .i64 0, .int .i64 0] := by rw [← hw7, ← hgz]; exact Arr.new _ _ _
    have hx7 : Below w3.heap.size w3 w7 := HX5.out.trans (hb57.mono HX5.out.size)
    have hT7 := HT3.out.below hx7
    have hD7 := hD5.below hb57
    have hR7 := hR5.below hb57
    have hTs := HT.out.size
    have hws := HB1.out.size
    have hFr : ∀ x, Fr pr up ug (.slice none 0 0) (.slice none 0 0) x → w3.heap.size ≤ x ∧ x < w5.heap.size := fun x hx => by
      refine ⟨?_, hR5.lt hx⟩
      rcases hx with rfl | rfl | rfl | hx | hx
      · omega
      · omega
      · omega
      · simp [Value.ownBlock] at hx
      · simp [Value.ownBlock] at hx
    have hE : Env w7 p gl gm V pr up ug (.slice none 0 0) (.slice none 0 0) := by
      refine ⟨fun x hx => hD7.lt hx, fun x hx => hR7.lt hx, fun x hx hf => ?_, fun x hx => ?_, fun x hx => ?_, ?_⟩
      · have := (hFr x hx).1
        have := HD3.out.lt hf
        omega
      · have := unhide HFTB x hx; omega
      · have := (hFr x hx).1; have := HB3.out.size; omega
      · have := hx7.size; have := HB3.out.size; omega
    have hB7 : B5 ≤ w7.heap.size := by have := hx7.size; omega
    have HSTP : Hid (∀ j W nv bv S, j ≤ 5000 → Ron n h D0 le S → Rgo w7 W B5 p gl gm pr up ug h n V D0 hs (f : Int) le (.slice none 0 0) (.slice none 0 0) j nv bv S → Calls Tryd.prog 22 #[.pointer (some ⟨pr, 0, none⟩)] W fun e w' => e = .returned (.tuple #[.bool (outB le (readS (D0.now S.nx) hs (f : Int) le h n S)), .int .i64 (outE (readS (D0.now S.nx) hs (f : Int) le h n S))]) ∧ ∃ nv2 bv2, Rgo w7 w' B5 p gl gm pr up ug h n V D0 hs (f : Int) le (.slice none 0 0) (.slice none 0 0) (j + 1) nv2 bv2 (readS (D0.now S.nx) hs (f : Int) le h n S)) := hide (fun j W nv bv S hj ho hg => hg.step hE hT7 hB7 (by omega) (by omega) hj ho)
    have HKEEP : Hid (∀ W, Up (fun b => b = p ∨ Fr pr up ug (.slice none 0 0) (.slice none 0 0) b) w7 W → W.cell? ⟨gx, 0, none⟩ = some (.pointer (some ⟨p, 0, none⟩)) ∧ W.cell? ⟨gx, 2, none⟩ = some (.slice (some ⟨ga, 0, none⟩) n gac) ∧ Arr W gq 34 (refV hs (f : Int) le) ∧ W.cell? ⟨gz, 0, none⟩ = some (.int .i64 0) ∧ TT W ∧ Below w.heap.size w W) := hide (fun W hU => by
      have hgxF : ¬ (gx = p ∨ Fr pr up ug (.slice none 0 0) (.slice none 0 0) gx) := fun hx => by
        rcases hx with hx | hx
        · exact HXP.out hx
        · have := (hFr gx hx).1; omega
      have hgqF : ¬ (gq = p ∨ Fr pr up ug (.slice none 0 0) (.slice none 0 0) gq) := fun hx => by
        rcases hx with hx | hx
        · omega
        · have := (hFr gq hx).1; have := HAQ3.out.lt; omega
      have hgzF : ¬ (gz = p ∨ Fr pr up ug (.slice none 0 0) (.slice none 0 0) gz) := fun hx => by
        have h6 := hb6.size
        rcases hx with hx | hx
        · have := HD3.out.lt (Or.inl rfl); have := HX5.out.size; omega
        · have := (hFr gz hx).2; omega
      have hA7 := (HARR.out.below hx7).up hU hgxF
      refine ⟨arr_cell hA7 rfl, arr_cell hA7 rfl, (HAQ3.out.below hx7).up hU hgqF, arr_cell (hAz.up hU hgzF) rfl, hT7.up hU (fun b hb => ?_), ?_⟩
      · rcases hb with rfl | hb
        · omega
        · have := (hFr b hb).1; have := HB3.out.size; omega
      · have y7 := HB3.out.trans (hx7.mono HB3.out.size)
        exact y7.trans (hU.below y7.size (fun b hb => by
          rcases hb with rfl | hb
          · omega
          · have := (hFr b hb).1; have := HB3.out.size; omega)))
    have hRN := HRN.out
    have hR0 : Rgo w7 w7 B5 p gl gm pr up ug h n V D0 hs (f : Int) le (.slice none 0 0) (.slice none 0 0) 0 (.slice none 0 0) (.slice none 0 0) S0 := ⟨hR7, by rw [reads_zero]; exact hD7, fun b hb => Or.inl hb, Up.refl _ _⟩
    have HI0 : Hid (∃ nv bv S, Rgo w7 w7 B5 p gl gm pr up ug h n V D0 hs (f : Int) le (.slice none 0 0) (.slice none 0 0) 0 nv bv S ∧ Ron n h D0 le S ∧ Ri h n le S ∧ S.ns.length = 0) := hide ⟨_, _, S0, hR0, ⟨by omega, by omega, hh1, hla0.symm, by rw [hRN.1, HKK.out]; simp; omega, by rw [hRN.2.2.1]; simp, hRN.2.2.2⟩, HRI.out, by rw [hRN.1]; rfl⟩
    have HSEC := hide (fun W => chSectors_calls le W)
    rw [HKK.out] at HSEC
    have HW7 := hide hw7
    have HGZ := hide hgz
    have HFF := hide hff
    have HRD0 := hide hrd0
    clear hla0 hrd0 hB5 hB53 hR5 hD5 hgz hw7 hb57 hAz hx7 hT7 hD7 hR7 hTs hws hFr hE hB7 hRN hR0 hb6 hpr hup hug hc05 hff HR5 HD5 hD0 hla3
    go_upto_region 9 with fail
    rw [HW7.out, HGZ.out]
    go_wp2_with fail
    go_loopw [10, 12, 13] (fun ev sv dv W => ∃ j : Nat, sv = .int .i64 (j : Int) ∧ j ≤ K ∧ ((ev = .int .i64 0 ∧ dv = .bool false ∧ Hid (∃ nv bv S, Rgo w7 W B5 p gl gm pr up ug h n V D0 hs (f : Int) le (.slice none 0 0) (.slice none 0 0) j nv bv S ∧ Ron n h D0 le S ∧ Ri h n le S ∧ S.ns.length = j)) ∨ (∃ oe, ev = .int .i64 oe ∧ dv = .bool true ∧ Hid (∃ nv bv S, oe = outE S ∧ Rgo w7 W B5 p gl gm pr up ug h n V D0 hs (f : Int) le (.slice none 0 0) (.slice none 0 0) j nv bv S ∧ Re h n hs (f : Int) le S ∧ outB le S = true ∧ S.ns.length = j ∧ S.by_.length ≤ 2000000)))) (fun _ sv _ _ => K + 1 - (intOf sv).toNat)
    case atStart => exact ⟨0, rfl, by omega, Or.inl ⟨rfl, rfl, HI0⟩⟩
    case round =>
      obtain ⟨j, rfl, hjK, hcase⟩ := hrel
      rcases hcase with ⟨rfl, rfl, HL⟩ | ⟨oe, rfl, rfl, HL⟩
      · obtain ⟨nv, bv, S, hg, ho, hi, hl⟩ := HL.out
        have hns := ho.ns
        rw [HKK.out, hl] at hns
        have hjk : ((j : Int) == (K : Int)) = false := by simp; omega
        have hkp := unhide HKEEP wr hg.up
        have hc33 : wr.cell? ⟨gq, 33, none⟩ = some (.int .i64 le) := arr_cell hkp.2.2.1 (refV_33 HHL.out _ _)
        have HS1 := hide (unhide HSTP j wr nv bv S (by omega) ho hg)
        obtain ⟨R, hRe⟩ : ∃ R, R = readS (D0.now S.nx) hs (f : Int) le h n S := ⟨_, rfl⟩
        rw [← hRe] at HS1
        have hnx : (S.nx : Int) ≠ 0 := by have := ho.low; have := ho.pos; omega
        have hRl : R.ns.length = j + 1 := by rw [hRe, readS_ns, List.length_append, hl]; rfl
        have hRb : R.by_.length ≤ 2000000 := by
          have h2 := readS_by (D0.now S.nx) hs (f : Int) le h n S
          have h3 := cnt_ok (le := le) (place := (S.ns.length : Int)) (by omega) ho.ns
          have h4 := ho.by_
          rw [← hRe] at h2
          omega
        by_cases hend : R.br ≠ 0 ∨ (R.ns.length : Int) = secN le
        · have hob : outB le R = true := by
            unfold outB
            by_cases hz : R.br = 0
            · rw [if_pos hz]
              exact decide_eq_true (hend.resolve_left (fun h => h hz))
            · rw [if_neg hz]
          rw [hob] at HS1
          have HRE : Hid (Re h n hs (f : Int) le R) := hide (by rw [hRe]; exact hi.last ho.ns hnx (by have := HFF.out; omega))
          obtain ⟨oe, hoe⟩ : ∃ oe, outE R = oe := ⟨_, rfl⟩
          rw [hoe] at HS1
          have HX : Hid (oe = outE R ∧ outB le R = true ∧ R.ns.length = j + 1 ∧ R.by_.length ≤ 2000000) := hide ⟨hoe.symm, hob, hRl, hRb⟩
          clear hg ho hi hl hkp hRe hnx hRl hRb hend hob hoe HL
          go_wp2_with (go_at_call 11; refine (unhide HSEC _).mono ?_; rintro e w8 ⟨rfl, hw8⟩; obtain rfl := hw8.symm; clear hw8)
          refine (unhide HS1).mono ?_
          rintro e w8 ⟨rfl, nv2, bv2, hg2⟩
          have HG2 := hide hg2
          clear hg2 HS1 hc33
          go_wp2
          go_roundw
          case rel => exact ⟨j + 1, by go_num, by omega, Or.inr ⟨oe, rfl, rfl, hide ⟨nv2, bv2, R, HX.out.1, HG2.out, HRE.out, HX.out.2.1, HX.out.2.2.1, HX.out.2.2.2⟩⟩⟩
          case measure => simp [intOf]; omega
        · have hz : R.br = 0 := Decidable.byContradiction (fun h => hend (Or.inl h))
          have hnl : (R.ns.length : Int) ≠ secN le := fun h => hend (Or.inr h)
          have hob : outB le R = false := by unfold outB; rw [if_pos hz]; exact decide_eq_false hnl
          have hoe : outE R = 0 := by unfold outE; rw [if_pos hz]
          rw [hob, hoe] at HS1
          have HRI2 : Hid (Ri h n le R) := hide (by rw [hRe] at hz hnl ⊢; exact hi.step ho.ns hnx hz hnl)
          have HRO : Hid (Ron n h D0 le R) := hide (by rw [hRe] at hz hnl ⊢; exact ho.step hz hnl)
          have hj2 : j + 1 ≤ K := by have := HRO.out.ns; rw [HKK.out] at this; omega
          have HX := hide hRl
          clear hg ho hi hl hkp hRe hnx hRl hRb hend hob hoe hz hnl HL
          go_wp2_with (go_at_call 11; refine (unhide HSEC _).mono ?_; rintro e w8 ⟨rfl, hw8⟩; obtain rfl := hw8.symm; clear hw8)
          refine (unhide HS1).mono ?_
          rintro e w8 ⟨rfl, nv2, bv2, hg2⟩
          have HG2 := hide hg2
          clear hg2 HS1 hc33
          go_wp2
          go_roundw
          case rel => exact ⟨j + 1, by go_num, by omega, Or.inl ⟨rfl, rfl, hide ⟨nv2, bv2, R, HG2.out, HRO.out, HRI2.out, HX.out⟩⟩⟩
          case measure => simp [intOf]; omega
      · obtain ⟨nv, bv, S, hoe, hg, hre, hob, hl, hby⟩ := HL.out
        have hkp := unhide HKEEP wr hg.up
        have hj1 : 1 ≤ j := by have := hre.pos; omega
        have HNM := hide (hg.rd.nums6 (by omega) (by omega))
        rw [hl] at HNM
        have HG := hide hg
        have HKP := hide hkp
        have HRE := hide hre
        have HOB := hide hob
        have HLJ := hide hl
        have HBYL := hide hby
        have HOE := hide hoe
        clear hoe hg hre hob hl hby hkp HL HSTP
        go_wp2_with fail
        refine (unhide HNM).mono ?_
        rintro e w9 ⟨g2, c2, rfl, hrow9, hb9⟩
        have hrd9 := HG.out.rd.below hb9
        have hdk9 := HG.out.dk.below hb9
        have hk0 := HRD0.out
        have hAC : ∀ W, Below w9.heap.size w9 W → Calls Tryd.prog 21 #[.pointer (some ⟨p, 0, none⟩)] W fun e w' => e = .returned (.agg #[.int .i64 (j : Int), .int .i64 0, .int .i64 0]) ∧ Below W.heap.size W w' := fun W hW => by
          have h1 := (hdk9.below hW).blk
          have h2 := acts_calls (arr_cell h1 (j := 2) rfl) (arr_cell h1 (j := 3) rfl) (arr_cell h1 (j := 4) rfl)
          rw [show (D0.reads j).rd = (j : Int) by show D0.rd + (j : Int) = _; omega, show (D0.reads j).wt = 0 from hk0.2.1, show (D0.reads j).fl = 0 from hk0.2.2] at h2
          exact h2
        have HAC9 := hide hAC
        have HDN9 : Hid (∀ W, Below w9.heap.size w9 W → Calls Tryd.prog 24 #[.pointer (some ⟨pr, 0, none⟩)] W fun e w' => e = .returned (.int .i64 (j : Int)) ∧ w' = W) := hide (fun W hW => by
          have h1 := (hrd9.below hW).cells.2.2.2.2.1
          rw [HLJ.out] at h1
          exact done_calls h1)
        have HKW : Hid (∀ W, Below w9.heap.size w9 W → W.cell? ⟨gx, 0, none⟩ = some (.pointer (some ⟨p, 0, none⟩)) ∧ W.cell? ⟨gx, 2, none⟩ = some (.slice (some ⟨ga, 0, none⟩) n gac) ∧ Arr W gq 34 (refV hs (f : Int) le) ∧ W.cell? ⟨gz, 0, none⟩ = some (.int .i64 0) ∧ TT W ∧ Below w.heap.size w W) := hide (fun W hW => unhide HKEEP W ((HG.out.up.then_below hb9).then_below hW))
        have HNS : Hid (∀ W, Below w9.heap.size w9 W → ∀ i, i < j → W.cell? ⟨g2, i, none⟩ = some (.int .i64 ((S.ns.getD i 0 : Nat) : Int))) := hide (fun W hW i hi => row_first (owns_below hrow9 hW) (by rw [HLJ.out]; exact hi))
        have HRD9 := hide hrd9
        have hwj : IntKind.i64.wrap (j : Int) = (j : Int) := IntWalk.i64_in _ (by omega)
        have hjj : ((j : Int) != (j : Int)) = false := by simp
        have hfld : ∀ W : World, (Instr.field 60 (.agg #[.int .i64 (j : Int), .int .i64 0, .int .i64 0]) 0).run Tryd.prog W = .ok (.int .i64 (j : Int)) W := fun W => by kernel_rfl
        clear hAC hrd9 hdk9 hk0 hrow9 HNM HKEEP HKP HG
        go_wp2_with fail
        refine wp_region_held_drew (S := fun W => W.cell? ⟨gx, 0, none⟩ = some (.pointer (some ⟨p, 0, none⟩)) ∧ W.cell? ⟨gz, 0, none⟩ = some (.int .i64 0)) (by kernel_rfl) (⟨(unhide HKW _ (Below.refl _ _).drew).1, (unhide HKW _ (Below.refl _ _).drew).2.2.2.1⟩) (fun hHeld => ?_)
        refine wpAnyH_take (i := 0) (v := .slice (some ⟨g2, 0, none⟩) j c2) rfl (by kernel_rfl) (by kernel_rfl) (by kernel_rfl) (fun _ _ _ h => h) (Or.inl ⟨by rfl, fun w hSw => by obtain ⟨hS1, hS2⟩ := hSw; go_simp⟩) (by assumption) ?_
        simp only [List.getElem_toArray, List.getElem_cons_zero, Act.put, List.setIfInBounds_toArray, List.set_cons_zero, List.set_cons_succ]
        refine wpAnyH_take (i := 1) (v := .int .i64 (j : Int)) rfl (by kernel_rfl) (by kernel_rfl) (by kernel_rfl) (fun _ _ _ h => h) (Or.inl ⟨by rfl, fun w hSw => by obtain ⟨hS1, hS2⟩ := hSw; go_simp⟩) (by assumption) ?_
        simp only [List.getElem_toArray, List.getElem_cons_succ, List.getElem_cons_zero, Act.put, List.setIfInBounds_toArray, List.set_cons_zero, List.set_cons_succ]
        refine wpAnyH_take (i := 2) (v := .int .i64 (j : Int)) rfl (by kernel_rfl) (by kernel_rfl) (by kernel_rfl) (fun _ _ _ h => h) (Or.inl ⟨by rfl, fun w hSw => by obtain ⟨hS1, hS2⟩ := hSw; go_simp⟩) (by assumption) ?_
        simp only [List.getElem_toArray, List.getElem_cons_succ, List.getElem_cons_zero, Act.put, List.setIfInBounds_toArray, List.set_cons_zero, List.set_cons_succ]
        refine wpAnyH_take (i := 3) (v := .bool false) rfl (by kernel_rfl) (by kernel_rfl) (by kernel_rfl) (fun _ _ _ h => h) (Or.inl ⟨by rfl, fun w hSw => by obtain ⟨hS1, hS2⟩ := hSw; go_simp⟩) (by assumption) ?_
        simp only [List.getElem_toArray, List.getElem_cons_succ, List.getElem_cons_zero, Act.put, List.setIfInBounds_toArray, List.set_cons_zero, List.set_cons_succ]
        refine wpAnyH_take (i := 4) (v := .bool false) rfl (by kernel_rfl) (by kernel_rfl) (by kernel_rfl) (fun _ _ _ h => h) (Or.inl ⟨by rfl, fun w hSw => by obtain ⟨hS1, hS2⟩ := hSw; go_simp⟩) (by assumption) ?_
        simp only [List.getElem_toArray, List.getElem_cons_succ, List.getElem_cons_zero, Act.put, List.setIfInBounds_toArray, List.set_cons_zero, List.set_cons_succ]
        refine wpAnyH_take (i := 5) (v := .pointer (some ⟨pr, 0, none⟩)) rfl (by kernel_rfl) (by kernel_rfl) (by kernel_rfl) (fun _ _ _ h => h) (Or.inl ⟨by rfl, fun w hSw => by obtain ⟨hS1, hS2⟩ := hSw; go_simp⟩) (by assumption) ?_
        simp only [List.getElem_toArray, List.getElem_cons_succ, List.getElem_cons_zero, Act.put, List.setIfInBounds_toArray, List.set_cons_zero, List.set_cons_succ]
        refine wpAnyH_take (i := 6) (v := .pointer (some ⟨pr, 0, none⟩)) rfl (by kernel_rfl) (by kernel_rfl) (by kernel_rfl) (fun _ _ _ h => h) (Or.inl ⟨by rfl, fun w hSw => by obtain ⟨hS1, hS2⟩ := hSw; go_simp⟩) (by assumption) ?_
        simp only [List.getElem_toArray, List.getElem_cons_succ, List.getElem_cons_zero, Act.put, List.setIfInBounds_toArray, List.set_cons_zero, List.set_cons_succ]
        refine wpAnyH_take (i := 7) (v := .pointer (some ⟨pr, 0, none⟩)) rfl (by kernel_rfl) (by kernel_rfl) (by kernel_rfl) (fun _ _ _ h => h) (Or.inl ⟨by rfl, fun w hSw => by obtain ⟨hS1, hS2⟩ := hSw; go_simp⟩) (by assumption) ?_
        simp only [List.getElem_toArray, List.getElem_cons_succ, List.getElem_cons_zero, Act.put, List.setIfInBounds_toArray, List.set_cons_zero, List.set_cons_succ]
        refine wpAnyH_take (i := 9) (v := .int .i64 (j : Int)) rfl (by kernel_rfl) (by kernel_rfl) (by kernel_rfl) (fun _ _ _ h => h) (Or.inl ⟨by rfl, fun w hSw => by obtain ⟨hS1, hS2⟩ := hSw; go_simp⟩) (by assumption) ?_
        simp only [List.getElem_toArray, List.getElem_cons_succ, List.getElem_cons_zero, Act.put, List.setIfInBounds_toArray, List.set_cons_zero, List.set_cons_succ]
        refine wpAnyH_ready (rs := [8]) (by kernel_rfl) (by simp) (AllReadyH.cons rfl (fun K hK => ?_) AllReadyH.nil)
        refine step_call1GC (by rfl) 24 done_enter (.tmp 77) _ rfl rfl (unhide HDN9 _ (Below.refl _ _).drew) ?_
        rintro e wn ⟨rfl, hwn⟩
        obtain rfl := hwn.symm
        clear hwn
        refine ⟨_, rfl, ?_⟩
        refine hK.out _ _ (hHeld) (fun hJ0 => ?_)
        clear hK K
        simp only [List.getElem_toArray, List.getElem_cons_succ, List.getElem_cons_zero, Act.put, List.setIfInBounds_toArray, List.set_cons_zero, List.set_cons_succ]
        refine wpAnyH_take (i := 10) (v := .bool false) rfl (by kernel_rfl) (by kernel_rfl) (by kernel_rfl) (fun _ _ _ h => h) (Or.inl ⟨by rfl, fun w hSw => by obtain ⟨hS1, hS2⟩ := hSw; go_simp⟩) (by assumption) ?_
        simp only [List.getElem_toArray, List.getElem_cons_succ, List.getElem_cons_zero, Act.put, List.setIfInBounds_toArray, List.set_cons_zero, List.set_cons_succ]
        refine wpAnyH_take (i := 11) (v := .bool false) rfl (by kernel_rfl) (by kernel_rfl) (by kernel_rfl) (fun _ _ _ h => h) (Or.inl ⟨by rfl, fun w hSw => by obtain ⟨hS1, hS2⟩ := hSw; go_simp⟩) (by assumption) ?_
        simp only [List.getElem_toArray, List.getElem_cons_succ, List.getElem_cons_zero, Act.put, List.setIfInBounds_toArray, List.set_cons_zero, List.set_cons_succ]
        refine wpAnyH_take (i := 12) (v := .bool false) rfl (by kernel_rfl) (by kernel_rfl) (by kernel_rfl) (fun _ _ _ h => h) (Or.inl ⟨by rfl, fun w hSw => by obtain ⟨hS1, hS2⟩ := hSw; go_simp⟩) (by assumption) ?_
        simp only [List.getElem_toArray, List.getElem_cons_succ, List.getElem_cons_zero, Act.put, List.setIfInBounds_toArray, List.set_cons_zero, List.set_cons_succ]
        refine wpAnyH_take (i := 13) (v := .pointer (some ⟨gx, 0, none⟩)) rfl (by kernel_rfl) (by kernel_rfl) (by kernel_rfl) (fun _ _ _ h => h) (Or.inl ⟨by rfl, fun w hSw => by obtain ⟨hS1, hS2⟩ := hSw; go_simp⟩) (by assumption) ?_
        simp only [List.getElem_toArray, List.getElem_cons_succ, List.getElem_cons_zero, Act.put, List.setIfInBounds_toArray, List.set_cons_zero, List.set_cons_succ]
        refine wpAnyH_take (i := 14) (v := .pointer (some ⟨gx, 0, none⟩)) rfl (by kernel_rfl) (by kernel_rfl) (by kernel_rfl) (fun _ _ _ h => h) (Or.inl ⟨by rfl, fun w hSw => by obtain ⟨hS1, hS2⟩ := hSw; go_simp⟩) (by assumption) ?_
        simp only [List.getElem_toArray, List.getElem_cons_succ, List.getElem_cons_zero, Act.put, List.setIfInBounds_toArray, List.set_cons_zero, List.set_cons_succ]
        refine wpAnyH_take (i := 15) (v := .pointer (some ⟨gx, 0, none⟩)) rfl (by kernel_rfl) (by kernel_rfl) (by kernel_rfl) (fun _ _ _ h => h) (Or.inl ⟨by rfl, fun w hSw => by obtain ⟨hS1, hS2⟩ := hSw; go_simp⟩) (by assumption) ?_
        simp only [List.getElem_toArray, List.getElem_cons_succ, List.getElem_cons_zero, Act.put, List.setIfInBounds_toArray, List.set_cons_zero, List.set_cons_succ]
        refine wpAnyH_take (i := 16) (v := .pointer (some ⟨p, 0, none⟩)) rfl (by kernel_rfl) (by kernel_rfl) (by kernel_rfl) (fun _ _ _ h => h) (Or.inl ⟨by rfl, fun w hSw => by obtain ⟨hS1, hS2⟩ := hSw; go_simp⟩) (by assumption) ?_
        simp only [List.getElem_toArray, List.getElem_cons_succ, List.getElem_cons_zero, Act.put, List.setIfInBounds_toArray, List.set_cons_zero, List.set_cons_succ]
        refine wpAnyH_take (i := 19) (v := .pointer (some ⟨gz, 0, none⟩)) rfl (by kernel_rfl) (by kernel_rfl) (by kernel_rfl) (fun _ _ _ h => h) (Or.inl ⟨by rfl, fun w hSw => by obtain ⟨hS1, hS2⟩ := hSw; go_simp⟩) (by assumption) ?_
        simp only [List.getElem_toArray, List.getElem_cons_succ, List.getElem_cons_zero, Act.put, List.setIfInBounds_toArray, List.set_cons_zero, List.set_cons_succ]
        refine wpAnyH_take (i := 20) (v := .int .i64 0) rfl (by kernel_rfl) (by kernel_rfl) (by kernel_rfl) (fun _ _ _ h => h) (Or.inl ⟨by rfl, fun w hSw => by obtain ⟨hS1, hS2⟩ := hSw; go_simp⟩) (by assumption) ?_
        simp only [List.getElem_toArray, List.getElem_cons_succ, List.getElem_cons_zero, Act.put, List.setIfInBounds_toArray, List.set_cons_zero, List.set_cons_succ]
        refine wpAnyH_take (i := 21) (v := .int .i64 (j : Int)) rfl (by kernel_rfl) (by kernel_rfl) (by kernel_rfl) (fun _ _ _ h => h) (Or.inl ⟨by rfl, fun w hSw => by obtain ⟨hS1, hS2⟩ := hSw; go_simp⟩) (by assumption) ?_
        simp only [List.getElem_toArray, List.getElem_cons_succ, List.getElem_cons_zero, Act.put, List.setIfInBounds_toArray, List.set_cons_zero, List.set_cons_succ]
        refine wpAnyH_take (i := 22) (v := .int .i64 (j : Int)) rfl (by kernel_rfl) (by kernel_rfl) (by kernel_rfl) (fun _ _ _ h => h) (Or.inl ⟨by rfl, fun w hSw => by obtain ⟨hS1, hS2⟩ := hSw; go_simp⟩) (by assumption) ?_
        simp only [List.getElem_toArray, List.getElem_cons_succ, List.getElem_cons_zero, Act.put, List.setIfInBounds_toArray, List.set_cons_zero, List.set_cons_succ]
        refine wpAnyH_ready (rs := [17]) (by kernel_rfl) (by simp) (AllReadyH.cons rfl (fun K hK => ?_) AllReadyH.nil)
        refine step_call1GC (by rfl) 21 acts_enter6 (.tmp 86) _ rfl rfl (unhide HAC9 _ (Below.refl _ _).drew) ?_
        rintro e w10 ⟨rfl, hb10⟩
        have hx10 : Below w9.heap.size w9 w10 := ((Below.refl _ _).drew : Below w9.heap.size w9 w9.drew).trans (hb10.mono (Nat.le_refl _))
        refine ⟨_, rfl, ?_⟩
        refine hK.out _ _ (⟨(unhide HKW _ hx10).1, (unhide HKW _ hx10).2.2.2.1⟩) (fun hJ1 => ?_)
        clear hK K
        simp only [List.getElem_toArray, List.getElem_cons_succ, List.getElem_cons_zero, Act.put, List.setIfInBounds_toArray, List.set_cons_zero, List.set_cons_succ]
        refine wpAnyH_take (i := 18) (v := .int .i64 (j : Int)) rfl (by kernel_rfl) (by kernel_rfl) (by kernel_rfl) (fun _ _ _ h => h) (Or.inl ⟨by rfl, fun w hSw => by obtain ⟨hS1, hS2⟩ := hSw; go_simp⟩) (by assumption) ?_
        simp only [List.getElem_toArray, List.getElem_cons_succ, List.getElem_cons_zero, Act.put, List.setIfInBounds_toArray, List.set_cons_zero, List.set_cons_succ]
        refine wpAnyH_take (i := 23) (v := .bool false) rfl (by kernel_rfl) (by kernel_rfl) (by kernel_rfl) (fun _ _ _ h => h) (Or.inl ⟨by rfl, fun w hSw => by obtain ⟨hS1, hS2⟩ := hSw; go_simp⟩) (by assumption) ?_
        simp only [List.getElem_toArray, List.getElem_cons_succ, List.getElem_cons_zero, Act.put, List.setIfInBounds_toArray, List.set_cons_zero, List.set_cons_succ]
        refine wpAnyH_take (i := 24) (v := .bool false) rfl (by kernel_rfl) (by kernel_rfl) (by kernel_rfl) (fun _ _ _ h => h) (Or.inl ⟨by rfl, fun w hSw => by obtain ⟨hS1, hS2⟩ := hSw; go_simp⟩) (by assumption) ?_
        simp only [List.getElem_toArray, List.getElem_cons_succ, List.getElem_cons_zero, Act.put, List.setIfInBounds_toArray, List.set_cons_zero, List.set_cons_succ]
        refine wpAnyH_done (by kernel_rfl) ?_ _
        have HX10 := hide hx10
        clear hHeld hJ0 hJ1 hb10 hx10 hwj hjj hfld HAC9 HDN9
        go_wp2_with fail
        go_loopw [15, 16] (fun iv _ W => ∃ i : Nat, iv = .int .i64 (i : Int) ∧ i ≤ j ∧ Hid (Below w9.heap.size w9 W)) (fun iv _ _ => j - (intOf iv).toNat)
        case atStart => exact ⟨0, rfl, by omega, HX10⟩
        case round =>
          obtain ⟨i, rfl, hij', HL⟩ := hrel
          rename World => wl
          by_cases hij : i < j
          · have hijI : (i : Int) < (j : Int) := by omega
            have hi0 : (0 : Int) ≤ (i : Int) := by omega
            obtain ⟨y, hy⟩ : ∃ y, S.ns.getD i 0 = y := ⟨_, rfl⟩
            have hcy : ∀ W, Below w9.heap.size w9 W → W.cell? ⟨g2, i, none⟩ = some (.int .i64 (y : Int)) := fun W hW => by rw [← hy]; exact unhide HNS W hW i hij
            have hyr := HRE.out.rng y (by rw [← hy]; exact getD_mem (by rw [HLJ.out]; exact hij))
            have hyh : ¬ (y : Int) < (h : Int) := by omega
            have hyn : ¬ (n : Int) ≤ (y : Int) := by omega
            have hyh2 : h ≤ y := by omega
            have hyn2 : y < n := by omega
            have HNE : Hid (∀ q, q < i → S.ns.getD q 0 ≠ y) := hide (fun q hq e => by
              have := getD_inj HRE.out.nod (i := q) (j := i) (by rw [HLJ.out]; omega) (by rw [HLJ.out]; exact hij) (e.trans hy.symm)
              omega)
            have hxd : Below w9.heap.size w9 wl.drew := HL.out.trans (Below.refl _ _).drew
            have HCY := hide hcy
            clear hy hyr
            go_wp2_with fail
            refine wp_region_held_drew (S := fun W => W.cell? ⟨g2, i, none⟩ = some (.int .i64 (y : Int)) ∧ W.cell? ⟨gx, 2, none⟩ = some (.slice (some ⟨ga, 0, none⟩) n gac)) (by kernel_rfl) (⟨hcy _ hxd, (unhide HKW _ hxd).2.1⟩) (fun hHeld => ?_)
            refine wpAnyH_take (i := 0) (v := .slice (some ⟨g2, 0, none⟩) j c2) rfl (by kernel_rfl) (by kernel_rfl) (by kernel_rfl) (fun _ _ _ h => h) (Or.inl ⟨by rfl, fun w hSw => by obtain ⟨hS1, hS2⟩ := hSw; go_simp⟩) (by assumption) ?_
            simp only [List.getElem_toArray, List.getElem_cons_zero, Act.put, List.setIfInBounds_toArray, List.set_cons_zero, List.set_cons_succ]
            refine wpAnyH_take (i := 1) (v := .int .i64 (i : Int)) rfl (by kernel_rfl) (by kernel_rfl) (by kernel_rfl) (fun _ _ _ h => h) (Or.inl ⟨by rfl, fun w hSw => by obtain ⟨hS1, hS2⟩ := hSw; go_simp⟩) (by assumption) ?_
            simp only [List.getElem_toArray, List.getElem_cons_succ, List.getElem_cons_zero, Act.put, List.setIfInBounds_toArray, List.set_cons_zero, List.set_cons_succ]
            refine wpAnyH_take (i := 2) (v := .pointer (some ⟨g2, i, none⟩)) rfl (by kernel_rfl) (by kernel_rfl) (by kernel_rfl) (fun _ _ _ h => h) (Or.inl ⟨by rfl, fun w hSw => by obtain ⟨hS1, hS2⟩ := hSw; go_simp⟩) (by assumption) ?_
            simp only [List.getElem_toArray, List.getElem_cons_succ, List.getElem_cons_zero, Act.put, List.setIfInBounds_toArray, List.set_cons_zero, List.set_cons_succ]
            refine wpAnyH_take (i := 3) (v := .int .i64 (y : Int)) rfl (by kernel_rfl) (by kernel_rfl) (by kernel_rfl) (fun _ _ _ h => h) (Or.inl ⟨by rfl, fun w hSw => by obtain ⟨hS1, hS2⟩ := hSw; go_simp⟩) (by assumption) ?_
            simp only [List.getElem_toArray, List.getElem_cons_succ, List.getElem_cons_zero, Act.put, List.setIfInBounds_toArray, List.set_cons_zero, List.set_cons_succ]
            refine wpAnyH_take (i := 4) (v := .int .i64 (h : Int)) rfl (by kernel_rfl) (by kernel_rfl) (by kernel_rfl) (fun _ _ _ h => h) (Or.inl ⟨by rfl, fun w hSw => by obtain ⟨hS1, hS2⟩ := hSw; go_simp⟩) (by assumption) ?_
            simp only [List.getElem_toArray, List.getElem_cons_succ, List.getElem_cons_zero, Act.put, List.setIfInBounds_toArray, List.set_cons_zero, List.set_cons_succ]
            refine wpAnyH_take (i := 5) (v := .bool false) rfl (by kernel_rfl) (by kernel_rfl) (by kernel_rfl) (fun _ _ _ h => h) (Or.inl ⟨by rfl, fun w hSw => by obtain ⟨hS1, hS2⟩ := hSw; go_simp⟩) (by assumption) ?_
            simp only [List.getElem_toArray, List.getElem_cons_succ, List.getElem_cons_zero, Act.put, List.setIfInBounds_toArray, List.set_cons_zero, List.set_cons_succ]
            refine wpAnyH_take (i := 6) (v := .bool false) rfl (by kernel_rfl) (by kernel_rfl) (by kernel_rfl) (fun _ _ _ h => h) (Or.inl ⟨by rfl, fun w hSw => by obtain ⟨hS1, hS2⟩ := hSw; go_simp⟩) (by assumption) ?_
            simp only [List.getElem_toArray, List.getElem_cons_succ, List.getElem_cons_zero, Act.put, List.setIfInBounds_toArray, List.set_cons_zero, List.set_cons_succ]
            refine wpAnyH_take (i := 7) (v := .slice (some ⟨g2, 0, none⟩) j c2) rfl (by kernel_rfl) (by kernel_rfl) (by kernel_rfl) (fun _ _ _ h => h) (Or.inl ⟨by rfl, fun w hSw => by obtain ⟨hS1, hS2⟩ := hSw; go_simp⟩) (by assumption) ?_
            simp only [List.getElem_toArray, List.getElem_cons_succ, List.getElem_cons_zero, Act.put, List.setIfInBounds_toArray, List.set_cons_zero, List.set_cons_succ]
            refine wpAnyH_take (i := 8) (v := .int .i64 (i : Int)) rfl (by kernel_rfl) (by kernel_rfl) (by kernel_rfl) (fun _ _ _ h => h) (Or.inl ⟨by rfl, fun w hSw => by obtain ⟨hS1, hS2⟩ := hSw; go_simp⟩) (by assumption) ?_
            simp only [List.getElem_toArray, List.getElem_cons_succ, List.getElem_cons_zero, Act.put, List.setIfInBounds_toArray, List.set_cons_zero, List.set_cons_succ]
            refine wpAnyH_take (i := 9) (v := .pointer (some ⟨g2, i, none⟩)) rfl (by kernel_rfl) (by kernel_rfl) (by kernel_rfl) (fun _ _ _ h => h) (Or.inl ⟨by rfl, fun w hSw => by obtain ⟨hS1, hS2⟩ := hSw; go_simp⟩) (by assumption) ?_
            simp only [List.getElem_toArray, List.getElem_cons_succ, List.getElem_cons_zero, Act.put, List.setIfInBounds_toArray, List.set_cons_zero, List.set_cons_succ]
            refine wpAnyH_take (i := 10) (v := .int .i64 (y : Int)) rfl (by kernel_rfl) (by kernel_rfl) (by kernel_rfl) (fun _ _ _ h => h) (Or.inl ⟨by rfl, fun w hSw => by obtain ⟨hS1, hS2⟩ := hSw; go_simp⟩) (by assumption) ?_
            simp only [List.getElem_toArray, List.getElem_cons_succ, List.getElem_cons_zero, Act.put, List.setIfInBounds_toArray, List.set_cons_zero, List.set_cons_succ]
            refine wpAnyH_take (i := 11) (v := .pointer (some ⟨gx, 0, none⟩)) rfl (by kernel_rfl) (by kernel_rfl) (by kernel_rfl) (fun _ _ _ h => h) (Or.inl ⟨by rfl, fun w hSw => by obtain ⟨hS1, hS2⟩ := hSw; go_simp⟩) (by assumption) ?_
            simp only [List.getElem_toArray, List.getElem_cons_succ, List.getElem_cons_zero, Act.put, List.setIfInBounds_toArray, List.set_cons_zero, List.set_cons_succ]
            refine wpAnyH_take (i := 12) (v := .pointer (some ⟨gx, 0, none⟩)) rfl (by kernel_rfl) (by kernel_rfl) (by kernel_rfl) (fun _ _ _ h => h) (Or.inl ⟨by rfl, fun w hSw => by obtain ⟨hS1, hS2⟩ := hSw; go_simp⟩) (by assumption) ?_
            simp only [List.getElem_toArray, List.getElem_cons_succ, List.getElem_cons_zero, Act.put, List.setIfInBounds_toArray, List.set_cons_zero, List.set_cons_succ]
            refine wpAnyH_take (i := 13) (v := .pointer (some ⟨gx, 2, none⟩)) rfl (by kernel_rfl) (by kernel_rfl) (by kernel_rfl) (fun _ _ _ h => h) (Or.inl ⟨by rfl, fun w hSw => by obtain ⟨hS1, hS2⟩ := hSw; go_simp⟩) (by assumption) ?_
            simp only [List.getElem_toArray, List.getElem_cons_succ, List.getElem_cons_zero, Act.put, List.setIfInBounds_toArray, List.set_cons_zero, List.set_cons_succ]
            refine wpAnyH_take (i := 14) (v := .slice (some ⟨ga, 0, none⟩) n gac) rfl (by kernel_rfl) (by kernel_rfl) (by kernel_rfl) (fun _ _ _ h => h) (Or.inl ⟨by rfl, fun w hSw => by obtain ⟨hS1, hS2⟩ := hSw; go_simp⟩) (by assumption) ?_
            simp only [List.getElem_toArray, List.getElem_cons_succ, List.getElem_cons_zero, Act.put, List.setIfInBounds_toArray, List.set_cons_zero, List.set_cons_succ]
            refine wpAnyH_take (i := 15) (v := .int .i64 (n : Int)) rfl (by kernel_rfl) (by kernel_rfl) (by kernel_rfl) (fun _ _ _ h => h) (Or.inl ⟨by rfl, fun w hSw => by obtain ⟨hS1, hS2⟩ := hSw; go_simp⟩) (by assumption) ?_
            simp only [List.getElem_toArray, List.getElem_cons_succ, List.getElem_cons_zero, Act.put, List.setIfInBounds_toArray, List.set_cons_zero, List.set_cons_succ]
            refine wpAnyH_take (i := 16) (v := .bool false) rfl (by kernel_rfl) (by kernel_rfl) (by kernel_rfl) (fun _ _ _ h => h) (Or.inl ⟨by rfl, fun w hSw => by obtain ⟨hS1, hS2⟩ := hSw; go_simp⟩) (by assumption) ?_
            simp only [List.getElem_toArray, List.getElem_cons_succ, List.getElem_cons_zero, Act.put, List.setIfInBounds_toArray, List.set_cons_zero, List.set_cons_succ]
            refine wpAnyH_take (i := 17) (v := .bool false) rfl (by kernel_rfl) (by kernel_rfl) (by kernel_rfl) (fun _ _ _ h => h) (Or.inl ⟨by rfl, fun w hSw => by obtain ⟨hS1, hS2⟩ := hSw; go_simp⟩) (by assumption) ?_
            simp only [List.getElem_toArray, List.getElem_cons_succ, List.getElem_cons_zero, Act.put, List.setIfInBounds_toArray, List.set_cons_zero, List.set_cons_succ]
            refine wpAnyH_done (by kernel_rfl) ?_ _
            have HXD := hide hxd
            clear hHeld hxd hyh hyn hyh2 hyn2 hcy
            go_wp2_with fail
            go_loopw [16] (fun kv W => ∃ q : Nat, kv = .int .i64 (q : Int) ∧ q ≤ i ∧ Hid (Below w9.heap.size w9 W)) (fun kv _ => i - (intOf kv).toNat)
            case atStart => exact ⟨0, rfl, by omega, HXD⟩
            case round =>
              obtain ⟨q, rfl, hqi', HL2⟩ := hrel
              by_cases hqi : q < i
              · have hqiI : (q : Int) < (i : Int) := by omega
                have hqj : (q : Int) < (j : Int) := by omega
                have hq0 : (0 : Int) ≤ (q : Int) := by omega
                obtain ⟨z, hz⟩ : ∃ z, S.ns.getD q 0 = z := ⟨_, rfl⟩
                have hcz : ∀ W, Below w9.heap.size w9 W → W.cell? ⟨g2, q, none⟩ = some (.int .i64 (z : Int)) := fun W hW => by rw [← hz]; exact unhide HNS W hW q (by omega)
                have hcy := HCY.out
                have hzy : ((z : Int) == (y : Int)) = false := by
                  have h1 := unhide HNE q hqi
                  rw [hz] at h1
                  simp
                  omega
                have hxe : Below w9.heap.size w9 wr.drew := HL2.out.trans (Below.refl _ _).drew
                clear hz
                go_wp2_with fail
                refine wp_region_held_drew (S := fun W => W.cell? ⟨g2, i, none⟩ = some (.int .i64 (y : Int)) ∧ W.cell? ⟨g2, q, none⟩ = some (.int .i64 (z : Int))) (by kernel_rfl) (⟨hcy _ hxe, hcz _ hxe⟩) (fun hHeld => ?_)
                refine wpAnyH_take (i := 0) (v := .slice (some ⟨g2, 0, none⟩) j c2) rfl (by kernel_rfl) (by kernel_rfl) (by kernel_rfl) (fun _ _ _ h => h) (Or.inl ⟨by rfl, fun w hSw => by obtain ⟨hS1, hS2⟩ := hSw; go_simp⟩) (by assumption) ?_
                simp only [List.getElem_toArray, List.getElem_cons_zero, Act.put, List.setIfInBounds_toArray, List.set_cons_zero, List.set_cons_succ]
                refine wpAnyH_take (i := 1) (v := .int .i64 (q : Int)) rfl (by kernel_rfl) (by kernel_rfl) (by kernel_rfl) (fun _ _ _ h => h) (Or.inl ⟨by rfl, fun w hSw => by obtain ⟨hS1, hS2⟩ := hSw; go_simp⟩) (by assumption) ?_
                simp only [List.getElem_toArray, List.getElem_cons_succ, List.getElem_cons_zero, Act.put, List.setIfInBounds_toArray, List.set_cons_zero, List.set_cons_succ]
                refine wpAnyH_take (i := 2) (v := .pointer (some ⟨g2, q, none⟩)) rfl (by kernel_rfl) (by kernel_rfl) (by kernel_rfl) (fun _ _ _ h => h) (Or.inl ⟨by rfl, fun w hSw => by obtain ⟨hS1, hS2⟩ := hSw; go_simp⟩) (by assumption) ?_
                simp only [List.getElem_toArray, List.getElem_cons_succ, List.getElem_cons_zero, Act.put, List.setIfInBounds_toArray, List.set_cons_zero, List.set_cons_succ]
                refine wpAnyH_take (i := 3) (v := .int .i64 (z : Int)) rfl (by kernel_rfl) (by kernel_rfl) (by kernel_rfl) (fun _ _ _ h => h) (Or.inl ⟨by rfl, fun w hSw => by obtain ⟨hS1, hS2⟩ := hSw; go_simp⟩) (by assumption) ?_
                simp only [List.getElem_toArray, List.getElem_cons_succ, List.getElem_cons_zero, Act.put, List.setIfInBounds_toArray, List.set_cons_zero, List.set_cons_succ]
                refine wpAnyH_take (i := 4) (v := .slice (some ⟨g2, 0, none⟩) j c2) rfl (by kernel_rfl) (by kernel_rfl) (by kernel_rfl) (fun _ _ _ h => h) (Or.inl ⟨by rfl, fun w hSw => by obtain ⟨hS1, hS2⟩ := hSw; go_simp⟩) (by assumption) ?_
                simp only [List.getElem_toArray, List.getElem_cons_succ, List.getElem_cons_zero, Act.put, List.setIfInBounds_toArray, List.set_cons_zero, List.set_cons_succ]
                refine wpAnyH_take (i := 5) (v := .int .i64 (i : Int)) rfl (by kernel_rfl) (by kernel_rfl) (by kernel_rfl) (fun _ _ _ h => h) (Or.inl ⟨by rfl, fun w hSw => by obtain ⟨hS1, hS2⟩ := hSw; go_simp⟩) (by assumption) ?_
                simp only [List.getElem_toArray, List.getElem_cons_succ, List.getElem_cons_zero, Act.put, List.setIfInBounds_toArray, List.set_cons_zero, List.set_cons_succ]
                refine wpAnyH_take (i := 6) (v := .pointer (some ⟨g2, i, none⟩)) rfl (by kernel_rfl) (by kernel_rfl) (by kernel_rfl) (fun _ _ _ h => h) (Or.inl ⟨by rfl, fun w hSw => by obtain ⟨hS1, hS2⟩ := hSw; go_simp⟩) (by assumption) ?_
                simp only [List.getElem_toArray, List.getElem_cons_succ, List.getElem_cons_zero, Act.put, List.setIfInBounds_toArray, List.set_cons_zero, List.set_cons_succ]
                refine wpAnyH_take (i := 7) (v := .int .i64 (y : Int)) rfl (by kernel_rfl) (by kernel_rfl) (by kernel_rfl) (fun _ _ _ h => h) (Or.inl ⟨by rfl, fun w hSw => by obtain ⟨hS1, hS2⟩ := hSw; go_simp⟩) (by assumption) ?_
                simp only [List.getElem_toArray, List.getElem_cons_succ, List.getElem_cons_zero, Act.put, List.setIfInBounds_toArray, List.set_cons_zero, List.set_cons_succ]
                refine wpAnyH_take (i := 8) (v := .bool false) rfl (by kernel_rfl) (by kernel_rfl) (by kernel_rfl) (fun _ _ _ h => h) (Or.inl ⟨by rfl, fun w hSw => by obtain ⟨hS1, hS2⟩ := hSw; go_simp⟩) (by assumption) ?_
                simp only [List.getElem_toArray, List.getElem_cons_succ, List.getElem_cons_zero, Act.put, List.setIfInBounds_toArray, List.set_cons_zero, List.set_cons_succ]
                refine wpAnyH_done (by kernel_rfl) ?_ _
                have HXE := hide hxe
                clear hHeld hxe hcz hcy
                go_wp2
                go_roundw
                case rel => exact ⟨q + 1, by go_num, by omega, HXE⟩
                case measure => simp [intOf]; omega
              · have hqiI : ¬ (q : Int) < (i : Int) := by omega
                go_wp2
                go_roundw
                case rel => exact ⟨i + 1, by go_num, by omega, HL2⟩
                case measure => simp [intOf]; omega
          · have hijI : ¬ (i : Int) < (j : Int) := by omega
            have hrdw := HRD9.out.below HL.out
            have HBY := hide (rbytes_any hrdw HOB.out (fun hb => (HRE.out.bad hb).1) HBYL.out)
            clear hrdw
            go_wp2_with fail
            refine (unhide HBY).mono ?_
            rintro e w11 ⟨ba, bn, bc, rfl, hown, hb11⟩
            have hx11 : Below w9.heap.size w9 w11 := HL.out.trans (hb11.mono HL.out.size)
            have hxd11 : Below w9.heap.size w9 w11.drew := hx11.trans (Below.refl _ _).drew
            obtain ⟨z, hzz⟩ : ∃ z, S.br = z := ⟨_, rfl⟩
            have HBR : Hid (∀ W, Below w9.heap.size w9 W → Calls Tryd.prog 26 #[.pointer (some ⟨pr, 0, none⟩)] W fun e w' => e = .returned (.int .i64 z) ∧ w' = W) := hide (fun W hW => by
              have h1 := rbroken_calls (HRD9.out.below hW)
              rw [hzz] at h1
              exact h1)
            have HSTT : Hid (∀ W, Below w9.heap.size w9 W → Calls Tryd.prog 13 #[] W fun e w' => e = .returned (.bool true) ∧ Below W.heap.size W w') := hide (fun W hW => started_calls (unhide HKW W hW).2.2.2.2.1)
            have hcf : ∀ W, Below w9.heap.size w9 W → W.cell? ⟨gq, 32, none⟩ = some (.int .i64 (f : Int)) := fun W hW => arr_cell (unhide HKW W hW).2.2.1 (refV_32 HHL.out _ _)
            by_cases hz : S.br = 0
            · have hoe0 : oe = 0 := by rw [HOE.out]; unfold outE; rw [if_pos hz]
              have hoe1 : (oe != 0) = false := by rw [hoe0]; rfl
              have hKj : (S.ns.length : Int) = secN le := by
                have h1 := HOB.out
                unfold outB at h1
                rw [if_pos hz] at h1
                exact of_decide_eq_true h1
              have hgd := HRE.out.good hz hKj
              rw [HLJ.out, HKK.out] at hKj
              have hjK2 : ((j : Int) == (K : Int)) = true := by simp; omega
              have hz0 : z = 0 := by rw [← hzz]; exact hz
              have hz1 : (z == 0) = true := by rw [hz0]; rfl
              have hbl : ((bn : Int) == le) = true := by
                have h1 := hown.isB.lenEq
                simp
                omega
              have HSM : Hid (Calls Tryd.prog 27 #[.slice (some ⟨w11.drew.heap.size, 0, none⟩) 1 1] (w11.drew.alloc (.cells #[.slice ba bn bc] 26)) fun e w' => e = .returned (.agg (hs.map (Value.int .u8)).toArray) ∧ Below w11.heap.size w11 w') := hide (by
                have hb0 : Below w11.heap.size w11 w11.drew := (Below.refl _ _).drew
                have hb := (Below.refl w11.drew.heap.size w11.drew).alloc (Nat.le_refl _) (.cells #[.slice ba bn bc] 26)
                have hT2 := ((unhide HKW _ hxd11).2.2.2.2.1).below hb
                have h3 := sums_calls (isBB_one (hown.isB.below hb0)) (by have := HBYL.out; simp; omega) hT2.k hT2.s
                have e : keyV ([S.by_] : List (List Int)).flatten = .agg (hs.map (Value.int .u8)).toArray := by
                  rw [show ([S.by_] : List (List Int)).flatten = S.by_ by simp, ← hgd.2]
                  rfl
                rw [e] at h3
                refine h3.mono ?_
                rintro e w' ⟨rfl, hb9⟩
                exact ⟨rfl, (hb0.trans (hb.mono hb0.size)).trans (hb9.mono (hb0.trans (hb.mono hb0.size)).size)⟩)
              have hiK := infoKey HHL.out
              have hkq : ∀ W : World, (binOp .eql 32 (.agg (hs.map (Value.int .u8)).toArray) (.agg (hs.map (Value.int .u8)).toArray)).run Tryd.prog W = .ok (.bool true) W := fun W => by
                rw [key_eql _ _ HHL.out HHL.out, decide_eq_true rfl]
              have HSQ : Hid (∀ W, Below w9.heap.size w9 W → W.cell? ⟨gq, 33, none⟩ = some (.int .i64 le) ∧ W.rangeAt gq 0 (hs.map (Value.int .u8))) := hide (fun W hW => by
                have h1 := (unhide HKW W hW).2.2.1
                exact ⟨arr_cell h1 (refV_33 HHL.out _ _), ref_key (arr_range (ds := []) (by rw [List.append_nil]; exact h1))⟩)
              generalize hs.map (Value.int .u8) = KV at HSM hiK hkq HSQ
              clear hoe0 hgd hz hKj hown hb11 hcf hz0 hzz HBY hijI
              go_wp2_with (go_at_call 10; refine (unhide HNU _ _).mono ?_; rintro e wn ⟨rfl, hwn⟩; obtain rfl := hwn.symm; clear hwn)
              refine wp_region_held_drew (S := fun W => W.cell? ⟨gq, 33, none⟩ = some (.int .i64 le) ∧ W.rangeAt gq 0 KV) (by kernel_rfl) (unhide HSQ _ hxd11) (fun hHeld => ?_)
              refine wpAnyH_take (i := 0) (v := .slice (ba) bn bc) rfl (by kernel_rfl) (by kernel_rfl) (by kernel_rfl) (fun _ _ _ h => h) (Or.inl ⟨by rfl, fun w hSw => by obtain ⟨hS1, hS2⟩ := hSw; go_simp⟩) (by assumption) ?_
              simp only [List.getElem_toArray, List.getElem_cons_zero, Act.put, List.setIfInBounds_toArray, List.set_cons_zero, List.set_cons_succ]
              refine wpAnyH_take (i := 1) (v := .int .i64 (bn : Int)) rfl (by kernel_rfl) (by kernel_rfl) (by kernel_rfl) (fun _ _ _ h => h) (Or.inl ⟨by rfl, fun w hSw => by obtain ⟨hS1, hS2⟩ := hSw; go_simp⟩) (by assumption) ?_
              simp only [List.getElem_toArray, List.getElem_cons_succ, List.getElem_cons_zero, Act.put, List.setIfInBounds_toArray, List.set_cons_zero, List.set_cons_succ]
              refine wpAnyH_take (i := 2) (v := .pointer (some ⟨gq, 33, none⟩)) rfl (by kernel_rfl) (by kernel_rfl) (by kernel_rfl) (fun _ _ _ h => h) (Or.inl ⟨by rfl, fun w hSw => by obtain ⟨hS1, hS2⟩ := hSw; go_simp⟩) (by assumption) ?_
              simp only [List.getElem_toArray, List.getElem_cons_succ, List.getElem_cons_zero, Act.put, List.setIfInBounds_toArray, List.set_cons_zero, List.set_cons_succ]
              refine wpAnyH_take (i := 3) (v := .int .i64 le) rfl (by kernel_rfl) (by kernel_rfl) (by kernel_rfl) (fun _ _ _ h => h) (Or.inl ⟨by rfl, fun w hSw => by obtain ⟨hS1, hS2⟩ := hSw; go_simp⟩) (by assumption) ?_
              simp only [List.getElem_toArray, List.getElem_cons_succ, List.getElem_cons_zero, Act.put, List.setIfInBounds_toArray, List.set_cons_zero, List.set_cons_succ]
              refine wpAnyH_take (i := 4) (v := .bool true) rfl (by kernel_rfl) (by kernel_rfl) (by kernel_rfl) (fun _ _ _ h => h) (Or.inl ⟨by rfl, fun w hSw => by obtain ⟨hS1, hS2⟩ := hSw; go_simp⟩) (by assumption) ?_
              simp only [List.getElem_toArray, List.getElem_cons_succ, List.getElem_cons_zero, Act.put, List.setIfInBounds_toArray, List.set_cons_zero, List.set_cons_succ]
              refine wpAnyH_take (i := 5) (v := .bool true) rfl (by kernel_rfl) (by kernel_rfl) (by kernel_rfl) (fun _ _ _ h => h) (Or.inl ⟨by rfl, fun w hSw => by obtain ⟨hS1, hS2⟩ := hSw; go_simp⟩) (by assumption) ?_
              simp only [List.getElem_toArray, List.getElem_cons_succ, List.getElem_cons_zero, Act.put, List.setIfInBounds_toArray, List.set_cons_zero, List.set_cons_succ]
              refine wpAnyH_take (i := 6) (v := .slice (ba) bn bc) rfl (by kernel_rfl) (by kernel_rfl) (by kernel_rfl) (fun _ _ _ h => h) (Or.inl ⟨by rfl, fun w hSw => by obtain ⟨hS1, hS2⟩ := hSw; go_simp⟩) (by assumption) ?_
              simp only [List.getElem_toArray, List.getElem_cons_succ, List.getElem_cons_zero, Act.put, List.setIfInBounds_toArray, List.set_cons_zero, List.set_cons_succ]
              refine wpAnyH_take (i := 9) (v := .pointer (some ⟨gq, 0, none⟩)) rfl (by kernel_rfl) (by kernel_rfl) (by kernel_rfl) (fun _ _ _ h => h) (Or.inl ⟨by rfl, fun w hSw => by obtain ⟨hS1, hS2⟩ := hSw; go_simp⟩) (by assumption) ?_
              simp only [List.getElem_toArray, List.getElem_cons_succ, List.getElem_cons_zero, Act.put, List.setIfInBounds_toArray, List.set_cons_zero, List.set_cons_succ]
              refine wpAnyH_take (i := 10) (v := .agg (KV).toArray) rfl (by kernel_rfl) (by kernel_rfl) (by kernel_rfl) (fun _ _ _ h => h) (yieldsIf_load_mid (by rfl) _ _ rfl _ _ rfl _ _ (fun w hSw => hSw.2) Tryd.underlying32 rfl hiK) (by assumption) ?_
              simp only [List.getElem_toArray, List.getElem_cons_succ, List.getElem_cons_zero, Act.put, List.setIfInBounds_toArray, List.set_cons_zero, List.set_cons_succ]
              refine wpAnyH_ready (rs := [7]) (by kernel_rfl) (by simp) (AllReadyH.cons rfl (fun K hK => ?_) AllReadyH.nil)
              refine step_buildSlW (by rfl) (.tmp 172) rfl rfl ?_
              have hxl : Below w9.heap.size w9 (w11.drew.alloc (.cells #[.slice ba bn bc] 26)) := hxd11.alloc hxd11.size _
              refine hK.out _ _ (unhide HSQ _ hxl) (fun hJ0 => ?_)
              clear hK K
              simp only [List.getElem_toArray, List.getElem_cons_succ, List.getElem_cons_zero, Act.put, List.setIfInBounds_toArray, List.set_cons_zero, List.set_cons_succ]
              refine wpAnyH_ready (rs := [8]) (by kernel_rfl) (by simp) (AllReadyH.cons rfl (fun K hK => ?_) AllReadyH.nil)
              refine step_call1GC (by rfl) 27 shasum_enter (.tmp 173) _ rfl rfl (unhide HSM) ?_
              rintro e wx ⟨rfl, hbx⟩
              have hxx : Below w9.heap.size w9 wx := hx11.trans (hbx.mono hx11.size)
              refine ⟨_, rfl, ?_⟩
              refine hK.out _ _ (unhide HSQ _ hxx) (fun hJ1 => ?_)
              clear hK K
              simp only [List.getElem_toArray, List.getElem_cons_succ, List.getElem_cons_zero, Act.put, List.setIfInBounds_toArray, List.set_cons_zero, List.set_cons_succ]
              refine wpAnyH_take (i := 11) (v := .bool true) rfl (by kernel_rfl) (by kernel_rfl) (by kernel_rfl) (fun _ _ _ h => h) (Or.inl ⟨by rfl, fun w hSw => by obtain ⟨hS1, hS2⟩ := hSw; go_simp⟩) (by assumption) ?_
              simp only [List.getElem_toArray, List.getElem_cons_succ, List.getElem_cons_zero, Act.put, List.setIfInBounds_toArray, List.set_cons_zero, List.set_cons_succ]
              refine wpAnyH_take (i := 12) (v := .bool true) rfl (by kernel_rfl) (by kernel_rfl) (by kernel_rfl) (fun _ _ _ h => h) (Or.inl ⟨by rfl, fun w hSw => by obtain ⟨hS1, hS2⟩ := hSw; go_simp⟩) (by assumption) ?_
              simp only [List.getElem_toArray, List.getElem_cons_succ, List.getElem_cons_zero, Act.put, List.setIfInBounds_toArray, List.set_cons_zero, List.set_cons_succ]
              refine wpAnyH_take (i := 13) (v := .bool true) rfl (by kernel_rfl) (by kernel_rfl) (by kernel_rfl) (fun _ _ _ h => h) (Or.inl ⟨by rfl, fun w hSw => by obtain ⟨hS1, hS2⟩ := hSw; go_simp⟩) (by assumption) ?_
              simp only [List.getElem_toArray, List.getElem_cons_succ, List.getElem_cons_zero, Act.put, List.setIfInBounds_toArray, List.set_cons_zero, List.set_cons_succ]
              refine wpAnyH_take (i := 14) (v := .int .i64 (j : Int)) rfl (by kernel_rfl) (by kernel_rfl) (by kernel_rfl) (fun _ _ _ h => h) (Or.inl ⟨by rfl, fun w hSw => by obtain ⟨hS1, hS2⟩ := hSw; go_simp⟩) (by assumption) ?_
              simp only [List.getElem_toArray, List.getElem_cons_succ, List.getElem_cons_zero, Act.put, List.setIfInBounds_toArray, List.set_cons_zero, List.set_cons_succ]
              refine wpAnyH_take (i := 15) (v := .pointer (some ⟨gq, 33, none⟩)) rfl (by kernel_rfl) (by kernel_rfl) (by kernel_rfl) (fun _ _ _ h => h) (Or.inl ⟨by rfl, fun w hSw => by obtain ⟨hS1, hS2⟩ := hSw; go_simp⟩) (by assumption) ?_
              simp only [List.getElem_toArray, List.getElem_cons_succ, List.getElem_cons_zero, Act.put, List.setIfInBounds_toArray, List.set_cons_zero, List.set_cons_succ]
              refine wpAnyH_take (i := 16) (v := .int .i64 le) rfl (by kernel_rfl) (by kernel_rfl) (by kernel_rfl) (fun _ _ _ h => h) (Or.inl ⟨by rfl, fun w hSw => by obtain ⟨hS1, hS2⟩ := hSw; go_simp⟩) (by assumption) ?_
              simp only [List.getElem_toArray, List.getElem_cons_succ, List.getElem_cons_zero, Act.put, List.setIfInBounds_toArray, List.set_cons_zero, List.set_cons_succ]
              refine wpAnyH_ready (rs := [17]) (by kernel_rfl) (by simp) (AllReadyH.cons rfl (fun K hK => ?_) AllReadyH.nil)
              refine step_call1GC (by rfl) 11 sectors_enter6 (.tmp 182) _ rfl rfl (unhide HSEC _) ?_
              rintro e wn ⟨rfl, hwn⟩
              obtain rfl := hwn.symm
              clear hwn
              refine ⟨_, rfl, ?_⟩
              refine hK.out _ _ (hJ1) (fun hJ2 => ?_)
              clear hK K
              simp only [List.getElem_toArray, List.getElem_cons_succ, List.getElem_cons_zero, Act.put, List.setIfInBounds_toArray, List.set_cons_zero, List.set_cons_succ]
              refine wpAnyH_take (i := 18) (v := .bool true) rfl (by kernel_rfl) (by kernel_rfl) (by kernel_rfl) (fun _ _ _ h => h) (Or.inl ⟨by rfl, fun w hSw => by obtain ⟨hS1, hS2⟩ := hSw; go_simp⟩) (by assumption) ?_
              simp only [List.getElem_toArray, List.getElem_cons_succ, List.getElem_cons_zero, Act.put, List.setIfInBounds_toArray, List.set_cons_zero, List.set_cons_succ]
              refine wpAnyH_take (i := 19) (v := .bool true) rfl (by kernel_rfl) (by kernel_rfl) (by kernel_rfl) (fun _ _ _ h => h) (Or.inl ⟨by rfl, fun w hSw => by obtain ⟨hS1, hS2⟩ := hSw; go_simp⟩) (by assumption) ?_
              simp only [List.getElem_toArray, List.getElem_cons_succ, List.getElem_cons_zero, Act.put, List.setIfInBounds_toArray, List.set_cons_zero, List.set_cons_succ]
              refine wpAnyH_take (i := 20) (v := .bool true) rfl (by kernel_rfl) (by kernel_rfl) (by kernel_rfl) (fun _ _ _ h => h) (Or.inl ⟨by rfl, fun w hSw => by obtain ⟨hS1, hS2⟩ := hSw; go_simp⟩) (by assumption) ?_
              simp only [List.getElem_toArray, List.getElem_cons_succ, List.getElem_cons_zero, Act.put, List.setIfInBounds_toArray, List.set_cons_zero, List.set_cons_succ]
              refine wpAnyH_take (i := 21) (v := .pointer (some ⟨pr, 0, none⟩)) rfl (by kernel_rfl) (by kernel_rfl) (by kernel_rfl) (fun _ _ _ h => h) (Or.inl ⟨by rfl, fun w hSw => by obtain ⟨hS1, hS2⟩ := hSw; go_simp⟩) (by assumption) ?_
              simp only [List.getElem_toArray, List.getElem_cons_succ, List.getElem_cons_zero, Act.put, List.setIfInBounds_toArray, List.set_cons_zero, List.set_cons_succ]
              refine wpAnyH_ready (rs := [22]) (by kernel_rfl) (by simp) (AllReadyH.cons rfl (fun K hK => ?_) AllReadyH.nil)
              refine step_call1GC (by rfl) 26 broken_enter6 (.tmp 187) _ rfl rfl (unhide HBR _ hxx) ?_
              rintro e wn ⟨rfl, hwn⟩
              obtain rfl := hwn.symm
              clear hwn
              refine ⟨_, rfl, ?_⟩
              refine hK.out _ _ (hJ2) (fun hJ3 => ?_)
              clear hK K
              simp only [List.getElem_toArray, List.getElem_cons_succ, List.getElem_cons_zero, Act.put, List.setIfInBounds_toArray, List.set_cons_zero, List.set_cons_succ]
              refine wpAnyH_take (i := 23) (v := .bool true) rfl (by kernel_rfl) (by kernel_rfl) (by kernel_rfl) (fun _ _ _ h => h) (Or.inl ⟨by rfl, fun w hSw => by obtain ⟨hS1, hS2⟩ := hSw; go_simp⟩) (by assumption) ?_
              simp only [List.getElem_toArray, List.getElem_cons_succ, List.getElem_cons_zero, Act.put, List.setIfInBounds_toArray, List.set_cons_zero, List.set_cons_succ]
              refine wpAnyH_take (i := 24) (v := .bool true) rfl (by kernel_rfl) (by kernel_rfl) (by kernel_rfl) (fun _ _ _ h => h) (Or.inl ⟨by rfl, fun w hSw => by obtain ⟨hS1, hS2⟩ := hSw; go_simp⟩) (by assumption) ?_
              simp only [List.getElem_toArray, List.getElem_cons_succ, List.getElem_cons_zero, Act.put, List.setIfInBounds_toArray, List.set_cons_zero, List.set_cons_succ]
              refine wpAnyH_take (i := 25) (v := .bool true) rfl (by kernel_rfl) (by kernel_rfl) (by kernel_rfl) (fun _ _ _ h => h) (Or.inl ⟨by rfl, fun w hSw => by obtain ⟨hS1, hS2⟩ := hSw; go_simp⟩) (by assumption) ?_
              simp only [List.getElem_toArray, List.getElem_cons_succ, List.getElem_cons_zero, Act.put, List.setIfInBounds_toArray, List.set_cons_zero, List.set_cons_succ]
              refine wpAnyH_ready (rs := [26]) (by kernel_rfl) (by simp) (AllReadyH.cons rfl (fun K hK => ?_) AllReadyH.nil)
              refine step_call0C (by rfl) 13 started_enter6 _ rfl (unhide HSTT _ hxx) ?_
              rintro e wz ⟨rfl, hbz⟩
              refine ⟨_, rfl, ?_⟩
              refine hK.out _ _ (unhide HSQ _ (hxx.trans (hbz.mono hxx.size))) (fun hJ4 => ?_)
              clear hK K
              simp only [List.getElem_toArray, List.getElem_cons_succ, List.getElem_cons_zero, Act.put, List.setIfInBounds_toArray, List.set_cons_zero, List.set_cons_succ]
              refine wpAnyH_take (i := 27) (v := .bool true) rfl (by kernel_rfl) (by kernel_rfl) (by kernel_rfl) (fun _ _ _ h => h) (Or.inl ⟨by rfl, fun w hSw => by obtain ⟨hS1, hS2⟩ := hSw; go_simp⟩) (by assumption) ?_
              simp only [List.getElem_toArray, List.getElem_cons_succ, List.getElem_cons_zero, Act.put, List.setIfInBounds_toArray, List.set_cons_zero, List.set_cons_succ]
              refine wpAnyH_take (i := 28) (v := .bool true) rfl (by kernel_rfl) (by kernel_rfl) (by kernel_rfl) (fun _ _ _ h => h) (Or.inl ⟨by rfl, fun w hSw => by obtain ⟨hS1, hS2⟩ := hSw; go_simp⟩) (by assumption) ?_
              simp only [List.getElem_toArray, List.getElem_cons_succ, List.getElem_cons_zero, Act.put, List.setIfInBounds_toArray, List.set_cons_zero, List.set_cons_succ]
              refine wpAnyH_done (by kernel_rfl) ?_ _
              go_wp2
              go_ret
              have y1 := (unhide HKW wx hxx).2.2.2.2.2
              exact ⟨rfl, y1.trans (hbz.mono y1.size)⟩
            · have hoe0 : oe = 61 := by rw [HOE.out]; unfold outE; rw [if_neg hz]
              have hoe1 : (oe != 0) = true := by rw [hoe0]; rfl
              have hoe2 : (oe == 61) = true := by rw [hoe0]; rfl
              have hbd := HRE.out.bad hz
              have hbn : bn = 0 := by
                have h1 := hown.isB.lenEq
                rw [hbd.1] at h1
                exact h1
              subst hbn
              obtain ⟨km, hkm⟩ : ∃ km : Nat, (j : Int) - 1 = (km : Int) := ⟨j - 1, by omega⟩
              have hkw : IntKind.i64.wrap ((j : Int) - 1) = (km : Int) := by rw [hkm]; exact IntWalk.i64_in _ (by omega)
              have hkj : (km : Int) < (j : Int) := by omega
              have hk0 : (0 : Int) ≤ (km : Int) := by omega
              obtain ⟨y, hy⟩ : ∃ y, S.ns.getD km 0 = y := ⟨_, rfl⟩
              have hcy : ∀ W, Below w9.heap.size w9 W → W.cell? ⟨g2, km, none⟩ = some (.int .i64 (y : Int)) := fun W hW => by rw [← hy]; exact unhide HNS W hW km (by omega)
              have hzy : z = (f : Int) ∨ z = (y : Int) := by
                rcases hbd.2 with h1 | h1
                · exact Or.inl (by rw [← hzz]; exact h1)
                · refine Or.inr ?_
                  rw [← hzz, h1, HLJ.out, show j - 1 = km by omega, hy]
              clear hoe0 hbd hz hown hb11 hzz HBY hkm hy
              go_wp2_with (go_at_call 10; refine (unhide HNU _ _).mono ?_; rintro e wn ⟨rfl, hwn⟩; obtain rfl := hwn.symm; clear hwn)
              by_cases hzf : z = (f : Int)
              · have hzf1 : (z == (f : Int)) = true := by rw [hzf]; simp
                clear hzf hzy
                refine wp_region_held_drew (S := fun W => W.cell? ⟨gq, 32, none⟩ = some (.int .i64 (f : Int)) ∧ W.cell? ⟨g2, km, none⟩ = some (.int .i64 (y : Int))) (by kernel_rfl) (⟨hcf _ hxd11, hcy _ hxd11⟩) (fun hHeld => ?_)
                refine wpAnyH_take (i := 0) (v := .int .i64 oe) rfl (by kernel_rfl) (by kernel_rfl) (by kernel_rfl) (fun _ _ _ h => h) (Or.inl ⟨by rfl, fun w hSw => by obtain ⟨hS1, hS2⟩ := hSw; go_simp⟩) (by assumption) ?_
                simp only [List.getElem_toArray, List.getElem_cons_zero, Act.put, List.setIfInBounds_toArray, List.set_cons_zero, List.set_cons_succ]
                refine wpAnyH_ready (rs := [1]) (by kernel_rfl) (by simp) (AllReadyH.cons rfl (fun K hK => ?_) AllReadyH.nil)
                refine step_call1C (by rfl) 10 num6_enter (.tmp 138) _ rfl rfl (num6_calls oe _) ?_
                rintro e wn ⟨rfl, hwn⟩
                obtain rfl := hwn.symm
                clear hwn
                refine ⟨_, rfl, ?_⟩
                refine hK.out _ _ (hHeld) (fun hJ0 => ?_)
                clear hK K
                simp only [List.getElem_toArray, List.getElem_cons_succ, List.getElem_cons_zero, Act.put, List.setIfInBounds_toArray, List.set_cons_zero, List.set_cons_succ]
                refine wpAnyH_take (i := 2) (v := .bool true) rfl (by kernel_rfl) (by kernel_rfl) (by kernel_rfl) (fun _ _ _ h => h) (Or.inl ⟨by rfl, fun w hSw => by obtain ⟨hS1, hS2⟩ := hSw; go_simp⟩) (by assumption) ?_
                simp only [List.getElem_toArray, List.getElem_cons_succ, List.getElem_cons_zero, Act.put, List.setIfInBounds_toArray, List.set_cons_zero, List.set_cons_succ]
                refine wpAnyH_take (i := 3) (v := .bool true) rfl (by kernel_rfl) (by kernel_rfl) (by kernel_rfl) (fun _ _ _ h => h) (Or.inl ⟨by rfl, fun w hSw => by obtain ⟨hS1, hS2⟩ := hSw; go_simp⟩) (by assumption) ?_
                simp only [List.getElem_toArray, List.getElem_cons_succ, List.getElem_cons_zero, Act.put, List.setIfInBounds_toArray, List.set_cons_zero, List.set_cons_succ]
                refine wpAnyH_take (i := 4) (v := .slice (ba) 0 bc) rfl (by kernel_rfl) (by kernel_rfl) (by kernel_rfl) (fun _ _ _ h => h) (Or.inl ⟨by rfl, fun w hSw => by obtain ⟨hS1, hS2⟩ := hSw; go_simp⟩) (by assumption) ?_
                simp only [List.getElem_toArray, List.getElem_cons_succ, List.getElem_cons_zero, Act.put, List.setIfInBounds_toArray, List.set_cons_zero, List.set_cons_succ]
                refine wpAnyH_take (i := 5) (v := .int .i64 0) rfl (by kernel_rfl) (by kernel_rfl) (by kernel_rfl) (fun _ _ _ h => h) (Or.inl ⟨by rfl, fun w hSw => by obtain ⟨hS1, hS2⟩ := hSw; go_simp⟩) (by assumption) ?_
                simp only [List.getElem_toArray, List.getElem_cons_succ, List.getElem_cons_zero, Act.put, List.setIfInBounds_toArray, List.set_cons_zero, List.set_cons_succ]
                refine wpAnyH_take (i := 6) (v := .bool true) rfl (by kernel_rfl) (by kernel_rfl) (by kernel_rfl) (fun _ _ _ h => h) (Or.inl ⟨by rfl, fun w hSw => by obtain ⟨hS1, hS2⟩ := hSw; go_simp⟩) (by assumption) ?_
                simp only [List.getElem_toArray, List.getElem_cons_succ, List.getElem_cons_zero, Act.put, List.setIfInBounds_toArray, List.set_cons_zero, List.set_cons_succ]
                refine wpAnyH_take (i := 7) (v := .bool true) rfl (by kernel_rfl) (by kernel_rfl) (by kernel_rfl) (fun _ _ _ h => h) (Or.inl ⟨by rfl, fun w hSw => by obtain ⟨hS1, hS2⟩ := hSw; go_simp⟩) (by assumption) ?_
                simp only [List.getElem_toArray, List.getElem_cons_succ, List.getElem_cons_zero, Act.put, List.setIfInBounds_toArray, List.set_cons_zero, List.set_cons_succ]
                refine wpAnyH_take (i := 8) (v := .bool true) rfl (by kernel_rfl) (by kernel_rfl) (by kernel_rfl) (fun _ _ _ h => h) (Or.inl ⟨by rfl, fun w hSw => by obtain ⟨hS1, hS2⟩ := hSw; go_simp⟩) (by assumption) ?_
                simp only [List.getElem_toArray, List.getElem_cons_succ, List.getElem_cons_zero, Act.put, List.setIfInBounds_toArray, List.set_cons_zero, List.set_cons_succ]
                refine wpAnyH_take (i := 9) (v := .pointer (some ⟨pr, 0, none⟩)) rfl (by kernel_rfl) (by kernel_rfl) (by kernel_rfl) (fun _ _ _ h => h) (Or.inl ⟨by rfl, fun w hSw => by obtain ⟨hS1, hS2⟩ := hSw; go_simp⟩) (by assumption) ?_
                simp only [List.getElem_toArray, List.getElem_cons_succ, List.getElem_cons_zero, Act.put, List.setIfInBounds_toArray, List.set_cons_zero, List.set_cons_succ]
                refine wpAnyH_take (i := 11) (v := .pointer (some ⟨gq, 32, none⟩)) rfl (by kernel_rfl) (by kernel_rfl) (by kernel_rfl) (fun _ _ _ h => h) (Or.inl ⟨by rfl, fun w hSw => by obtain ⟨hS1, hS2⟩ := hSw; go_simp⟩) (by assumption) ?_
                simp only [List.getElem_toArray, List.getElem_cons_succ, List.getElem_cons_zero, Act.put, List.setIfInBounds_toArray, List.set_cons_zero, List.set_cons_succ]
                refine wpAnyH_take (i := 12) (v := .int .i64 (f : Int)) rfl (by kernel_rfl) (by kernel_rfl) (by kernel_rfl) (fun _ _ _ h => h) (Or.inl ⟨by rfl, fun w hSw => by obtain ⟨hS1, hS2⟩ := hSw; go_simp⟩) (by assumption) ?_
                simp only [List.getElem_toArray, List.getElem_cons_succ, List.getElem_cons_zero, Act.put, List.setIfInBounds_toArray, List.set_cons_zero, List.set_cons_succ]
                refine wpAnyH_ready (rs := [10]) (by kernel_rfl) (by simp) (AllReadyH.cons rfl (fun K hK => ?_) AllReadyH.nil)
                refine step_call1GC (by rfl) 26 broken_enter6 (.tmp 147) _ rfl rfl (unhide HBR _ hxd11) ?_
                rintro e wn ⟨rfl, hwn⟩
                obtain rfl := hwn.symm
                clear hwn
                refine ⟨_, rfl, ?_⟩
                refine hK.out _ _ (hHeld) (fun hJ1 => ?_)
                clear hK K
                simp only [List.getElem_toArray, List.getElem_cons_succ, List.getElem_cons_zero, Act.put, List.setIfInBounds_toArray, List.set_cons_zero, List.set_cons_succ]
                refine wpAnyH_take (i := 13) (v := .bool true) rfl (by kernel_rfl) (by kernel_rfl) (by kernel_rfl) (fun _ _ _ h => h) (Or.inl ⟨by rfl, fun w hSw => by obtain ⟨hS1, hS2⟩ := hSw; go_simp⟩) (by assumption) ?_
                simp only [List.getElem_toArray, List.getElem_cons_succ, List.getElem_cons_zero, Act.put, List.setIfInBounds_toArray, List.set_cons_zero, List.set_cons_succ]
                refine wpAnyH_take (i := 14) (v := .bool true) rfl (by kernel_rfl) (by kernel_rfl) (by kernel_rfl) (fun _ _ _ h => h) (Or.inl ⟨by rfl, fun w hSw => by obtain ⟨hS1, hS2⟩ := hSw; go_simp⟩) (by assumption) ?_
                simp only [List.getElem_toArray, List.getElem_cons_succ, List.getElem_cons_zero, Act.put, List.setIfInBounds_toArray, List.set_cons_zero, List.set_cons_succ]
                refine wpAnyH_take (i := 15) (v := undef) rfl (by kernel_rfl) (by kernel_rfl) (by kernel_rfl) (fun _ _ _ h => h) (Or.inr ⟨by rfl, rfl⟩) (by assumption) ?_
                simp only [List.getElem_toArray, List.getElem_cons_succ, List.getElem_cons_zero, Act.put, List.setIfInBounds_toArray, List.set_cons_zero, List.set_cons_succ]
                refine wpAnyH_take (i := 16) (v := undef) rfl (by kernel_rfl) (by kernel_rfl) (by kernel_rfl) (fun _ _ _ h => h) (Or.inr ⟨by rfl, rfl⟩) (by assumption) ?_
                simp only [List.getElem_toArray, List.getElem_cons_succ, List.getElem_cons_zero, Act.put, List.setIfInBounds_toArray, List.set_cons_zero, List.set_cons_succ]
                refine wpAnyH_take (i := 17) (v := undef) rfl (by kernel_rfl) (by kernel_rfl) (by kernel_rfl) (fun _ _ _ h => h) (Or.inr ⟨by rfl, rfl⟩) (by assumption) ?_
                simp only [List.getElem_toArray, List.getElem_cons_succ, List.getElem_cons_zero, Act.put, List.setIfInBounds_toArray, List.set_cons_zero, List.set_cons_succ]
                refine wpAnyH_take (i := 18) (v := undef) rfl (by kernel_rfl) (by kernel_rfl) (by kernel_rfl) (fun _ _ _ h => h) (Or.inr ⟨by rfl, rfl⟩) (by assumption) ?_
                simp only [List.getElem_toArray, List.getElem_cons_succ, List.getElem_cons_zero, Act.put, List.setIfInBounds_toArray, List.set_cons_zero, List.set_cons_succ]
                refine wpAnyH_take (i := 19) (v := undef) rfl (by kernel_rfl) (by kernel_rfl) (by kernel_rfl) (fun _ _ _ h => h) (Or.inr ⟨by rfl, rfl⟩) (by assumption) ?_
                simp only [List.getElem_toArray, List.getElem_cons_succ, List.getElem_cons_zero, Act.put, List.setIfInBounds_toArray, List.set_cons_zero, List.set_cons_succ]
                refine wpAnyH_take (i := 20) (v := undef) rfl (by kernel_rfl) (by kernel_rfl) (by kernel_rfl) (fun _ _ _ h => h) (Or.inr ⟨by rfl, rfl⟩) (by assumption) ?_
                simp only [List.getElem_toArray, List.getElem_cons_succ, List.getElem_cons_zero, Act.put, List.setIfInBounds_toArray, List.set_cons_zero, List.set_cons_succ]
                refine wpAnyH_take (i := 21) (v := undef) rfl (by kernel_rfl) (by kernel_rfl) (by kernel_rfl) (fun _ _ _ h => h) (Or.inr ⟨by rfl, rfl⟩) (by assumption) ?_
                simp only [List.getElem_toArray, List.getElem_cons_succ, List.getElem_cons_zero, Act.put, List.setIfInBounds_toArray, List.set_cons_zero, List.set_cons_succ]
                refine wpAnyH_take (i := 22) (v := undef) rfl (by kernel_rfl) (by kernel_rfl) (by kernel_rfl) (fun _ _ _ h => h) (Or.inr ⟨by rfl, rfl⟩) (by assumption) ?_
                simp only [List.getElem_toArray, List.getElem_cons_succ, List.getElem_cons_zero, Act.put, List.setIfInBounds_toArray, List.set_cons_zero, List.set_cons_succ]
                refine wpAnyH_take (i := 23) (v := .bool true) rfl (by kernel_rfl) (by kernel_rfl) (by kernel_rfl) (fun _ _ _ h => h) (Or.inl ⟨by rfl, fun w hSw => by obtain ⟨hS1, hS2⟩ := hSw; go_simp⟩) (by assumption) ?_
                simp only [List.getElem_toArray, List.getElem_cons_succ, List.getElem_cons_zero, Act.put, List.setIfInBounds_toArray, List.set_cons_zero, List.set_cons_succ]
                refine wpAnyH_take (i := 24) (v := .bool true) rfl (by kernel_rfl) (by kernel_rfl) (by kernel_rfl) (fun _ _ _ h => h) (Or.inl ⟨by rfl, fun w hSw => by obtain ⟨hS1, hS2⟩ := hSw; go_simp⟩) (by assumption) ?_
                simp only [List.getElem_toArray, List.getElem_cons_succ, List.getElem_cons_zero, Act.put, List.setIfInBounds_toArray, List.set_cons_zero, List.set_cons_succ]
                refine wpAnyH_take (i := 25) (v := .bool true) rfl (by kernel_rfl) (by kernel_rfl) (by kernel_rfl) (fun _ _ _ h => h) (Or.inl ⟨by rfl, fun w hSw => by obtain ⟨hS1, hS2⟩ := hSw; go_simp⟩) (by assumption) ?_
                simp only [List.getElem_toArray, List.getElem_cons_succ, List.getElem_cons_zero, Act.put, List.setIfInBounds_toArray, List.set_cons_zero, List.set_cons_succ]
                refine wpAnyH_ready (rs := [26]) (by kernel_rfl) (by simp) (AllReadyH.cons rfl (fun K hK => ?_) AllReadyH.nil)
                refine step_call0C (by rfl) 13 started_enter6 _ rfl (unhide HSTT _ hxd11) ?_
                rintro e wz ⟨rfl, hbz⟩
                refine ⟨_, rfl, ?_⟩
                refine hK.out _ _ (⟨hcf _ (hxd11.trans (hbz.mono hxd11.size)), hcy _ (hxd11.trans (hbz.mono hxd11.size))⟩) (fun hJ3 => ?_)
                clear hK K
                simp only [List.getElem_toArray, List.getElem_cons_succ, List.getElem_cons_zero, Act.put, List.setIfInBounds_toArray, List.set_cons_zero, List.set_cons_succ]
                refine wpAnyH_take (i := 27) (v := .bool true) rfl (by kernel_rfl) (by kernel_rfl) (by kernel_rfl) (fun _ _ _ h => h) (Or.inl ⟨by rfl, fun w hSw => by obtain ⟨hS1, hS2⟩ := hSw; go_simp⟩) (by assumption) ?_
                simp only [List.getElem_toArray, List.getElem_cons_succ, List.getElem_cons_zero, Act.put, List.setIfInBounds_toArray, List.set_cons_zero, List.set_cons_succ]
                refine wpAnyH_take (i := 28) (v := .bool true) rfl (by kernel_rfl) (by kernel_rfl) (by kernel_rfl) (fun _ _ _ h => h) (Or.inl ⟨by rfl, fun w hSw => by obtain ⟨hS1, hS2⟩ := hSw; go_simp⟩) (by assumption) ?_
                simp only [List.getElem_toArray, List.getElem_cons_succ, List.getElem_cons_zero, Act.put, List.setIfInBounds_toArray, List.set_cons_zero, List.set_cons_succ]
                refine wpAnyH_done (by kernel_rfl) ?_ _
                have y1 := (unhide HKW _ hxd11).2.2.2.2.2
                have HY := hide (y1.trans (hbz.mono y1.size))
                clear y1 hbz hHeld hJ0 hJ1 hJ3 hcf hcy
                go_wp2
                go_ret
                exact ⟨rfl, HY.out⟩
              · have hzf1 : (z == (f : Int)) = false := by simp; exact hzf
                have hzy1 : (z == (y : Int)) = true := by rw [hzy.resolve_left hzf]; simp
                clear hzf hzy
                refine wp_region_held_drew (S := fun W => W.cell? ⟨gq, 32, none⟩ = some (.int .i64 (f : Int)) ∧ W.cell? ⟨g2, km, none⟩ = some (.int .i64 (y : Int))) (by kernel_rfl) (⟨hcf _ hxd11, hcy _ hxd11⟩) (fun hHeld => ?_)
                refine wpAnyH_take (i := 0) (v := .int .i64 oe) rfl (by kernel_rfl) (by kernel_rfl) (by kernel_rfl) (fun _ _ _ h => h) (Or.inl ⟨by rfl, fun w hSw => by obtain ⟨hS1, hS2⟩ := hSw; go_simp⟩) (by assumption) ?_
                simp only [List.getElem_toArray, List.getElem_cons_zero, Act.put, List.setIfInBounds_toArray, List.set_cons_zero, List.set_cons_succ]
                refine wpAnyH_ready (rs := [1]) (by kernel_rfl) (by simp) (AllReadyH.cons rfl (fun K hK => ?_) AllReadyH.nil)
                refine step_call1C (by rfl) 10 num6_enter (.tmp 138) _ rfl rfl (num6_calls oe _) ?_
                rintro e wn ⟨rfl, hwn⟩
                obtain rfl := hwn.symm
                clear hwn
                refine ⟨_, rfl, ?_⟩
                refine hK.out _ _ (hHeld) (fun hJ0 => ?_)
                clear hK K
                simp only [List.getElem_toArray, List.getElem_cons_succ, List.getElem_cons_zero, Act.put, List.setIfInBounds_toArray, List.set_cons_zero, List.set_cons_succ]
                refine wpAnyH_take (i := 2) (v := .bool true) rfl (by kernel_rfl) (by kernel_rfl) (by kernel_rfl) (fun _ _ _ h => h) (Or.inl ⟨by rfl, fun w hSw => by obtain ⟨hS1, hS2⟩ := hSw; go_simp⟩) (by assumption) ?_
                simp only [List.getElem_toArray, List.getElem_cons_succ, List.getElem_cons_zero, Act.put, List.setIfInBounds_toArray, List.set_cons_zero, List.set_cons_succ]
                refine wpAnyH_take (i := 3) (v := .bool true) rfl (by kernel_rfl) (by kernel_rfl) (by kernel_rfl) (fun _ _ _ h => h) (Or.inl ⟨by rfl, fun w hSw => by obtain ⟨hS1, hS2⟩ := hSw; go_simp⟩) (by assumption) ?_
                simp only [List.getElem_toArray, List.getElem_cons_succ, List.getElem_cons_zero, Act.put, List.setIfInBounds_toArray, List.set_cons_zero, List.set_cons_succ]
                refine wpAnyH_take (i := 4) (v := .slice (ba) 0 bc) rfl (by kernel_rfl) (by kernel_rfl) (by kernel_rfl) (fun _ _ _ h => h) (Or.inl ⟨by rfl, fun w hSw => by obtain ⟨hS1, hS2⟩ := hSw; go_simp⟩) (by assumption) ?_
                simp only [List.getElem_toArray, List.getElem_cons_succ, List.getElem_cons_zero, Act.put, List.setIfInBounds_toArray, List.set_cons_zero, List.set_cons_succ]
                refine wpAnyH_take (i := 5) (v := .int .i64 0) rfl (by kernel_rfl) (by kernel_rfl) (by kernel_rfl) (fun _ _ _ h => h) (Or.inl ⟨by rfl, fun w hSw => by obtain ⟨hS1, hS2⟩ := hSw; go_simp⟩) (by assumption) ?_
                simp only [List.getElem_toArray, List.getElem_cons_succ, List.getElem_cons_zero, Act.put, List.setIfInBounds_toArray, List.set_cons_zero, List.set_cons_succ]
                refine wpAnyH_take (i := 6) (v := .bool true) rfl (by kernel_rfl) (by kernel_rfl) (by kernel_rfl) (fun _ _ _ h => h) (Or.inl ⟨by rfl, fun w hSw => by obtain ⟨hS1, hS2⟩ := hSw; go_simp⟩) (by assumption) ?_
                simp only [List.getElem_toArray, List.getElem_cons_succ, List.getElem_cons_zero, Act.put, List.setIfInBounds_toArray, List.set_cons_zero, List.set_cons_succ]
                refine wpAnyH_take (i := 7) (v := .bool true) rfl (by kernel_rfl) (by kernel_rfl) (by kernel_rfl) (fun _ _ _ h => h) (Or.inl ⟨by rfl, fun w hSw => by obtain ⟨hS1, hS2⟩ := hSw; go_simp⟩) (by assumption) ?_
                simp only [List.getElem_toArray, List.getElem_cons_succ, List.getElem_cons_zero, Act.put, List.setIfInBounds_toArray, List.set_cons_zero, List.set_cons_succ]
                refine wpAnyH_take (i := 8) (v := .bool true) rfl (by kernel_rfl) (by kernel_rfl) (by kernel_rfl) (fun _ _ _ h => h) (Or.inl ⟨by rfl, fun w hSw => by obtain ⟨hS1, hS2⟩ := hSw; go_simp⟩) (by assumption) ?_
                simp only [List.getElem_toArray, List.getElem_cons_succ, List.getElem_cons_zero, Act.put, List.setIfInBounds_toArray, List.set_cons_zero, List.set_cons_succ]
                refine wpAnyH_take (i := 9) (v := .pointer (some ⟨pr, 0, none⟩)) rfl (by kernel_rfl) (by kernel_rfl) (by kernel_rfl) (fun _ _ _ h => h) (Or.inl ⟨by rfl, fun w hSw => by obtain ⟨hS1, hS2⟩ := hSw; go_simp⟩) (by assumption) ?_
                simp only [List.getElem_toArray, List.getElem_cons_succ, List.getElem_cons_zero, Act.put, List.setIfInBounds_toArray, List.set_cons_zero, List.set_cons_succ]
                refine wpAnyH_take (i := 11) (v := .pointer (some ⟨gq, 32, none⟩)) rfl (by kernel_rfl) (by kernel_rfl) (by kernel_rfl) (fun _ _ _ h => h) (Or.inl ⟨by rfl, fun w hSw => by obtain ⟨hS1, hS2⟩ := hSw; go_simp⟩) (by assumption) ?_
                simp only [List.getElem_toArray, List.getElem_cons_succ, List.getElem_cons_zero, Act.put, List.setIfInBounds_toArray, List.set_cons_zero, List.set_cons_succ]
                refine wpAnyH_take (i := 12) (v := .int .i64 (f : Int)) rfl (by kernel_rfl) (by kernel_rfl) (by kernel_rfl) (fun _ _ _ h => h) (Or.inl ⟨by rfl, fun w hSw => by obtain ⟨hS1, hS2⟩ := hSw; go_simp⟩) (by assumption) ?_
                simp only [List.getElem_toArray, List.getElem_cons_succ, List.getElem_cons_zero, Act.put, List.setIfInBounds_toArray, List.set_cons_zero, List.set_cons_succ]
                refine wpAnyH_ready (rs := [10]) (by kernel_rfl) (by simp) (AllReadyH.cons rfl (fun K hK => ?_) AllReadyH.nil)
                refine step_call1GC (by rfl) 26 broken_enter6 (.tmp 147) _ rfl rfl (unhide HBR _ hxd11) ?_
                rintro e wn ⟨rfl, hwn⟩
                obtain rfl := hwn.symm
                clear hwn
                refine ⟨_, rfl, ?_⟩
                refine hK.out _ _ (hHeld) (fun hJ1 => ?_)
                clear hK K
                simp only [List.getElem_toArray, List.getElem_cons_succ, List.getElem_cons_zero, Act.put, List.setIfInBounds_toArray, List.set_cons_zero, List.set_cons_succ]
                refine wpAnyH_take (i := 13) (v := .bool false) rfl (by kernel_rfl) (by kernel_rfl) (by kernel_rfl) (fun _ _ _ h => h) (Or.inl ⟨by rfl, fun w hSw => by obtain ⟨hS1, hS2⟩ := hSw; go_simp⟩) (by assumption) ?_
                simp only [List.getElem_toArray, List.getElem_cons_succ, List.getElem_cons_zero, Act.put, List.setIfInBounds_toArray, List.set_cons_zero, List.set_cons_succ]
                refine wpAnyH_take (i := 14) (v := .bool false) rfl (by kernel_rfl) (by kernel_rfl) (by kernel_rfl) (fun _ _ _ h => h) (Or.inl ⟨by rfl, fun w hSw => by obtain ⟨hS1, hS2⟩ := hSw; go_simp⟩) (by assumption) ?_
                simp only [List.getElem_toArray, List.getElem_cons_succ, List.getElem_cons_zero, Act.put, List.setIfInBounds_toArray, List.set_cons_zero, List.set_cons_succ]
                refine wpAnyH_take (i := 15) (v := .pointer (some ⟨pr, 0, none⟩)) rfl (by kernel_rfl) (by kernel_rfl) (by kernel_rfl) (fun _ _ _ h => h) (Or.inl ⟨by rfl, fun w hSw => by obtain ⟨hS1, hS2⟩ := hSw; go_simp⟩) (by assumption) ?_
                simp only [List.getElem_toArray, List.getElem_cons_succ, List.getElem_cons_zero, Act.put, List.setIfInBounds_toArray, List.set_cons_zero, List.set_cons_succ]
                refine wpAnyH_take (i := 17) (v := .slice (some ⟨g2, 0, none⟩) j c2) rfl (by kernel_rfl) (by kernel_rfl) (by kernel_rfl) (fun _ _ _ h => h) (Or.inl ⟨by rfl, fun w hSw => by obtain ⟨hS1, hS2⟩ := hSw; go_simp⟩) (by assumption) ?_
                simp only [List.getElem_toArray, List.getElem_cons_succ, List.getElem_cons_zero, Act.put, List.setIfInBounds_toArray, List.set_cons_zero, List.set_cons_succ]
                refine wpAnyH_take (i := 18) (v := .int .i64 (j : Int)) rfl (by kernel_rfl) (by kernel_rfl) (by kernel_rfl) (fun _ _ _ h => h) (Or.inl ⟨by rfl, fun w hSw => by obtain ⟨hS1, hS2⟩ := hSw; go_simp⟩) (by assumption) ?_
                simp only [List.getElem_toArray, List.getElem_cons_succ, List.getElem_cons_zero, Act.put, List.setIfInBounds_toArray, List.set_cons_zero, List.set_cons_succ]
                refine wpAnyH_take (i := 19) (v := .int .i64 (km : Int)) rfl (by kernel_rfl) (by kernel_rfl) (by kernel_rfl) (fun _ _ _ h => h) (Or.inl ⟨by rfl, fun w hSw => by obtain ⟨hS1, hS2⟩ := hSw; go_simp⟩) (by assumption) ?_
                simp only [List.getElem_toArray, List.getElem_cons_succ, List.getElem_cons_zero, Act.put, List.setIfInBounds_toArray, List.set_cons_zero, List.set_cons_succ]
                refine wpAnyH_take (i := 20) (v := .pointer (some ⟨g2, km, none⟩)) rfl (by kernel_rfl) (by kernel_rfl) (by kernel_rfl) (fun _ _ _ h => h) (Or.inl ⟨by rfl, fun w hSw => by obtain ⟨hS1, hS2⟩ := hSw; go_simp⟩) (by assumption) ?_
                simp only [List.getElem_toArray, List.getElem_cons_succ, List.getElem_cons_zero, Act.put, List.setIfInBounds_toArray, List.set_cons_zero, List.set_cons_succ]
                refine wpAnyH_take (i := 21) (v := .int .i64 (y : Int)) rfl (by kernel_rfl) (by kernel_rfl) (by kernel_rfl) (fun _ _ _ h => h) (Or.inl ⟨by rfl, fun w hSw => by obtain ⟨hS1, hS2⟩ := hSw; go_simp⟩) (by assumption) ?_
                simp only [List.getElem_toArray, List.getElem_cons_succ, List.getElem_cons_zero, Act.put, List.setIfInBounds_toArray, List.set_cons_zero, List.set_cons_succ]
                refine wpAnyH_ready (rs := [16]) (by kernel_rfl) (by simp) (AllReadyH.cons rfl (fun K hK => ?_) AllReadyH.nil)
                refine step_call1GC (by rfl) 26 broken_enter6 (.tmp 153) _ rfl rfl (unhide HBR _ hxd11) ?_
                rintro e wn ⟨rfl, hwn⟩
                obtain rfl := hwn.symm
                clear hwn
                refine ⟨_, rfl, ?_⟩
                refine hK.out _ _ (hHeld) (fun hJ2 => ?_)
                clear hK K
                simp only [List.getElem_toArray, List.getElem_cons_succ, List.getElem_cons_zero, Act.put, List.setIfInBounds_toArray, List.set_cons_zero, List.set_cons_succ]
                refine wpAnyH_take (i := 22) (v := .bool true) rfl (by kernel_rfl) (by kernel_rfl) (by kernel_rfl) (fun _ _ _ h => h) (Or.inl ⟨by rfl, fun w hSw => by obtain ⟨hS1, hS2⟩ := hSw; go_simp⟩) (by assumption) ?_
                simp only [List.getElem_toArray, List.getElem_cons_succ, List.getElem_cons_zero, Act.put, List.setIfInBounds_toArray, List.set_cons_zero, List.set_cons_succ]
                refine wpAnyH_take (i := 23) (v := .bool true) rfl (by kernel_rfl) (by kernel_rfl) (by kernel_rfl) (fun _ _ _ h => h) (Or.inl ⟨by rfl, fun w hSw => by obtain ⟨hS1, hS2⟩ := hSw; go_simp⟩) (by assumption) ?_
                simp only [List.getElem_toArray, List.getElem_cons_succ, List.getElem_cons_zero, Act.put, List.setIfInBounds_toArray, List.set_cons_zero, List.set_cons_succ]
                refine wpAnyH_take (i := 24) (v := .bool true) rfl (by kernel_rfl) (by kernel_rfl) (by kernel_rfl) (fun _ _ _ h => h) (Or.inl ⟨by rfl, fun w hSw => by obtain ⟨hS1, hS2⟩ := hSw; go_simp⟩) (by assumption) ?_
                simp only [List.getElem_toArray, List.getElem_cons_succ, List.getElem_cons_zero, Act.put, List.setIfInBounds_toArray, List.set_cons_zero, List.set_cons_succ]
                refine wpAnyH_take (i := 25) (v := .bool true) rfl (by kernel_rfl) (by kernel_rfl) (by kernel_rfl) (fun _ _ _ h => h) (Or.inl ⟨by rfl, fun w hSw => by obtain ⟨hS1, hS2⟩ := hSw; go_simp⟩) (by assumption) ?_
                simp only [List.getElem_toArray, List.getElem_cons_succ, List.getElem_cons_zero, Act.put, List.setIfInBounds_toArray, List.set_cons_zero, List.set_cons_succ]
                refine wpAnyH_ready (rs := [26]) (by kernel_rfl) (by simp) (AllReadyH.cons rfl (fun K hK => ?_) AllReadyH.nil)
                refine step_call0C (by rfl) 13 started_enter6 _ rfl (unhide HSTT _ hxd11) ?_
                rintro e wz ⟨rfl, hbz⟩
                refine ⟨_, rfl, ?_⟩
                refine hK.out _ _ (⟨hcf _ (hxd11.trans (hbz.mono hxd11.size)), hcy _ (hxd11.trans (hbz.mono hxd11.size))⟩) (fun hJ3 => ?_)
                clear hK K
                simp only [List.getElem_toArray, List.getElem_cons_succ, List.getElem_cons_zero, Act.put, List.setIfInBounds_toArray, List.set_cons_zero, List.set_cons_succ]
                refine wpAnyH_take (i := 27) (v := .bool true) rfl (by kernel_rfl) (by kernel_rfl) (by kernel_rfl) (fun _ _ _ h => h) (Or.inl ⟨by rfl, fun w hSw => by obtain ⟨hS1, hS2⟩ := hSw; go_simp⟩) (by assumption) ?_
                simp only [List.getElem_toArray, List.getElem_cons_succ, List.getElem_cons_zero, Act.put, List.setIfInBounds_toArray, List.set_cons_zero, List.set_cons_succ]
                refine wpAnyH_take (i := 28) (v := .bool true) rfl (by kernel_rfl) (by kernel_rfl) (by kernel_rfl) (fun _ _ _ h => h) (Or.inl ⟨by rfl, fun w hSw => by obtain ⟨hS1, hS2⟩ := hSw; go_simp⟩) (by assumption) ?_
                simp only [List.getElem_toArray, List.getElem_cons_succ, List.getElem_cons_zero, Act.put, List.setIfInBounds_toArray, List.set_cons_zero, List.set_cons_succ]
                refine wpAnyH_done (by kernel_rfl) ?_ _
                have y1 := (unhide HKW _ hxd11).2.2.2.2.2
                have HY := hide (y1.trans (hbz.mono y1.size))
                clear y1 hbz hHeld hJ0 hJ1 hJ2 hJ3 hcf hcy
                go_wp2
                go_ret
                exact ⟨rfl, HY.out⟩
end Go.Proofs.YtmgjjopngebecabDoor

/- Keep, the call. -/
import Derived.Test.YtifmfnkpogconaaDoorKeep4
namespace Go.Proofs.YtifmfnkpogconaaDoor
open Go.RowKit

theorem Bk.add {w w' : World} {B b n : Nat} {vL vK vL' vK' v vc : Value} {U : Nat → Value} {X : Nat → List Nat} {l : List Nat} {ls ks : List Value} (h : Bk w B vL vK n U X) (hs : w.heap.size ≤ w'.heap.size) (hint : ∀ b u zs, Row w b 3 u zs → Row w' b 3 u zs)
    (h9 : ∀ k, k < n → ls[k]? = some (U k)) (h10 : ∀ k, k < n → ∃ u, ks[k]? = some u ∧ Row w B 3 u (iV (X k))) (hl : ls.length = n) (hk : ks.length = n)
    (hL : Row w' B 49 vL' (ls ++ [v])) (hK : Row w' B 49 vK' (ks ++ [vc])) (hap2 : Ap vL' vK') (hv : Row w b 3 v (iV l)) (hb : B ≤ b) (hvc : Row w' B 3 vc (iV l)) (hlen : l.length ≤ 65536) (hap : ∀ k, k < n → Ap (U k) v) : Bk w' B vL' vK' (n + 1) (upd U n v) (upd X n l) := by
  refine ⟨⟨ls ++ [v], by simp [hl], hL, fun k hk2 => ?_⟩, ⟨ks ++ [vc], by simp [hk], hK, fun k hk2 => ?_⟩, hap2, ⟨fun k hk2 => ?_, fun k hk2 g hg => ?_, fun j k hj hk2 hjk => ?_⟩, fun k hk2 => ?_⟩
  · by_cases e : k = n
    · subst e
      rw [upd_same, List.getElem?_append_right (by omega), hl, Nat.sub_self]; rfl
    · rw [upd_other _ _ e, List.getElem?_append_left (by omega)]
      exact h9 k (by omega)
  · by_cases e : k = n
    · subst e
      rw [upd_same]
      exact ⟨vc, by rw [List.getElem?_append_right (by omega), hk, Nat.sub_self]; rfl, hvc⟩
    · rw [upd_other _ _ e]
      obtain ⟨u, hu, hr⟩ := h10 k (by omega)
      exact ⟨u, by rw [List.getElem?_append_left (by omega)]; exact hu, hint _ _ _ hr⟩
  · by_cases e : k = n
    · subst e
      simp only [upd_same]
      exact (hint _ _ _ hv).mono hb
    · simp only [upd_other _ _ e]
      exact hint _ _ _ (h.lines.row k (by omega))
  · by_cases e : k = n
    · subst e
      rw [upd_same] at hg
      have := (hv.lt g hg).2; omega
    · rw [upd_other _ _ e] at hg
      have := h.lines.hi k (by omega) g hg; omega
  · by_cases e : j = n
    · subst e
      rw [upd_same, upd_other _ _ (fun h => hjk h.symm)]
      exact (hap k (by omega)).symm
    · rw [upd_other _ _ e]
      by_cases e2 : k = n
      · subst e2
        rw [upd_same]
        exact hap j (by omega)
      · rw [upd_other _ _ e2]
        exact h.lines.apart j k (by omega) (by omega) hjk
  · by_cases e : k = n
    · subst e
      rw [upd_same]
      exact hlen
    · rw [upd_other _ _ e]
      exact h.ok k (by omega)
set_option maxRecDepth 100000 in
set_option maxHeartbeats 4000000 in
theorem keep_calls {w : World} {B b gW m t n : Nat} {P : Nat → Pr} {U : Nat → Value} {X : Nat → List Nat} {v : Value} {l : List Nat} (h : Wd w B gW m P t n U X) (hv : Row w b 3 v (iV l)) (hb : B ≤ b) (hl : l.length ≤ 65536) (ht : t ≤ 1000) (hap : ∀ k, k < n → Ap (U k) v) :
    Calls Tryd.prog 48 #[.pointer (some ⟨gW, 2, none⟩), v] w fun e w' => (∃ r, e = .returned r) ∧ (∃ n' U' X', Wd w' B gW m P (t + 1) n' U' X') ∧ Ch B TK w w' := by
  obtain ⟨i0, hi, hz0, hz1, hz2⟩ := info_part infoL
  obtain ⟨vS, vR, vL, vK, N, h1, h2, h3, h4⟩ := h.blk
  obtain ⟨hg1, hg2, hg3⟩ := h.low
  obtain ⟨ls, k1, k2, k3⟩ := h4.l
  obtain ⟨ks, k4, k5, k6⟩ := h4.k
  obtain ⟨aL, cL, hvL⟩ := k2.shape
  obtain ⟨aK, cK, hvK⟩ := k5.shape
  obtain ⟨av, cv, hvv⟩ := hv.shape
  rw [k1] at hvL
  rw [k4] at hvK
  rw [iV_len] at hvv
  subst hvL hvK hvv
  obtain ⟨q, hq⟩ : ∃ q, q = l.length := ⟨_, rfl⟩
  rw [← hq] at hv hap hl ⊢
  have hgw : gW < w.heap.size := (Array.getElem?_eq_some_iff.1 h1).1
  have hN : N ≤ 65540000 := by omega
  have c4 : w.cell? ⟨gW, 4, none⟩ = some (.int .i64 (N : Int)) := by rw [cell_of_row w gW 4 _ _ _ h1]; rfl
  have f4 := frozen_of_row w gW 4 _ _ h1
  have HQ := hide hq
  have H := hide h
  have HV := hide hv
  have HAP := hide hap
  have H3 := hide h3
  have H4 := hide h4
  have K1 := hide k1
  have K2 := hide k2
  have K3 := hide k3
  have K4 := hide k4
  have K5 := hide k5
  have K6 := hide k6
  have H1 := hide h1
  have HN2 := hide h2
  clear h hv hap h3 h4 k1 k2 k3 k4 k5 k6 h1 hq h2
  have e5 : (w.setCell ⟨gW, 4, none⟩ (.int .i64 ((N : Int) + ((q : Int) + 1)))).heap[gW]? = some (.cells #[vS, vR, .slice aL n cL, .slice aK n cK, .int .i64 ((N : Int) + ((q : Int) + 1))] 34 (0, 0)) := cells_of_set _ H1.out
  have ch5 : Ch B TK w (w.setCell ⟨gW, 4, none⟩ (.int .i64 ((N : Int) + ((q : Int) + 1)))) := Ch.of_grown (grown_set1 w gW 4 _) hg1 H1.out (Or.inl rfl)
  have ch6 : Ch B (fun t => t = 34) w (w.setCell ⟨gW, 4, none⟩ (.int .i64 ((N : Int) + ((q : Int) + 1)))) := Ch.of_grown (grown_set1 w gW 4 _) hg1 H1.out rfl
  have hNq : (N : Int) + ((q : Int) + 1) = ((N + (q + 1) : Nat) : Int) := by omega
  by_cases hc : (200000 : Int) < (N : Int) + ((q : Int) + 1)
  · have E5 := hide e5
    have C5 := hide ch5
    have C6 := hide ch6
    have HNQ := hide hNq
    clear e5 ch5 ch6 hNq
    go_enter Tryd.func48, Tryd.ntmps48
    go_wp2_with fail
    refine bodyPost_ret (results_none rfl _ _ _) rfl ?_
    refine ⟨⟨_, rfl⟩, ⟨n, U, X, ⟨_, _, _, _, N + (q + 1), by rw [← HNQ.out]; exact E5.out, by have := HN2.out; omega, (H3.out).ch C6.out (by decide) (by decide) (by decide) (by decide) (by decide) (by decide), (H4.out).ch C6.out (by decide) (by decide)⟩, hg1, Nat.le_trans hg2 C5.out.size, by omega⟩, C5.out⟩
  · have hcd : decide ((200000 : Int) < (N : Int) + ((q : Int) + 1)) = false := decide_eq_false hc
    have HV1 := hide ((HV.out).ch ch6 (by decide))
    have HF2 : Hid (∀ W, (w.setCell ⟨gW, 4, none⟩ (.int .i64 ((N : Int) + ((q : Int) + 1)))).grownBy W none → W.heap[gW]? = some (.cells #[vS, vR, .slice aL n cL, .slice aK n cK, .int .i64 ((N : Int) + ((q : Int) + 1))] 34 (0, 0)) ∧ W.cell? ⟨gW, 2, none⟩ = some (.slice aL n cL) ∧ Row W B 49 (.slice aL n cL) ls ∧ Row W B 49 (.slice aK n cK) ks ∧ B ≤ W.heap.size) := fun W hW => by
      have e : W.heap[gW]? = some (.cells #[vS, vR, .slice aL n cL, .slice aK n cK, .int .i64 ((N : Int) + ((q : Int) + 1))] 34 (0, 0)) := by
        rw [hW.block gW (Array.getElem?_eq_some_iff.1 e5).1 (by simp)]; exact e5
      exact ⟨e, by rw [cell_of_row W gW 2 _ _ _ e]; rfl, ((K2.out).ch ch6 (by decide)).grown hW, ((K5.out).ch ch6 (by decide)).grown hW, Nat.le_trans (Nat.le_trans hg2 ch5.size) hW.size⟩
    have HL2 : Hid (∀ (W : World) v2 w2, W.heap[gW]? = some (.cells #[vS, vR, .slice aL n cL, .slice aK n cK, .int .i64 ((N : Int) + ((q : Int) + 1))] 34 (0, 0)) → Row W B 49 (.slice aL n cL) ls → Row W B 49 (.slice aK n cK) ks → W.grownBy w2 (Value.slice aL n cL).ownBlock → (w2.frozen? ⟨gW, 2, none⟩ = false ∧ w2.cell? ⟨gW, 2, none⟩ = some (.slice aL n cL)) ∧ w2.cell? ⟨gW, 3, none⟩ = some (.slice aK n cK) ∧ Row (w2.setCell ⟨gW, 2, none⟩ v2) B 49 (.slice aK n cK) ks ∧ (w2.setCell ⟨gW, 2, none⟩ v2).heap[gW]? = some (.cells #[vS, vR, v2, .slice aK n cK, .int .i64 ((N : Int) + ((q : Int) + 1))] 34 (0, 0)) ∧ Ch B TK W (w2.setCell ⟨gW, 2, none⟩ v2)) := fun W v2 w2 e hr1 hr hg => by
      have c1 : Ch B (fun t => t = 49) W w2 := Ch.of_row hr1 (Nat.le_refl _) hg rfl
      have e2 := c1.cells e (by decide)
      have c2 : Ch B (fun t => t = 34) w2 (w2.setCell ⟨gW, 2, none⟩ v2) := Ch.of_grown (grown_set1 w2 gW 2 v2) hg1 e2 rfl
      exact ⟨⟨frozen_of_row w2 gW 2 _ _ e2, by rw [cell_of_row w2 gW 2 _ _ _ e2]; rfl⟩, by rw [cell_of_row w2 gW 3 _ _ _ e2]; rfl, (hr.kept hg (H4.out).ap.symm).ch c2 (by decide), cells_of_set v2 e2, (c1.mono (Nat.le_refl _) fun t ht => Or.inr ht).trans (c2.mono (Nat.le_refl _) fun t ht => Or.inl ht)⟩
    have HL4 : Hid (∀ (W : World) v2 v4 w4, W.heap[gW]? = some (.cells #[vS, vR, v2, .slice aK n cK, .int .i64 ((N : Int) + ((q : Int) + 1))] 34 (0, 0)) → Row W B 49 (.slice aK n cK) ks → W.grownBy w4 (Value.slice aK n cK).ownBlock → (w4.frozen? ⟨gW, 3, none⟩ = false ∧ w4.cell? ⟨gW, 3, none⟩ = some (.slice aK n cK)) ∧ (w4.setCell ⟨gW, 3, none⟩ v4).heap[gW]? = some (.cells #[vS, vR, v2, v4, .int .i64 ((N : Int) + ((q : Int) + 1))] 34 (0, 0)) ∧ Ch B TK W (w4.setCell ⟨gW, 3, none⟩ v4)) := fun W v2 v4 w4 e hr hg => by
      have c1 : Ch B (fun t => t = 49) W w4 := Ch.of_row hr (Nat.le_refl _) hg rfl
      have e2 := c1.cells e (by decide)
      have c2 : Ch B (fun t => t = 34) w4 (w4.setCell ⟨gW, 3, none⟩ v4) := Ch.of_grown (grown_set1 w4 gW 3 v4) hg1 e2 rfl
      exact ⟨⟨frozen_of_row w4 gW 3 _ _ e2, by rw [cell_of_row w4 gW 3 _ _ _ e2]; rfl⟩, cells_of_set v4 e2, (c1.mono (Nat.le_refl _) fun t ht => Or.inr ht).trans (c2.mono (Nat.le_refl _) fun t ht => Or.inl ht)⟩
    have HNQ := hide hNq
    have C5 := hide ch5
    have C6 := hide ch6
    clear e5 ch5 ch6 hNq hc
    go_enter Tryd.func48, Tryd.ntmps48
    go_wp2_with (first
      | (at_builtin; generalize (w.setCell ⟨gW, 4, none⟩ (.int .i64 ((N : Int) + ((q : Int) + 1)))) = W1 at C5 C6 HV1 HF2 ⊢; refine wpList_appI rfl _ _ rfl rfl (xs := []) (Row.nil W1 W1.heap.size _) rfl HV1.out (by have := HQ.out; simp; omega) (Nat.le_refl _) ?_; intro vc w2 hvc hgr2; rw [List.nil_append] at hvc; obtain ⟨ac, cc, hvs⟩ := hvc.shape; rw [iV_len, ← HQ.out] at hvs; subst hvs; obtain ⟨hw2, hcL2, hL2, hK2, hB2⟩ := unhide HF2 w2 hgr2)
      | (at_builtin; refine wpList_append_own_at _ rfl _ _ 30 rfl B 49 i0 (.slice none 0 0) 1 24 Tryd.underlying30 hi hz0 hz1 hz2 rfl (by decide) _ _ _ rfl (World.ownsRow.alloc hL2 _) ⟨w2.heap.size, 0, none⟩ 1 1 [.slice av q cv] rfl rfl (cell_one_new _ _ _) (by intro u hu; simp at hu; subst hu; rfl) (by have := K1.out; unfold maxLen; omega) (by have := K1.out; omega) (by simp; omega) ?_; intro v3 w3 hL3 hgr3 _ hat3; obtain ⟨a3, c3, rfl⟩ := owns_slice hL3; have hG3 := (World.grownBy_alloc w2 _ _).trans hgr3; obtain ⟨⟨hfr3, hco3⟩, hcK3, hK4, hw4, hch4⟩ := unhide HL2 w2 (.slice a3 (ls.length + 1) c3) w3 hw2 hL2 hK2 hG3; have hB4 : B ≤ (w3.setCell ⟨gW, 2, none⟩ (.slice a3 (ls.length + 1) c3)).heap.size := (by simp; exact Nat.le_trans hB2 hG3.size))
      | (at_builtin; refine wpList_append_own_at _ rfl _ _ 30 rfl B 49 i0 (.slice none 0 0) 1 24 Tryd.underlying30 hi hz0 hz1 hz2 rfl (by decide) _ _ _ rfl (World.ownsRow.alloc hK4 _) ⟨w3.heap.size, 0, none⟩ 1 1 [.slice ac q cc] rfl rfl (cell_one_at _ _ _ (by simp)) (by intro u hu; simp at hu; subst hu; rfl) (by have := K4.out; unfold maxLen; omega) (by have := K4.out; omega) (by simp at hB4 ⊢; omega) ?_; intro v5 w5 hK5 hgr5 _ hat5; obtain ⟨a5, c5, rfl⟩ := owns_slice hK5; have hG5 := (World.grownBy_alloc (w3.setCell ⟨gW, 2, none⟩ (.slice a3 (ls.length + 1) c3)) _ _).trans hgr5; obtain ⟨⟨hfr5, hco5⟩, hw6, hch6⟩ := unhide HL4 _ _ (.slice a5 (ks.length + 1) c5) w5 hw4 hK4 hG5))
    have K1' := K1.out
    have K4' := K4.out
    have hz1' := C5.out.size
    have hz2' := hgr2.size
    have hz3' := hG3.size
    have hz4' := (grown_set1 w3 gW 2 (.slice a3 (ls.length + 1) c3)).size
    have hz5' := hG5.size
    have b2 : Below W1.heap.size W1 w2 := ⟨hgr2.os, hgr2.tape, hgr2.output, hgr2.size, fun k hk => hgr2.block k hk (fun e => by cases e)⟩
    have chA : Ch B TK w w2 := C5.out.trans (Ch.of_below b2)
    have chB := chA.trans (hch4.trans hch6)
    have hset4 : Ch B (fun t => t = 34) w3 (w3.setCell ⟨gW, 2, none⟩ (.slice a3 (ls.length + 1) c3)) := Ch.of_grown (grown_set1 w3 gW 2 _) hg1 ((Ch.of_row (T := fun t => t = 49) hL2 (Nat.le_refl _) hG3 rfl).cells hw2 (by decide)) rfl
    have hset6 : Ch B (fun t => t = 34) w5 (w5.setCell ⟨gW, 3, none⟩ (.slice a5 (ks.length + 1) c5)) := Ch.of_grown (grown_set1 w5 gW 3 _) hg1 ((Ch.of_row (T := fun t => t = 49) hK4 (Nat.le_refl _) hG5 rfl).cells hw4 (by decide)) rfl
    have a3v : ∀ g, (Value.slice a3 (ls.length + 1) c3).ownBlock = some g → (Value.slice aL n cL).ownBlock = some g ∨ w2.heap.size ≤ g := fun g hg => by
      rcases hat3 with h | h
      · exact Or.inl (h.symm.trans hg)
      · rw [h] at hg; injection hg with hg; simp at hg; omega
    have a5v : ∀ g, (Value.slice a5 (ks.length + 1) c5).ownBlock = some g → (Value.slice aK n cK).ownBlock = some g ∨ w3.heap.size ≤ g := fun g hg => by
      rcases hat5 with h | h
      · exact Or.inl (h.symm.trans hg)
      · rw [h] at hg; injection hg with hg; simp at hg; omega
    have hL3r : Row w3 B 49 (.slice a3 (ls.length + 1) c3) (ls ++ [.slice av q cv]) := by unfold Row; rw [List.length_append]; exact hL3
    have hK5r : Row w5 B 49 (.slice a5 (ks.length + 1) c5) (ks ++ [.slice ac q cc]) := by unfold Row; rw [List.length_append]; exact hK5
    have ap1 : Ap (.slice a3 (ls.length + 1) c3) (.slice aK n cK) := by
      refine (Classical.em _).imp_right fun hne => ?_
      intro e
      cases e2 : (Value.slice a3 (ls.length + 1) c3).ownBlock with
      | none => exact hne e2
      | some g =>
        rw [e2] at e
        rcases a3v g e2 with h | h
        · rcases (H4.out).ap with h6 | h6
          · rw [h6] at h; cases h
          · exact h6 (h.trans e)
        · have := (hK2.lt g e.symm).2; omega
    have ap2 : Ap (.slice a3 (ls.length + 1) c3) (.slice a5 (ks.length + 1) c5) := by
      refine (Classical.em _).imp_right fun hne => ?_
      intro e
      cases e2 : (Value.slice a3 (ls.length + 1) c3).ownBlock with
      | none => exact hne e2
      | some g =>
        rw [e2] at e
        rcases a5v g e.symm with h | h
        · rcases ap1 with ap1 | ap1
          · exact hne ap1
          · exact ap1 (e2.trans h.symm)
        · have := (hL3r.lt g e2).2; omega
    have hL6 := (((hL3r.ch hset4 (by decide)).kept hG5 ap1).ch hset6 (by decide))
    have hK6 := hK5r.ch hset6 (by decide)
    have hvc6 := (hvc.ch (hch4.trans hch6) (by unfold TK; decide)).mono (show B ≤ W1.heap.size by omega)
    refine bodyPost_end (results_none rfl _ _ _) rfl ?_
    refine ⟨⟨_, rfl⟩, ⟨n + 1, _, _, ⟨_, _, _, _, N + (q + 1), by rw [← HNQ.out]; exact hw6, by have := HN2.out; omega, (H3.out).ch chB (by unfold TK; decide) (by unfold TK; decide) (by unfold TK; decide) (by unfold TK; decide) (by unfold TK; decide) (by unfold TK; decide), (H4.out).add chB.size (fun b u zs h => h.ch chB (by unfold TK; decide)) (unhide K3) (unhide K6) K1' K4' hL6 hK6 ap2 HV.out hb hvc6 (by rw [← HQ.out]; exact hl) (unhide HAP)⟩, hg1, Nat.le_trans hg2 chB.size, by omega⟩, chB⟩
end Go.Proofs.YtifmfnkpogconaaDoor

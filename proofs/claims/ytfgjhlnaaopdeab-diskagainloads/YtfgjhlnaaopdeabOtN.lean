/- DiskAgainLoads, walked whole. -/
import Derived.Test.YtfgjhlnaaopdeabOtM
namespace Go.Proofs.Ytfgjhlnaaopdeab
open Go.RowKit Go.Maps

def loadD (xss : List (List Int)) : AD := ⟨xss, fun _ => [], 0, 0, 0⟩
theorem load_good {w : World} {v : Value} {xss : List (List Int)} (h : IsBB w v xss) (hs : ∀ s ∈ xss, IsSec s) (h2 : 2 ≤ xss.length) (h6 : xss.length ≤ 65536) :
    Calls Try.prog 12 #[v] w fun e w' => ∃ p gl gm V, e = .returned (.tuple #[.pointer (some ⟨p, 0, none⟩), .int .i64 0]) ∧ Dk w' p gl gm V (loadD xss) ∧ (∀ b, Ft p gl gm V b → w.heap.size ≤ b) ∧ Below w.heap.size w w' := by
  obtain ⟨a, cap, rfl, hl, hm, hc⟩ := h
  obtain ⟨b, off, rfl, hcell⟩ := hc (by omega)
  refine (load_walk rfl h2 h6 hl hm hcell).mono ?_
  rintro e w' ⟨hb, ⟨_, j, hj, hne⟩ | ⟨p, gl, gm, V, rfl, _, hd, h1, h3, h4, hV⟩⟩
  · rw [getD_eq hj] at hne
    exact absurd (hs _ (List.getElem_mem hj)).1 hne
  · refine ⟨p, gl, gm, V, rfl, hd, ?_, hb⟩
    rintro b (rfl | rfl | rfl | ⟨i, hi⟩)
    · exact h1
    · exact h3
    · exact h4
    · rw [hV i] at hi; cases hi
theorem Few.load (xss : List (List Int)) : Few 0 (loadD xss) := ⟨⟨Int.le_refl _, Int.le_refl _⟩, ⟨Int.le_refl _, Int.le_refl _⟩, ⟨Int.le_refl _, Int.le_refl _⟩, fun _ => Nat.le_refl _⟩
theorem Nw.load {D : AD} {L : Ats} (h : Ls D L) : Nw (loadD D.la) L := fun i hi => by rw [now_empty (fun _ => rfl)]; exact h i hi
/-- Behind k of the writes. -/
def Al (w wr : World) (k n p : Nat) (vl : Value) (L : Ats) : Prop := ∃ gl D, Dk1 w wr k p gl D ∧ IsWs wr vl L ∧ D.la.length = n ∧ Nw D (L.take k)
theorem tells_enter (v u z q : Value) (W : World) : (callFunc 15 #[v, u, z, q]).run Try.prog W = .ok (.enter 15 #[v, u, z, q]) W := by kernel_rfl
section
variable {ops : Array Oper} {o : Oper} {a : Act} {w : World} {K : Act → World → Prop} {Q : Exit → Act → World → Prop} {E : Prop}
theorem buildW0_run (W : World) : (Instr.buildSlice 22 0 #[]).run Try.prog W = .ok (.slice (some ⟨W.heap.size, 0, none⟩) 0 0) (W.alloc (.cells #[] 25)) := by kernel_rfl
theorem step_buildW0 (hw : Region.wanted o (yielded ops a.tmps) = true) (ho : o.op = .buildSlice 22 0 #[])
    (hk : K (a.put o.dst (.slice (some ⟨w.heap.size, 0, none⟩) 0 0)) (w.alloc (.cells #[] 25))) : if Region.wanted o (yielded ops a.tmps) = true then Oper.wp Try.prog o a w K Q else E := by
  rw [if_pos hw]
  unfold Oper.wp execOp
  simp only [ho, List.map_toArray, List.map_nil, Sem.run_bind, buildW0_run w, Result.andThen_ok, Sem.run_pure]
  exact hk
theorem step_buildWG (hw : Region.wanted o (yielded ops a.tmps) = true) (x : Operand) (ho : o.op = .buildSlice 22 1 #[(0, x)]) {i : Int} {ua : Option Addr} {un uc : Nat} (hx : a.eval x = .agg #[.int .i64 i, .slice ua un uc])
    (hk : K (a.put o.dst (.slice (some ⟨w.heap.size, 0, none⟩) 1 1)) (w.alloc (.cells [.int .i64 i, .slice ua un uc].toArray 25))) : if Region.wanted o (yielded ops a.tmps) = true then Oper.wp Try.prog o a w K Q else E := by
  rw [if_pos hw]
  unfold Oper.wp execOp
  simp only [ho, List.map_toArray, List.map_cons, List.map_nil, hx, Sem.run_bind, buildW_run w, Result.andThen_ok, Sem.run_pure]
  exact hk
theorem step_appWG (hw : Region.wanted o (yielded ops a.tmps) = true) (x y : Operand) (ho : o.op = .call { callee := .builtin .append, args := #[x, y], argTypes := #[22, 22] }) {B g : Nat} {v u : Value} {l : Ats} {i : Int} {s : List Int} (hx : a.eval x = v) (hown : OwnWs w B v l) (hy : a.eval y = .slice (some ⟨g, 0, none⟩) 1 1)
    (hA : Arr w g 25 [.int .i64 i, u]) (hu : Own8 w 0 u s) (hl : l.length ≤ 1099511627776) (hB : B ≤ w.heap.size)
    (hk : ∀ v' w', OwnWs w' B v' (l ++ [(i, s)]) → w.grownBy w' v.ownBlock → (v.ownBlock = none ∨ ∃ b, v.ownBlock = some b ∧ B ≤ b) → K (a.put o.dst v') w') : if Region.wanted o (yielded ops a.tmps) = true then Oper.wp Try.prog o a w K Q else E := by
  rw [if_pos hw]
  exact wp_appW x y ho hx hown hy hA hu hl hB hk
end
set_option maxRecDepth 100000 in
set_option maxHeartbeats 4000000 in
theorem loads_walk {w : World} {v vb : Value} {l : Ats} {bs : List Int} (x y : Int) (h : IsWr w v l) (hB : IsB w vb bs) :
    Calls Try.prog 3 #[.int .i64 x, v, .agg #[.int .i64 y, vb]] w fun e w' => e = .returned (.bool true) ∧ Below w.heap.size w w' := by
  obtain ⟨ba, bn, bc, rfl⟩ := hB.shape
  have hbx := (Below.refl w.heap.size w).alloc (Nat.le_refl _) (.cells #[.int .i64 y, .slice ba bn bc] 25)
  have hAx := Arr.new w [.int .i64 y, .slice ba bn bc] 25
  have hx63 := modN_lt x (m := 63) (by decide)
  have hok := madeL_ok (n := 2 + modN x 63) (by omega) h.bytes
  have hml := madeL_len (2 + modN x 63) l
  have HMADE := hide (dks_made (x := x) (Dks.below (Dks.nil w 0 (fun _ => 0) (fun _ => 0) (fun _ => zeroD 2)) hbx) (h.below hbx))
  obtain ⟨n, hn⟩ : ∃ n, 2 + modN x 63 = n := ⟨_, rfl⟩
  have hnlo : 2 ≤ n := by omega
  have hnhi : n ≤ 64 := by omega
  rw [hn] at HMADE hok hml
  generalize madeL n l = L at *
  clear hn hx63
  obtain ⟨va, vn, vc, rfl⟩ : ∃ a n c, v = .slice a n c := by obtain ⟨a, c, rfl, _⟩ := h.val; exact ⟨_, _, _, rfl⟩
  clear h
  have HOK : Hid (∀ j, j < L.length → ∃ (i : Nat) (s : List Int), L.getD j dA = ((i : Int), s) ∧ i < n ∧ IsSec s) := fun j hj => by
    have := hok _ (List.getElem_mem hj)
    rw [getD_eq hj]
    exact ⟨L[j].1.toNat, L[j].2, by rw [Int.toNat_of_nonneg this.1], by omega, this.2.2⟩
  have HTK := hide (fun k (hk : k < L.length) => take_snoc hk)
  have HTL : Hid (L.take L.length = L) := List.take_length
  clear hok
  have hyn := modN_lt y (m := n) (by omega)
  have HMOD := hide (fun W => mod_calls (w := W) (x := y) (m := n) (by omega) (by omega))
  have hsec := secOf_is hB.mem
  have hbl : bs.length ≤ 9223372036854775807 := by obtain ⟨_, a', c', hv, h5, h6, _⟩ := hB; omega
  have HSEC : Hid (∀ W, Below w.heap.size w W → Calls Try.prog 17 #[.slice ba bn bc] W fun e w' => ∃ g, e = .returned (.slice (some ⟨g, 0, none⟩) 512 512) ∧ Own8 w' W.heap.size (.slice (some ⟨g, 0, none⟩) 512 512) (secOf bs) ∧ Below W.heap.size W w') := fun W hW => sector_calls (hB.below hW) hbl
  clear hB
  generalize secOf bs = sec at *
  generalize modN y n = i0 at *
  generalize hm : L.length = m at *
  have HM := hide hm
  clear hm
  have e0 : (w.alloc (.cells #[.int .i64 y, .slice ba bn bc] 25)).heap.size = w.heap.size + 1 := by simp
  have HAX := hide hAx
  clear hAx
  go_enter Try.func3, Try.ntmps3
  go_wp2_with fail
  refine (unhide HMADE).mono ?_
  rintro e w1 ⟨p, v1, rfl, ⟨gl, hD⟩, hws, hb1⟩
  obtain ⟨a1, c1, rfl, hsh⟩ := hws.shape
  rw [HM.out] at hsh hws ⊢
  have HA1 := hide (HAX.out.below hb1)
  have HT : Hid (Al w w1 0 n p (.slice a1 m c1) L ∧ Arr w1 w.heap.size 25 [.int .i64 y, .slice ba bn bc]) := ⟨⟨gl, zeroD n, dk1_of hD rfl rfl rfl, hws, by simp [zeroD], Nw.zero n⟩, HA1.out⟩
  clear HMADE hD hws hb1 HA1 HAX e0 hbx
  go_wp2
  go_loopw [9] (fun iv wr => ∃ k : Nat, k ≤ m ∧ iv = .int .i64 (k : Int) ∧ Hid (Al w wr k n p (.slice a1 m c1) L ∧ Arr wr w.heap.size 25 [.int .i64 y, .slice ba bn bc])) (fun iv _ => m - (intOf iv).toNat)
  case atStart => exact ⟨0, by omega, rfl, HT⟩
  case round =>
    clear HT
    obtain ⟨k, hk, rfl, HT⟩ := hrel
    by_cases hlt : k < m
    · obtain ⟨g, rfl, hle, hcm⟩ := hsh (by omega)
      obtain ⟨⟨gl2, D, hD, hws, hlen, hnw⟩, hAr⟩ := HT.out
      obtain ⟨i, s, hLk, hin, hsc⟩ := unhide HOK k hlt
      obtain ⟨ua, un, uc, HKM, hu⟩ := ws_at hws (by rw [HM.out]; exact hlt) hLk
      have HW : Hid (∀ W, W = wr.drew → Calls Try.prog 10 #[.pointer (some ⟨p, 0, none⟩), .int .i64 (i : Int), .slice ua un uc] W fun e w' => e = .returned (.int .i64 0) ∧ Dks w w' (k + 1) 1 (fun _ => p) (fun _ => gl2) (updF (fun _ => D) 0 (D.write i s)) ∧ Km wr w') := fun W hWe => by
        have hbd : Below wr.heap.size wr W := by rw [hWe]; exact (Below.refl _ _).drew
        refine (dks_write (k := 0) (Dks.below hD hbd) (by decide) rfl (i := i) (by rw [hlen]; exact hin) (by omega) (hu.below hbd) hsc).mono ?_
        rintro e w' ⟨h1, h2, h3⟩
        exact ⟨h1, h2, by rw [hWe] at h3; exact km_drew h3⟩
      clear HT
      go_wp2_with fail
      refine wp_region_held_drew (S := fun W => W.cell? ⟨g, k * 2, none⟩ = some (.int .i64 (i : Int)) ∧ W.cell? ⟨g, k * 2 + 1, none⟩ = some (.slice ua un uc)) (by kernel_rfl) (unhide HKM _ (Km.of_below (Below.refl _ _).drew)) (fun hHeld => ?_)
      refine wpAnyH_take (i := 0) (v := .pointer (some ⟨p, 0, none⟩)) rfl (by kernel_rfl) (by kernel_rfl) (by kernel_rfl) (fun _ _ _ h => h) (Or.inl ⟨by rfl, fun w hSw => by obtain ⟨hS1, hS2⟩ := hSw; go_simp⟩) (by assumption) ?_
      simp only [List.getElem_toArray, List.getElem_cons_zero, Act.put, List.setIfInBounds_toArray, List.set_cons_zero, List.set_cons_succ]
      refine wpAnyH_take (i := 1) (v := .slice (some ⟨g, 0, none⟩) m c1) rfl (by kernel_rfl) (by kernel_rfl) (by kernel_rfl) (fun _ _ _ h => h) (Or.inl ⟨by rfl, fun w hSw => by obtain ⟨hS1, hS2⟩ := hSw; go_simp⟩) (by assumption) ?_
      simp only [List.getElem_toArray, List.getElem_cons_succ, List.getElem_cons_zero, Act.put, List.setIfInBounds_toArray, List.set_cons_zero, List.set_cons_succ]
      refine wpAnyH_take (i := 2) (v := .int .i64 (k : Int)) rfl (by kernel_rfl) (by kernel_rfl) (by kernel_rfl) (fun _ _ _ h => h) (Or.inl ⟨by rfl, fun w hSw => by obtain ⟨hS1, hS2⟩ := hSw; go_simp⟩) (by assumption) ?_
      simp only [List.getElem_toArray, List.getElem_cons_succ, List.getElem_cons_zero, Act.put, List.setIfInBounds_toArray, List.set_cons_zero, List.set_cons_succ]
      refine wpAnyH_take (i := 3) (v := .pointer (some ⟨g, k * 2, none⟩)) rfl (by kernel_rfl) (by kernel_rfl) (by kernel_rfl) (fun _ _ _ h => h) (Or.inl ⟨by rfl, fun w hSw => by obtain ⟨hS1, hS2⟩ := hSw; go_simp⟩) (by assumption) ?_
      simp only [List.getElem_toArray, List.getElem_cons_succ, List.getElem_cons_zero, Act.put, List.setIfInBounds_toArray, List.set_cons_zero, List.set_cons_succ]
      refine wpAnyH_take (i := 4) (v := .pointer (some ⟨g, k * 2, none⟩)) rfl (by kernel_rfl) (by kernel_rfl) (by kernel_rfl) (fun _ _ _ h => h) (Or.inl ⟨by rfl, fun w hSw => by obtain ⟨hS1, hS2⟩ := hSw; go_simp⟩) (by assumption) ?_
      simp only [List.getElem_toArray, List.getElem_cons_succ, List.getElem_cons_zero, Act.put, List.setIfInBounds_toArray, List.set_cons_zero, List.set_cons_succ]
      refine wpAnyH_take (i := 5) (v := .int .i64 (i : Int)) rfl (by kernel_rfl) (by kernel_rfl) (by kernel_rfl) (fun _ _ _ h => h) (Or.inl ⟨by rfl, fun w hSw => by obtain ⟨hS1, hS2⟩ := hSw; go_simp⟩) (by assumption) ?_
      simp only [List.getElem_toArray, List.getElem_cons_succ, List.getElem_cons_zero, Act.put, List.setIfInBounds_toArray, List.set_cons_zero, List.set_cons_succ]
      refine wpAnyH_take (i := 6) (v := .slice (some ⟨g, 0, none⟩) m c1) rfl (by kernel_rfl) (by kernel_rfl) (by kernel_rfl) (fun _ _ _ h => h) (Or.inl ⟨by rfl, fun w hSw => by obtain ⟨hS1, hS2⟩ := hSw; go_simp⟩) (by assumption) ?_
      simp only [List.getElem_toArray, List.getElem_cons_succ, List.getElem_cons_zero, Act.put, List.setIfInBounds_toArray, List.set_cons_zero, List.set_cons_succ]
      refine wpAnyH_take (i := 7) (v := .int .i64 (k : Int)) rfl (by kernel_rfl) (by kernel_rfl) (by kernel_rfl) (fun _ _ _ h => h) (Or.inl ⟨by rfl, fun w hSw => by obtain ⟨hS1, hS2⟩ := hSw; go_simp⟩) (by assumption) ?_
      simp only [List.getElem_toArray, List.getElem_cons_succ, List.getElem_cons_zero, Act.put, List.setIfInBounds_toArray, List.set_cons_zero, List.set_cons_succ]
      refine wpAnyH_take (i := 8) (v := .pointer (some ⟨g, k * 2, none⟩)) rfl (by kernel_rfl) (by kernel_rfl) (by kernel_rfl) (fun _ _ _ h => h) (Or.inl ⟨by rfl, fun w hSw => by obtain ⟨hS1, hS2⟩ := hSw; go_simp⟩) (by assumption) ?_
      simp only [List.getElem_toArray, List.getElem_cons_succ, List.getElem_cons_zero, Act.put, List.setIfInBounds_toArray, List.set_cons_zero, List.set_cons_succ]
      refine wpAnyH_take (i := 9) (v := .pointer (some ⟨g, k * 2 + 1, none⟩)) rfl (by kernel_rfl) (by kernel_rfl) (by kernel_rfl) (fun _ _ _ h => h) (Or.inl ⟨by rfl, fun w hSw => by obtain ⟨hS1, hS2⟩ := hSw; go_simp⟩) (by assumption) ?_
      simp only [List.getElem_toArray, List.getElem_cons_succ, List.getElem_cons_zero, Act.put, List.setIfInBounds_toArray, List.set_cons_zero, List.set_cons_succ]
      refine wpAnyH_take (i := 10) (v := .slice ua un uc) rfl (by kernel_rfl) (by kernel_rfl) (by kernel_rfl) (fun _ _ _ h => h) (Or.inl ⟨by rfl, fun w hSw => by obtain ⟨hS1, hS2⟩ := hSw; go_simp⟩) (by assumption) ?_
      simp only [List.getElem_toArray, List.getElem_cons_succ, List.getElem_cons_zero, Act.put, List.setIfInBounds_toArray, List.set_cons_zero, List.set_cons_succ]
      refine wpAnyH_ready (rs := [11]) (by kernel_rfl) (by simp) (AllReadyH.cons rfl (fun K hK => ?_) AllReadyH.nil)
      refine step_call3Gd (by rfl) 10 write_enter (.tmp 28) (.tmp 33) (.tmp 38) _ rfl rfl rfl rfl (unhide HW _ rfl) ?_
      rintro e w2 ⟨rfl, hD2, hK2⟩
      refine ⟨_, rfl, ?_⟩
      refine hK.out _ _ (unhide HKM _ hK2) (fun hHeld2 => ?_)
      clear hK K
      simp only [List.getElem_toArray, List.getElem_cons_succ, List.getElem_cons_zero, Act.put, List.setIfInBounds_toArray, List.set_cons_zero, List.set_cons_succ]
      refine wpAnyH_done (by kernel_rfl) ?_ _
      clear hHeld hHeld2
      have HT : Hid (Al w w2 (k + 1) n p (.slice (some ⟨g, 0, none⟩) m c1) L ∧ Arr w2 w.heap.size 25 [.int .i64 y, .slice ba bn bc]) := by
        refine ⟨⟨gl2, D.write i s, dk1_of hD2 rfl rfl rfl, hws.km hK2, hlen, by rw [unhide HTK k hlt, hLk]; exact hnw.write i s⟩, ?_⟩
        obtain ⟨F, hu2, ht2⟩ := hK2
        exact hAr.up hu2 (fun hF => (ht2 _ hF _ _ _ hAr).elim (by decide) (by decide))
      clear hD hws hlen hnw hAr hu hD2 hK2 HW HKM
      go_wp2
      go_roundw
      case rel => exact ⟨k + 1, by omega, by go_num, HT⟩
      case measure => simp [intOf]; omega
    · have hkm : k = m := by omega
      subst hkm
      obtain ⟨⟨gl2, D, hD, hws, hlen, hnw⟩, hAr⟩ := HT.out
      rw [HTL.out] at hnw
      have hfew : ∀ j, (D.wr j).length < 9223372036854775807 := fun j => by have := (hD.few 0 (by decide)).wr j; omega
      have HFL := hide (dks_flush (k := 0) hD (by decide) rfl (by omega))
      clear HT
      go_wp2_with fail
      refine (unhide HFL).mono ?_
      rintro e w3 ⟨rfl, hD3, hK3⟩
      have hD3' : Dk1 w w3 (k + 1) p gl2 D.flush := dk1_of hD3 rfl rfl rfl
      have hAr3 : Arr w3 w.heap.size 25 [.int .i64 y, .slice ba bn bc] := by
        obtain ⟨F, hu2, ht2⟩ := hK3
        exact hAr.up hu2 (fun hF => (ht2 _ hF _ _ _ hAr).elim (by decide) (by decide))
      have hlF : D.flush.la.length = n := by rw [flush_len]; exact hlen
      have HNF := hide (Nw.flush hnw hfew)
      have HNL := hide (Nw.load (Ls.flush hnw hfew))
      have HWS3 := hide (hws.km hK3)
      have HIM := hide (dks_image (k := 0) hD3' (by decide) rfl)
      clear HFL hD hD3 hD3' hK3 hws hnw hfew hAr hlen
      go_wp2_with fail
      refine (unhide HIM).mono ?_
      rintro e w4 ⟨v4, rfl, hI4, hD4, hb4⟩
      have hBB := hI4.isBB (by show D.flush.la.length ≤ 65536; omega)
      have HLD := hide (load_good hBB hI4.sec (by show 2 ≤ D.flush.la.length; omega) (by show D.flush.la.length ≤ 65536; omega))
      have HD4 := hide hD4
      have HWS4 := hide (HWS3.out.below hb4)
      have HAR4 := hide (hAr3.below hb4)
      clear HIM hI4 hD4 hb4 hBB HWS3 hAr3
      go_wp2_with fail
      refine (unhide HLD).mono ?_
      rintro e w5 ⟨q, glq, gmq, Vq, rfl, hdq, hfq, hb5⟩
      have hD5 : Dks w w5 (k + 1) 2 (two p q) (two gl2 glq) (two D.flush (loadD D.flush.la)) := by
        refine (Dks.snoc HD4.out hb5 hdq hfq ((Few.load _).mono (Nat.zero_le _))).congr (fun j hj => ?_) (fun j hj => ?_) (fun j hj => ?_) <;> (rcases (show j = 0 ∨ j = 1 by omega) with rfl | rfl <;> rfl)
      have hc0q := hdq.cells.1
      have hll : (loadD D.flush.la).la.length = n := hlF
      rw [hll] at hc0q
      have HSE := hide (sectors_calls hc0q)
      have HTE := hide (dks_tells (k := 1) (m := n) (f := k) hD5 (by decide) (two1 p q) (by omega) (HWS4.out.below hb5) (by rw [HM.out]; exact Nat.le_refl _) hll (by rw [HTL.out]; exact HNL.out))
      have HWS5 := hide (HWS4.out.below hb5)
      have HAR5 := hide (HAR4.out.below hb5)
      clear HLD HD4 HWS4 HAR4 hdq hfq hb5 hD5 hc0q
      go_wp2_with fail
      refine (unhide HSE).mono ?_
      rintro e w6 ⟨rfl, hw6⟩
      obtain rfl := hw6.symm
      go_wp2_with fail
      refine (unhide HTE).mono ?_
      rintro e w6 ⟨rfl, hD6, hK6⟩
      have hD6' : Dks w w6 (k + 1 + n) 2 (two p q) (two gl2 glq) (two D.flush ((loadD D.flush.la).reads n)) := hD6.congr (fun _ _ => rfl) (fun _ _ => rfl) (updF_two1 D.flush _ _)
      have HAR6 : Hid (Arr w6 w.heap.size 25 [.int .i64 y, .slice ba bn bc]) := by
        have h5 := HAR5.out
        obtain ⟨F, hu2, ht2⟩ := hK6
        exact h5.up hu2 (fun hF => (ht2 _ hF _ _ _ h5).elim (by decide) (by decide))
      have hcy := HAR6.out.cell_of (j := 0) rfl
      have hcb := HAR6.out.cell_of (j := 1) rfl
      have HWS6 := hide (HWS5.out.km hK6)
      have hbw6 := hD6'.bel
      have HSE6 := hide (unhide HSEC w6 hbw6)
      have HD6 := hide hD6'
      clear HSE HTE hD6 hD6' hK6 HWS5 HAR5
      go_wp2_with fail
      refine (unhide HMOD w6).mono ?_
      rintro e w7 ⟨rfl, hw7⟩
      obtain rfl := hw7.symm
      go_wp2_with fail
      refine (unhide HSE6).mono ?_
      rintro e w7 ⟨g7, rfl, hu7, hb7⟩
      have HW7 := hide (dks_write (k := 1) (i := i0) (HD6.out.below hb7) (by decide) (two1 p q) (by show i0 < D.flush.la.length; omega) (by omega) (hu7.mono (Nat.zero_le _)) hsec)
      have HWS7 := hide (HWS6.out.below hb7)
      have HAR7 := hide (HAR6.out.below hb7)
      clear HSE6 HWS6 HAR6 HD6 hu7 hb7 hcy hcb
      go_wp2_with fail
      refine (unhide HW7).mono ?_
      rintro e w8 ⟨rfl, hD8, hK8⟩
      have hD8' : Dks w w8 (k + 1 + n + 1) 2 (two p q) (two gl2 glq) (two D.flush (((loadD D.flush.la).reads n).write i0 sec)) := hD8.congr (fun _ _ => rfl) (fun _ _ => rfl) (updF_two1 D.flush _ _)
      have HFL := hide (dks_flush (k := 1) hD8' (by decide) (two1 p q) (by omega))
      have HNE : Hid (Nw (((loadD D.flush.la).reads n).write i0 sec).flush (L ++ [((i0 : Int), sec)])) := by
        have h0 : Nw ((loadD D.flush.la).reads n) L := HNL.out
        exact (h0.write i0 sec).flush (fun j => by have := (hD8'.few 1 (by decide)).wr j; rw [two1] at this; omega)
      have HWS8 := hide (HWS7.out.km hK8)
      have HAR8 : Hid (Arr w8 w.heap.size 25 [.int .i64 y, .slice ba bn bc]) := by
        have h5 := HAR7.out
        obtain ⟨F, hu2, ht2⟩ := hK8
        exact h5.up hu2 (fun hF => (ht2 _ hF _ _ _ h5).elim (by decide) (by decide))
      clear HW7 HWS7 HAR7 hD8 hD8' hK8
      go_wp2_with fail
      refine (unhide HFL).mono ?_
      rintro e w9 ⟨rfl, hD9, hK9⟩
      have hD9' : Dks w w9 (k + 1 + n + 1 + 1) 2 (two p q) (two gl2 glq) (two D.flush (((loadD D.flush.la).reads n).write i0 sec).flush) := hD9.congr (fun _ _ => rfl) (fun _ _ => rfl) (updF_two1 D.flush _ _)
      have HWS9 := hide (HWS8.out.km hK9)
      have HAR9 : Hid (Arr w9 w.heap.size 25 [.int .i64 y, .slice ba bn bc]) := by
        have h5 := HAR8.out
        obtain ⟨F, hu2, ht2⟩ := hK9
        exact h5.up hu2 (fun hF => (ht2 _ hF _ _ _ h5).elim (by decide) (by decide))
      have hlE : (((loadD D.flush.la).reads n).write i0 sec).flush.la.length = n := by rw [flush_len]; exact hlF
      have HSX : Hid (∀ W, Km w9 W → W.cell? ⟨w.heap.size, 1, none⟩ = some (.slice ba bn bc)) := fun W hK => by
        have h5 := HAR9.out
        obtain ⟨F, hu2, ht2⟩ := hK
        exact (h5.up hu2 (fun hF => (ht2 _ hF _ _ _ h5).elim (by decide) (by decide))).cell_of (j := 1) rfl
      have HSB : Hid (∀ W W', Km w9 W → Below W.heap.size W W' → W'.cell? ⟨w.heap.size, 1, none⟩ = some (.slice ba bn bc)) := fun W W' hK hb => by
        have h5 := HAR9.out
        obtain ⟨F, hu2, ht2⟩ := hK
        exact ((h5.up hu2 (fun hF => (ht2 _ hF _ _ _ h5).elim (by decide) (by decide))).below hb).cell_of (j := 1) rfl
      have HSA : Hid (∀ W W', Km w9 W → Below W.heap.size W W' → Arr W' w.heap.size 25 [.int .i64 y, .slice ba bn bc]) := fun W W' hK hb => by
        have h5 := HAR9.out
        obtain ⟨F, hu2, ht2⟩ := hK
        exact (h5.up hu2 (fun hF => (ht2 _ hF _ _ _ h5).elim (by decide) (by decide))).below hb
      have HTD : Hid (∀ W, W = w9.drew → Calls Try.prog 15 #[.pointer (some ⟨p, 0, none⟩), .int .i64 (n : Int), .slice a1 k c1, .int .i64 (k : Int)] W fun e w' => e = .returned (.bool true) ∧ Dks w w' (k + 1 + n + 1 + 1 + n) 2 (two p q) (two gl2 glq) (two (D.flush.reads n) (((loadD D.flush.la).reads n).write i0 sec).flush) ∧ Km w9 w') := fun W hWe => by
        have hbd : Below w9.heap.size w9 W := by rw [hWe]; exact (Below.refl _ _).drew
        refine (dks_tells (k := 0) (m := n) (f := k) (hD9'.below hbd) (by decide) (two0 p q) (by omega) (HWS9.out.below hbd) (by rw [HM.out]; exact Nat.le_refl _) hlF (by rw [HTL.out]; exact HNF.out)).mono ?_
        rintro e w' ⟨h1, h2, h3⟩
        exact ⟨h1, by rw [updF_two0, two0] at h2; exact h2, by rw [hWe] at h3; exact km_drew h3⟩
      have HTE9 : Hid (∀ W W' v, Dks w W (k + 1 + n + 1 + 1 + n) 2 (two p q) (two gl2 glq) (two (D.flush.reads n) (((loadD D.flush.la).reads n).write i0 sec).flush) → Below W.heap.size W W' → IsWs W' v (L ++ [((i0 : Int), sec)]) → Arr W' w.heap.size 25 [.int .i64 y, .slice ba bn bc] → Calls Try.prog 15 #[.pointer (some ⟨q, 0, none⟩), .int .i64 (n : Int), v, .int .i64 ((k : Int) + 1)] W' fun e w' => e = .returned (.bool true) ∧ Below w.heap.size w w' ∧ w'.cell? ⟨w.heap.size, 1, none⟩ = some (.slice ba bn bc)) := fun W W' v hD hb hv h5 => by
        have hll2 : (L ++ [((i0 : Int), sec)]).length = k + 1 := by rw [List.length_append, List.length_singleton, HM.out]
        have := dks_tells (k := 1) (m := n) (f := k + 1) (hD.below hb) (by decide) (two1 p q) (by omega) hv (by rw [hll2]; exact Nat.le_refl _) hlE (by rw [show (L ++ [((i0 : Int), sec)]).take (k + 1) = L ++ [((i0 : Int), sec)] from List.take_of_length_le (by rw [hll2]; exact Nat.le_refl _)]; exact HNE.out)
        rw [show ((k + 1 : Nat) : Int) = (k : Int) + 1 by omega] at this
        refine this.mono fun e w' ⟨h1, h2, h3⟩ => ⟨h1, h2.bel, ?_⟩
        obtain ⟨F, hu2, ht2⟩ := h3
        exact (h5.up hu2 (fun hF => (ht2 _ hF _ _ _ h5).elim (by decide) (by decide))).cell_of (j := 1) rfl
      have HL1 : Hid (L.length ≤ 100) := by rw [HM.out]; exact hml
      have hadd : IntKind.i64.wrap ((k : Int) + 1) = (k : Int) + 1 := IntWalk.i64_in _ (by omega)
      clear HFL hD9 hK9 HWS8 HAR8
      go_wp2_with fail
      refine wp_region_held_drew (S := fun W => W.cell? ⟨w.heap.size, 1, none⟩ = some (.slice ba bn bc)) (by kernel_rfl) (unhide HSX _ (Km.of_below (Below.refl _ _).drew)) (fun hHeld => ?_)
      refine wpAnyH_take (i := 0) (v := .pointer (some ⟨p, 0, none⟩)) rfl (by kernel_rfl) (by kernel_rfl) (by kernel_rfl) (fun _ _ _ h => h) (Or.inl ⟨by rfl, fun w hSw => by go_simp⟩) (by assumption) ?_
      simp only [List.getElem_toArray, List.getElem_cons_zero, Act.put, List.setIfInBounds_toArray, List.set_cons_zero, List.set_cons_succ]
      refine wpAnyH_take (i := 1) (v := .int .i64 (n : Int)) rfl (by kernel_rfl) (by kernel_rfl) (by kernel_rfl) (fun _ _ _ h => h) (Or.inl ⟨by rfl, fun w hSw => by go_simp⟩) (by assumption) ?_
      simp only [List.getElem_toArray, List.getElem_cons_succ, List.getElem_cons_zero, Act.put, List.setIfInBounds_toArray, List.set_cons_zero, List.set_cons_succ]
      refine wpAnyH_take (i := 2) (v := .slice a1 k c1) rfl (by kernel_rfl) (by kernel_rfl) (by kernel_rfl) (fun _ _ _ h => h) (Or.inl ⟨by rfl, fun w hSw => by go_simp⟩) (by assumption) ?_
      simp only [List.getElem_toArray, List.getElem_cons_succ, List.getElem_cons_zero, Act.put, List.setIfInBounds_toArray, List.set_cons_zero, List.set_cons_succ]
      refine wpAnyH_take (i := 3) (v := .slice a1 k c1) rfl (by kernel_rfl) (by kernel_rfl) (by kernel_rfl) (fun _ _ _ h => h) (Or.inl ⟨by rfl, fun w hSw => by go_simp⟩) (by assumption) ?_
      simp only [List.getElem_toArray, List.getElem_cons_succ, List.getElem_cons_zero, Act.put, List.setIfInBounds_toArray, List.set_cons_zero, List.set_cons_succ]
      refine wpAnyH_take (i := 4) (v := .int .i64 (k : Int)) rfl (by kernel_rfl) (by kernel_rfl) (by kernel_rfl) (fun _ _ _ h => h) (Or.inl ⟨by rfl, fun w hSw => by go_simp⟩) (by assumption) ?_
      simp only [List.getElem_toArray, List.getElem_cons_succ, List.getElem_cons_zero, Act.put, List.setIfInBounds_toArray, List.set_cons_zero, List.set_cons_succ]
      refine wpAnyH_ready (rs := [5]) (by kernel_rfl) (by simp) (AllReadyH.cons rfl (fun K hK => ?_) AllReadyH.nil)
      refine step_call4Gd (by rfl) 15 tells_enter (.tmp 82) (.tmp 83) (.tmp 84) (.tmp 86) _ rfl rfl rfl rfl rfl (unhide HTD _ rfl) ?_
      rintro e w10 ⟨rfl, hD10, hK10⟩
      have HD10 := hide hD10
      have hws10 := HWS9.out.km hK10
      have hbw10 := hD10.bel
      clear hD10
      refine ⟨_, rfl, ?_⟩
      refine hK.out _ _ (unhide HSX _ hK10) (fun hHeld1 => ?_)
      clear hK K
      simp only [List.getElem_toArray, List.getElem_cons_succ, List.getElem_cons_zero, Act.put, List.setIfInBounds_toArray, List.set_cons_zero, List.set_cons_succ]
      refine wpAnyH_take (i := 6) (v := .bool true) rfl (by kernel_rfl) (by kernel_rfl) (by kernel_rfl) (fun _ _ _ h => h) (Or.inl ⟨by rfl, fun w hSw => by go_simp⟩) (by assumption) ?_
      simp only [List.getElem_toArray, List.getElem_cons_succ, List.getElem_cons_zero, Act.put, List.setIfInBounds_toArray, List.set_cons_zero, List.set_cons_succ]
      refine wpAnyH_take (i := 7) (v := .pointer (some ⟨q, 0, none⟩)) rfl (by kernel_rfl) (by kernel_rfl) (by kernel_rfl) (fun _ _ _ h => h) (Or.inl ⟨by rfl, fun w hSw => by go_simp⟩) (by assumption) ?_
      simp only [List.getElem_toArray, List.getElem_cons_succ, List.getElem_cons_zero, Act.put, List.setIfInBounds_toArray, List.set_cons_zero, List.set_cons_succ]
      refine wpAnyH_take (i := 8) (v := .int .i64 (n : Int)) rfl (by kernel_rfl) (by kernel_rfl) (by kernel_rfl) (fun _ _ _ h => h) (Or.inl ⟨by rfl, fun w hSw => by go_simp⟩) (by assumption) ?_
      simp only [List.getElem_toArray, List.getElem_cons_succ, List.getElem_cons_zero, Act.put, List.setIfInBounds_toArray, List.set_cons_zero, List.set_cons_succ]
      refine wpAnyH_take (i := 10) (v := .slice a1 k c1) rfl (by kernel_rfl) (by kernel_rfl) (by kernel_rfl) (fun _ _ _ h => h) (Or.inl ⟨by rfl, fun w hSw => by go_simp⟩) (by assumption) ?_
      simp only [List.getElem_toArray, List.getElem_cons_succ, List.getElem_cons_zero, Act.put, List.setIfInBounds_toArray, List.set_cons_zero, List.set_cons_succ]
      refine wpAnyH_take (i := 12) (v := .int .i64 (i0 : Int)) rfl (by kernel_rfl) (by kernel_rfl) (by kernel_rfl) (fun _ _ _ h => h) (Or.inl ⟨by rfl, fun w hSw => by go_simp⟩) (by assumption) ?_
      simp only [List.getElem_toArray, List.getElem_cons_succ, List.getElem_cons_zero, Act.put, List.setIfInBounds_toArray, List.set_cons_zero, List.set_cons_succ]
      refine wpAnyH_take (i := 13) (v := .pointer (some ⟨w.heap.size, 1, none⟩)) rfl (by kernel_rfl) (by kernel_rfl) (by kernel_rfl) (fun _ _ _ h => h) (Or.inl ⟨by rfl, fun w hSw => by go_simp⟩) (by assumption) ?_
      simp only [List.getElem_toArray, List.getElem_cons_succ, List.getElem_cons_zero, Act.put, List.setIfInBounds_toArray, List.set_cons_zero, List.set_cons_succ]
      refine wpAnyH_take (i := 14) (v := .slice ba bn bc) rfl (by kernel_rfl) (by kernel_rfl) (by kernel_rfl) (fun _ _ _ h => h) (Or.inl ⟨by rfl, fun w hSw => by go_simp⟩) (by assumption) ?_
      simp only [List.getElem_toArray, List.getElem_cons_succ, List.getElem_cons_zero, Act.put, List.setIfInBounds_toArray, List.set_cons_zero, List.set_cons_succ]
      refine wpAnyH_take (i := 19) (v := .slice a1 k c1) rfl (by kernel_rfl) (by kernel_rfl) (by kernel_rfl) (fun _ _ _ h => h) (Or.inl ⟨by rfl, fun w hSw => by go_simp⟩) (by assumption) ?_
      simp only [List.getElem_toArray, List.getElem_cons_succ, List.getElem_cons_zero, Act.put, List.setIfInBounds_toArray, List.set_cons_zero, List.set_cons_succ]
      refine wpAnyH_take (i := 20) (v := .int .i64 (k : Int)) rfl (by kernel_rfl) (by kernel_rfl) (by kernel_rfl) (fun _ _ _ h => h) (Or.inl ⟨by rfl, fun w hSw => by go_simp⟩) (by assumption) ?_
      simp only [List.getElem_toArray, List.getElem_cons_succ, List.getElem_cons_zero, Act.put, List.setIfInBounds_toArray, List.set_cons_zero, List.set_cons_succ]
      refine wpAnyH_take (i := 21) (v := .int .i64 ((k : Int) + 1)) rfl (by kernel_rfl) (by kernel_rfl) (by kernel_rfl) (fun _ _ _ h => h) (Or.inl ⟨by rfl, fun w hSw => by go_simp⟩) (by assumption) ?_
      simp only [List.getElem_toArray, List.getElem_cons_succ, List.getElem_cons_zero, Act.put, List.setIfInBounds_toArray, List.set_cons_zero, List.set_cons_succ]
      refine wpAnyH_ready (rs := [9]) (by kernel_rfl) (by simp) (AllReadyH.cons rfl (fun K hK => ?_) AllReadyH.nil)
      refine step_buildW0 (by rfl) rfl ?_
      have hbl := (Below.refl w10.heap.size w10).alloc (Nat.le_refl _) (.cells #[] 25)
      have hO10 := OwnWs.lit (w := w10) (B := w10.heap.size) (Nat.le_refl _)
      have hwsl := hws10.below hbl
      have hszl : w10.heap.size ≤ (w10.alloc (.cells #[] 25)).heap.size := by simp
      refine hK.out _ _ (unhide HSB _ _ hK10 hbl) (fun hHeld2 => ?_)
      clear hK K
      simp only [List.getElem_toArray, List.getElem_cons_succ, List.getElem_cons_zero, Act.put, List.setIfInBounds_toArray, List.set_cons_zero, List.set_cons_succ]
      refine wpAnyH_ready (rs := [11]) (by kernel_rfl) (by simp) (AllReadyH.cons rfl (fun K hK => ?_) AllReadyH.nil)
      refine step_appWs (by rfl) (.tmp 91) (.tmp 92) rfl rfl hO10 rfl hwsl (by have := HL1.out; simp; omega) hszl ?_
      intro v11 w11 hO11 hg11 hv11
      have hb11 := below_app hbl hg11 hszl hv11
      have hsz11 := hb11.size
      obtain ⟨ca, cc, hv11'⟩ := hO11.shape
      rw [List.nil_append] at hO11 hv11'
      rw [HM.out] at hv11'
      subst hv11'
      clear hO10 hwsl hg11 hv11
      refine hK.out _ _ (unhide HSB _ _ hK10 hb11) (fun hHeld3 => ?_)
      clear hK K
      simp only [List.getElem_toArray, List.getElem_cons_succ, List.getElem_cons_zero, Act.put, List.setIfInBounds_toArray, List.set_cons_zero, List.set_cons_succ]
      refine wpAnyH_ready (rs := [15]) (by kernel_rfl) (by simp) (AllReadyH.cons rfl (fun K hK => ?_) AllReadyH.nil)
      refine step_call1Gd (by rfl) 17 sector_enter (.tmp 96) _ rfl rfl (unhide HSEC _ (hbw10.trans (hb11.mono hbw10.size))) ?_
      rintro e w12 ⟨g12, rfl, hu12, hb12⟩
      have hO12 := hO11.below hb12
      have hbb12 := hb11.trans (hb12.mono hsz11)
      clear hO11
      refine ⟨_, rfl, ?_⟩
      refine hK.out _ _ (unhide HSB _ _ hK10 hbb12) (fun hHeld4 => ?_)
      clear hK K
      simp only [List.getElem_toArray, List.getElem_cons_succ, List.getElem_cons_zero, Act.put, List.setIfInBounds_toArray, List.set_cons_zero, List.set_cons_succ]
      refine wpAnyH_take (i := 16) (v := .agg #[.int .i64 (i0 : Int), .slice (some ⟨g12, 0, none⟩) 512 512]) rfl (by kernel_rfl) (by kernel_rfl) (by kernel_rfl) (fun _ _ _ h => h) (Or.inl ⟨by rfl, fun w hSw => by go_simp⟩) (by assumption) ?_
      simp only [List.getElem_toArray, List.getElem_cons_succ, List.getElem_cons_zero, Act.put, List.setIfInBounds_toArray, List.set_cons_zero, List.set_cons_succ]
      refine wpAnyH_ready (rs := [17]) (by kernel_rfl) (by simp) (AllReadyH.cons rfl (fun K hK => ?_) AllReadyH.nil)
      refine step_buildWG (by rfl) (.tmp 98) rfl rfl ?_
      have hbn := (Below.refl w12.heap.size w12).alloc (Nat.le_refl _) (.cells [.int .i64 (i0 : Int), .slice (some ⟨g12, 0, none⟩) 512 512].toArray 25)
      have hA13 := Arr.new w12 [.int .i64 (i0 : Int), .slice (some ⟨g12, 0, none⟩) 512 512] 25
      have hO13 := hO12.below hbn
      have hu13 := hu12.below hbn
      have hbb13 := hbb12.trans (hbn.mono hbb12.size)
      clear hO12 hu12
      refine hK.out _ _ (unhide HSB _ _ hK10 hbb13) (fun hHeld5 => ?_)
      clear hK K
      simp only [List.getElem_toArray, List.getElem_cons_succ, List.getElem_cons_zero, Act.put, List.setIfInBounds_toArray, List.set_cons_zero, List.set_cons_succ]
      generalize w12.alloc (.cells [.int .i64 (i0 : Int), .slice (some ⟨g12, 0, none⟩) 512 512].toArray 25) = w13 at *
      refine wpAnyH_ready (rs := [18]) (by kernel_rfl) (by simp) (AllReadyH.cons rfl (fun K hK => ?_) AllReadyH.nil)
      refine step_appWG (B := w10.heap.size) (by rfl) (.tmp 93) (.tmp 99) rfl rfl hO13 rfl hA13 (hu13.mono (Nat.zero_le _)) (by have := HL1.out; omega) hbb13.size ?_
      intro v14 w14 hO14 hg14 hv14
      have hbb14 := below_app hbb13 hg14 hbb13.size hv14
      obtain ⟨da, dc, hv14'⟩ := hO14.shape
      rw [List.length_append, List.length_singleton, HM.out] at hv14'
      subst hv14'
      have hws14 := hO14.isWs
      clear hO13 hA13 hu13 hO14 hg14 hv14
      refine hK.out _ _ (unhide HSB _ _ hK10 hbb14) (fun hHeld6 => ?_)
      clear hK K
      simp only [List.getElem_toArray, List.getElem_cons_succ, List.getElem_cons_zero, Act.put, List.setIfInBounds_toArray, List.set_cons_zero, List.set_cons_succ]
      refine wpAnyH_ready (rs := [22]) (by kernel_rfl) (by simp) (AllReadyH.cons rfl (fun K hK => ?_) AllReadyH.nil)
      refine step_call4Gd (by rfl) 15 tells_enter (.tmp 89) (.tmp 90) (.tmp 100) (.tmp 103) _ rfl rfl rfl rfl rfl (unhide HTE9 _ _ _ HD10.out hbb14 hws14 (unhide HSA _ _ hK10 hbb14)) ?_
      rintro e w15 ⟨rfl, hb15, hc15⟩
      refine ⟨_, rfl, ?_⟩
      refine hK.out _ _ (hc15) (fun hHeld7 => ?_)
      clear hK K
      simp only [List.getElem_toArray, List.getElem_cons_succ, List.getElem_cons_zero, Act.put, List.setIfInBounds_toArray, List.set_cons_zero, List.set_cons_succ]
      refine wpAnyH_take (i := 23) (v := .bool true) rfl (by kernel_rfl) (by kernel_rfl) (by kernel_rfl) (fun _ _ _ h => h) (Or.inl ⟨by rfl, fun w hSw => by go_simp⟩) (by assumption) ?_
      simp only [List.getElem_toArray, List.getElem_cons_succ, List.getElem_cons_zero, Act.put, List.setIfInBounds_toArray, List.set_cons_zero, List.set_cons_succ]
      refine wpAnyH_take (i := 24) (v := .bool true) rfl (by kernel_rfl) (by kernel_rfl) (by kernel_rfl) (fun _ _ _ h => h) (Or.inl ⟨by rfl, fun w hSw => by go_simp⟩) (by assumption) ?_
      simp only [List.getElem_toArray, List.getElem_cons_succ, List.getElem_cons_zero, Act.put, List.setIfInBounds_toArray, List.set_cons_zero, List.set_cons_succ]
      refine wpAnyH_done (by kernel_rfl) ?_ _
      go_wp2
      go_ret
      exact ⟨rfl, hb15⟩
end Go.Proofs.Ytfgjhlnaaopdeab

/- DiskTells, walked whole. -/
import Derived.Test.YtfgjhlnaaopdeaaOtF
namespace Go.Proofs.Ytfgjhlnaaopdeaa
open Go.RowKit Go.Maps

theorem Dks.congr {w wr : World} {B n : Nat} {P G P' G' : Nat → Nat} {D D' : Nat → AD} (h : Dks w wr B n P G D) (hP : ∀ j, j < n → P' j = P j) (hG : ∀ j, j < n → G' j = G j) (hD : ∀ j, j < n → D' j = D j) : Dks w wr B n P' G' D' := by
  obtain ⟨gm, V, h1, h2, h3⟩ := h.all
  refine ⟨⟨gm, V, fun j hj => ?_, fun j hj => ?_, fun i j hi hj => ?_⟩, fun j hj => ?_, h.bel⟩
  · rw [hP j hj, hG j hj, hD j hj]; exact h1 j hj
  · rw [hP j hj, hG j hj]; exact h2 j hj
  · rw [hP j hj, hG j hj, hP i hi, hG i hi]; exact h3 i j hi hj
  · rw [hD j hj]; exact h.few j hj
/-- One disk. -/
def Dk1 (w wr : World) (B p gl : Nat) (D : AD) : Prop := Dks w wr B 1 (fun _ => p) (fun _ => gl) (fun _ => D)
theorem dk1_of {w wr : World} {B p gl : Nat} {P G : Nat → Nat} {D : Nat → AD} {D' : AD} (h : Dks w wr B 1 P G D) (hP : P 0 = p) (hG : G 0 = gl) (hD : D 0 = D') : Dk1 w wr B p gl D' :=
  h.congr (fun j hj => by rw [show j = 0 by omega, hP]) (fun j hj => by rw [show j = 0 by omega, hG]) (fun j hj => by rw [show j = 0 by omega, hD])
theorem km_drew {w w' : World} (h : Km w.drew w') : Km w w' := by
  obtain ⟨F, hu, ht⟩ := h
  exact ⟨F, ⟨hu.os, hu.tape, hu.output, hu.size, hu.block⟩, ht⟩
theorem IsWs.blk_km {w w' : World} {g n c : Nat} {l : Ats} (h : IsWs w (.slice (some ⟨g, 0, none⟩) n c) l) (hk : Km w w') : w'.heap[g]? = w.heap[g]? := by
  obtain ⟨es, r1, _⟩ := h.rd
  obtain ⟨F, hu, ht⟩ := hk
  rcases r1.2 with ⟨hv, _⟩ | ⟨g', cap', cur, hv, _, hg, _⟩
  · cases hv
  · injection hv with e1
    injection e1 with e1
    injection e1 with e1
    subst e1
    exact hu.block g (Array.getElem?_eq_some_iff.1 hg).1 (fun hF => (ht g hF _ _ _ hg).elim (by decide) (by decide))
theorem firstOf_at (k : Nat) : firstOf (k + 1) (k : Int) = k + 1 := by unfold firstOf; rw [if_pos (by omega)]; omega
theorem firstOf_not {k : Nat} {x : Int} (h : ¬ (k : Int) = x) : firstOf (k + 1) x = firstOf k x := by
  unfold firstOf
  by_cases h1 : 0 ≤ x ∧ x < (k : Int)
  · rw [if_pos h1, if_pos (by omega)]
  · rw [if_neg h1, if_neg (by omega)]
theorem write_enter (v u z : Value) (W : World) : (callFunc 17 #[v, u, z]).run Try.prog W = .ok (.enter 17 #[v, u, z]) W := by kernel_rfl
/-- Behind k of the writes. -/
def Tl (w wr : World) (k n p : Nat) (vl : Value) (L : Ats) (f : Int) : Prop := ∃ gl D, Dk1 w wr (2 * k) p gl D ∧ IsWs wr vl L ∧ D.la.length = n ∧ Nw D (L.take k) ∧ Ls D (L.take (firstOf k f))
theorem take_snoc {L : Ats} {k : Nat} (hk : k < L.length) : L.take (k + 1) = L.take k ++ [L.getD k dA] := by rw [List.take_succ_eq_append_getElem hk, getD_eq hk]
set_option maxRecDepth 100000 in
set_option maxHeartbeats 2000000 in
theorem tells_walk {w : World} {v : Value} {l : Ats} (x f : Int) (h : IsWr w v l) :
    Calls Try.prog 6 #[.int .i64 x, v, .int .i64 f] w fun e w' => e = .returned (.bool true) ∧ Below w.heap.size w w' := by
  have hx63 := modN_lt x (m := 63) (by decide)
  have hok := madeL_ok (n := 2 + modN x 63) (by omega) h.bytes
  have hml := madeL_len (2 + modN x 63) l
  have HMADE := hide (dks_made (x := x) (Dks.nil w 0 (fun _ => 0) (fun _ => 0) (fun _ => zeroD 2)) h)
  obtain ⟨n, hn⟩ : ∃ n, 2 + modN x 63 = n := ⟨_, rfl⟩
  have hnlo : 2 ≤ n := by omega
  have hnhi : n ≤ 64 := by omega
  rw [hn] at HMADE hok hml
  generalize hL : madeL n l = L at *
  clear hL hn hx63
  obtain ⟨va, vn, vc, rfl⟩ : ∃ a n c, v = .slice a n c := by obtain ⟨a, c, rfl, _⟩ := h.val; exact ⟨_, _, _, rfl⟩
  clear h
  have HOK : Hid (∀ j, j < L.length → ∃ (i : Nat) (s : List Int), L.getD j dA = ((i : Int), s) ∧ i < n ∧ IsSec s) := fun j hj => by
    have := hok _ (List.getElem_mem hj)
    rw [getD_eq hj]
    exact ⟨L[j].1.toNat, L[j].2, by rw [Int.toNat_of_nonneg this.1], by omega, this.2.2⟩
  have HTK := hide (fun k (hk : k < L.length) => take_snoc hk)
  clear hok
  generalize hm : L.length = m at *
  have HM := hide hm
  clear hm
  go_enter Try.func6, Try.ntmps6
  go_wp2_with fail
  refine (unhide HMADE).mono ?_
  rintro e w1 ⟨p, v1, rfl, ⟨gl, hD⟩, hws, hb1⟩
  obtain ⟨a1, c1, rfl, hsh⟩ := hws.shape
  rw [HM.out] at hsh hws ⊢
  have HT : Hid (Tl w w1 0 n p (.slice a1 m c1) L f) := ⟨gl, zeroD n, dk1_of hD rfl rfl rfl, hws, by simp [zeroD], Nw.zero n, by rw [show firstOf 0 f = 0 from Nat.le_zero.1 (firstOf_le 0 f)]; exact Ls.zero n⟩
  clear HMADE hD hws hb1
  go_wp2
  go_loopw [9] (fun iv wr => ∃ k : Nat, k ≤ m ∧ iv = .int .i64 (k : Int) ∧ Hid (Tl w wr k n p (.slice a1 m c1) L f)) (fun iv _ => m - (intOf iv).toNat)
  case atStart => exact ⟨0, by omega, rfl, HT⟩
  case round =>
    clear HT
    obtain ⟨k, hk, rfl, HT⟩ := hrel
    by_cases hlt : k < m
    · obtain ⟨g, rfl, hle, hcm⟩ := hsh (by omega)
      obtain ⟨gl2, D, hD, hws, hlen, hnw, hls⟩ := HT.out
      obtain ⟨i, s, hLk, hin, hsec⟩ := unhide HOK k hlt
      obtain ⟨u, hc1, hc2, hu⟩ := hws.elem (j := k) (by rw [HM.out]; exact hlt)
      rw [hLk] at hc1 hu
      obtain ⟨ua, un, uc, rfl⟩ := hu.isB.shape
      have HW : Hid (∀ W, W = wr.drew → Calls Try.prog 17 #[.pointer (some ⟨p, 0, none⟩), .int .i64 (i : Int), .slice ua un uc] W fun e w' => e = .returned (.int .i64 0) ∧ Dks w w' (2 * k + 1) 1 (fun _ => p) (fun _ => gl2) (updF (fun _ => D) 0 (D.write i s)) ∧ Km wr w') := fun W hWe => by
        have hbd : Below wr.heap.size wr W := by rw [hWe]; exact (Below.refl _ _).drew
        refine (dks_write (k := 0) (hD.below hbd) (by decide) rfl (i := i) (by rw [hlen]; exact hin) (by omega) (hu.below hbd) hsec).mono ?_
        rintro e w' ⟨h1, h2, h3⟩
        exact ⟨h1, h2, by rw [hWe] at h3; exact km_drew h3⟩
      have HKM : Hid (∀ W, Km wr W → W.cell? ⟨g, k * 2, none⟩ = some (.int .i64 (i : Int)) ∧ W.cell? ⟨g, k * 2 + 1, none⟩ = some (.slice ua un uc)) := fun W hK => by
        have e := hws.blk_km hK
        exact ⟨(World.cell?_of_block (a := ⟨g, k * 2, none⟩) e).trans hc1, (World.cell?_of_block (a := ⟨g, k * 2 + 1, none⟩) e).trans hc2⟩
      have HNX : Hid (∀ W, Dks w W (2 * k + 1) 1 (fun _ => p) (fun _ => gl2) (updF (fun _ => D) 0 (D.write i s)) → Km wr W → Dk1 w W (2 * k + 1) p gl2 (D.write i s) ∧ IsWs W (.slice (some ⟨g, 0, none⟩) m c1) L ∧ (D.write i s).la.length = n ∧ Nw (D.write i s) (L.take (k + 1)) ∧ Ls (D.write i s) (L.take (firstOf k f))) := fun W hW hK =>
        ⟨dk1_of hW rfl rfl rfl, hws.km hK, hlen, by rw [unhide HTK k hlt, hLk]; exact hnw.write i s, hls.write i s⟩
      clear hD hws hlen hnw hls hu hsec
      go_wp2_with fail
      refine wp_region_held_drew (S := fun W => W.cell? ⟨g, k * 2, none⟩ = some (.int .i64 (i : Int)) ∧ W.cell? ⟨g, k * 2 + 1, none⟩ = some (.slice ua un uc)) (by kernel_rfl) (unhide HKM _ (Km.of_below (Below.refl _ _).drew)) (fun hHeld => ?_)
      refine wpAnyH_take (i := 0) (v := .pointer (some ⟨p, 0, none⟩)) rfl (by kernel_rfl) (by kernel_rfl) (by kernel_rfl) (fun _ _ _ h => h) (Or.inl ⟨by rfl, fun w hSw => by obtain ⟨hS1, hS2⟩ := hSw; go_simp⟩) (by assumption) ?_
      simp only [List.getElem_toArray, List.getElem_cons_zero, Act.put, List.setIfInBounds_toArray, List.set_cons_zero, List.set_cons_succ]
      refine wpAnyH_take (i := 1) (v := .slice (some ⟨g, 0, none⟩) m c1) rfl (by kernel_rfl) (by kernel_rfl) (by kernel_rfl) (fun _ _ _ h => h) (Or.inl ⟨by rfl, fun w hSw => by obtain ⟨hS1, hS2⟩ := hSw; go_simp⟩) (by assumption) ?_
      simp only [List.getElem_toArray, List.getElem_cons_succ, List.getElem_cons_zero, Act.put, List.setIfInBounds_toArray, List.set_cons_zero, List.set_cons_succ]
      refine wpAnyH_take (i := 2) (v := .int .i64 (k : Int)) rfl (by kernel_rfl) (by kernel_rfl) (by kernel_rfl) (fun _ _ _ h => h) (Or.inl ⟨by rfl, fun w hSw => by obtain ⟨hS1, hS2⟩ := hSw; go_simp⟩) (by assumption) ?_
      simp only [List.getElem_toArray, List.getElem_cons_succ, List.getElem_cons_zero, Act.put, List.setIfInBounds_toArray, List.set_cons_zero, List.set_cons_succ]
      refine wpAnyH_take (i := 3) (v := .pointer (some ⟨g, k * 2, none⟩)) rfl (by kernel_rfl) (by kernel_rfl) (by kernel_rfl) (fun _ _ _ h => h) (Or.inl ⟨by rfl, fun w hSw => by obtain ⟨hS1, hS2⟩ := hSw; go_simp⟩) (by assumption) ?_
      simp only [List.getElem_toArray, List.getElem_cons_succ, List.getElem_cons_zero, Act.put, List.setIfInBounds_toArray, List.set_cons_zero, List.set_cons_succ]
      refine wpAnyH_take (i := 4) (v := .pointer (some ⟨g, k * 2, none⟩)) rfl (by kernel_rfl) (by kernel_rfl) (by kernel_rfl) (fun _ _ _ h => h) (Or.inl ⟨by rfl, fun w hSw => by obtain ⟨hS1, hS2⟩ := hSw; go_simp⟩) (by assumption) ?_
      simp only [List.getElem_toArray, List.getElem_cons_succ, List.getElem_cons_zero, Act.put, List.setIfInBounds_toArray, List.set_cons_zero, List.set_cons_succ]
      refine wpAnyH_take (i := 5) (v := .int .i64 (i : Int)) rfl (by kernel_rfl) (by kernel_rfl) (by kernel_rfl) (fun _ _ _ h => h) (Or.inl ⟨by rfl, fun w hSw => by obtain ⟨hS1, hS2⟩ := hSw; go_simp⟩) (by assumption) ?_
      simp only [List.getElem_toArray, List.getElem_cons_succ, List.getElem_cons_zero, Act.put, List.setIfInBounds_toArray, List.set_cons_zero, List.set_cons_succ]
      refine wpAnyH_take (i := 6) (v := .slice (some ⟨g, 0, none⟩) m c1) rfl (by kernel_rfl) (by kernel_rfl) (by kernel_rfl) (fun _ _ _ h => h) (Or.inl ⟨by rfl, fun w hSw => by obtain ⟨hS1, hS2⟩ := hSw; go_simp⟩) (by assumption) ?_
      simp only [List.getElem_toArray, List.getElem_cons_succ, List.getElem_cons_zero, Act.put, List.setIfInBounds_toArray, List.set_cons_zero, List.set_cons_succ]
      refine wpAnyH_take (i := 7) (v := .int .i64 (k : Int)) rfl (by kernel_rfl) (by kernel_rfl) (by kernel_rfl) (fun _ _ _ h => h) (Or.inl ⟨by rfl, fun w hSw => by obtain ⟨hS1, hS2⟩ := hSw; go_simp⟩) (by assumption) ?_
      simp only [List.getElem_toArray, List.getElem_cons_succ, List.getElem_cons_zero, Act.put, List.setIfInBounds_toArray, List.set_cons_zero, List.set_cons_succ]
      refine wpAnyH_take (i := 8) (v := .pointer (some ⟨g, k * 2, none⟩)) rfl (by kernel_rfl) (by kernel_rfl) (by kernel_rfl) (fun _ _ _ h => h) (Or.inl ⟨by rfl, fun w hSw => by obtain ⟨hS1, hS2⟩ := hSw; go_simp⟩) (by assumption) ?_
      simp only [List.getElem_toArray, List.getElem_cons_succ, List.getElem_cons_zero, Act.put, List.setIfInBounds_toArray, List.set_cons_zero, List.set_cons_succ]
      refine wpAnyH_take (i := 9) (v := .pointer (some ⟨g, k * 2 + 1, none⟩)) rfl (by kernel_rfl) (by kernel_rfl) (by kernel_rfl) (fun _ _ _ h => h) (Or.inl ⟨by rfl, fun w hSw => by obtain ⟨hS1, hS2⟩ := hSw; go_simp⟩) (by assumption) ?_
      simp only [List.getElem_toArray, List.getElem_cons_succ, List.getElem_cons_zero, Act.put, List.setIfInBounds_toArray, List.set_cons_zero, List.set_cons_succ]
      refine wpAnyH_take (i := 10) (v := .slice ua un uc) rfl (by kernel_rfl) (by kernel_rfl) (by kernel_rfl) (fun _ _ _ h => h) (Or.inl ⟨by rfl, fun w hSw => by obtain ⟨hS1, hS2⟩ := hSw; go_simp⟩) (by assumption) ?_
      simp only [List.getElem_toArray, List.getElem_cons_succ, List.getElem_cons_zero, Act.put, List.setIfInBounds_toArray, List.set_cons_zero, List.set_cons_succ]
      refine wpAnyH_ready (rs := [11]) (by kernel_rfl) (by simp) (AllReadyH.cons rfl (fun K hK => ?_) AllReadyH.nil)
      refine step_call3Gd (by rfl) 17 write_enter (.tmp 25) (.tmp 30) (.tmp 35) _ rfl rfl rfl rfl (unhide HW _ rfl) ?_
      rintro e w2 ⟨rfl, hD2, hK2⟩
      refine ⟨_, rfl, ?_⟩
      refine hK.out _ _ (unhide HKM _ hK2) (fun hHeld2 => ?_)
      clear hK K
      simp only [List.getElem_toArray, List.getElem_cons_succ, List.getElem_cons_zero, Act.put, List.setIfInBounds_toArray, List.set_cons_zero, List.set_cons_succ]
      refine wpAnyH_take (i := 12) (v := .bool false) rfl (by kernel_rfl) (by kernel_rfl) (by kernel_rfl) (fun _ _ _ h => h) (Or.inl ⟨by rfl, fun w hSw => by obtain ⟨hS1, hS2⟩ := hSw; go_simp⟩) (by assumption) ?_
      simp only [List.getElem_toArray, List.getElem_cons_succ, List.getElem_cons_zero, Act.put, List.setIfInBounds_toArray, List.set_cons_zero, List.set_cons_succ]
      refine wpAnyH_done (by kernel_rfl) ?_ _
      obtain ⟨hD3, hws3, hlen3, hnw3, hls3⟩ := unhide HNX w2 hD2 hK2
      have hh : Hid (IsWs w2 (.slice (some ⟨g, 0, none⟩) m c1) L) := hide hws3
      by_cases hf : (k : Int) = f
      · have HF := hide (dks_flush (k := 0) hD3 (by decide) rfl (by omega))
        have HN4 : Hid (∀ W, Dks w W (2 * k + 1 + 1) 1 (fun _ => p) (fun _ => gl2) (updF (fun _ => D.write i s) 0 (D.write i s).flush) → Km w2 W → Tl w W (k + 1) n p (.slice (some ⟨g, 0, none⟩) m c1) L f) := fun W hW hK => by
          have hfew : ∀ i_1, ((D.write i s).wr i_1).length < 9223372036854775807 := fun q => by have := (hD3.few 0 (by decide)).wr q; omega
          refine ⟨gl2, (D.write i s).flush, (dk1_of hW rfl rfl rfl), hh.out.km hK, by rw [flush_len]; exact hlen3, hnw3.flush hfew, ?_⟩
          rw [← hf, firstOf_at]
          exact Ls.flush hnw3 hfew
        have hfd : f = (k : Int) := hf.symm
        subst hfd
        clear hD3 hws3 hlen3 hnw3 hls3 hD2 hK2 hHeld hHeld2 hf
        go_wp2_with fail
        refine (unhide HF).mono ?_
        rintro e w3 ⟨rfl, hD4, hK4⟩
        have HT4 := hide (unhide HN4 w3 hD4 hK4)
        clear hD4 hK4
        go_wp2
        go_roundw
        case rel => exact ⟨k + 1, by omega, by go_num, HT4⟩
        case measure => simp [intOf]; omega
      · have HT4 : Hid (Tl w w2 (k + 1) n p (.slice (some ⟨g, 0, none⟩) m c1) L f) := by
          refine ⟨gl2, D.write i s, hD3.mono (by omega), hh.out, hlen3, hnw3, ?_⟩
          rw [firstOf_not hf]
          exact hls3
        clear hD3 hws3 hlen3 hnw3 hls3 hD2 hK2 hHeld hHeld2
        go_wp2
        go_roundw
        case rel => exact ⟨k + 1, by omega, by go_num, HT4⟩
        case measure => simp [intOf]; omega
    · have hkm : k = m := by omega
      subst hkm
      obtain ⟨gl2, D, hD, hws, hlen, hnw, hls⟩ := HT.out
      have HTE := hide (dks_tells (k := 0) (m := n) hD (by decide) rfl (by omega) hws (f := k) (by rw [HM.out]; exact Nat.le_refl _) hlen hnw)
      have HLE : Hid (∀ W, Dks w W (2 * k + n) 1 (fun _ => p) (fun _ => gl2) (updF (fun _ => D) 0 (D.reads n)) → Km wr W → Calls Try.prog 20 #[.pointer (some ⟨p, 0, none⟩), .int .i64 (n : Int), .slice a1 k c1, .int .i64 f] W fun e w' => e = .returned (.bool true) ∧ Below w.heap.size w w') := fun W hW hK => by
        refine (dks_lasts (k := 0) hW (by decide) rfl (hws.km hK) (by simp only [updF_same]; exact hlen) (x := f) ?_).mono fun e w' ⟨h1, h2⟩ => ⟨h1, h2.bel⟩
        rw [HM.out]
        simp only [updF_same]
        exact hls
      clear hD hws hlen hnw hls HT
      go_wp2_with fail
      refine (unhide HTE).mono ?_
      rintro e w2 ⟨rfl, hD2, hK2⟩
      have HL2 := hide (unhide HLE w2 hD2 hK2)
      clear hD2 hK2 HLE
      go_wp2_with fail
      refine (unhide HL2).mono ?_
      rintro e w3 ⟨rfl, hb3⟩
      go_wp2
      go_ret
      exact ⟨rfl, hb3⟩
end Go.Proofs.Ytfgjhlnaaopdeaa

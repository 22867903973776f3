/- DiskTurns, walked whole. -/
import Derived.Test.YtfgjhlnaaopdeabOtP
namespace Go.Proofs.Ytfgjhlnaaopdeab
open Go.RowKit Go.Maps

theorem turn_enter3 (v u z : Value) (W : World) : (callFunc 18 #[v, u, z]).run Try.prog W = .ok (.enter 18 #[v, u, z]) W := by kernel_rfl
theorem other_enter (v u z : Value) (W : World) : (callFunc 21 #[v, u, z]).run Try.prog W = .ok (.enter 21 #[v, u, z]) W := by kernel_rfl
def three {α : Type} (a b c : α) : Nat → α := fun j => if j = 0 then a else if j = 1 then b else c
theorem updF_idem {α : Type} (f : Nat → α) (k : Nat) (x y : α) : updF (updF f k x) k y = updF f k y := by
  funext j
  by_cases e : j = k
  · subst e; rw [updF_same, updF_same]
  · rw [updF_other _ _ e, updF_other _ _ e, updF_other _ _ e]
def stK (D Z : AD) (k : Nat) : Nat → AD := fun j => if j < k then D else Z
theorem stK_step (D Z : AD) (k : Nat) : updF (stK D Z k) k D = stK D Z (k + 1) := by
  funext j
  by_cases e : j = k
  · subst e; rw [updF_same]; unfold stK; rw [if_pos (by omega)]
  · rw [updF_other _ _ e]
    unfold stK
    by_cases h : j < k
    · rw [if_pos h, if_pos (by omega)]
    · rw [if_neg h, if_neg (by omega)]
theorem stK_at (D Z : AD) (k : Nat) : stK D Z k k = Z := by unfold stK; rw [if_neg (by omega)]
theorem Arr.km {w w' : World} {g : Nat} {t : TypeId} {cs : List Value} (h : Arr w g t cs) (hk : Km w w') (h1 : t ≠ 77) (h2 : t ≠ 75) : Arr w' g t cs := by
  obtain ⟨F, hu, ht⟩ := hk
  exact h.up hu (fun hF => (ht _ hF _ _ _ h).elim h1 h2)
theorem Dka.one {A A0 : Nat → Prop} {w w9 wr : World} {B n : Nat} {P G : Nat → Nat} {D : Nat → AD} (h : Dka A w9 wr B n P G D) (hn : 0 < n) (hA : ∀ b, A0 b → A b) (hu : Up (fun b => ¬ A0 b) w w9) : Dka A0 w wr B 1 P G D := by
  obtain ⟨gm, V, h1, h2, h3⟩ := h.all
  exact ⟨⟨gm, V, fun j hj => h1 j (by omega), fun j hj b hb h0 => h2 j (by omega) b hb (hA b h0), fun i j hi hj hne => by omega⟩, fun j hj => h.few j (by omega), hu.trans h.kp (fun x hx => Or.inl (fun h0 => hx (hA x h0))), fun b h0 => h.lt b (hA b h0)⟩
/-- Behind some of the writes of disk k. -/
structure Ta (w wr : World) (B : Nat) (P : Nat → Nat) (D : Nat → AD) (v1 v2 : Value) (L1 L2 : Ats) (ga : Nat) : Prop where
  dk : ∃ G, Dka (fun b => b < w.heap.size) w wr B 3 P G D
  w1 : IsWs wr v1 L1
  w2 : IsWs wr v2 L2
  al : Arr wr ga 26 [.pointer (some ⟨P 0, 0, none⟩), .pointer (some ⟨P 1, 0, none⟩), .pointer (some ⟨P 2, 0, none⟩)]
theorem Ta.km {w wr w' : World} {B B' : Nat} {P : Nat → Nat} {D D' : Nat → AD} {v1 v2 : Value} {L1 L2 : Ats} {ga : Nat} (h : Ta w wr B P D v1 v2 L1 L2 ga) (hk : Km wr w') (hd : ∃ G, Dka (fun b => b < w.heap.size) w w' B' 3 P G D') : Ta w w' B' P D' v1 v2 L1 L2 ga :=
  ⟨hd, h.w1.km hk, h.w2.km hk, h.al.km hk (by decide) (by decide)⟩
theorem Ta.ptr {w wr : World} {B : Nat} {P : Nat → Nat} {D : Nat → AD} {v1 v2 : Value} {L1 L2 : Ats} {ga : Nat} (h : Ta w wr B P D v1 v2 L1 L2 ga) {k : Nat} (hk : k < 3) : wr.cell? ⟨ga, k, none⟩ = some (.pointer (some ⟨P k, 0, none⟩)) := by
  rcases (show k = 0 ∨ k = 1 ∨ k = 2 by omega) with rfl | rfl | rfl
  · exact h.al.cell_of rfl
  · exact h.al.cell_of rfl
  · exact h.al.cell_of rfl
/-- One write of disk k. -/
theorem ta_write {w wr : World} {B i k : Nat} {P : Nat → Nat} {S0 : Nat → AD} {E : AD} {v1 v2 : Value} {L1 L2 : Ats} {ga : Nat} {u : Value} {s : List Int} (h : Ta w wr B P (updF S0 k E) v1 v2 L1 L2 ga) (hk : k < 3) (hi : i < E.la.length) (hB : B ≤ 1000000000) (hu : Own8 wr 0 u s) (hs : IsSec s) :
    Hid (∀ W, W = wr.drew → Calls Try.prog 10 #[.pointer (some ⟨P k, 0, none⟩), .int .i64 (i : Int), u] W fun e w' => e = .returned (.int .i64 0) ∧ Ta w w' (B + 1) P (updF S0 k (E.write i s)) v1 v2 L1 L2 ga ∧ Km wr w') := fun W hWe => by
  have hbd : Below wr.heap.size wr W := by rw [hWe]; exact (Below.refl _ _).drew
  obtain ⟨G, hD⟩ := h.dk
  refine (dka_write (k := k) (i := i) (hD.below hbd) hk rfl (by rw [updF_same]; exact hi) hB (hu.below hbd) hs).mono ?_
  rintro e w' ⟨h1, h2, h3⟩
  have h4 : Km wr w' := by rw [hWe] at h3; exact km_drew h3
  rw [updF_idem, updF_same] at h2
  exact ⟨h1, h.km h4 ⟨G, h2⟩, h4⟩
theorem ta_flush {w wr : World} {B k : Nat} {P : Nat → Nat} {S0 : Nat → AD} {E : AD} {v1 v2 : Value} {L1 L2 : Ats} {ga : Nat} (h : Ta w wr B P (updF S0 k E) v1 v2 L1 L2 ga) (hk : k < 3) (hB : B ≤ 1000000000) :
    Calls Try.prog 11 #[.pointer (some ⟨P k, 0, none⟩)] wr fun e w' => e = .returned (.tuple #[]) ∧ Ta w w' (B + 1) P (updF S0 k E.flush) v1 v2 L1 L2 ga := by
  obtain ⟨G, hD⟩ := h.dk
  refine (dka_flush (k := k) hD hk rfl hB).mono ?_
  rintro e w' ⟨h1, h2, h3⟩
  rw [updF_idem, updF_same] at h2
  exact ⟨h1, h.km h3 ⟨G, h2⟩⟩
set_option maxRecDepth 100000 in
set_option maxHeartbeats 4000000 in
theorem turns_walk {w : World} {va vl vf : Value} {l1 l2 : Ats} {xs : List Int} (x y z : Int) (h1 : IsWr w va l1) (h2 : IsWr w vl l2) (hF : IsI w vf xs) :
    Calls Try.prog 4 #[.int .i64 x, va, vl, .int .i64 y, .int .i64 z, vf] w fun e w' => e = .returned (.bool true) ∧ Below w.heap.size w w' := by
  have hx63 := modN_lt x (m := 63) (by decide)
  have hok1 := madeL_ok (n := 2 + modN x 63) (by omega) h1.bytes
  have hok2 := madeL_ok (n := 2 + modN x 63) (by omega) h2.bytes
  have hml1 := madeL_len (2 + modN x 63) l1
  have hml2 := madeL_len (2 + modN x 63) l2
  have HMADE : Hid (∀ (W : World) (q : Nat) (P G : Nat → Nat) (D : Nat → AD) (v : Value) (l : Ats), Dka (fun b => b < w.heap.size) w W 0 q P G D → IsWr W v l → Calls Try.prog 9 #[.int .i64 x, v] W fun e w' => ∃ p v', e = .returned (.tuple #[.pointer (some ⟨p, 0, none⟩), .int .i64 ((2 + modN x 63 : Nat) : Int), v']) ∧
      (∃ gl, Dka (fun b => b < w.heap.size) w w' 0 (q + 1) (updF P q p) (updF G q gl) (updF D q (zeroD (2 + modN x 63)))) ∧ IsWs w' v' (madeL (2 + modN x 63) l) ∧ Below W.heap.size W w') := fun W q P G D v l hD hW => dka_made hD hW
  obtain ⟨n, hn⟩ : ∃ n, 2 + modN x 63 = n := ⟨_, rfl⟩
  have hnlo : 2 ≤ n := by omega
  have hnhi : n ≤ 64 := by omega
  rw [hn] at HMADE hok1 hok2 hml1 hml2
  clear hn hx63
  have HM1 := hide (unhide HMADE w 0 (fun _ => 0) (fun _ => 0) (fun _ => zeroD 2) va l1 (Dka.nil (fun _ h => h) 0 _ _ _) h1)
  have HM2 : Hid (∀ W p gl, Below w.heap.size w W → Dka (fun b => b < w.heap.size) w W 0 1 (updF (fun _ => 0) 0 p) (updF (fun _ => 0) 0 gl) (updF (fun _ => zeroD 2) 0 (zeroD n)) → _) := fun W p gl hW hD => unhide HMADE W 1 _ _ _ vl l2 hD (h2.below hW)
  have HM3 : Hid (∀ W p gl q gl', Dka (fun b => b < w.heap.size) w W 0 2 (updF (updF (fun _ => 0) 0 p) 1 q) (updF (updF (fun _ => 0) 0 gl) 1 gl') (updF (updF (fun _ => zeroD 2) 0 (zeroD n)) 1 (zeroD n)) → _) := fun W p gl q gl' hD => unhide HMADE W 2 _ _ _ (.slice none 0 0) [] hD (isWr_nil W)
  clear HMADE
  generalize madeL n l1 = L1 at *
  generalize madeL n l2 = L2 at *
  obtain ⟨aa, an, ac, rfl⟩ : ∃ a n c, va = .slice a n c := by obtain ⟨a, c, rfl, _⟩ := h1.val; exact ⟨_, _, _, rfl⟩
  obtain ⟨la, ln, lc, rfl⟩ : ∃ a n c, vl = .slice a n c := by obtain ⟨a, c, rfl, _⟩ := h2.val; exact ⟨_, _, _, rfl⟩
  obtain ⟨fa, fc, hvf⟩ : ∃ a c, vf = .slice a xs.length c := by obtain ⟨_, a, c, hv, _⟩ := hF; exact ⟨a, c, hv⟩
  subst hvf
  clear h1 h2
  have HFI := hide hF
  clear hF
  have mkOK : ∀ L : Ats, AtsOk n L → Hid (∀ j, j < L.length → ∃ (i : Nat) (s : List Int), L.getD j dA = ((i : Int), s) ∧ i < n ∧ IsSec s) := fun L hok j hj => by
    have := hok _ (List.getElem_mem hj)
    rw [getD_eq hj]
    exact ⟨L[j].1.toNat, L[j].2, by rw [Int.toNat_of_nonneg this.1], by omega, this.2.2⟩
  have HOK1 := mkOK L1 hok1
  have HOK2 := mkOK L2 hok2
  have HTK1 : Hid (∀ k, k < L1.length → ∀ D (i : Nat) s, L1.getD k dA = ((i : Int), s) → wrote D (L1.take (k + 1)) = (wrote D (L1.take k)).write i s) := fun k hk D i s e => by rw [take_snoc hk, e, wrote_snoc]
  have HTK2 : Hid (∀ k, k < L2.length → ∀ D (i : Nat) s, L2.getD k dA = ((i : Int), s) → wrote D (L2.take (k + 1)) = (wrote D (L2.take k)).write i s) := fun k hk D i s e => by rw [take_snoc hk, e, wrote_snoc]
  have HT1 : Hid (L1.take L1.length = L1) := List.take_length
  have HT2 : Hid (L2.take L2.length = L2) := List.take_length
  have hzl : (zeroD n).la.length = n := by simp [zeroD]
  clear hok1 hok2 mkOK
  generalize hm1 : L1.length = m1 at *
  generalize hm2 : L2.length = m2 at *
  have HL1 := hide hm1
  have HL2 := hide hm2
  clear hm1 hm2
  generalize xs.length = fn at *
  have hyn := modN_lt y (m := n) (by omega)
  have hzn := modN_lt z (m := 4096) (by decide)
  have HMY := hide (fun W => mod_calls (w := W) (x := y) (m := n) (by omega) (by omega))
  have HMZ := hide (fun W => mod_calls (w := W) (x := z) (m := 4096) (by decide) (by decide))
  generalize modN y n = i0 at *
  generalize modN z 4096 = b0 at *
  generalize hZ : zeroD n = Z at *
  clear hZ
  go_enter Try.func4, Try.ntmps4
  go_wp2_with fail
  refine (unhide HM1).mono ?_
  rintro e w1 ⟨p, v1, rfl, ⟨gl, hD⟩, hws1, hb1⟩
  obtain ⟨a1, c1, rfl, hsh1⟩ := hws1.shape
  rw [HL1.out] at hsh1 hws1 ⊢
  have HMD2 := hide (unhide HM2 w1 p gl hb1 hD)
  have HWS1 := hide hws1
  clear HM1 HM2 hD hws1 hb1
  go_wp2_with fail
  refine (unhide HMD2).mono ?_
  rintro e w2 ⟨q, v2, rfl, ⟨gl2, hD⟩, hws2, hb2⟩
  obtain ⟨a2, c2, rfl, hsh2⟩ := hws2.shape
  rw [HL2.out] at hsh2 hws2 ⊢
  have HMD3 := hide (unhide HM3 w2 p gl q gl2 hD)
  have HWS2 : Hid (IsWs w2 (.slice a1 m1 c1) L1 ∧ IsWs w2 (.slice a2 m2 c2) L2) := ⟨HWS1.out.below hb2, hws2⟩
  clear HMD2 HM3 hD hws2 hb2 HWS1
  go_wp2_with fail
  refine (unhide HMD3).mono ?_
  rintro e w3 ⟨r, v3, rfl, ⟨gl3, hD⟩, hws3, hb3⟩
  obtain ⟨a3, c3, rfl, _⟩ := hws3.shape
  have HWS3 : Hid (IsWs w3 (.slice a1 m1 c1) L1 ∧ IsWs w3 (.slice a2 m2 c2) L2) := ⟨HWS2.out.1.below hb3, HWS2.out.2.below hb3⟩
  have HD3 : Hid (∃ G, Dka (fun b => b < w.heap.size) w w3 0 3 (three p q r) G (stK (wrote (wrote Z L1).flush L2) Z 0)) := by
    refine ⟨_, hD.congr (fun j hj => ?_) (fun _ _ => rfl) (fun j hj => ?_)⟩
    · rcases (show j = 0 ∨ j = 1 ∨ j = 2 by omega) with rfl | rfl | rfl <;> rfl
    · rcases (show j = 0 ∨ j = 1 ∨ j = 2 by omega) with rfl | rfl | rfl <;> rfl
  generalize (madeL n []).length = n3 at *
  clear HMD3 HWS2 hD hws3 hb3
  have hb4 := (Below.refl w3.heap.size w3).alloc (Nat.le_refl _) (.cells #[.pointer (some ⟨p, 0, none⟩), .pointer (some ⟨q, 0, none⟩), .pointer (some ⟨r, 0, none⟩)] 26)
  have HT : Hid (Ta w (w3.alloc (.cells #[.pointer (some ⟨p, 0, none⟩), .pointer (some ⟨q, 0, none⟩), .pointer (some ⟨r, 0, none⟩)] 26)) (300 * 0) (three p q r) (stK (wrote (wrote Z L1).flush L2) Z 0) (.slice a1 m1 c1) (.slice a2 m2 c2) L1 L2 w3.heap.size) := by
    obtain ⟨G, hG⟩ := HD3.out
    exact ⟨⟨G, hG.below hb4⟩, HWS3.out.1.below hb4, HWS3.out.2.below hb4, Arr.new w3 [.pointer (some ⟨p, 0, none⟩), .pointer (some ⟨q, 0, none⟩), .pointer (some ⟨r, 0, none⟩)] _⟩
  have HP : Hid (three p q r 0 = p ∧ three p q r 1 = q ∧ three p q r 2 = r) := ⟨rfl, rfl, rfl⟩
  have hlF : (wrote (wrote Z L1).flush L2).la.length = n := by rw [wrote_len, flush_len, wrote_len]; exact hzl
  clear HWS3 HD3 hb4
  generalize hPP : three p q r = P at *
  clear hPP
  generalize hDF : wrote (wrote Z L1).flush L2 = DF at *
  have HDF := hide hDF
  clear hDF
  have HSTK := hide (fun k => stK_step DF Z k)
  have HSTA := hide (fun k => stK_at DF Z k)
  have HUPD : Hid (∀ k, stK DF Z k = updF (stK DF Z k) k Z) := fun k => by
    funext j
    by_cases e : j = k
    · subst e; rw [updF_same, stK_at]
    · rw [updF_other _ _ e]
  go_wp2
  generalize w3.heap.size = ga at *
  go_loopw [21] (fun kv wr => ∃ k : Nat, k ≤ 3 ∧ kv = .int .i64 (k : Int) ∧ Hid (Ta w wr (300 * k) P (stK DF Z k) (.slice a1 m1 c1) (.slice a2 m2 c2) L1 L2 ga)) (fun kv _ => 3 - (intOf kv).toNat)
  case atStart => exact ⟨0, by omega, rfl, HT⟩
  case round =>
    clear HT
    obtain ⟨k, hk, rfl, HT⟩ := hrel
    by_cases hlt : k < 3
    · have HT0 : Hid (Ta w wr (300 * k + 0) P (updF (stK DF Z k) k (wrote Z (L1.take 0))) (.slice a1 m1 c1) (.slice a2 m2 c2) L1 L2 ga) := by
        have h9 := HT.out
        rw [unhide HUPD k] at h9
        exact h9
      clear HT
      go_wp2
      go_loopw [22] (fun iv wr => ∃ i : Nat, i ≤ m1 ∧ iv = .int .i64 (i : Int) ∧ Hid (Ta w wr (300 * k + i) P (updF (stK DF Z k) k (wrote Z (L1.take i))) (.slice a1 m1 c1) (.slice a2 m2 c2) L1 L2 ga)) (fun iv _ => m1 - (intOf iv).toNat)
      case atStart => exact ⟨0, by omega, rfl, HT0⟩
      case round =>
        clear HT0
        obtain ⟨i1, hi1, rfl, HT⟩ := hrel
        by_cases hil : i1 < m1
        · obtain ⟨g, rfl, hle, hcm⟩ := hsh1 (by omega)
          obtain ⟨i, s, hLk, hin, hsec⟩ := unhide HOK1 i1 hil
          obtain ⟨ua, un, uc, HKM, hu⟩ := ws_at HT.out.w1 (by rw [HL1.out]; exact hil) hLk
          have HW := ta_write HT.out hlt (by rw [wrote_len, hzl]; exact hin) (by omega) hu hsec
          rw [← unhide HTK1 i1 hil Z i s hLk] at HW
          have hpt := HT.out.ptr hlt
          have HKM3 : Hid (∀ W, Km wr W → W.cell? ⟨ga, k, none⟩ = some (.pointer (some ⟨P k, 0, none⟩)) ∧ W.cell? ⟨g, i1 * 2, none⟩ = some (.int .i64 (i : Int)) ∧ W.cell? ⟨g, i1 * 2 + 1, none⟩ = some (.slice ua un uc)) := fun W hK => by
            refine ⟨?_, unhide HKM W hK⟩
            have h9 := HT.out.al
            have h8 := h9.km hK (by decide) (by decide)
            unfold Arr at h9 h8
            exact (World.cell?_of_block (a := ⟨ga, k, none⟩) (h8.trans h9.symm)).trans hpt
          clear HT HKM hu hpt
          generalize P k = pk at *
          go_wp2_with fail
          refine wp_region_held_drew (S := fun W => W.cell? ⟨ga, k, none⟩ = some (.pointer (some ⟨pk, 0, none⟩)) ∧ W.cell? ⟨g, i1 * 2, none⟩ = some (.int .i64 (i : Int)) ∧ W.cell? ⟨g, i1 * 2 + 1, none⟩ = some (.slice ua un uc)) (by kernel_rfl) (unhide HKM3 _ (Km.of_below (Below.refl _ _).drew)) (fun hHeld => ?_)
          refine wpAnyH_take (i := 0) (v := .slice (some ⟨ga, 0, none⟩) 3 3) rfl (by kernel_rfl) (by kernel_rfl) (by kernel_rfl) (fun _ _ _ h => h) (Or.inl ⟨by rfl, fun w hSw => by obtain ⟨hS0, hS1, hS2⟩ := hSw; go_simp⟩) (by assumption) ?_
          simp only [List.getElem_toArray, List.getElem_cons_zero, Act.put, List.setIfInBounds_toArray, List.set_cons_zero, List.set_cons_succ]
          refine wpAnyH_take (i := 1) (v := .int .i64 (k : Int)) rfl (by kernel_rfl) (by kernel_rfl) (by kernel_rfl) (fun _ _ _ h => h) (Or.inl ⟨by rfl, fun w hSw => by obtain ⟨hS0, hS1, hS2⟩ := hSw; go_simp⟩) (by assumption) ?_
          simp only [List.getElem_toArray, List.getElem_cons_succ, List.getElem_cons_zero, Act.put, List.setIfInBounds_toArray, List.set_cons_zero, List.set_cons_succ]
          refine wpAnyH_take (i := 2) (v := .pointer (some ⟨ga, k, none⟩)) rfl (by kernel_rfl) (by kernel_rfl) (by kernel_rfl) (fun _ _ _ h => h) (Or.inl ⟨by rfl, fun w hSw => by obtain ⟨hS0, hS1, hS2⟩ := hSw; go_simp⟩) (by assumption) ?_
          simp only [List.getElem_toArray, List.getElem_cons_succ, List.getElem_cons_zero, Act.put, List.setIfInBounds_toArray, List.set_cons_zero, List.set_cons_succ]
          refine wpAnyH_take (i := 3) (v := .pointer (some ⟨pk, 0, none⟩)) rfl (by kernel_rfl) (by kernel_rfl) (by kernel_rfl) (fun _ _ _ h => h) (Or.inl ⟨by rfl, fun w hSw => by obtain ⟨hS0, hS1, hS2⟩ := hSw; go_simp⟩) (by assumption) ?_
          simp only [List.getElem_toArray, List.getElem_cons_succ, List.getElem_cons_zero, Act.put, List.setIfInBounds_toArray, List.set_cons_zero, List.set_cons_succ]
          refine wpAnyH_take (i := 4) (v := .slice (some ⟨g, 0, none⟩) m1 c1) rfl (by kernel_rfl) (by kernel_rfl) (by kernel_rfl) (fun _ _ _ h => h) (Or.inl ⟨by rfl, fun w hSw => by obtain ⟨hS0, hS1, hS2⟩ := hSw; go_simp⟩) (by assumption) ?_
          simp only [List.getElem_toArray, List.getElem_cons_succ, List.getElem_cons_zero, Act.put, List.setIfInBounds_toArray, List.set_cons_zero, List.set_cons_succ]
          refine wpAnyH_take (i := 5) (v := .int .i64 (i1 : Int)) rfl (by kernel_rfl) (by kernel_rfl) (by kernel_rfl) (fun _ _ _ h => h) (Or.inl ⟨by rfl, fun w hSw => by obtain ⟨hS0, hS1, hS2⟩ := hSw; go_simp⟩) (by assumption) ?_
          simp only [List.getElem_toArray, List.getElem_cons_succ, List.getElem_cons_zero, Act.put, List.setIfInBounds_toArray, List.set_cons_zero, List.set_cons_succ]
          refine wpAnyH_take (i := 6) (v := .pointer (some ⟨g, i1 * 2, none⟩)) rfl (by kernel_rfl) (by kernel_rfl) (by kernel_rfl) (fun _ _ _ h => h) (Or.inl ⟨by rfl, fun w hSw => by obtain ⟨hS0, hS1, hS2⟩ := hSw; go_simp⟩) (by assumption) ?_
          simp only [List.getElem_toArray, List.getElem_cons_succ, List.getElem_cons_zero, Act.put, List.setIfInBounds_toArray, List.set_cons_zero, List.set_cons_succ]
          refine wpAnyH_take (i := 7) (v := .pointer (some ⟨g, i1 * 2, none⟩)) rfl (by kernel_rfl) (by kernel_rfl) (by kernel_rfl) (fun _ _ _ h => h) (Or.inl ⟨by rfl, fun w hSw => by obtain ⟨hS0, hS1, hS2⟩ := hSw; go_simp⟩) (by assumption) ?_
          simp only [List.getElem_toArray, List.getElem_cons_succ, List.getElem_cons_zero, Act.put, List.setIfInBounds_toArray, List.set_cons_zero, List.set_cons_succ]
          refine wpAnyH_take (i := 8) (v := .int .i64 (i : Int)) rfl (by kernel_rfl) (by kernel_rfl) (by kernel_rfl) (fun _ _ _ h => h) (Or.inl ⟨by rfl, fun w hSw => by obtain ⟨hS0, hS1, hS2⟩ := hSw; go_simp⟩) (by assumption) ?_
          simp only [List.getElem_toArray, List.getElem_cons_succ, List.getElem_cons_zero, Act.put, List.setIfInBounds_toArray, List.set_cons_zero, List.set_cons_succ]
          refine wpAnyH_take (i := 9) (v := .slice (some ⟨g, 0, none⟩) m1 c1) rfl (by kernel_rfl) (by kernel_rfl) (by kernel_rfl) (fun _ _ _ h => h) (Or.inl ⟨by rfl, fun w hSw => by obtain ⟨hS0, hS1, hS2⟩ := hSw; go_simp⟩) (by assumption) ?_
          simp only [List.getElem_toArray, List.getElem_cons_succ, List.getElem_cons_zero, Act.put, List.setIfInBounds_toArray, List.set_cons_zero, List.set_cons_succ]
          refine wpAnyH_take (i := 10) (v := .int .i64 (i1 : Int)) rfl (by kernel_rfl) (by kernel_rfl) (by kernel_rfl) (fun _ _ _ h => h) (Or.inl ⟨by rfl, fun w hSw => by obtain ⟨hS0, hS1, hS2⟩ := hSw; go_simp⟩) (by assumption) ?_
          simp only [List.getElem_toArray, List.getElem_cons_succ, List.getElem_cons_zero, Act.put, List.setIfInBounds_toArray, List.set_cons_zero, List.set_cons_succ]
          refine wpAnyH_take (i := 11) (v := .pointer (some ⟨g, i1 * 2, none⟩)) rfl (by kernel_rfl) (by kernel_rfl) (by kernel_rfl) (fun _ _ _ h => h) (Or.inl ⟨by rfl, fun w hSw => by obtain ⟨hS0, hS1, hS2⟩ := hSw; go_simp⟩) (by assumption) ?_
          simp only [List.getElem_toArray, List.getElem_cons_succ, List.getElem_cons_zero, Act.put, List.setIfInBounds_toArray, List.set_cons_zero, List.set_cons_succ]
          refine wpAnyH_take (i := 12) (v := .pointer (some ⟨g, i1 * 2 + 1, none⟩)) rfl (by kernel_rfl) (by kernel_rfl) (by kernel_rfl) (fun _ _ _ h => h) (Or.inl ⟨by rfl, fun w hSw => by obtain ⟨hS0, hS1, hS2⟩ := hSw; go_simp⟩) (by assumption) ?_
          simp only [List.getElem_toArray, List.getElem_cons_succ, List.getElem_cons_zero, Act.put, List.setIfInBounds_toArray, List.set_cons_zero, List.set_cons_succ]
          refine wpAnyH_take (i := 13) (v := .slice ua un uc) rfl (by kernel_rfl) (by kernel_rfl) (by kernel_rfl) (fun _ _ _ h => h) (Or.inl ⟨by rfl, fun w hSw => by obtain ⟨hS0, hS1, hS2⟩ := hSw; go_simp⟩) (by assumption) ?_
          simp only [List.getElem_toArray, List.getElem_cons_succ, List.getElem_cons_zero, Act.put, List.setIfInBounds_toArray, List.set_cons_zero, List.set_cons_succ]
          refine wpAnyH_ready (rs := [14]) (by kernel_rfl) (by simp) (AllReadyH.cons rfl (fun K hK => ?_) AllReadyH.nil)
          refine step_call3Gd (by rfl) 10 write_enter (.tmp 83) (.tmp 88) (.tmp 93) _ rfl rfl rfl rfl (unhide HW _ rfl) ?_
          rintro e w2 ⟨rfl, hT2, hK2⟩
          refine ⟨_, rfl, ?_⟩
          refine hK.out _ _ (unhide HKM3 _ hK2) (fun hHeld2 => ?_)
          clear hK K
          simp only [List.getElem_toArray, List.getElem_cons_succ, List.getElem_cons_zero, Act.put, List.setIfInBounds_toArray, List.set_cons_zero, List.set_cons_succ]
          refine wpAnyH_done (by kernel_rfl) ?_ _
          clear hHeld hHeld2 hK2
          have HT3 := hide hT2
          clear hT2 HW HKM3
          go_wp2
          go_roundw
          case rel => exact ⟨i1 + 1, by omega, by go_num, HT3⟩
          case measure => simp [intOf]; omega
        · have hie : i1 = m1 := by omega
          subst hie
          rw [HT1.out] at HT
          have HFL := hide (ta_flush HT.out hlt (by omega))
          have hpt := HT.out.ptr hlt
          clear HT
          generalize hPk : P k = pk at *
          have HPk := hide hPk
          clear hPk
          go_wp2_with fail
          refine (unhide HFL).mono ?_
          rintro e w5 ⟨rfl, hT5⟩
          have HT5 : Hid (Ta w w5 (300 * k + 101 + 0) P (updF (stK DF Z k) k (wrote (wrote Z L1).flush (L2.take 0))) (.slice a1 i1 c1) (.slice a2 m2 c2) L1 L2 ga) := by
            obtain ⟨⟨G, hG⟩, h8, h9, h10⟩ := hT5
            exact ⟨⟨G, hG.mono (by omega)⟩, h8, h9, h10⟩
          clear hT5 HFL hpt
          go_wp2
          go_loopw [23] (fun iv wr => ∃ i : Nat, i ≤ m2 ∧ iv = .int .i64 (i : Int) ∧ Hid (Ta w wr (300 * k + 101 + i) P (updF (stK DF Z k) k (wrote (wrote Z L1).flush (L2.take i))) (.slice a1 i1 c1) (.slice a2 m2 c2) L1 L2 ga)) (fun iv _ => m2 - (intOf iv).toNat)
          case atStart => exact ⟨0, by omega, rfl, HT5⟩
          case round =>
            clear HT5
            obtain ⟨i2, hi2, rfl, HT⟩ := hrel
            by_cases hil2 : i2 < m2
            · obtain ⟨g, rfl, hle, hcm⟩ := hsh2 (by omega)
              obtain ⟨i, s, hLk, hin, hsec⟩ := unhide HOK2 i2 hil2
              obtain ⟨ua, un, uc, HKM, hu⟩ := ws_at HT.out.w2 (by rw [HL2.out]; exact hil2) hLk
              have HW := ta_write HT.out hlt (by rw [wrote_len, flush_len, wrote_len, hzl]; exact hin) (by omega) hu hsec
              rw [← unhide HTK2 i2 hil2 _ i s hLk] at HW
              have hpt := HT.out.ptr hlt
              have HKM3 : Hid (∀ W, Km wr W → W.cell? ⟨ga, k, none⟩ = some (.pointer (some ⟨P k, 0, none⟩)) ∧ W.cell? ⟨g, i2 * 2, none⟩ = some (.int .i64 (i : Int)) ∧ W.cell? ⟨g, i2 * 2 + 1, none⟩ = some (.slice ua un uc)) := fun W hK => by
                refine ⟨?_, unhide HKM W hK⟩
                have h9 := HT.out.al
                have h8 := h9.km hK (by decide) (by decide)
                unfold Arr at h9 h8
                exact (World.cell?_of_block (a := ⟨ga, k, none⟩) (h8.trans h9.symm)).trans hpt
              clear HT HKM hu hpt
              rw [HPk.out] at HW HKM3
              go_wp2_with fail
              refine wp_region_held_drew (S := fun W => W.cell? ⟨ga, k, none⟩ = some (.pointer (some ⟨pk, 0, none⟩)) ∧ W.cell? ⟨g, i2 * 2, none⟩ = some (.int .i64 (i : Int)) ∧ W.cell? ⟨g, i2 * 2 + 1, none⟩ = some (.slice ua un uc)) (by kernel_rfl) (unhide HKM3 _ (Km.of_below (Below.refl _ _).drew)) (fun hHeld => ?_)
              refine wpAnyH_take (i := 0) (v := .slice (some ⟨ga, 0, none⟩) 3 3) rfl (by kernel_rfl) (by kernel_rfl) (by kernel_rfl) (fun _ _ _ h => h) (Or.inl ⟨by rfl, fun w hSw => by obtain ⟨hS0, hS1, hS2⟩ := hSw; go_simp⟩) (by assumption) ?_
              simp only [List.getElem_toArray, List.getElem_cons_zero, Act.put, List.setIfInBounds_toArray, List.set_cons_zero, List.set_cons_succ]
              refine wpAnyH_take (i := 1) (v := .int .i64 (k : Int)) rfl (by kernel_rfl) (by kernel_rfl) (by kernel_rfl) (fun _ _ _ h => h) (Or.inl ⟨by rfl, fun w hSw => by obtain ⟨hS0, hS1, hS2⟩ := hSw; go_simp⟩) (by assumption) ?_
              simp only [List.getElem_toArray, List.getElem_cons_succ, List.getElem_cons_zero, Act.put, List.setIfInBounds_toArray, List.set_cons_zero, List.set_cons_succ]
              refine wpAnyH_take (i := 2) (v := .pointer (some ⟨ga, k, none⟩)) rfl (by kernel_rfl) (by kernel_rfl) (by kernel_rfl) (fun _ _ _ h => h) (Or.inl ⟨by rfl, fun w hSw => by obtain ⟨hS0, hS1, hS2⟩ := hSw; go_simp⟩) (by assumption) ?_
              simp only [List.getElem_toArray, List.getElem_cons_succ, List.getElem_cons_zero, Act.put, List.setIfInBounds_toArray, List.set_cons_zero, List.set_cons_succ]
              refine wpAnyH_take (i := 3) (v := .pointer (some ⟨pk, 0, none⟩)) rfl (by kernel_rfl) (by kernel_rfl) (by kernel_rfl) (fun _ _ _ h => h) (Or.inl ⟨by rfl, fun w hSw => by obtain ⟨hS0, hS1, hS2⟩ := hSw; go_simp⟩) (by assumption) ?_
              simp only [List.getElem_toArray, List.getElem_cons_succ, List.getElem_cons_zero, Act.put, List.setIfInBounds_toArray, List.set_cons_zero, List.set_cons_succ]
              refine wpAnyH_take (i := 4) (v := .slice (some ⟨g, 0, none⟩) m2 c2) rfl (by kernel_rfl) (by kernel_rfl) (by kernel_rfl) (fun _ _ _ h => h) (Or.inl ⟨by rfl, fun w hSw => by obtain ⟨hS0, hS1, hS2⟩ := hSw; go_simp⟩) (by assumption) ?_
              simp only [List.getElem_toArray, List.getElem_cons_succ, List.getElem_cons_zero, Act.put, List.setIfInBounds_toArray, List.set_cons_zero, List.set_cons_succ]
              refine wpAnyH_take (i := 5) (v := .int .i64 (i2 : Int)) rfl (by kernel_rfl) (by kernel_rfl) (by kernel_rfl) (fun _ _ _ h => h) (Or.inl ⟨by rfl, fun w hSw => by obtain ⟨hS0, hS1, hS2⟩ := hSw; go_simp⟩) (by assumption) ?_
              simp only [List.getElem_toArray, List.getElem_cons_succ, List.getElem_cons_zero, Act.put, List.setIfInBounds_toArray, List.set_cons_zero, List.set_cons_succ]
              refine wpAnyH_take (i := 6) (v := .pointer (some ⟨g, i2 * 2, none⟩)) rfl (by kernel_rfl) (by kernel_rfl) (by kernel_rfl) (fun _ _ _ h => h) (Or.inl ⟨by rfl, fun w hSw => by obtain ⟨hS0, hS1, hS2⟩ := hSw; go_simp⟩) (by assumption) ?_
              simp only [List.getElem_toArray, List.getElem_cons_succ, List.getElem_cons_zero, Act.put, List.setIfInBounds_toArray, List.set_cons_zero, List.set_cons_succ]
              refine wpAnyH_take (i := 7) (v := .pointer (some ⟨g, i2 * 2, none⟩)) rfl (by kernel_rfl) (by kernel_rfl) (by kernel_rfl) (fun _ _ _ h => h) (Or.inl ⟨by rfl, fun w hSw => by obtain ⟨hS0, hS1, hS2⟩ := hSw; go_simp⟩) (by assumption) ?_
              simp only [List.getElem_toArray, List.getElem_cons_succ, List.getElem_cons_zero, Act.put, List.setIfInBounds_toArray, List.set_cons_zero, List.set_cons_succ]
              refine wpAnyH_take (i := 8) (v := .int .i64 (i : Int)) rfl (by kernel_rfl) (by kernel_rfl) (by kernel_rfl) (fun _ _ _ h => h) (Or.inl ⟨by rfl, fun w hSw => by obtain ⟨hS0, hS1, hS2⟩ := hSw; go_simp⟩) (by assumption) ?_
              simp only [List.getElem_toArray, List.getElem_cons_succ, List.getElem_cons_zero, Act.put, List.setIfInBounds_toArray, List.set_cons_zero, List.set_cons_succ]
              refine wpAnyH_take (i := 9) (v := .slice (some ⟨g, 0, none⟩) m2 c2) rfl (by kernel_rfl) (by kernel_rfl) (by kernel_rfl) (fun _ _ _ h => h) (Or.inl ⟨by rfl, fun w hSw => by obtain ⟨hS0, hS1, hS2⟩ := hSw; go_simp⟩) (by assumption) ?_
              simp only [List.getElem_toArray, List.getElem_cons_succ, List.getElem_cons_zero, Act.put, List.setIfInBounds_toArray, List.set_cons_zero, List.set_cons_succ]
              refine wpAnyH_take (i := 10) (v := .int .i64 (i2 : Int)) rfl (by kernel_rfl) (by kernel_rfl) (by kernel_rfl) (fun _ _ _ h => h) (Or.inl ⟨by rfl, fun w hSw => by obtain ⟨hS0, hS1, hS2⟩ := hSw; go_simp⟩) (by assumption) ?_
              simp only [List.getElem_toArray, List.getElem_cons_succ, List.getElem_cons_zero, Act.put, List.setIfInBounds_toArray, List.set_cons_zero, List.set_cons_succ]
              refine wpAnyH_take (i := 11) (v := .pointer (some ⟨g, i2 * 2, none⟩)) rfl (by kernel_rfl) (by kernel_rfl) (by kernel_rfl) (fun _ _ _ h => h) (Or.inl ⟨by rfl, fun w hSw => by obtain ⟨hS0, hS1, hS2⟩ := hSw; go_simp⟩) (by assumption) ?_
              simp only [List.getElem_toArray, List.getElem_cons_succ, List.getElem_cons_zero, Act.put, List.setIfInBounds_toArray, List.set_cons_zero, List.set_cons_succ]
              refine wpAnyH_take (i := 12) (v := .pointer (some ⟨g, i2 * 2 + 1, none⟩)) rfl (by kernel_rfl) (by kernel_rfl) (by kernel_rfl) (fun _ _ _ h => h) (Or.inl ⟨by rfl, fun w hSw => by obtain ⟨hS0, hS1, hS2⟩ := hSw; go_simp⟩) (by assumption) ?_
              simp only [List.getElem_toArray, List.getElem_cons_succ, List.getElem_cons_zero, Act.put, List.setIfInBounds_toArray, List.set_cons_zero, List.set_cons_succ]
              refine wpAnyH_take (i := 13) (v := .slice ua un uc) rfl (by kernel_rfl) (by kernel_rfl) (by kernel_rfl) (fun _ _ _ h => h) (Or.inl ⟨by rfl, fun w hSw => by obtain ⟨hS0, hS1, hS2⟩ := hSw; go_simp⟩) (by assumption) ?_
              simp only [List.getElem_toArray, List.getElem_cons_succ, List.getElem_cons_zero, Act.put, List.setIfInBounds_toArray, List.set_cons_zero, List.set_cons_succ]
              refine wpAnyH_ready (rs := [14]) (by kernel_rfl) (by simp) (AllReadyH.cons rfl (fun K hK => ?_) AllReadyH.nil)
              refine step_call3Gd (by rfl) 10 write_enter (.tmp 109) (.tmp 114) (.tmp 119) _ rfl rfl rfl rfl (unhide HW _ rfl) ?_
              rintro e w6 ⟨rfl, hT2, hK2⟩
              refine ⟨_, rfl, ?_⟩
              refine hK.out _ _ (unhide HKM3 _ hK2) (fun hHeld2 => ?_)
              clear hK K
              simp only [List.getElem_toArray, List.getElem_cons_succ, List.getElem_cons_zero, Act.put, List.setIfInBounds_toArray, List.set_cons_zero, List.set_cons_succ]
              refine wpAnyH_done (by kernel_rfl) ?_ _
              clear hHeld hHeld2 hK2
              have HT3 := hide hT2
              clear hT2 HW HKM3
              go_wp2
              go_roundw
              case rel => exact ⟨i2 + 1, by omega, by go_num, HT3⟩
              case measure => simp [intOf]; omega
            · have hie2 : i2 = m2 := by omega
              subst hie2
              have HT6 : Hid (Ta w wr (300 * (k + 1)) P (stK DF Z (k + 1)) (.slice a1 i1 c1) (.slice a2 i2 c2) L1 L2 ga) := by
                have h9 := HT.out
                rw [HT2.out, HDF.out, unhide HSTK k] at h9
                obtain ⟨⟨G, hG⟩, h8, h9, h10⟩ := h9
                exact ⟨⟨G, hG.mono (by omega)⟩, h8, h9, h10⟩
              clear HT
              go_wp2
              go_roundw
              case rel => exact ⟨k + 1, by omega, by go_num, HT6⟩
              case measure => simp [intOf]; omega
    · have hk3 : k = 3 := by omega
      have HDA : Hid (∃ G, Dka (fun b => b < w.heap.size) w wr 900 3 P G (fun _ => DF)) := by
        obtain ⟨⟨G, hG⟩, _⟩ := HT.out
        refine ⟨G, (hG.mono (show 300 * k ≤ 900 by omega)).congr (fun _ _ => rfl) (fun _ _ => rfl) (fun j hj => ?_)⟩
        unfold stK
        rw [if_pos (by omega)]
      clear HT HSTK HSTA HUPD HTK1 HTK2 HOK1 HOK2 HT1 HT2 hsh1 hsh2
      obtain ⟨G, hDA⟩ := HDA.out
      obtain ⟨hp0, hp1, hp2⟩ := HP.out
      have HOKF : Hid DF.Ok := hDA.ok (j := 0) (by decide)
      clear HDA HP
      rename World => w5
      have hd3 : decide ((k : Int) < 3) = false := by simp; omega
      have HTU := hide (dka_turn (k := 1) (i := i0) (bit := b0) hDA (by decide) hp1 (by show i0 < DF.la.length; omega) hzn (by decide))
      clear hDA hk3
      go_wp2_with fail
      refine (unhide HMY _).mono ?_
      rintro e w6 ⟨rfl, hw6⟩
      obtain rfl := hw6.symm
      go_wp2_with fail
      refine (unhide HMZ _).mono ?_
      rintro e w6 ⟨rfl, hw6⟩
      obtain rfl := hw6.symm
      go_wp2_with fail
      refine (unhide HTU).mono ?_
      rintro e w6 ⟨rfl, hD6, _⟩
      have hfar : ∀ (Dn : Nat → AD) (W : World) (j : Nat), Dka (fun b => b < w.heap.size) w W 900 3 P G Dn → j < 3 → ∀ b, Value.inBlock (.slice fa fn fc) b → b ≠ G j := fun Dn W j hD hj b hb e => by
        have hlt := isI_block HFI.out hb
        exact hD.gl_not hj (by rw [← e]; exact hlt)
      have HCR := hide (dka_crash (k := 1) hD6 (by decide) hp1 (by decide) (HFI.out.below (up_below hD6.kp)) (hfar _ _ 1 hD6 (by decide)))
      rw [updF_idem, updF_same] at HCR
      clear HTU hD6
      go_wp2_with fail
      refine (unhide HCR).mono ?_
      rintro e w7 ⟨rfl, hD7, _⟩
      have HCR2 := hide (dka_crash (k := 2) hD7 (by decide) hp2 (by decide) (HFI.out.below (up_below hD7.kp)) (hfar _ _ 2 hD7 (by decide)))
      clear HCR hD7
      go_wp2_with fail
      refine (unhide HCR2).mono ?_
      rintro e w8 ⟨rfl, hD8, _⟩
      obtain ⟨S1, hS1⟩ : ∃ S1, S1 = (DF.turn i0 b0).settle fun k => xs.getD k 0 := ⟨_, rfl⟩
      obtain ⟨S2, hS2⟩ : ∃ S2, S2 = DF.settle fun k => xs.getD k 0 := ⟨_, rfl⟩
      have hD8' : Dka (fun b => b < w.heap.size) w w8 900 3 P G (three DF S1 S2) := hD8.congr (fun _ _ => rfl) (fun _ _ => rfl) (fun j hj => by
        rcases (show j = 0 ∨ j = 1 ∨ j = 2 by omega) with rfl | rfl | rfl
        · rfl
        · rw [hS1]; rfl
        · rw [hS2]; rfl)
      have hl1 : S1.la.length = n := by rw [hS1, settle_len]; simp [AD.turn]; exact hlF
      have hl2 : S2.la.length = n := by rw [hS2, settle_len]; exact hlF
      have hno : S1.now i0 = turnB (S2.now i0) b0 := by rw [hS1, hS2]; exact turn_settle (by omega) _
      have HSEC2 : Hid (IsSec (S2.now i0)) := (hD8'.ok (j := 2) (by decide)).now (by show i0 < S2.la.length; omega)
      have HNO := hide hno
      have HRD := hide (dka_readP (k := 1) (i := i0) hD8' (by decide) hp1 (by show i0 < S1.la.length; omega) (by decide))
      have HU8 : Hid (Up (fun b => ¬ b < w.heap.size) w w8) := hD8'.kp
      clear HCR2 hD8 hD8' hS1 hS2 hno hfar
      go_wp2_with fail
      refine (unhide HMY _).mono ?_
      rintro e w9 ⟨rfl, hw9⟩
      obtain rfl := hw9.symm
      go_wp2_with fail
      refine (unhide HRD).mono ?_
      rintro e w9 ⟨g9, rfl, hPl9, hA9, hD9, hU9, _⟩
      have hD9' : Dka (Plus (fun b => b < w.heap.size) w8 w9) w9 w9 901 3 P G (three DF (S1.reads 1) S2) := hD9.congr (fun _ _ => rfl) (fun _ _ => rfl) (fun j hj => by
        rcases (show j = 0 ∨ j = 1 ∨ j = 2 by omega) with rfl | rfl | rfl <;> rfl)
      have HRD2 := hide (dka_read (k := 2) (i := i0) hD9' (by decide) hp2 (by show i0 < S2.la.length; omega) (by decide))
      have HA9 : Hid (Arr w9 g9 77 (u8V (S1.now i0)) ∧ Plus (fun b => b < w.heap.size) w8 w9 g9) := ⟨hA9, hPl9⟩
      have HU9 : Hid (Up (fun b => ¬ b < w.heap.size) w w9) := HU8.out.trans hU9 (fun _ h => Or.inl h)
      clear HRD hPl9 hA9 hD9 hD9' hU9 HU8
      go_wp2_with fail
      refine (unhide HMY _).mono ?_
      rintro e w10 ⟨rfl, hw10⟩
      obtain rfl := hw10.symm
      go_wp2_with fail
      refine (unhide HRD2).mono ?_
      rintro e w10 ⟨g10, rfl, _, hI10, _, hD10, _⟩
      have hsec1 : IsSec (S1.now i0) := by rw [HNO.out]; exact turnB_is HSEC2.out hzn
      have hI9 : IsB w10 (.slice (some ⟨g9, 0, none⟩) 512 512) (S1.now i0) := isB_arrS (HA9.out.1.up hD10.kp (fun h => h HA9.out.2)) hsec1
      have hI10' : IsB w10 (.slice (some ⟨g10, 0, none⟩) 512 512) (S2.now i0) := hI10
      have HOT := hide (other_calls (bit := b0) hI9 hI10' hsec1.1 HSEC2.out.1 hzn (by rw [HNO.out]; exact bit1_turn HSEC2.out b0 hzn))
      have HD10 : Hid (∃ G, Dka (fun b => b < w.heap.size) w w10 902 1 P G (fun _ => DF)) :=
        ⟨G, (hD10.one (by decide) (fun _ h => Or.inl h) HU9.out).congr (fun _ _ => rfl) (fun _ _ => rfl) (fun j hj => by rw [show j = 0 by omega]; rfl)⟩
      clear HRD2 hI10 hI10' hI9 hD10 HA9 hsec1 HSEC2 HNO
      go_wp2_with fail
      refine (unhide HMZ _).mono ?_
      rintro e w11 ⟨rfl, hw11⟩
      obtain rfl := hw11.symm
      go_wp2_with fail
      refine (unhide HOT).mono ?_
      rintro e w11 ⟨rfl, hb11⟩
      have HD11 : Hid (∃ G, Dka (fun b => b < w.heap.size) w w11 902 1 P G (fun _ => DF)) := by
        obtain ⟨G, hG⟩ := HD10.out
        exact ⟨G, hG.below hb11⟩
      clear HOT HD10 hb11 HU9
      obtain ⟨G1, hD11⟩ := HD11.out
      have HIM := hide (dka_image (k := 0) hD11 (by decide) hp0)
      have HD11' := hide hD11
      clear HD11 hD11
      go_wp2_with fail
      refine (unhide HMY _).mono ?_
      rintro e w12 ⟨rfl, hw12⟩
      obtain rfl := hw12.symm
      go_wp2_with fail
      refine (unhide HMZ _).mono ?_
      rintro e w12 ⟨rfl, hw12⟩
      obtain rfl := hw12.symm
      go_wp2_with fail
      refine (unhide HIM).mono ?_
      rintro e w12 ⟨v12, rfl, hI12, _, hb12⟩
      obtain ⟨gwas, hv12⟩ : ∃ g, v12 = .slice (some ⟨g, 0, none⟩) n n := by
        obtain ⟨gI, us, hv, _⟩ := hI12.val
        rw [hlF] at hv
        exact ⟨_, hv⟩
      subst hv12
      have hD12 := HD11'.out.plus hb12
      have HI12 := hide hI12
      have HU12 : Hid (Up (fun b => ¬ b < w.heap.size) w w12) := HD11'.out.kp.then_below hb12
      have HRD := hide (dka_readP (k := 0) (i := i0) hD12 (by decide) hp0 (by show i0 < DF.la.length; omega) (by decide))
      clear HIM hI12 hb12 hD12 HD11'
      go_wp2_with fail
      refine (unhide HRD).mono ?_
      rintro e w13 ⟨gb, rfl, hPl13, hA13, hD13, hU13, _⟩
      have hD13' : Dka (Plus (Plus (fun b => b < w.heap.size) w11 w12) w12 w13) w13 w13 903 1 P G1 (fun _ => DF.reads 1) := hD13.congr (fun _ _ => rfl) (fun _ _ => rfl) (fun j hj => by rw [show j = 0 by omega]; rfl)
      have HA13 : Hid (Arr w13 gb 77 (u8V (DF.now i0)) ∧ Plus (Plus (fun b => b < w.heap.size) w11 w12) w12 w13 gb) := ⟨hA13, hPl13⟩
      have HU13 : Hid (Up (fun b => ¬ Plus (fun b => b < w.heap.size) w11 w12 b) w12 w13) := hU13
      have HAC := hide (dka_acts (k := 0) hD13' (by decide) hp0)
      have HD13 := hide hD13'
      clear HRD hPl13 hA13 hD13 hD13' hU13
      generalize hra : (DF.reads 1).rd = ra at *
      generalize hrb : (DF.reads 1).wt = rb at *
      generalize hrc : (DF.reads 1).fl = rc at *
      have HRA := hide hra
      have HRB := hide hrb
      have HRC := hide hrc
      clear hra hrb hrc
      go_wp2_with fail
      refine (unhide HAC).mono ?_
      rintro e w14 ⟨rfl, hb14⟩
      have HB14 := hide hb14
      clear HAC hb14
      go_wp2_with fail
      have HX15 := hide (Arr.new w14 [.int .i64 ra, .int .i64 rb, .int .i64 rc] 48)
      have HB15 : Hid (Below w13.heap.size w13 (w14.alloc (.cells [Value.int .i64 ra, .int .i64 rb, .int .i64 rc].toArray 48))) := HB14.out.alloc HB14.out.size _
      have hw15 : w14.alloc (.cells #[Value.int .i64 ra, .int .i64 rb, .int .i64 rc] 48) = w14.alloc (.cells [Value.int .i64 ra, .int .i64 rb, .int .i64 rc].toArray 48) := rfl
      rw [hw15]
      clear hw15 HB14
      generalize w14.heap.size = gx at *
      generalize w14.alloc (.cells [Value.int .i64 ra, .int .i64 rb, .int .i64 rc].toArray 48) = w15 at *
      have hund48 := Try.underlying48
      have HTU : Hid (∀ W, W = w15.drew → Calls Try.prog 18 #[.pointer (some ⟨p, 0, none⟩), .int .i64 (i0 : Int), .int .i64 (b0 : Int)] W fun e w' => e = .returned (.int .i64 0) ∧ Dka (Plus (Plus (fun b => b < w.heap.size) w11 w12) w12 w13) w13 w' 903 1 P G1 (fun _ => (DF.reads 1).turn i0 b0) ∧ Km w15 w') := fun W hWe => by
        have hbd : Below w15.heap.size w15 W := by rw [hWe]; exact (Below.refl _ _).drew
        refine (dka_turn (k := 0) (i := i0) (bit := b0) ((HD13.out.below HB15.out).below hbd) (by decide) hp0 (by show i0 < DF.la.length; omega) hzn (by decide)).mono ?_
        rintro e w' ⟨h1, h2, h3⟩
        exact ⟨h1, h2.congr (fun _ _ => rfl) (fun _ _ => rfl) (fun j hj => by rw [show j = 0 by omega]; rfl), by rw [hWe] at h3; exact km_drew h3⟩
      have HSX : Hid (∀ W, Km w15 W → W.rangeAt gx 0 [.int .i64 ra, .int .i64 rb, .int .i64 rc]) := fun W hK => (HX15.out.km hK (by decide) (by decide)).range
      have HAC2 : Hid (∀ W, Dka (Plus (Plus (fun b => b < w.heap.size) w11 w12) w12 w13) w13 W 903 1 P G1 (fun _ => (DF.reads 1).turn i0 b0) → Calls Try.prog 22 #[.pointer (some ⟨p, 0, none⟩)] W fun e w' => e = .returned (.agg #[.int .i64 ra, .int .i64 rb, .int .i64 rc]) ∧ Below W.heap.size W w') := fun W hD => by
        have h9 := dka_acts (k := 0) hD (by decide) hp0
        have e1 : ((DF.reads 1).turn i0 b0).rd = ra := HRA.out
        have e2 : ((DF.reads 1).turn i0 b0).wt = rb := HRB.out
        have e3 : ((DF.reads 1).turn i0 b0).fl = rc := HRC.out
        rw [e1, e2, e3] at h9
        exact h9
      clear HD13 HX15 HB15 HRA HRB HRC
      refine wp_region_held_drew (S := fun W => W.rangeAt gx 0 [.int .i64 ra, .int .i64 rb, .int .i64 rc]) (by kernel_rfl) (unhide HSX _ (Km.of_below (Below.refl _ _).drew)) (fun hHeld => ?_)
      refine wpAnyH_take (i := 0) (v := .int .i64 0) rfl (by kernel_rfl) (by kernel_rfl) (by kernel_rfl) (fun _ _ _ h => h) (Or.inl ⟨by rfl, fun w hSw => by go_simp⟩) (by assumption) ?_
      simp only [List.getElem_toArray, List.getElem_cons_zero, Act.put, List.setIfInBounds_toArray, List.set_cons_zero, List.set_cons_succ]
      refine wpAnyH_take (i := 1) (v := .bool false) rfl (by kernel_rfl) (by kernel_rfl) (by kernel_rfl) (fun _ _ _ h => h) (Or.inl ⟨by rfl, fun w hSw => by go_simp⟩) (by assumption) ?_
      simp only [List.getElem_toArray, List.getElem_cons_succ, List.getElem_cons_zero, Act.put, List.setIfInBounds_toArray, List.set_cons_zero, List.set_cons_succ]
      refine wpAnyH_take (i := 2) (v := .bool false) rfl (by kernel_rfl) (by kernel_rfl) (by kernel_rfl) (fun _ _ _ h => h) (Or.inl ⟨by rfl, fun w hSw => by go_simp⟩) (by assumption) ?_
      simp only [List.getElem_toArray, List.getElem_cons_succ, List.getElem_cons_zero, Act.put, List.setIfInBounds_toArray, List.set_cons_zero, List.set_cons_succ]
      refine wpAnyH_take (i := 3) (v := .slice (some ⟨gwas, 0, none⟩) n n) rfl (by kernel_rfl) (by kernel_rfl) (by kernel_rfl) (fun _ _ _ h => h) (Or.inl ⟨by rfl, fun w hSw => by go_simp⟩) (by assumption) ?_
      simp only [List.getElem_toArray, List.getElem_cons_succ, List.getElem_cons_zero, Act.put, List.setIfInBounds_toArray, List.set_cons_zero, List.set_cons_succ]
      refine wpAnyH_take (i := 4) (v := .int .i64 (n : Int)) rfl (by kernel_rfl) (by kernel_rfl) (by kernel_rfl) (fun _ _ _ h => h) (Or.inl ⟨by rfl, fun w hSw => by go_simp⟩) (by assumption) ?_
      simp only [List.getElem_toArray, List.getElem_cons_succ, List.getElem_cons_zero, Act.put, List.setIfInBounds_toArray, List.set_cons_zero, List.set_cons_succ]
      refine wpAnyH_take (i := 5) (v := .int .i64 (n : Int)) rfl (by kernel_rfl) (by kernel_rfl) (by kernel_rfl) (fun _ _ _ h => h) (Or.inl ⟨by rfl, fun w hSw => by go_simp⟩) (by assumption) ?_
      simp only [List.getElem_toArray, List.getElem_cons_succ, List.getElem_cons_zero, Act.put, List.setIfInBounds_toArray, List.set_cons_zero, List.set_cons_succ]
      refine wpAnyH_take (i := 6) (v := .bool false) rfl (by kernel_rfl) (by kernel_rfl) (by kernel_rfl) (fun _ _ _ h => h) (Or.inl ⟨by rfl, fun w hSw => by go_simp⟩) (by assumption) ?_
      simp only [List.getElem_toArray, List.getElem_cons_succ, List.getElem_cons_zero, Act.put, List.setIfInBounds_toArray, List.set_cons_zero, List.set_cons_succ]
      refine wpAnyH_take (i := 7) (v := .bool false) rfl (by kernel_rfl) (by kernel_rfl) (by kernel_rfl) (fun _ _ _ h => h) (Or.inl ⟨by rfl, fun w hSw => by go_simp⟩) (by assumption) ?_
      simp only [List.getElem_toArray, List.getElem_cons_succ, List.getElem_cons_zero, Act.put, List.setIfInBounds_toArray, List.set_cons_zero, List.set_cons_succ]
      refine wpAnyH_take (i := 8) (v := .bool false) rfl (by kernel_rfl) (by kernel_rfl) (by kernel_rfl) (fun _ _ _ h => h) (Or.inl ⟨by rfl, fun w hSw => by go_simp⟩) (by assumption) ?_
      simp only [List.getElem_toArray, List.getElem_cons_succ, List.getElem_cons_zero, Act.put, List.setIfInBounds_toArray, List.set_cons_zero, List.set_cons_succ]
      refine wpAnyH_take (i := 9) (v := .pointer (some ⟨p, 0, none⟩)) rfl (by kernel_rfl) (by kernel_rfl) (by kernel_rfl) (fun _ _ _ h => h) (Or.inl ⟨by rfl, fun w hSw => by go_simp⟩) (by assumption) ?_
      simp only [List.getElem_toArray, List.getElem_cons_succ, List.getElem_cons_zero, Act.put, List.setIfInBounds_toArray, List.set_cons_zero, List.set_cons_succ]
      refine wpAnyH_take (i := 10) (v := .int .i64 (i0 : Int)) rfl (by kernel_rfl) (by kernel_rfl) (by kernel_rfl) (fun _ _ _ h => h) (Or.inl ⟨by rfl, fun w hSw => by go_simp⟩) (by assumption) ?_
      simp only [List.getElem_toArray, List.getElem_cons_succ, List.getElem_cons_zero, Act.put, List.setIfInBounds_toArray, List.set_cons_zero, List.set_cons_succ]
      refine wpAnyH_take (i := 11) (v := .int .i64 (b0 : Int)) rfl (by kernel_rfl) (by kernel_rfl) (by kernel_rfl) (fun _ _ _ h => h) (Or.inl ⟨by rfl, fun w hSw => by go_simp⟩) (by assumption) ?_
      simp only [List.getElem_toArray, List.getElem_cons_succ, List.getElem_cons_zero, Act.put, List.setIfInBounds_toArray, List.set_cons_zero, List.set_cons_succ]
      refine wpAnyH_ready (rs := [12]) (by kernel_rfl) (by simp) (AllReadyH.cons rfl (fun K hK => ?_) AllReadyH.nil)
      refine step_call3Gd (by rfl) 18 turn_enter3 (.tmp 180) (.tmp 181) (.tmp 182) _ rfl rfl rfl rfl (unhide HTU _ rfl) ?_
      rintro e w16 ⟨rfl, hD16, hK16⟩
      refine ⟨_, rfl, ?_⟩
      refine hK.out _ _ (unhide HSX _ hK16) (fun hHeld2 => ?_)
      clear hK K
      simp only [List.getElem_toArray, List.getElem_cons_succ, List.getElem_cons_zero, Act.put, List.setIfInBounds_toArray, List.set_cons_zero, List.set_cons_succ]
      refine wpAnyH_take (i := 13) (v := .bool false) rfl (by kernel_rfl) (by kernel_rfl) (by kernel_rfl) (fun _ _ _ h => h) (Or.inl ⟨by rfl, fun w hSw => by go_simp⟩) (by assumption) ?_
      simp only [List.getElem_toArray, List.getElem_cons_succ, List.getElem_cons_zero, Act.put, List.setIfInBounds_toArray, List.set_cons_zero, List.set_cons_succ]
      refine wpAnyH_take (i := 14) (v := .bool false) rfl (by kernel_rfl) (by kernel_rfl) (by kernel_rfl) (fun _ _ _ h => h) (Or.inl ⟨by rfl, fun w hSw => by go_simp⟩) (by assumption) ?_
      simp only [List.getElem_toArray, List.getElem_cons_succ, List.getElem_cons_zero, Act.put, List.setIfInBounds_toArray, List.set_cons_zero, List.set_cons_succ]
      refine wpAnyH_take (i := 15) (v := .bool false) rfl (by kernel_rfl) (by kernel_rfl) (by kernel_rfl) (fun _ _ _ h => h) (Or.inl ⟨by rfl, fun w hSw => by go_simp⟩) (by assumption) ?_
      simp only [List.getElem_toArray, List.getElem_cons_succ, List.getElem_cons_zero, Act.put, List.setIfInBounds_toArray, List.set_cons_zero, List.set_cons_succ]
      refine wpAnyH_take (i := 16) (v := .pointer (some ⟨p, 0, none⟩)) rfl (by kernel_rfl) (by kernel_rfl) (by kernel_rfl) (fun _ _ _ h => h) (Or.inl ⟨by rfl, fun w hSw => by go_simp⟩) (by assumption) ?_
      simp only [List.getElem_toArray, List.getElem_cons_succ, List.getElem_cons_zero, Act.put, List.setIfInBounds_toArray, List.set_cons_zero, List.set_cons_succ]
      refine wpAnyH_take (i := 18) (v := .agg ([.int .i64 ra, .int .i64 rb, .int .i64 rc]).toArray) rfl (by kernel_rfl) (by kernel_rfl) (by kernel_rfl) (fun _ _ _ h => h) (yieldsIf_load_mid (by rfl) _ _ rfl _ _ rfl _ _ (fun w hSw => hSw) hund48 rfl info32) (by assumption) ?_
      simp only [List.getElem_toArray, List.getElem_cons_succ, List.getElem_cons_zero, Act.put, List.setIfInBounds_toArray, List.set_cons_zero, List.set_cons_succ]
      refine wpAnyH_ready (rs := [17]) (by kernel_rfl) (by simp) (AllReadyH.cons rfl (fun K hK => ?_) AllReadyH.nil)
      refine step_call1Gd (by rfl) 22 acts_enter (.tmp 187) _ rfl rfl (unhide HAC2 _ hD16) ?_
      rintro e w17 ⟨rfl, hb17⟩
      refine ⟨_, rfl, ?_⟩
      refine hK.out _ _ (range_of_block hHeld2 (hb17.block gx (World.block_lt_of_cell? _ _ (hHeld2 0 _ rfl)))) (fun hHeld3 => ?_)
      clear hK K
      simp only [List.getElem_toArray, List.getElem_cons_succ, List.getElem_cons_zero, Act.put, List.setIfInBounds_toArray, List.set_cons_zero, List.set_cons_succ]
      refine wpAnyH_take (i := 19) (v := .bool false) rfl (by kernel_rfl) (by kernel_rfl) (by kernel_rfl) (fun _ _ _ h => h) (Or.inl ⟨by rfl, fun w hSw => by go_simp⟩) (by assumption) ?_
      simp only [List.getElem_toArray, List.getElem_cons_succ, List.getElem_cons_zero, Act.put, List.setIfInBounds_toArray, List.set_cons_zero, List.set_cons_succ]
      refine wpAnyH_take (i := 20) (v := .bool false) rfl (by kernel_rfl) (by kernel_rfl) (by kernel_rfl) (fun _ _ _ h => h) (Or.inl ⟨by rfl, fun w hSw => by go_simp⟩) (by assumption) ?_
      simp only [List.getElem_toArray, List.getElem_cons_succ, List.getElem_cons_zero, Act.put, List.setIfInBounds_toArray, List.set_cons_zero, List.set_cons_succ]
      refine wpAnyH_done (by kernel_rfl) ?_ _
      have hD17 := hD16.below hb17
      have HIM := hide (dka_image (k := 0) hD17 (by decide) hp0)
      have HD17 := hide hD17
      clear hD16 hD17 hK16 hb17 HTU HAC2 HSX hHeld hHeld2 hHeld3
      go_wp2_with fail
      refine (unhide HIM).mono ?_
      rintro e w18 ⟨v18, rfl, hI18, _, hb18⟩
      obtain ⟨D2, hD2⟩ : ∃ D2, D2 = DF.turn i0 b0 := ⟨_, rfl⟩
      have hla2 : D2.la.length = n := by rw [hD2]; simp [AD.turn]; exact hlF
      have hI18' : Img w18 w17.heap.size v18 D2.la := by rw [hD2]; exact hI18
      obtain ⟨gnow, hv18⟩ : ∃ g, v18 = .slice (some ⟨g, 0, none⟩) n n := by
        obtain ⟨gI, us, hv, _⟩ := hI18'.val
        rw [hla2] at hv
        exact ⟨_, hv⟩
      subst hv18
      have hD18 := HD17.out.plus hb18
      have HUP : Hid (∀ W, Up (fun b => ¬ Plus (Plus (Plus (fun b => b < w.heap.size) w11 w12) w12 w13) w17 w18 b) w18 W → Up (fun b => ¬ Plus (Plus (fun b => b < w.heap.size) w11 w12) w12 w13 b) w13 W) := fun W hU => up_plus HD17.out.kp hb18 hU
      have HUP2 : Hid (∀ W, Up (fun b => ¬ Plus (Plus (Plus (fun b => b < w.heap.size) w11 w12) w12 w13) w17 w18 b) w18 W → Up (fun b => ¬ Plus (fun b => b < w.heap.size) w11 w12 b) w12 W) := fun W hU => HU13.out.trans (unhide HUP W hU) (fun x hx => Or.inl (fun h0 => hx (Or.inl h0)))
      have hokF : DF.Ok := HOKF.out
      have hnF : IsSec (DF.now i0) := hokF.now (by omega)
      have HIB : Hid (∀ W, Up (fun b => ¬ Plus (Plus (Plus (fun b => b < w.heap.size) w11 w12) w12 w13) w17 w18 b) w18 W → IsB W (.slice (some ⟨gb, 0, none⟩) 512 512) (DF.now i0)) := fun W hU => isB_arrS (HA13.out.1.up (unhide HUP W hU) (fun h => h HA13.out.2)) hnF
      have HWAS : Hid (∀ W, Up (fun b => ¬ Plus (Plus (Plus (fun b => b < w.heap.size) w11 w12) w12 w13) w17 w18 b) w18 W → Img W w11.heap.size (.slice (some ⟨gwas, 0, none⟩) n n) DF.la) := fun W hU => img_kept HI12.out (unhide HUP2 W hU)
      have HNOW : Hid (∀ W, Up (fun b => ¬ Plus (Plus (Plus (fun b => b < w.heap.size) w11 w12) w12 w13) w17 w18 b) w18 W → Img W w17.heap.size (.slice (some ⟨gnow, 0, none⟩) n n) D2.la) := fun W hU => img_kept hI18' hU
      have HBEL : Hid (∀ W, Up (fun b => ¬ Plus (Plus (Plus (fun b => b < w.heap.size) w11 w12) w12 w13) w17 w18 b) w18 W → Below w.heap.size w W) := fun W hU => up_below (HU12.out.trans (unhide HUP2 W hU) (fun x hx => Or.inl (fun h0 => hx (Or.inl h0))))
      have HRD := hide (dka_read (k := 0) (i := i0) hD18 (by decide) hp0 (by show i0 < ((DF.reads 1).turn i0 b0).la.length; simp [AD.turn, AD.reads]; omega) (by decide))
      have HTL : Hid (∀ j, D2.la.getD j zsec = if j = i0 then turnB (DF.la.getD i0 zsec) b0 else DF.la.getD j zsec) := fun j => by rw [hD2]; exact turn_la DF i0 j b0 (by omega)
      have HTN : Hid (((DF.reads 1).turn i0 b0).now i0 = turnB (DF.now i0) b0) := turn_now (D := DF) (by omega)
      have HTB := hide (turn_back hokF (i := i0) (bit := b0) (by omega) hzn)
      have HLAS := hide hokF.las
      have HNF := hide hnF
      clear HIM HI12 HU12 HU13 HA13 HD17 hI18 hI18' hb18 hD18 HUP HUP2 hokF hnF hD2
      go_wp2_with fail
      refine (unhide HRD).mono ?_
      rintro e w19 ⟨gc, rfl, _, hIc, _, hD19, _⟩
      have hIc' : IsB w19 (.slice (some ⟨gc, 0, none⟩) 512 512) (turnB (DF.now i0) b0) := by rw [← HTN.out]; exact hIc
      have hD19' : Dka (Plus (Plus (Plus (fun b => b < w.heap.size) w11 w12) w12 w13) w17 w18) w18 w19 904 1 P G1 (fun _ => ((DF.reads 1).turn i0 b0).reads 1) := hD19.congr (fun _ _ => rfl) (fun _ _ => rfl) (fun j hj => by rw [show j = 0 by omega]; rfl)
      have hU19 := hD19'.kp
      obtain ⟨gw, hcw, hIw⟩ := img_cell (unhide HWAS w19 hU19) hlF hyn
      obtain ⟨gn, hcn, hIn⟩ := img_cell (unhide HNOW w19 hU19) hla2 hyn
      rw [unhide HTL i0, if_pos rfl] at hIn
      have hIb := unhide HIB w19 hU19
      have hsL : IsSec (DF.la.getD i0 zsec) := by
        rw [List.getD_eq_getElem?_getD, List.getElem?_eq_getElem (by omega)]
        exact HLAS.out _ (List.getElem_mem (by omega))
      have HOA : Hid (∀ W, Below w19.heap.size w19 W → Calls Try.prog 21 #[.slice (some ⟨gb, 0, none⟩) 512 512, .slice (some ⟨gc, 0, none⟩) 512 512, .int .i64 (b0 : Int)] W fun e w' => e = .returned (.bool true) ∧ Below w19.heap.size w19 w') := fun W hW =>
        (other_calls (hIb.below hW) (hIc'.below hW) HNF.out.1 (turnB_is HNF.out hzn).1 hzn (bit1_turn HNF.out b0 hzn).symm).mono fun e w' ⟨h1, h2⟩ => ⟨h1, hW.trans (h2.mono hW.size)⟩
      have HOB : Hid (∀ W, Below w19.heap.size w19 W → Calls Try.prog 21 #[.slice (some ⟨gw, 0, none⟩) 512 512, .slice (some ⟨gn, 0, none⟩) 512 512, .int .i64 (b0 : Int)] W fun e w' => e = .returned (.bool true) ∧ Below w19.heap.size w19 w') := fun W hW =>
        (other_calls (hIw.below hW) (hIn.below hW) hsL.1 (turnB_is hsL hzn).1 hzn (bit1_turn hsL b0 hzn).symm).mono fun e w' ⟨h1, h2⟩ => ⟨h1, hW.trans (h2.mono hW.size)⟩
      have HSS : Hid (∀ W, Below w19.heap.size w19 W → W.cell? ⟨gwas, i0, none⟩ = some (.slice (some ⟨gw, 0, none⟩) 512 512) ∧ W.cell? ⟨gnow, i0, none⟩ = some (.slice (some ⟨gn, 0, none⟩) 512 512)) := fun W hW =>
        ⟨(hW.cell (p := ⟨gwas, i0, none⟩) (World.block_lt_of_cell? _ _ hcw)).trans hcw, (hW.cell (p := ⟨gnow, i0, none⟩) (World.block_lt_of_cell? _ _ hcn)).trans hcn⟩
      have HD19 := hide hD19'
      clear HRD hIc hIc' hD19 hD19' hU19 hcw hIw hcn hIn hIb hsL HTN HNF
      go_wp2_with fail
      refine wp_region_held_drew (S := fun W => W.cell? ⟨gwas, i0, none⟩ = some (.slice (some ⟨gw, 0, none⟩) 512 512) ∧ W.cell? ⟨gnow, i0, none⟩ = some (.slice (some ⟨gn, 0, none⟩) 512 512)) (by kernel_rfl) (unhide HSS _ (Below.refl _ _).drew) (fun hHeld => ?_)
      refine wpAnyH_take (i := 0) (v := .int .i64 0) rfl (by kernel_rfl) (by kernel_rfl) (by kernel_rfl) (fun _ _ _ h => h) (Or.inl ⟨by rfl, fun w hSw => by obtain ⟨hS1, hS2⟩ := hSw; go_simp⟩) (by assumption) ?_
      simp only [List.getElem_toArray, List.getElem_cons_zero, Act.put, List.setIfInBounds_toArray, List.set_cons_zero, List.set_cons_succ]
      refine wpAnyH_take (i := 1) (v := .bool false) rfl (by kernel_rfl) (by kernel_rfl) (by kernel_rfl) (fun _ _ _ h => h) (Or.inl ⟨by rfl, fun w hSw => by obtain ⟨hS1, hS2⟩ := hSw; go_simp⟩) (by assumption) ?_
      simp only [List.getElem_toArray, List.getElem_cons_succ, List.getElem_cons_zero, Act.put, List.setIfInBounds_toArray, List.set_cons_zero, List.set_cons_succ]
      refine wpAnyH_take (i := 2) (v := .bool false) rfl (by kernel_rfl) (by kernel_rfl) (by kernel_rfl) (fun _ _ _ h => h) (Or.inl ⟨by rfl, fun w hSw => by obtain ⟨hS1, hS2⟩ := hSw; go_simp⟩) (by assumption) ?_
      simp only [List.getElem_toArray, List.getElem_cons_succ, List.getElem_cons_zero, Act.put, List.setIfInBounds_toArray, List.set_cons_zero, List.set_cons_succ]
      refine wpAnyH_take (i := 3) (v := .slice (some ⟨gb, 0, none⟩) 512 512) rfl (by kernel_rfl) (by kernel_rfl) (by kernel_rfl) (fun _ _ _ h => h) (Or.inl ⟨by rfl, fun w hSw => by obtain ⟨hS1, hS2⟩ := hSw; go_simp⟩) (by assumption) ?_
      simp only [List.getElem_toArray, List.getElem_cons_succ, List.getElem_cons_zero, Act.put, List.setIfInBounds_toArray, List.set_cons_zero, List.set_cons_succ]
      refine wpAnyH_take (i := 4) (v := .slice (some ⟨gc, 0, none⟩) 512 512) rfl (by kernel_rfl) (by kernel_rfl) (by kernel_rfl) (fun _ _ _ h => h) (Or.inl ⟨by rfl, fun w hSw => by obtain ⟨hS1, hS2⟩ := hSw; go_simp⟩) (by assumption) ?_
      simp only [List.getElem_toArray, List.getElem_cons_succ, List.getElem_cons_zero, Act.put, List.setIfInBounds_toArray, List.set_cons_zero, List.set_cons_succ]
      refine wpAnyH_take (i := 5) (v := .int .i64 (b0 : Int)) rfl (by kernel_rfl) (by kernel_rfl) (by kernel_rfl) (fun _ _ _ h => h) (Or.inl ⟨by rfl, fun w hSw => by obtain ⟨hS1, hS2⟩ := hSw; go_simp⟩) (by assumption) ?_
      simp only [List.getElem_toArray, List.getElem_cons_succ, List.getElem_cons_zero, Act.put, List.setIfInBounds_toArray, List.set_cons_zero, List.set_cons_succ]
      refine wpAnyH_ready (rs := [6]) (by kernel_rfl) (by simp) (AllReadyH.cons rfl (fun K hK => ?_) AllReadyH.nil)
      refine step_call3Gd (by rfl) 21 other_enter (.tmp 203) (.tmp 204) (.tmp 205) _ rfl rfl rfl rfl (unhide HOA _ (Below.refl _ _).drew) ?_
      rintro e w20 ⟨rfl, hb20⟩
      refine ⟨_, rfl, ?_⟩
      refine hK.out _ _ (unhide HSS _ hb20) (fun hHeld2 => ?_)
      clear hK K
      simp only [List.getElem_toArray, List.getElem_cons_succ, List.getElem_cons_zero, Act.put, List.setIfInBounds_toArray, List.set_cons_zero, List.set_cons_succ]
      refine wpAnyH_take (i := 7) (v := .bool false) rfl (by kernel_rfl) (by kernel_rfl) (by kernel_rfl) (fun _ _ _ h => h) (Or.inl ⟨by rfl, fun w hSw => by obtain ⟨hS1, hS2⟩ := hSw; go_simp⟩) (by assumption) ?_
      simp only [List.getElem_toArray, List.getElem_cons_succ, List.getElem_cons_zero, Act.put, List.setIfInBounds_toArray, List.set_cons_zero, List.set_cons_succ]
      refine wpAnyH_take (i := 8) (v := .bool false) rfl (by kernel_rfl) (by kernel_rfl) (by kernel_rfl) (fun _ _ _ h => h) (Or.inl ⟨by rfl, fun w hSw => by obtain ⟨hS1, hS2⟩ := hSw; go_simp⟩) (by assumption) ?_
      simp only [List.getElem_toArray, List.getElem_cons_succ, List.getElem_cons_zero, Act.put, List.setIfInBounds_toArray, List.set_cons_zero, List.set_cons_succ]
      refine wpAnyH_take (i := 9) (v := .bool false) rfl (by kernel_rfl) (by kernel_rfl) (by kernel_rfl) (fun _ _ _ h => h) (Or.inl ⟨by rfl, fun w hSw => by obtain ⟨hS1, hS2⟩ := hSw; go_simp⟩) (by assumption) ?_
      simp only [List.getElem_toArray, List.getElem_cons_succ, List.getElem_cons_zero, Act.put, List.setIfInBounds_toArray, List.set_cons_zero, List.set_cons_succ]
      refine wpAnyH_take (i := 10) (v := .slice (some ⟨gnow, 0, none⟩) n n) rfl (by kernel_rfl) (by kernel_rfl) (by kernel_rfl) (fun _ _ _ h => h) (Or.inl ⟨by rfl, fun w hSw => by obtain ⟨hS1, hS2⟩ := hSw; go_simp⟩) (by assumption) ?_
      simp only [List.getElem_toArray, List.getElem_cons_succ, List.getElem_cons_zero, Act.put, List.setIfInBounds_toArray, List.set_cons_zero, List.set_cons_succ]
      refine wpAnyH_take (i := 11) (v := .int .i64 (n : Int)) rfl (by kernel_rfl) (by kernel_rfl) (by kernel_rfl) (fun _ _ _ h => h) (Or.inl ⟨by rfl, fun w hSw => by obtain ⟨hS1, hS2⟩ := hSw; go_simp⟩) (by assumption) ?_
      simp only [List.getElem_toArray, List.getElem_cons_succ, List.getElem_cons_zero, Act.put, List.setIfInBounds_toArray, List.set_cons_zero, List.set_cons_succ]
      refine wpAnyH_take (i := 12) (v := .int .i64 (n : Int)) rfl (by kernel_rfl) (by kernel_rfl) (by kernel_rfl) (fun _ _ _ h => h) (Or.inl ⟨by rfl, fun w hSw => by obtain ⟨hS1, hS2⟩ := hSw; go_simp⟩) (by assumption) ?_
      simp only [List.getElem_toArray, List.getElem_cons_succ, List.getElem_cons_zero, Act.put, List.setIfInBounds_toArray, List.set_cons_zero, List.set_cons_succ]
      refine wpAnyH_take (i := 13) (v := .bool false) rfl (by kernel_rfl) (by kernel_rfl) (by kernel_rfl) (fun _ _ _ h => h) (Or.inl ⟨by rfl, fun w hSw => by obtain ⟨hS1, hS2⟩ := hSw; go_simp⟩) (by assumption) ?_
      simp only [List.getElem_toArray, List.getElem_cons_succ, List.getElem_cons_zero, Act.put, List.setIfInBounds_toArray, List.set_cons_zero, List.set_cons_succ]
      refine wpAnyH_take (i := 14) (v := .bool false) rfl (by kernel_rfl) (by kernel_rfl) (by kernel_rfl) (fun _ _ _ h => h) (Or.inl ⟨by rfl, fun w hSw => by obtain ⟨hS1, hS2⟩ := hSw; go_simp⟩) (by assumption) ?_
      simp only [List.getElem_toArray, List.getElem_cons_succ, List.getElem_cons_zero, Act.put, List.setIfInBounds_toArray, List.set_cons_zero, List.set_cons_succ]
      refine wpAnyH_take (i := 15) (v := .bool false) rfl (by kernel_rfl) (by kernel_rfl) (by kernel_rfl) (fun _ _ _ h => h) (Or.inl ⟨by rfl, fun w hSw => by obtain ⟨hS1, hS2⟩ := hSw; go_simp⟩) (by assumption) ?_
      simp only [List.getElem_toArray, List.getElem_cons_succ, List.getElem_cons_zero, Act.put, List.setIfInBounds_toArray, List.set_cons_zero, List.set_cons_succ]
      refine wpAnyH_take (i := 16) (v := .slice (some ⟨gwas, 0, none⟩) n n) rfl (by kernel_rfl) (by kernel_rfl) (by kernel_rfl) (fun _ _ _ h => h) (Or.inl ⟨by rfl, fun w hSw => by obtain ⟨hS1, hS2⟩ := hSw; go_simp⟩) (by assumption) ?_
      simp only [List.getElem_toArray, List.getElem_cons_succ, List.getElem_cons_zero, Act.put, List.setIfInBounds_toArray, List.set_cons_zero, List.set_cons_succ]
      refine wpAnyH_take (i := 17) (v := .int .i64 (i0 : Int)) rfl (by kernel_rfl) (by kernel_rfl) (by kernel_rfl) (fun _ _ _ h => h) (Or.inl ⟨by rfl, fun w hSw => by obtain ⟨hS1, hS2⟩ := hSw; go_simp⟩) (by assumption) ?_
      simp only [List.getElem_toArray, List.getElem_cons_succ, List.getElem_cons_zero, Act.put, List.setIfInBounds_toArray, List.set_cons_zero, List.set_cons_succ]
      refine wpAnyH_take (i := 18) (v := .pointer (some ⟨gwas, i0, none⟩)) rfl (by kernel_rfl) (by kernel_rfl) (by kernel_rfl) (fun _ _ _ h => h) (Or.inl ⟨by rfl, fun w hSw => by obtain ⟨hS1, hS2⟩ := hSw; go_simp⟩) (by assumption) ?_
      simp only [List.getElem_toArray, List.getElem_cons_succ, List.getElem_cons_zero, Act.put, List.setIfInBounds_toArray, List.set_cons_zero, List.set_cons_succ]
      refine wpAnyH_take (i := 19) (v := .slice (some ⟨gw, 0, none⟩) 512 512) rfl (by kernel_rfl) (by kernel_rfl) (by kernel_rfl) (fun _ _ _ h => h) (Or.inl ⟨by rfl, fun w hSw => by obtain ⟨hS1, hS2⟩ := hSw; go_simp⟩) (by assumption) ?_
      simp only [List.getElem_toArray, List.getElem_cons_succ, List.getElem_cons_zero, Act.put, List.setIfInBounds_toArray, List.set_cons_zero, List.set_cons_succ]
      refine wpAnyH_take (i := 20) (v := .slice (some ⟨gnow, 0, none⟩) n n) rfl (by kernel_rfl) (by kernel_rfl) (by kernel_rfl) (fun _ _ _ h => h) (Or.inl ⟨by rfl, fun w hSw => by obtain ⟨hS1, hS2⟩ := hSw; go_simp⟩) (by assumption) ?_
      simp only [List.getElem_toArray, List.getElem_cons_succ, List.getElem_cons_zero, Act.put, List.setIfInBounds_toArray, List.set_cons_zero, List.set_cons_succ]
      refine wpAnyH_take (i := 21) (v := .int .i64 (i0 : Int)) rfl (by kernel_rfl) (by kernel_rfl) (by kernel_rfl) (fun _ _ _ h => h) (Or.inl ⟨by rfl, fun w hSw => by obtain ⟨hS1, hS2⟩ := hSw; go_simp⟩) (by assumption) ?_
      simp only [List.getElem_toArray, List.getElem_cons_succ, List.getElem_cons_zero, Act.put, List.setIfInBounds_toArray, List.set_cons_zero, List.set_cons_succ]
      refine wpAnyH_take (i := 22) (v := .pointer (some ⟨gnow, i0, none⟩)) rfl (by kernel_rfl) (by kernel_rfl) (by kernel_rfl) (fun _ _ _ h => h) (Or.inl ⟨by rfl, fun w hSw => by obtain ⟨hS1, hS2⟩ := hSw; go_simp⟩) (by assumption) ?_
      simp only [List.getElem_toArray, List.getElem_cons_succ, List.getElem_cons_zero, Act.put, List.setIfInBounds_toArray, List.set_cons_zero, List.set_cons_succ]
      refine wpAnyH_take (i := 23) (v := .slice (some ⟨gn, 0, none⟩) 512 512) rfl (by kernel_rfl) (by kernel_rfl) (by kernel_rfl) (fun _ _ _ h => h) (Or.inl ⟨by rfl, fun w hSw => by obtain ⟨hS1, hS2⟩ := hSw; go_simp⟩) (by assumption) ?_
      simp only [List.getElem_toArray, List.getElem_cons_succ, List.getElem_cons_zero, Act.put, List.setIfInBounds_toArray, List.set_cons_zero, List.set_cons_succ]
      refine wpAnyH_take (i := 24) (v := .int .i64 (b0 : Int)) rfl (by kernel_rfl) (by kernel_rfl) (by kernel_rfl) (fun _ _ _ h => h) (Or.inl ⟨by rfl, fun w hSw => by obtain ⟨hS1, hS2⟩ := hSw; go_simp⟩) (by assumption) ?_
      simp only [List.getElem_toArray, List.getElem_cons_succ, List.getElem_cons_zero, Act.put, List.setIfInBounds_toArray, List.set_cons_zero, List.set_cons_succ]
      refine wpAnyH_ready (rs := [25]) (by kernel_rfl) (by simp) (AllReadyH.cons rfl (fun K hK => ?_) AllReadyH.nil)
      refine step_call3Gd (by rfl) 21 other_enter (.tmp 219) (.tmp 223) (.tmp 224) _ rfl rfl rfl rfl (unhide HOB _ hb20) ?_
      rintro e w21 ⟨rfl, hb21⟩
      refine ⟨_, rfl, ?_⟩
      refine hK.out _ _ (unhide HSS _ hb21) (fun hHeld3 => ?_)
      clear hK K
      simp only [List.getElem_toArray, List.getElem_cons_succ, List.getElem_cons_zero, Act.put, List.setIfInBounds_toArray, List.set_cons_zero, List.set_cons_succ]
      refine wpAnyH_take (i := 26) (v := .bool false) rfl (by kernel_rfl) (by kernel_rfl) (by kernel_rfl) (fun _ _ _ h => h) (Or.inl ⟨by rfl, fun w hSw => by obtain ⟨hS1, hS2⟩ := hSw; go_simp⟩) (by assumption) ?_
      simp only [List.getElem_toArray, List.getElem_cons_succ, List.getElem_cons_zero, Act.put, List.setIfInBounds_toArray, List.set_cons_zero, List.set_cons_succ]
      refine wpAnyH_take (i := 27) (v := .bool false) rfl (by kernel_rfl) (by kernel_rfl) (by kernel_rfl) (fun _ _ _ h => h) (Or.inl ⟨by rfl, fun w hSw => by obtain ⟨hS1, hS2⟩ := hSw; go_simp⟩) (by assumption) ?_
      simp only [List.getElem_toArray, List.getElem_cons_succ, List.getElem_cons_zero, Act.put, List.setIfInBounds_toArray, List.set_cons_zero, List.set_cons_succ]
      refine wpAnyH_done (by kernel_rfl) ?_ _
      clear hHeld hHeld2 hHeld3
      have HD21 := hide (HD19.out.below hb21)
      clear HOA HOB HSS hb20 hb21 HD19
      have HCV : Hid (∀ j, j < n → ¬ j = i0 → ∃ ga gb st, ∀ W, Below w21.heap.size w21 W → W.cell? ⟨gnow, j, none⟩ = some (.slice (some ⟨ga, 0, none⟩) 512 512) ∧ W.cell? ⟨gwas, j, none⟩ = some (.slice (some ⟨gb, 0, none⟩) 512 512) ∧
          (convert 23 9 (.slice (some ⟨ga, 0, none⟩) 512 512)).run Try.prog W = .ok (.string st) W ∧ (convert 23 9 (.slice (some ⟨gb, 0, none⟩) 512 512)).run Try.prog W = .ok (.string st) W) := fun j hj hne => by
        obtain ⟨gw, hcw, hIw⟩ := img_cell (unhide HWAS w21 HD21.out.kp) hlF hj
        obtain ⟨gn, hcn, hIn⟩ := img_cell (unhide HNOW w21 HD21.out.kp) hla2 hj
        rw [unhide HTL j, if_neg hne] at hIn
        exact ⟨gn, gw, mkS (DF.la.getD j zsec), fun W hW => ⟨(hW.cell (p := ⟨gnow, j, none⟩) (World.block_lt_of_cell? _ _ hcn)).trans hcn, (hW.cell (p := ⟨gwas, j, none⟩) (World.block_lt_of_cell? _ _ hcw)).trans hcw, conv_isB (hIn.below hW), conv_isB (hIw.below hW)⟩⟩
      clear HNOW HTL
      go_wp2
      go_loopw [35] (fun iv wr => ∃ j : Nat, j ≤ n ∧ iv = .int .i64 (j : Int) ∧ Hid (Below w21.heap.size w21 wr)) (fun iv _ => n - (intOf iv).toNat)
      case atStart => exact ⟨0, by omega, rfl, Below.refl _ _⟩
      case round =>
        obtain ⟨j, hj, rfl, HB⟩ := hrel
        by_cases hlt5 : j < n
        · by_cases hji : i0 = j
          · subst hji
            clear HCV HD21 HWAS HIB HBEL HTB HLAS
            go_wp2_with fail
            go_quiet (fail)
            go_wp2
            exact ⟨⟨i0 + 1, by omega, by go_num, HB.out.trans ((drewn_b wr nq).mono HB.out.size)⟩, by simp [intOf]; omega⟩
          · have hji2 : ¬ (j : Int) = (i0 : Int) := by omega
            have hdj : decide ((j : Int) = (i0 : Int)) = false := by simpa using hji2
            obtain ⟨gn, gw, st, hS5⟩ := unhide HCV j hlt5 (fun h => hji h.symm)
            have HSS := hide hS5
            clear hS5 HCV HD21 HWAS HIB HBEL HTB HLAS
            go_wp2_with fail
            refine wp_region_held_drew (S := fun W => W.cell? ⟨gnow, j, none⟩ = some (.slice (some ⟨gn, 0, none⟩) 512 512) ∧ W.cell? ⟨gwas, j, none⟩ = some (.slice (some ⟨gw, 0, none⟩) 512 512) ∧ (convert 23 9 (.slice (some ⟨gn, 0, none⟩) 512 512)).run Try.prog W = .ok (.string st) W ∧ (convert 23 9 (.slice (some ⟨gw, 0, none⟩) 512 512)).run Try.prog W = .ok (.string st) W) (by kernel_rfl) (unhide HSS _ (unhide HB).drew) (fun hHeld => ?_)
            refine wpAnyH_take (i := 0) (v := .int .i64 (j : Int)) rfl (by kernel_rfl) (by kernel_rfl) (by kernel_rfl) (fun _ _ _ h => h) (Or.inl ⟨by rfl, fun w hSw => by obtain ⟨hS1, hS2, hS3, hS4⟩ := hSw; go_simp⟩) (by assumption) ?_
            simp only [List.getElem_toArray, List.getElem_cons_zero, Act.put, List.setIfInBounds_toArray, List.set_cons_zero, List.set_cons_succ]
            refine wpAnyH_take (i := 1) (v := .int .i64 (i0 : Int)) rfl (by kernel_rfl) (by kernel_rfl) (by kernel_rfl) (fun _ _ _ h => h) (Or.inl ⟨by rfl, fun w hSw => by obtain ⟨hS1, hS2, hS3, hS4⟩ := hSw; go_simp⟩) (by assumption) ?_
            simp only [List.getElem_toArray, List.getElem_cons_succ, List.getElem_cons_zero, Act.put, List.setIfInBounds_toArray, List.set_cons_zero, List.set_cons_succ]
            refine wpAnyH_take (i := 2) (v := .bool true) rfl (by kernel_rfl) (by kernel_rfl) (by kernel_rfl) (fun _ _ _ h => h) (Or.inl ⟨by rfl, fun w hSw => by obtain ⟨hS1, hS2, hS3, hS4⟩ := hSw; go_simp⟩) (by assumption) ?_
            simp only [List.getElem_toArray, List.getElem_cons_succ, List.getElem_cons_zero, Act.put, List.setIfInBounds_toArray, List.set_cons_zero, List.set_cons_succ]
            refine wpAnyH_take (i := 3) (v := .bool true) rfl (by kernel_rfl) (by kernel_rfl) (by kernel_rfl) (fun _ _ _ h => h) (Or.inl ⟨by rfl, fun w hSw => by obtain ⟨hS1, hS2, hS3, hS4⟩ := hSw; go_simp⟩) (by assumption) ?_
            simp only [List.getElem_toArray, List.getElem_cons_succ, List.getElem_cons_zero, Act.put, List.setIfInBounds_toArray, List.set_cons_zero, List.set_cons_succ]
            refine wpAnyH_take (i := 4) (v := .slice (some ⟨gnow, 0, none⟩) n n) rfl (by kernel_rfl) (by kernel_rfl) (by kernel_rfl) (fun _ _ _ h => h) (Or.inl ⟨by rfl, fun w hSw => by obtain ⟨hS1, hS2, hS3, hS4⟩ := hSw; go_simp⟩) (by assumption) ?_
            simp only [List.getElem_toArray, List.getElem_cons_succ, List.getElem_cons_zero, Act.put, List.setIfInBounds_toArray, List.set_cons_zero, List.set_cons_succ]
            refine wpAnyH_take (i := 5) (v := .int .i64 (j : Int)) rfl (by kernel_rfl) (by kernel_rfl) (by kernel_rfl) (fun _ _ _ h => h) (Or.inl ⟨by rfl, fun w hSw => by obtain ⟨hS1, hS2, hS3, hS4⟩ := hSw; go_simp⟩) (by assumption) ?_
            simp only [List.getElem_toArray, List.getElem_cons_succ, List.getElem_cons_zero, Act.put, List.setIfInBounds_toArray, List.set_cons_zero, List.set_cons_succ]
            refine wpAnyH_take (i := 6) (v := .pointer (some ⟨gnow, j, none⟩)) rfl (by kernel_rfl) (by kernel_rfl) (by kernel_rfl) (fun _ _ _ h => h) (Or.inl ⟨by rfl, fun w hSw => by obtain ⟨hS1, hS2, hS3, hS4⟩ := hSw; go_simp⟩) (by assumption) ?_
            simp only [List.getElem_toArray, List.getElem_cons_succ, List.getElem_cons_zero, Act.put, List.setIfInBounds_toArray, List.set_cons_zero, List.set_cons_succ]
            refine wpAnyH_take (i := 7) (v := .slice (some ⟨gn, 0, none⟩) 512 512) rfl (by kernel_rfl) (by kernel_rfl) (by kernel_rfl) (fun _ _ _ h => h) (Or.inl ⟨by rfl, fun w hSw => by obtain ⟨hS1, hS2, hS3, hS4⟩ := hSw; go_simp⟩) (by assumption) ?_
            simp only [List.getElem_toArray, List.getElem_cons_succ, List.getElem_cons_zero, Act.put, List.setIfInBounds_toArray, List.set_cons_zero, List.set_cons_succ]
            refine wpAnyH_take (i := 8) (v := .string st) rfl (by kernel_rfl) (by kernel_rfl) (by kernel_rfl) (fun _ _ _ h => h) (Or.inl ⟨by rfl, fun w hSw => by obtain ⟨hS1, hS2, hS3, hS4⟩ := hSw; go_simp⟩) (by assumption) ?_
            simp only [List.getElem_toArray, List.getElem_cons_succ, List.getElem_cons_zero, Act.put, List.setIfInBounds_toArray, List.set_cons_zero, List.set_cons_succ]
            refine wpAnyH_take (i := 9) (v := .slice (some ⟨gwas, 0, none⟩) n n) rfl (by kernel_rfl) (by kernel_rfl) (by kernel_rfl) (fun _ _ _ h => h) (Or.inl ⟨by rfl, fun w hSw => by obtain ⟨hS1, hS2, hS3, hS4⟩ := hSw; go_simp⟩) (by assumption) ?_
            simp only [List.getElem_toArray, List.getElem_cons_succ, List.getElem_cons_zero, Act.put, List.setIfInBounds_toArray, List.set_cons_zero, List.set_cons_succ]
            refine wpAnyH_take (i := 10) (v := .int .i64 (j : Int)) rfl (by kernel_rfl) (by kernel_rfl) (by kernel_rfl) (fun _ _ _ h => h) (Or.inl ⟨by rfl, fun w hSw => by obtain ⟨hS1, hS2, hS3, hS4⟩ := hSw; go_simp⟩) (by assumption) ?_
            simp only [List.getElem_toArray, List.getElem_cons_succ, List.getElem_cons_zero, Act.put, List.setIfInBounds_toArray, List.set_cons_zero, List.set_cons_succ]
            refine wpAnyH_take (i := 11) (v := .pointer (some ⟨gwas, j, none⟩)) rfl (by kernel_rfl) (by kernel_rfl) (by kernel_rfl) (fun _ _ _ h => h) (Or.inl ⟨by rfl, fun w hSw => by obtain ⟨hS1, hS2, hS3, hS4⟩ := hSw; go_simp⟩) (by assumption) ?_
            simp only [List.getElem_toArray, List.getElem_cons_succ, List.getElem_cons_zero, Act.put, List.setIfInBounds_toArray, List.set_cons_zero, List.set_cons_succ]
            refine wpAnyH_take (i := 12) (v := .slice (some ⟨gw, 0, none⟩) 512 512) rfl (by kernel_rfl) (by kernel_rfl) (by kernel_rfl) (fun _ _ _ h => h) (Or.inl ⟨by rfl, fun w hSw => by obtain ⟨hS1, hS2, hS3, hS4⟩ := hSw; go_simp⟩) (by assumption) ?_
            simp only [List.getElem_toArray, List.getElem_cons_succ, List.getElem_cons_zero, Act.put, List.setIfInBounds_toArray, List.set_cons_zero, List.set_cons_succ]
            refine wpAnyH_take (i := 13) (v := .string st) rfl (by kernel_rfl) (by kernel_rfl) (by kernel_rfl) (fun _ _ _ h => h) (Or.inl ⟨by rfl, fun w hSw => by obtain ⟨hS1, hS2, hS3, hS4⟩ := hSw; go_simp⟩) (by assumption) ?_
            simp only [List.getElem_toArray, List.getElem_cons_succ, List.getElem_cons_zero, Act.put, List.setIfInBounds_toArray, List.set_cons_zero, List.set_cons_succ]
            refine wpAnyH_take (i := 14) (v := .bool false) rfl (by kernel_rfl) (by kernel_rfl) (by kernel_rfl) (fun _ _ _ h => h) (Or.inl ⟨by rfl, fun w hSw => by obtain ⟨hS1, hS2, hS3, hS4⟩ := hSw; go_simp⟩) (by assumption) ?_
            simp only [List.getElem_toArray, List.getElem_cons_succ, List.getElem_cons_zero, Act.put, List.setIfInBounds_toArray, List.set_cons_zero, List.set_cons_succ]
            refine wpAnyH_take (i := 15) (v := .bool false) rfl (by kernel_rfl) (by kernel_rfl) (by kernel_rfl) (fun _ _ _ h => h) (Or.inl ⟨by rfl, fun w hSw => by obtain ⟨hS1, hS2, hS3, hS4⟩ := hSw; go_simp⟩) (by assumption) ?_
            simp only [List.getElem_toArray, List.getElem_cons_succ, List.getElem_cons_zero, Act.put, List.setIfInBounds_toArray, List.set_cons_zero, List.set_cons_succ]
            refine wpAnyH_done (by kernel_rfl) ?_ _
            clear hHeld
            go_wp2
            exact ⟨⟨j + 1, by omega, by go_num, HB.out.drew⟩, by simp [intOf]; omega⟩
        · have HTU2 := hide (dka_turn (k := 0) (i := i0) (bit := b0) (HD21.out.below HB.out) (by decide) hp0 (by show i0 < (DF.turn i0 b0).la.length; simp [AD.turn]; omega) hzn (by decide))
          clear HCV HD21 HB
          go_wp2_with fail
          refine (unhide HTU2).mono ?_
          rintro e w22 ⟨rfl, hD22, _⟩
          obtain ⟨DB, hDB⟩ : ∃ DB, DB = (((DF.reads 1).turn i0 b0).reads 1).turn i0 b0 := ⟨_, rfl⟩
          have hlaB : DB.la = DF.la := by rw [hDB]; exact HTB.out.1
          have hnB : DB.now i0 = DF.now i0 := by rw [hDB]; exact HTB.out.2
          have hD22' : Dka (Plus (Plus (Plus (fun b => b < w.heap.size) w11 w12) w12 w13) w17 w18) w18 w22 904 1 P G1 (fun _ => DB) := hD22.congr (fun _ _ => rfl) (fun _ _ => rfl) (fun j hj => by rw [show j = 0 by omega, hDB]; rfl)
          have HRD := hide (dka_read (k := 0) (i := i0) hD22' (by decide) hp0 (by show i0 < DB.la.length; rw [hlaB]; omega) (by decide))
          clear HTU2 hD22 hD22' hDB HTB
          go_wp2_with fail
          refine (unhide HRD).mono ?_
          rintro e w23 ⟨g23, rfl, _, hI23, _, hD23, _⟩
          have hI23' : IsB w23 (.slice (some ⟨g23, 0, none⟩) 512 512) (DF.now i0) := by rw [← hnB]; exact hI23
          have hIb := unhide HIB w23 hD23.kp
          have hcv1 := conv_isB hI23'
          have hcv2 := conv_isB hIb
          generalize mkS (DF.now i0) = st at hcv1 hcv2
          have HIM := hide (dka_image (k := 0) hD23 (by decide) hp0)
          clear HRD hI23 hI23' hIb hD23 HIB
          go_wp2_with fail
          refine (unhide HIM).mono ?_
          rintro e w24 ⟨v24, rfl, hI24, hD24, hb24⟩
          have hI24' : Img w24 w23.heap.size v24 DF.la := by rw [← hlaB]; exact hI24
          have hW24 := unhide HWAS w24 hD24.kp
          have HSA := hide (sameImg_calls (hI24'.isBB (by omega)) (hW24.isBB (by omega)) (by omega))
          have HBE : Hid (∀ W, Below w24.heap.size w24 W → Below w.heap.size w W) := fun W hW => unhide HBEL W (hD24.kp.then_below hW)
          obtain ⟨g24, hv24⟩ : ∃ g, v24 = .slice (some ⟨g, 0, none⟩) n n := by
            obtain ⟨gI, us, hv, _⟩ := hI24'.val
            rw [hlF] at hv
            exact ⟨_, hv⟩
          subst hv24
          clear HIM hI24 hI24' hD24 hb24 hW24 HBEL HWAS hcv1 hcv2
          go_wp2_with fail
          refine (unhide HSA).mono ?_
          rintro e w25 ⟨rfl, hb25⟩
          have hbe := unhide HBE w25 hb25
          clear HSA HBE hb25
          go_wp2
          go_ret
          exact ⟨rfl, hbe⟩
end Go.Proofs.Ytfgjhlnaaopdeab

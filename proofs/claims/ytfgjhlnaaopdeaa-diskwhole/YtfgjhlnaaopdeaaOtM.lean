/- DiskWhole, walked whole. -/
import Derived.Test.YtfgjhlnaaopdeaaOtK
namespace Go.Proofs.Ytfgjhlnaaopdeaa
open Go.RowKit Go.Maps

theorem ws_at {w : World} {g n c k i : Nat} {l : Ats} {s : List Int} (h : IsWs w (.slice (some ⟨g, 0, none⟩) n c) l) (hk : k < l.length) (hl : l.getD k dA = ((i : Int), s)) :
    ∃ ua un uc, Hid (∀ W, Km w W → W.cell? ⟨g, k * 2, none⟩ = some (.int .i64 (i : Int)) ∧ W.cell? ⟨g, k * 2 + 1, none⟩ = some (.slice ua un uc)) ∧ Own8 w 0 (.slice ua un uc) s := by
  obtain ⟨u, hc1, hc2, hu⟩ := h.elem (j := k) hk
  rw [hl] at hc1 hu
  obtain ⟨ua, un, uc, rfl⟩ := hu.isB.shape
  refine ⟨ua, un, uc, fun W hK => ?_, hu⟩
  have e := h.blk_km hK
  exact ⟨(World.cell?_of_block (a := ⟨g, k * 2, none⟩) e).trans hc1, (World.cell?_of_block (a := ⟨g, k * 2 + 1, none⟩) e).trans hc2⟩
theorem dka_write_drew {A : Nat → Prop} {w wr : World} {B i p q : Nat} {G : Nat → Nat} {D E : AD} {u : Value} {s : List Int} (h : Dka A w wr B 2 (two p q) G (two D E)) (hi : i < D.la.length) (hB : B ≤ 1000000000) (hu : Own8 wr 0 u s) (hs : IsSec s) :
    Hid (∀ W, W = wr.drew → Calls Try.prog 17 #[.pointer (some ⟨p, 0, none⟩), .int .i64 (i : Int), u] W fun e w' => e = .returned (.int .i64 0) ∧ Dka A w w' (B + 1) 2 (two p q) G (two (D.write i s) E) ∧ Km wr w') := fun W hWe => by
  have hbd : Below wr.heap.size wr W := by rw [hWe]; exact (Below.refl _ _).drew
  refine (dka_write (k := 0) (h.below hbd) (by decide) (two0 p q) (i := i) hi hB (hu.below hbd) hs).mono ?_
  rintro e w' ⟨h1, h2, h3⟩
  exact ⟨h1, by rw [updF_two0, two0] at h2; exact h2, by rw [hWe] at h3; exact km_drew h3⟩
theorem dka_write_drew1 {A : Nat → Prop} {w wr : World} {B i p q : Nat} {G : Nat → Nat} {D E : AD} {u : Value} {s : List Int} (h : Dka A w wr B 2 (two p q) G (two D E)) (hi : i < E.la.length) (hB : B ≤ 1000000000) (hu : Own8 wr 0 u s) (hs : IsSec s) :
    Hid (∀ W, W = wr.drew → Calls Try.prog 17 #[.pointer (some ⟨q, 0, none⟩), .int .i64 (i : Int), u] W fun e w' => e = .returned (.int .i64 0) ∧ Dka A w w' (B + 1) 2 (two p q) G (two D (E.write i s)) ∧ Km wr w') := fun W hWe => by
  have hbd : Below wr.heap.size wr W := by rw [hWe]; exact (Below.refl _ _).drew
  refine (dka_write (k := 1) (h.below hbd) (by decide) (two1 p q) (i := i) hi hB (hu.below hbd) hs).mono ?_
  rintro e w' ⟨h1, h2, h3⟩
  exact ⟨h1, h2.congr (fun _ _ => rfl) (fun _ _ => rfl) (updF_two1 D E _), by rw [hWe] at h3; exact km_drew h3⟩
theorem infoInt : (Try.prog.info? 3).map (fun i => (i.zero, i.size, i.bytes)) = some (some (.int .i64 0), 1, 8) := by kernel_rfl
section
variable {ops : Array Oper} {rest : List Oper} {o : Oper} {a : Act} {Q : Exit → Act → World → Prop} {w : World}
set_option maxRecDepth 100000 in
theorem wpList_appI1 (hgd : o.guard = none) (x y : Operand) (ho : o.op = .call { callee := .builtin .append, args := #[x, y], argTypes := #[28, 28] }) {B g k : Nat} {v : Value} {z : Int} (hx : a.eval x = v) (hown : w.ownsRow B 3 1 v k (List.replicate k (.int .i64 z))) (hy : a.eval y = .slice (some ⟨g, 0, none⟩) 1 1)
    (hc : w.cell? ⟨g, 0, none⟩ = some (.int .i64 z)) (hl : k ≤ 1000000) (hB : B ≤ w.heap.size)
    (hk : ∀ v' w', w'.ownsRow B 3 1 v' (k + 1) (List.replicate (k + 1) (.int .i64 z)) → w.grownBy w' v.ownBlock → (v.ownBlock = none ∨ ∃ b, v.ownBlock = some b ∧ B ≤ b) → wpList Try.prog ops Q rest (a.put o.dst v') w') : wpList Try.prog ops Q (o :: rest) a w := by
  obtain ⟨i0, hi, hz0, hz1, hz2⟩ := info_parts infoInt
  have hob : v.ownBlock = none ∨ ∃ b, v.ownBlock = some b ∧ B ≤ b := by
    cases hv : v.ownBlock with
    | none => exact Or.inl rfl
    | some b => exact Or.inr ⟨b, rfl, (hown.lt b hv).1⟩
  refine wpList_plain hgd fun K hK => wp_append_own w x y 28 ho B 3 i0 _ 1 8 Try.underlying28 hi hz0 hz1 hz2 rfl (by decide) v k _ hx hown ⟨g, 0, none⟩ 1 1 [.int .i64 z] hy rfl (fun j u hu => ?_) (fun u hu => ?_) (by unfold maxLen; omega) (by omega) hB ?_
  · cases j with
    | zero =>
      injection hu with hu
      subst hu
      exact hc
    | succ j => simp at hu
  · rw [List.mem_singleton.1 hu]; rfl
  · intro v' w' r1 r2 _
    refine hK _ _ (hk v' w' ?_ r2 hob)
    rw [List.replicate_succ']
    exact r1
end
/-- Behind k of the first writes. -/
def Wa (w wr : World) (k n p q : Nat) (v1 v2 : Value) (L1 L2 : Ats) : Prop := ∃ G D E, Dka (fun b => b < w.heap.size) w wr (2 * k) 2 (two p q) G (two D E) ∧ IsWs wr v1 L1 ∧ IsWs wr v2 L2 ∧ D.la.length = n ∧ E.la.length = n ∧ Nw E (L1.take k)
/-- Behind k of the later ones. -/
def Wb (A : Nat → Prop) (w wr : World) (B n p q : Nat) (v1 v2 : Value) (L1 L2 L : Ats) (LA : List (List Int)) : Prop := ∃ G D E, Dka A w wr B 2 (two p q) G (two D E) ∧ IsWs wr v1 L1 ∧ IsWs wr v2 L2 ∧ D.la = LA ∧ Wl D L ∧ E.la.length = n ∧ Nw E (L1 ++ L)
/-- Behind k of the readings. -/
def Wc (A : Nat → Prop) (w wr : World) (B p q : Nat) (G : Nat → Nat) (D E : AD) (v : Value) (L : Ats) : Prop := Dka A w wr B 2 (two p q) G (two D E) ∧ IsWs wr v L
theorem img_cell {w : World} {B g n : Nat} {xss : List (List Int)} (h : Img w B (.slice (some ⟨g, 0, none⟩) n n) xss) (hl : xss.length = n) {j : Nat} (hj : j < n) :
    ∃ gj, w.cell? ⟨g, j, none⟩ = some (.slice (some ⟨gj, 0, none⟩) 512 512) ∧ IsB w (.slice (some ⟨gj, 0, none⟩) 512 512) (xss.getD j zsec) := by
  obtain ⟨gI, us, hv, _, hA, _, hjs⟩ := h.val
  injection hv with e1
  injection e1 with e1
  injection e1 with e1
  subst e1
  obtain ⟨gj, _, hus, hg⟩ := hjs j (by omega)
  refine ⟨gj, by rw [hA.cell]; exact hus, isB_arrS hg ?_⟩
  rw [List.getD_eq_getElem?_getD, List.getElem?_eq_getElem (by omega)]
  exact h.sec _ (List.getElem_mem _)
theorem among_enter (v u z q : Value) (W : World) : (callFunc 24 #[v, u, z, q]).run Try.prog W = .ok (.enter 24 #[v, u, z, q]) W := by kernel_rfl
set_option maxRecDepth 100000 in
set_option maxHeartbeats 4000000 in
theorem whole_walk {w : World} {va vl vf : Value} {l1 l2 : Ats} {xs : List Int} (x : Int) (h1 : IsWr w va l1) (h2 : IsWr w vl l2) (hF : IsI w vf xs) :
    Calls Try.prog 7 #[.int .i64 x, va, vl, vf] w fun e w' => e = .returned (.bool true) ∧ Below w.heap.size w w' := by
  have hx63 := modN_lt x (m := 63) (by decide)
  have hok1 := madeL_ok (n := 2 + modN x 63) (by omega) h1.bytes
  have hok2 := madeL_ok (n := 2 + modN x 63) (by omega) h2.bytes
  have hml1 := madeL_len (2 + modN x 63) l1
  have hml2 := madeL_len (2 + modN x 63) l2
  have HMADE := hide (dka_made (A := fun b => b < w.heap.size) (x := x) (Dka.nil (w := w) (fun _ h => h) 0 (fun _ => 0) (fun _ => 0) (fun _ => zeroD 2)) h1)
  have HMADE2 : Hid (∀ W p gl, Below w.heap.size w W → Dka (fun b => b < w.heap.size) w W 0 1 (updF (fun _ => 0) 0 p) (updF (fun _ => 0) 0 gl) (updF (fun _ => zeroD 2) 0 (zeroD (2 + modN x 63))) → Calls Try.prog 16 #[.int .i64 x, vl] W fun e w' => ∃ q v', e = .returned (.tuple #[.pointer (some ⟨q, 0, none⟩), .int .i64 ((2 + modN x 63 : Nat) : Int), v']) ∧
      (∃ gl', Dka (fun b => b < w.heap.size) w w' 0 2 (updF (updF (fun _ => 0) 0 p) 1 q) (updF (updF (fun _ => 0) 0 gl) 1 gl') (updF (updF (fun _ => zeroD 2) 0 (zeroD (2 + modN x 63))) 1 (zeroD (2 + modN x 63)))) ∧ IsWs w' v' (madeL (2 + modN x 63) l2) ∧ Below W.heap.size W w') := fun W p gl hW hD => dka_made (x := x) hD (h2.below hW)
  obtain ⟨n, hn⟩ : ∃ n, 2 + modN x 63 = n := ⟨_, rfl⟩
  have hnlo : 2 ≤ n := by omega
  have hnhi : n ≤ 64 := by omega
  rw [hn] at HMADE HMADE2 hok1 hok2 hml1 hml2
  generalize madeL n l1 = L1 at *
  generalize madeL n l2 = L2 at *
  clear hn hx63
  obtain ⟨aa, an, ac, rfl⟩ : ∃ a n c, va = .slice a n c := by obtain ⟨a, c, rfl, _⟩ := h1.val; exact ⟨_, _, _, rfl⟩
  obtain ⟨la, ln, lc, rfl⟩ : ∃ a n c, vl = .slice a n c := by obtain ⟨a, c, rfl, _⟩ := h2.val; exact ⟨_, _, _, rfl⟩
  obtain ⟨fa, fc, hvf⟩ : ∃ a c, vf = .slice a xs.length c := by obtain ⟨_, a, c, hv, _⟩ := hF; exact ⟨a, c, hv⟩
  subst hvf
  clear h1 h2
  have HFI := hide hF
  clear hF
  have mkOK : ∀ L : Ats, AtsOk n L → Hid (∀ j, j < L.length → ∃ (i : Nat) (s : List Int), L.getD j dA = ((i : Int), s) ∧ i < n ∧ IsSec s) := fun L hok j hj => by
    have := hok _ (List.getElem_mem hj)
    rw [getD_eq hj]
    exact ⟨L[j].1.toNat, L[j].2, by rw [Int.toNat_of_nonneg this.1], by omega, this.2.2⟩
  have HOK1 := mkOK L1 hok1
  have HOK2 := mkOK L2 hok2
  have HTK1 := hide (fun k (hk : k < L1.length) => take_snoc hk)
  have HTK2 := hide (fun k (hk : k < L2.length) => take_snoc hk)
  have HT1 : Hid (L1.take L1.length = L1) := List.take_length
  have HT2 : Hid (L2.take L2.length = L2) := List.take_length
  have HT12 : Hid ((L1 ++ L2).take (L1.length + L2.length) = L1 ++ L2) := by rw [← List.length_append, List.take_length]; exact rfl
  clear hok1 hok2 mkOK
  generalize hm1 : L1.length = m1 at *
  generalize hm2 : L2.length = m2 at *
  have HM1 := hide hm1
  have HM2 := hide hm2
  clear hm1 hm2
  generalize xs.length = fn at *
  go_enter Try.func7, Try.ntmps7
  go_wp2_with fail
  refine (unhide HMADE).mono ?_
  rintro e w1 ⟨p, v1, rfl, ⟨gl, hD⟩, hws1, hb1⟩
  obtain ⟨a1, c1, rfl, hsh1⟩ := hws1.shape
  rw [HM1.out] at hsh1 hws1 ⊢
  have HMD2 := hide (unhide HMADE2 w1 p gl hb1 hD)
  have HWS1 := hide hws1
  clear HMADE HMADE2 hD hws1
  go_wp2_with fail
  refine (unhide HMD2).mono ?_
  rintro e w2 ⟨q, v2, rfl, ⟨gl2, hD⟩, hws2, hb2⟩
  obtain ⟨a2, c2, rfl, hsh2⟩ := hws2.shape
  rw [HM2.out] at hsh2 hws2 ⊢
  have HT : Hid (Wa w w2 0 n p q (.slice a1 m1 c1) (.slice a2 m2 c2) L1 L2) := by
    have hl : (zeroD n).la.length = n := by simp [zeroD]
    refine ⟨updF (updF (fun _ => 0) 0 gl) 1 gl2, zeroD n, zeroD n, hD.congr (fun j hj => ?_) (fun _ _ => rfl) (fun j hj => ?_), HWS1.out.below hb2, hws2, hl, hl, Nw.zero n⟩
    · rcases (show j = 0 ∨ j = 1 by omega) with rfl | rfl <;> rfl
    · rcases (show j = 0 ∨ j = 1 by omega) with rfl | rfl <;> rfl
  clear HMD2 HWS1 hD hws2 hb1 hb2
  go_wp2
  go_loopw [13] (fun iv wr => ∃ k : Nat, k ≤ m1 ∧ iv = .int .i64 (k : Int) ∧ Hid (Wa w wr k n p q (.slice a1 m1 c1) (.slice a2 m2 c2) L1 L2)) (fun iv _ => m1 - (intOf iv).toNat)
  case atStart => exact ⟨0, by omega, rfl, HT⟩
  case round =>
    clear HT
    obtain ⟨k, hk, rfl, HT⟩ := hrel
    by_cases hlt : k < m1
    · obtain ⟨g, rfl, hle, hcm⟩ := hsh1 (by omega)
      obtain ⟨G, D, E, hD, hws, hws2, hlD, hlE, hnw⟩ := HT.out
      obtain ⟨i, s, hLk, hin, hsec⟩ := unhide HOK1 k hlt
      obtain ⟨ua, un, uc, HKM, hu⟩ := ws_at hws (by rw [HM1.out]; exact hlt) hLk
      have HW := dka_write_drew hD (by rw [hlD]; exact hin) (by omega) hu hsec
      clear HT
      go_wp2_with fail
      refine wp_region_held_drew (S := fun W => W.cell? ⟨g, k * 2, none⟩ = some (.int .i64 (i : Int)) ∧ W.cell? ⟨g, k * 2 + 1, none⟩ = some (.slice ua un uc)) (by kernel_rfl) (unhide HKM _ (Km.of_below (Below.refl _ _).drew)) (fun hHeld => ?_)
      refine wpAnyH_take (i := 0) (v := .pointer (some ⟨p, 0, none⟩)) rfl (by kernel_rfl) (by kernel_rfl) (by kernel_rfl) (fun _ _ _ h => h) (Or.inl ⟨by rfl, fun w hSw => by obtain ⟨hS1, hS2⟩ := hSw; go_simp⟩) (by assumption) ?_
      simp only [List.getElem_toArray, List.getElem_cons_zero, Act.put, List.setIfInBounds_toArray, List.set_cons_zero, List.set_cons_succ]
      refine wpAnyH_take (i := 1) (v := .slice (some ⟨g, 0, none⟩) m1 c1) rfl (by kernel_rfl) (by kernel_rfl) (by kernel_rfl) (fun _ _ _ h => h) (Or.inl ⟨by rfl, fun w hSw => by obtain ⟨hS1, hS2⟩ := hSw; go_simp⟩) (by assumption) ?_
      simp only [List.getElem_toArray, List.getElem_cons_succ, List.getElem_cons_zero, Act.put, List.setIfInBounds_toArray, List.set_cons_zero, List.set_cons_succ]
      refine wpAnyH_take (i := 2) (v := .int .i64 (k : Int)) rfl (by kernel_rfl) (by kernel_rfl) (by kernel_rfl) (fun _ _ _ h => h) (Or.inl ⟨by rfl, fun w hSw => by obtain ⟨hS1, hS2⟩ := hSw; go_simp⟩) (by assumption) ?_
      simp only [List.getElem_toArray, List.getElem_cons_succ, List.getElem_cons_zero, Act.put, List.setIfInBounds_toArray, List.set_cons_zero, List.set_cons_succ]
      refine wpAnyH_take (i := 3) (v := .pointer (some ⟨g, k * 2, none⟩)) rfl (by kernel_rfl) (by kernel_rfl) (by kernel_rfl) (fun _ _ _ h => h) (Or.inl ⟨by rfl, fun w hSw => by obtain ⟨hS1, hS2⟩ := hSw; go_simp⟩) (by assumption) ?_
      simp only [List.getElem_toArray, List.getElem_cons_succ, List.getElem_cons_zero, Act.put, List.setIfInBounds_toArray, List.set_cons_zero, List.set_cons_succ]
      refine wpAnyH_take (i := 4) (v := .pointer (some ⟨g, k * 2, none⟩)) rfl (by kernel_rfl) (by kernel_rfl) (by kernel_rfl) (fun _ _ _ h => h) (Or.inl ⟨by rfl, fun w hSw => by obtain ⟨hS1, hS2⟩ := hSw; go_simp⟩) (by assumption) ?_
      simp only [List.getElem_toArray, List.getElem_cons_succ, List.getElem_cons_zero, Act.put, List.setIfInBounds_toArray, List.set_cons_zero, List.set_cons_succ]
      refine wpAnyH_take (i := 5) (v := .int .i64 (i : Int)) rfl (by kernel_rfl) (by kernel_rfl) (by kernel_rfl) (fun _ _ _ h => h) (Or.inl ⟨by rfl, fun w hSw => by obtain ⟨hS1, hS2⟩ := hSw; go_simp⟩) (by assumption) ?_
      simp only [List.getElem_toArray, List.getElem_cons_succ, List.getElem_cons_zero, Act.put, List.setIfInBounds_toArray, List.set_cons_zero, List.set_cons_succ]
      refine wpAnyH_take (i := 6) (v := .slice (some ⟨g, 0, none⟩) m1 c1) rfl (by kernel_rfl) (by kernel_rfl) (by kernel_rfl) (fun _ _ _ h => h) (Or.inl ⟨by rfl, fun w hSw => by obtain ⟨hS1, hS2⟩ := hSw; go_simp⟩) (by assumption) ?_
      simp only [List.getElem_toArray, List.getElem_cons_succ, List.getElem_cons_zero, Act.put, List.setIfInBounds_toArray, List.set_cons_zero, List.set_cons_succ]
      refine wpAnyH_take (i := 7) (v := .int .i64 (k : Int)) rfl (by kernel_rfl) (by kernel_rfl) (by kernel_rfl) (fun _ _ _ h => h) (Or.inl ⟨by rfl, fun w hSw => by obtain ⟨hS1, hS2⟩ := hSw; go_simp⟩) (by assumption) ?_
      simp only [List.getElem_toArray, List.getElem_cons_succ, List.getElem_cons_zero, Act.put, List.setIfInBounds_toArray, List.set_cons_zero, List.set_cons_succ]
      refine wpAnyH_take (i := 8) (v := .pointer (some ⟨g, k * 2, none⟩)) rfl (by kernel_rfl) (by kernel_rfl) (by kernel_rfl) (fun _ _ _ h => h) (Or.inl ⟨by rfl, fun w hSw => by obtain ⟨hS1, hS2⟩ := hSw; go_simp⟩) (by assumption) ?_
      simp only [List.getElem_toArray, List.getElem_cons_succ, List.getElem_cons_zero, Act.put, List.setIfInBounds_toArray, List.set_cons_zero, List.set_cons_succ]
      refine wpAnyH_take (i := 9) (v := .pointer (some ⟨g, k * 2 + 1, none⟩)) rfl (by kernel_rfl) (by kernel_rfl) (by kernel_rfl) (fun _ _ _ h => h) (Or.inl ⟨by rfl, fun w hSw => by obtain ⟨hS1, hS2⟩ := hSw; go_simp⟩) (by assumption) ?_
      simp only [List.getElem_toArray, List.getElem_cons_succ, List.getElem_cons_zero, Act.put, List.setIfInBounds_toArray, List.set_cons_zero, List.set_cons_succ]
      refine wpAnyH_take (i := 10) (v := .slice ua un uc) rfl (by kernel_rfl) (by kernel_rfl) (by kernel_rfl) (fun _ _ _ h => h) (Or.inl ⟨by rfl, fun w hSw => by obtain ⟨hS1, hS2⟩ := hSw; go_simp⟩) (by assumption) ?_
      simp only [List.getElem_toArray, List.getElem_cons_succ, List.getElem_cons_zero, Act.put, List.setIfInBounds_toArray, List.set_cons_zero, List.set_cons_succ]
      refine wpAnyH_ready (rs := [11]) (by kernel_rfl) (by simp) (AllReadyH.cons rfl (fun K hK => ?_) AllReadyH.nil)
      refine step_call3Gd (by rfl) 17 write_enter (.tmp 48) (.tmp 53) (.tmp 58) _ rfl rfl rfl rfl (unhide HW _ rfl) ?_
      rintro e w3 ⟨rfl, hD2, hK2⟩
      refine ⟨_, rfl, ?_⟩
      refine hK.out _ _ (unhide HKM _ hK2) (fun hHeld2 => ?_)
      clear hK K
      simp only [List.getElem_toArray, List.getElem_cons_succ, List.getElem_cons_zero, Act.put, List.setIfInBounds_toArray, List.set_cons_zero, List.set_cons_succ]
      refine wpAnyH_done (by kernel_rfl) ?_ _
      clear hHeld hHeld2
      obtain ⟨ub, vn, vc, HKM2, hu2⟩ := ws_at (hws.km hK2) (by rw [HM1.out]; exact hlt) hLk
      have HW2 := dka_write_drew1 hD2 (by rw [hlE]; exact hin) (by omega) hu2 hsec
      go_wp2_with fail
      refine wp_region_held_drew (S := fun W => W.cell? ⟨g, k * 2, none⟩ = some (.int .i64 (i : Int)) ∧ W.cell? ⟨g, k * 2 + 1, none⟩ = some (.slice ub vn vc)) (by kernel_rfl) (unhide HKM2 _ (Km.of_below (Below.refl _ _).drew)) (fun hHeld => ?_)
      refine wpAnyH_take (i := 0) (v := .pointer (some ⟨q, 0, none⟩)) rfl (by kernel_rfl) (by kernel_rfl) (by kernel_rfl) (fun _ _ _ h => h) (Or.inl ⟨by rfl, fun w hSw => by obtain ⟨hS1, hS2⟩ := hSw; go_simp⟩) (by assumption) ?_
      simp only [List.getElem_toArray, List.getElem_cons_zero, Act.put, List.setIfInBounds_toArray, List.set_cons_zero, List.set_cons_succ]
      refine wpAnyH_take (i := 1) (v := .slice (some ⟨g, 0, none⟩) m1 c1) rfl (by kernel_rfl) (by kernel_rfl) (by kernel_rfl) (fun _ _ _ h => h) (Or.inl ⟨by rfl, fun w hSw => by obtain ⟨hS1, hS2⟩ := hSw; go_simp⟩) (by assumption) ?_
      simp only [List.getElem_toArray, List.getElem_cons_succ, List.getElem_cons_zero, Act.put, List.setIfInBounds_toArray, List.set_cons_zero, List.set_cons_succ]
      refine wpAnyH_take (i := 2) (v := .int .i64 (k : Int)) rfl (by kernel_rfl) (by kernel_rfl) (by kernel_rfl) (fun _ _ _ h => h) (Or.inl ⟨by rfl, fun w hSw => by obtain ⟨hS1, hS2⟩ := hSw; go_simp⟩) (by assumption) ?_
      simp only [List.getElem_toArray, List.getElem_cons_succ, List.getElem_cons_zero, Act.put, List.setIfInBounds_toArray, List.set_cons_zero, List.set_cons_succ]
      refine wpAnyH_take (i := 3) (v := .pointer (some ⟨g, k * 2, none⟩)) rfl (by kernel_rfl) (by kernel_rfl) (by kernel_rfl) (fun _ _ _ h => h) (Or.inl ⟨by rfl, fun w hSw => by obtain ⟨hS1, hS2⟩ := hSw; go_simp⟩) (by assumption) ?_
      simp only [List.getElem_toArray, List.getElem_cons_succ, List.getElem_cons_zero, Act.put, List.setIfInBounds_toArray, List.set_cons_zero, List.set_cons_succ]
      refine wpAnyH_take (i := 4) (v := .pointer (some ⟨g, k * 2, none⟩)) rfl (by kernel_rfl) (by kernel_rfl) (by kernel_rfl) (fun _ _ _ h => h) (Or.inl ⟨by rfl, fun w hSw => by obtain ⟨hS1, hS2⟩ := hSw; go_simp⟩) (by assumption) ?_
      simp only [List.getElem_toArray, List.getElem_cons_succ, List.getElem_cons_zero, Act.put, List.setIfInBounds_toArray, List.set_cons_zero, List.set_cons_succ]
      refine wpAnyH_take (i := 5) (v := .int .i64 (i : Int)) rfl (by kernel_rfl) (by kernel_rfl) (by kernel_rfl) (fun _ _ _ h => h) (Or.inl ⟨by rfl, fun w hSw => by obtain ⟨hS1, hS2⟩ := hSw; go_simp⟩) (by assumption) ?_
      simp only [List.getElem_toArray, List.getElem_cons_succ, List.getElem_cons_zero, Act.put, List.setIfInBounds_toArray, List.set_cons_zero, List.set_cons_succ]
      refine wpAnyH_take (i := 6) (v := .slice (some ⟨g, 0, none⟩) m1 c1) rfl (by kernel_rfl) (by kernel_rfl) (by kernel_rfl) (fun _ _ _ h => h) (Or.inl ⟨by rfl, fun w hSw => by obtain ⟨hS1, hS2⟩ := hSw; go_simp⟩) (by assumption) ?_
      simp only [List.getElem_toArray, List.getElem_cons_succ, List.getElem_cons_zero, Act.put, List.setIfInBounds_toArray, List.set_cons_zero, List.set_cons_succ]
      refine wpAnyH_take (i := 7) (v := .int .i64 (k : Int)) rfl (by kernel_rfl) (by kernel_rfl) (by kernel_rfl) (fun _ _ _ h => h) (Or.inl ⟨by rfl, fun w hSw => by obtain ⟨hS1, hS2⟩ := hSw; go_simp⟩) (by assumption) ?_
      simp only [List.getElem_toArray, List.getElem_cons_succ, List.getElem_cons_zero, Act.put, List.setIfInBounds_toArray, List.set_cons_zero, List.set_cons_succ]
      refine wpAnyH_take (i := 8) (v := .pointer (some ⟨g, k * 2, none⟩)) rfl (by kernel_rfl) (by kernel_rfl) (by kernel_rfl) (fun _ _ _ h => h) (Or.inl ⟨by rfl, fun w hSw => by obtain ⟨hS1, hS2⟩ := hSw; go_simp⟩) (by assumption) ?_
      simp only [List.getElem_toArray, List.getElem_cons_succ, List.getElem_cons_zero, Act.put, List.setIfInBounds_toArray, List.set_cons_zero, List.set_cons_succ]
      refine wpAnyH_take (i := 9) (v := .pointer (some ⟨g, k * 2 + 1, none⟩)) rfl (by kernel_rfl) (by kernel_rfl) (by kernel_rfl) (fun _ _ _ h => h) (Or.inl ⟨by rfl, fun w hSw => by obtain ⟨hS1, hS2⟩ := hSw; go_simp⟩) (by assumption) ?_
      simp only [List.getElem_toArray, List.getElem_cons_succ, List.getElem_cons_zero, Act.put, List.setIfInBounds_toArray, List.set_cons_zero, List.set_cons_succ]
      refine wpAnyH_take (i := 10) (v := .slice ub vn vc) rfl (by kernel_rfl) (by kernel_rfl) (by kernel_rfl) (fun _ _ _ h => h) (Or.inl ⟨by rfl, fun w hSw => by obtain ⟨hS1, hS2⟩ := hSw; go_simp⟩) (by assumption) ?_
      simp only [List.getElem_toArray, List.getElem_cons_succ, List.getElem_cons_zero, Act.put, List.setIfInBounds_toArray, List.set_cons_zero, List.set_cons_succ]
      refine wpAnyH_ready (rs := [11]) (by kernel_rfl) (by simp) (AllReadyH.cons rfl (fun K hK => ?_) AllReadyH.nil)
      refine step_call3Gd (by rfl) 17 write_enter (.tmp 60) (.tmp 65) (.tmp 70) _ rfl rfl rfl rfl (unhide HW2 _ rfl) ?_
      rintro e w4 ⟨rfl, hD4, hK4⟩
      refine ⟨_, rfl, ?_⟩
      refine hK.out _ _ (unhide HKM2 _ hK4) (fun hHeld2 => ?_)
      clear hK K
      simp only [List.getElem_toArray, List.getElem_cons_succ, List.getElem_cons_zero, Act.put, List.setIfInBounds_toArray, List.set_cons_zero, List.set_cons_succ]
      refine wpAnyH_done (by kernel_rfl) ?_ _
      clear hHeld hHeld2
      have HT : Hid (Wa w w4 (k + 1) n p q (.slice (some ⟨g, 0, none⟩) m1 c1) (.slice a2 m2 c2) L1 L2) :=
        ⟨G, D.write i s, E.write i s, hD4.mono (by omega), (hws.km hK2).km hK4, (hws2.km hK2).km hK4, hlD, hlE, by rw [unhide HTK1 k hlt, hLk]; exact hnw.write i s⟩
      clear hD hws hws2 hlD hlE hnw hu hu2 hD2 hK2 hD4 hK4 HW HW2 HKM HKM2
      go_wp2
      go_roundw
      case rel => exact ⟨k + 1, by omega, by go_num, HT⟩
      case measure => simp [intOf]; omega
    · have hkm : k = m1 := by omega
      subst hkm
      obtain ⟨G, D, E, hD, hws, hws2, hlD, hlE, hnw⟩ := HT.out
      rw [HT1.out] at hnw
      have HFL := hide (dka_flush (k := 0) hD (by decide) (two0 p q) (by omega))
      clear HT
      go_wp2_with fail
      refine (unhide HFL).mono ?_
      rintro e w5 ⟨rfl, hD5, hK5⟩
      rw [updF_two0, two0] at hD5
      have HFL2 := hide (dka_flush (k := 1) hD5 (by decide) (two1 p q) (by omega))
      clear HFL
      go_wp2_with fail
      refine (unhide HFL2).mono ?_
      rintro e w6 ⟨rfl, hD6, hK6⟩
      have hD6' : Dka (fun b => b < w.heap.size) w w6 (2 * k + 1 + 1) 2 (two p q) G (two D.flush E.flush) := hD6.congr (fun _ _ => rfl) (fun _ _ => rfl) (updF_two1 D.flush E _)
      have HIM := hide (dka_image (k := 0) hD6' (by decide) (two0 p q))
      have hfewE : ∀ j, (E.wr j).length < 9223372036854775807 := fun j => by have := (hD.few 1 (by decide)).wr j; rw [two1] at this; omega
      have hlD6 : D.flush.la.length = n := by rw [flush_len]; exact hlD
      have HSV : Hid (IsWs w6 (.slice a1 k c1) L1 ∧ IsWs w6 (.slice a2 m2 c2) L2 ∧ Nw E.flush L1 ∧ E.flush.la.length = n) := ⟨(hws.km hK5).km hK6, (hws2.km hK5).km hK6, hnw.flush hfewE, by rw [flush_len]; exact hlE⟩
      clear HFL2 hD hD5 hD6 hK5 hK6 hws hws2 hnw hfewE
      go_wp2_with fail
      refine (unhide HIM).mono ?_
      rintro e w7 ⟨v7, rfl, hI7, hD7, hb7⟩
      have hP := hD6'.plus hb7
      obtain ⟨gwas, hv7⟩ : ∃ g, v7 = .slice (some ⟨g, 0, none⟩) n n := by
        obtain ⟨gI, us, hv, _⟩ := hI7.val
        rw [two0, hlD6] at hv
        exact ⟨_, hv⟩
      subst hv7
      rw [two0] at hI7
      have HI7 := hide hI7
      have HUP : Hid (Up (fun b => ¬ b < w.heap.size) w w6) := hD6'.kp
      have HB7 := hide hb7
      have hwlD : ∀ i, D.flush.wr i = [] := fun _ => rfl
      have HT : Hid (Wb (Plus (fun b => b < w.heap.size) w6 w7) w7 w7 (2 * k + 2 + 2 * 0) n p q (.slice a1 k c1) (.slice a2 m2 c2) L1 L2 (L2.take 0) D.flush.la) :=
        ⟨G, D.flush, E.flush, hP, HSV.out.1.below hb7, HSV.out.2.1.below hb7, rfl, Wl.empty hwlD, HSV.out.2.2.2, by rw [List.take_zero, List.append_nil]; exact HSV.out.2.2.1⟩
      clear HIM HSV hP hD7 hD6' hI7 hb7 hlD
      generalize hLA : D.flush.la = LA at *
      clear hLA hlE hwlD
      go_wp2
      go_loopw [15] (fun iv wr => ∃ k2 : Nat, k2 ≤ m2 ∧ iv = .int .i64 (k2 : Int) ∧ Hid (Wb (Plus (fun b => b < w.heap.size) w6 w7) w7 wr (2 * k + 2 + 2 * k2) n p q (.slice a1 k c1) (.slice a2 m2 c2) L1 L2 (L2.take k2) LA)) (fun iv _ => m2 - (intOf iv).toNat)
      case atStart => exact ⟨0, by omega, rfl, HT⟩
      case round =>
        clear HT
        obtain ⟨k2, hk2, rfl, HT⟩ := hrel
        by_cases hlt2 : k2 < m2
        · obtain ⟨g, rfl, hle, hcm⟩ := hsh2 (by omega)
          obtain ⟨G3, D3, E3, hD, hws1, hws, hlD, hwl, hlE, hnw⟩ := HT.out
          obtain ⟨i, s, hLk, hin, hsec⟩ := unhide HOK2 k2 hlt2
          obtain ⟨ua, un, uc, HKM, hu⟩ := ws_at hws (by rw [HM2.out]; exact hlt2) hLk
          have HW := dka_write_drew hD (by rw [hlD, hlD6]; exact hin) (by omega) hu hsec
          clear HT
          go_wp2_with fail
          refine wp_region_held_drew (S := fun W => W.cell? ⟨g, k2 * 2, none⟩ = some (.int .i64 (i : Int)) ∧ W.cell? ⟨g, k2 * 2 + 1, none⟩ = some (.slice ua un uc)) (by kernel_rfl) (unhide HKM _ (Km.of_below (Below.refl _ _).drew)) (fun hHeld => ?_)
          refine wpAnyH_take (i := 0) (v := .pointer (some ⟨p, 0, none⟩)) rfl (by kernel_rfl) (by kernel_rfl) (by kernel_rfl) (fun _ _ _ h => h) (Or.inl ⟨by rfl, fun w hSw => by obtain ⟨hS1, hS2⟩ := hSw; go_simp⟩) (by assumption) ?_
          simp only [List.getElem_toArray, List.getElem_cons_zero, Act.put, List.setIfInBounds_toArray, List.set_cons_zero, List.set_cons_succ]
          refine wpAnyH_take (i := 1) (v := .slice (some ⟨g, 0, none⟩) m2 c2) rfl (by kernel_rfl) (by kernel_rfl) (by kernel_rfl) (fun _ _ _ h => h) (Or.inl ⟨by rfl, fun w hSw => by obtain ⟨hS1, hS2⟩ := hSw; go_simp⟩) (by assumption) ?_
          simp only [List.getElem_toArray, List.getElem_cons_succ, List.getElem_cons_zero, Act.put, List.setIfInBounds_toArray, List.set_cons_zero, List.set_cons_succ]
          refine wpAnyH_take (i := 2) (v := .int .i64 (k2 : Int)) rfl (by kernel_rfl) (by kernel_rfl) (by kernel_rfl) (fun _ _ _ h => h) (Or.inl ⟨by rfl, fun w hSw => by obtain ⟨hS1, hS2⟩ := hSw; go_simp⟩) (by assumption) ?_
          simp only [List.getElem_toArray, List.getElem_cons_succ, List.getElem_cons_zero, Act.put, List.setIfInBounds_toArray, List.set_cons_zero, List.set_cons_succ]
          refine wpAnyH_take (i := 3) (v := .pointer (some ⟨g, k2 * 2, none⟩)) rfl (by kernel_rfl) (by kernel_rfl) (by kernel_rfl) (fun _ _ _ h => h) (Or.inl ⟨by rfl, fun w hSw => by obtain ⟨hS1, hS2⟩ := hSw; go_simp⟩) (by assumption) ?_
          simp only [List.getElem_toArray, List.getElem_cons_succ, List.getElem_cons_zero, Act.put, List.setIfInBounds_toArray, List.set_cons_zero, List.set_cons_succ]
          refine wpAnyH_take (i := 4) (v := .pointer (some ⟨g, k2 * 2, none⟩)) rfl (by kernel_rfl) (by kernel_rfl) (by kernel_rfl) (fun _ _ _ h => h) (Or.inl ⟨by rfl, fun w hSw => by obtain ⟨hS1, hS2⟩ := hSw; go_simp⟩) (by assumption) ?_
          simp only [List.getElem_toArray, List.getElem_cons_succ, List.getElem_cons_zero, Act.put, List.setIfInBounds_toArray, List.set_cons_zero, List.set_cons_succ]
          refine wpAnyH_take (i := 5) (v := .int .i64 (i : Int)) rfl (by kernel_rfl) (by kernel_rfl) (by kernel_rfl) (fun _ _ _ h => h) (Or.inl ⟨by rfl, fun w hSw => by obtain ⟨hS1, hS2⟩ := hSw; go_simp⟩) (by assumption) ?_
          simp only [List.getElem_toArray, List.getElem_cons_succ, List.getElem_cons_zero, Act.put, List.setIfInBounds_toArray, List.set_cons_zero, List.set_cons_succ]
          refine wpAnyH_take (i := 6) (v := .slice (some ⟨g, 0, none⟩) m2 c2) rfl (by kernel_rfl) (by kernel_rfl) (by kernel_rfl) (fun _ _ _ h => h) (Or.inl ⟨by rfl, fun w hSw => by obtain ⟨hS1, hS2⟩ := hSw; go_simp⟩) (by assumption) ?_
          simp only [List.getElem_toArray, List.getElem_cons_succ, List.getElem_cons_zero, Act.put, List.setIfInBounds_toArray, List.set_cons_zero, List.set_cons_succ]
          refine wpAnyH_take (i := 7) (v := .int .i64 (k2 : Int)) rfl (by kernel_rfl) (by kernel_rfl) (by kernel_rfl) (fun _ _ _ h => h) (Or.inl ⟨by rfl, fun w hSw => by obtain ⟨hS1, hS2⟩ := hSw; go_simp⟩) (by assumption) ?_
          simp only [List.getElem_toArray, List.getElem_cons_succ, List.getElem_cons_zero, Act.put, List.setIfInBounds_toArray, List.set_cons_zero, List.set_cons_succ]
          refine wpAnyH_take (i := 8) (v := .pointer (some ⟨g, k2 * 2, none⟩)) rfl (by kernel_rfl) (by kernel_rfl) (by kernel_rfl) (fun _ _ _ h => h) (Or.inl ⟨by rfl, fun w hSw => by obtain ⟨hS1, hS2⟩ := hSw; go_simp⟩) (by assumption) ?_
          simp only [List.getElem_toArray, List.getElem_cons_succ, List.getElem_cons_zero, Act.put, List.setIfInBounds_toArray, List.set_cons_zero, List.set_cons_succ]
          refine wpAnyH_take (i := 9) (v := .pointer (some ⟨g, k2 * 2 + 1, none⟩)) rfl (by kernel_rfl) (by kernel_rfl) (by kernel_rfl) (fun _ _ _ h => h) (Or.inl ⟨by rfl, fun w hSw => by obtain ⟨hS1, hS2⟩ := hSw; go_simp⟩) (by assumption) ?_
          simp only [List.getElem_toArray, List.getElem_cons_succ, List.getElem_cons_zero, Act.put, List.setIfInBounds_toArray, List.set_cons_zero, List.set_cons_succ]
          refine wpAnyH_take (i := 10) (v := .slice ua un uc) rfl (by kernel_rfl) (by kernel_rfl) (by kernel_rfl) (fun _ _ _ h => h) (Or.inl ⟨by rfl, fun w hSw => by obtain ⟨hS1, hS2⟩ := hSw; go_simp⟩) (by assumption) ?_
          simp only [List.getElem_toArray, List.getElem_cons_succ, List.getElem_cons_zero, Act.put, List.setIfInBounds_toArray, List.set_cons_zero, List.set_cons_succ]
          refine wpAnyH_ready (rs := [11]) (by kernel_rfl) (by simp) (AllReadyH.cons rfl (fun K hK => ?_) AllReadyH.nil)
          refine step_call3Gd (by rfl) 17 write_enter (.tmp 84) (.tmp 89) (.tmp 94) _ rfl rfl rfl rfl (unhide HW _ rfl) ?_
          rintro e w3 ⟨rfl, hD2, hK2⟩
          refine ⟨_, rfl, ?_⟩
          refine hK.out _ _ (unhide HKM _ hK2) (fun hHeld2 => ?_)
          clear hK K
          simp only [List.getElem_toArray, List.getElem_cons_succ, List.getElem_cons_zero, Act.put, List.setIfInBounds_toArray, List.set_cons_zero, List.set_cons_succ]
          refine wpAnyH_done (by kernel_rfl) ?_ _
          clear hHeld hHeld2
          obtain ⟨ub, vn, vc, HKM2, hu2⟩ := ws_at (hws.km hK2) (by rw [HM2.out]; exact hlt2) hLk
          have HW2 := dka_write_drew1 hD2 (by rw [hlE]; exact hin) (by omega) hu2 hsec
          go_wp2_with fail
          refine wp_region_held_drew (S := fun W => W.cell? ⟨g, k2 * 2, none⟩ = some (.int .i64 (i : Int)) ∧ W.cell? ⟨g, k2 * 2 + 1, none⟩ = some (.slice ub vn vc)) (by kernel_rfl) (unhide HKM2 _ (Km.of_below (Below.refl _ _).drew)) (fun hHeld => ?_)
          refine wpAnyH_take (i := 0) (v := .pointer (some ⟨q, 0, none⟩)) rfl (by kernel_rfl) (by kernel_rfl) (by kernel_rfl) (fun _ _ _ h => h) (Or.inl ⟨by rfl, fun w hSw => by obtain ⟨hS1, hS2⟩ := hSw; go_simp⟩) (by assumption) ?_
          simp only [List.getElem_toArray, List.getElem_cons_zero, Act.put, List.setIfInBounds_toArray, List.set_cons_zero, List.set_cons_succ]
          refine wpAnyH_take (i := 1) (v := .slice (some ⟨g, 0, none⟩) m2 c2) rfl (by kernel_rfl) (by kernel_rfl) (by kernel_rfl) (fun _ _ _ h => h) (Or.inl ⟨by rfl, fun w hSw => by obtain ⟨hS1, hS2⟩ := hSw; go_simp⟩) (by assumption) ?_
          simp only [List.getElem_toArray, List.getElem_cons_succ, List.getElem_cons_zero, Act.put, List.setIfInBounds_toArray, List.set_cons_zero, List.set_cons_succ]
          refine wpAnyH_take (i := 2) (v := .int .i64 (k2 : Int)) rfl (by kernel_rfl) (by kernel_rfl) (by kernel_rfl) (fun _ _ _ h => h) (Or.inl ⟨by rfl, fun w hSw => by obtain ⟨hS1, hS2⟩ := hSw; go_simp⟩) (by assumption) ?_
          simp only [List.getElem_toArray, List.getElem_cons_succ, List.getElem_cons_zero, Act.put, List.setIfInBounds_toArray, List.set_cons_zero, List.set_cons_succ]
          refine wpAnyH_take (i := 3) (v := .pointer (some ⟨g, k2 * 2, none⟩)) rfl (by kernel_rfl) (by kernel_rfl) (by kernel_rfl) (fun _ _ _ h => h) (Or.inl ⟨by rfl, fun w hSw => by obtain ⟨hS1, hS2⟩ := hSw; go_simp⟩) (by assumption) ?_
          simp only [List.getElem_toArray, List.getElem_cons_succ, List.getElem_cons_zero, Act.put, List.setIfInBounds_toArray, List.set_cons_zero, List.set_cons_succ]
          refine wpAnyH_take (i := 4) (v := .pointer (some ⟨g, k2 * 2, none⟩)) rfl (by kernel_rfl) (by kernel_rfl) (by kernel_rfl) (fun _ _ _ h => h) (Or.inl ⟨by rfl, fun w hSw => by obtain ⟨hS1, hS2⟩ := hSw; go_simp⟩) (by assumption) ?_
          simp only [List.getElem_toArray, List.getElem_cons_succ, List.getElem_cons_zero, Act.put, List.setIfInBounds_toArray, List.set_cons_zero, List.set_cons_succ]
          refine wpAnyH_take (i := 5) (v := .int .i64 (i : Int)) rfl (by kernel_rfl) (by kernel_rfl) (by kernel_rfl) (fun _ _ _ h => h) (Or.inl ⟨by rfl, fun w hSw => by obtain ⟨hS1, hS2⟩ := hSw; go_simp⟩) (by assumption) ?_
          simp only [List.getElem_toArray, List.getElem_cons_succ, List.getElem_cons_zero, Act.put, List.setIfInBounds_toArray, List.set_cons_zero, List.set_cons_succ]
          refine wpAnyH_take (i := 6) (v := .slice (some ⟨g, 0, none⟩) m2 c2) rfl (by kernel_rfl) (by kernel_rfl) (by kernel_rfl) (fun _ _ _ h => h) (Or.inl ⟨by rfl, fun w hSw => by obtain ⟨hS1, hS2⟩ := hSw; go_simp⟩) (by assumption) ?_
          simp only [List.getElem_toArray, List.getElem_cons_succ, List.getElem_cons_zero, Act.put, List.setIfInBounds_toArray, List.set_cons_zero, List.set_cons_succ]
          refine wpAnyH_take (i := 7) (v := .int .i64 (k2 : Int)) rfl (by kernel_rfl) (by kernel_rfl) (by kernel_rfl) (fun _ _ _ h => h) (Or.inl ⟨by rfl, fun w hSw => by obtain ⟨hS1, hS2⟩ := hSw; go_simp⟩) (by assumption) ?_
          simp only [List.getElem_toArray, List.getElem_cons_succ, List.getElem_cons_zero, Act.put, List.setIfInBounds_toArray, List.set_cons_zero, List.set_cons_succ]
          refine wpAnyH_take (i := 8) (v := .pointer (some ⟨g, k2 * 2, none⟩)) rfl (by kernel_rfl) (by kernel_rfl) (by kernel_rfl) (fun _ _ _ h => h) (Or.inl ⟨by rfl, fun w hSw => by obtain ⟨hS1, hS2⟩ := hSw; go_simp⟩) (by assumption) ?_
          simp only [List.getElem_toArray, List.getElem_cons_succ, List.getElem_cons_zero, Act.put, List.setIfInBounds_toArray, List.set_cons_zero, List.set_cons_succ]
          refine wpAnyH_take (i := 9) (v := .pointer (some ⟨g, k2 * 2 + 1, none⟩)) rfl (by kernel_rfl) (by kernel_rfl) (by kernel_rfl) (fun _ _ _ h => h) (Or.inl ⟨by rfl, fun w hSw => by obtain ⟨hS1, hS2⟩ := hSw; go_simp⟩) (by assumption) ?_
          simp only [List.getElem_toArray, List.getElem_cons_succ, List.getElem_cons_zero, Act.put, List.setIfInBounds_toArray, List.set_cons_zero, List.set_cons_succ]
          refine wpAnyH_take (i := 10) (v := .slice ub vn vc) rfl (by kernel_rfl) (by kernel_rfl) (by kernel_rfl) (fun _ _ _ h => h) (Or.inl ⟨by rfl, fun w hSw => by obtain ⟨hS1, hS2⟩ := hSw; go_simp⟩) (by assumption) ?_
          simp only [List.getElem_toArray, List.getElem_cons_succ, List.getElem_cons_zero, Act.put, List.setIfInBounds_toArray, List.set_cons_zero, List.set_cons_succ]
          refine wpAnyH_ready (rs := [11]) (by kernel_rfl) (by simp) (AllReadyH.cons rfl (fun K hK => ?_) AllReadyH.nil)
          refine step_call3Gd (by rfl) 17 write_enter (.tmp 96) (.tmp 101) (.tmp 106) _ rfl rfl rfl rfl (unhide HW2 _ rfl) ?_
          rintro e w4 ⟨rfl, hD4, hK4⟩
          refine ⟨_, rfl, ?_⟩
          refine hK.out _ _ (unhide HKM2 _ hK4) (fun hHeld2 => ?_)
          clear hK K
          simp only [List.getElem_toArray, List.getElem_cons_succ, List.getElem_cons_zero, Act.put, List.setIfInBounds_toArray, List.set_cons_zero, List.set_cons_succ]
          refine wpAnyH_done (by kernel_rfl) ?_ _
          clear hHeld hHeld2
          have HT : Hid (Wb (Plus (fun b => b < w.heap.size) w6 w7) w7 w4 (2 * k + 2 + 2 * (k2 + 1)) n p q (.slice a1 k c1) (.slice (some ⟨g, 0, none⟩) m2 c2) L1 L2 (L2.take (k2 + 1)) LA) := by
            refine ⟨G3, D3.write i s, E3.write i s, hD4.mono (by omega), (hws1.km hK2).km hK4, (hws.km hK2).km hK4, hlD, ?_, hlE, ?_⟩
            · rw [unhide HTK2 k2 hlt2, hLk]; exact hwl.write i s
            · rw [unhide HTK2 k2 hlt2, hLk, ← List.append_assoc]; exact hnw.write i s
          clear hD hws hws1 hlD hwl hlE hnw hu hu2 hD2 hK2 hD4 hK4 HW HW2 HKM HKM2
          go_wp2
          go_roundw
          case rel => exact ⟨k2 + 1, by omega, by go_num, HT⟩
          case measure => simp [intOf]; omega
        · have hkm2 : k2 = m2 := by omega
          subst hkm2
          obtain ⟨G3, D3, E3, hD, hws1, hws2, hlD, hwl, hlE, hnw⟩ := HT.out
          rw [HT2.out] at hwl hnw
          have hbw : Below w.heap.size w wr := up_below (up_plus HUP.out HB7.out hD.kp)
          have HCR := hide (dka_crash (k := 0) hD (by decide) (two0 p q) (by omega) (HFI.out.below hbw) (fun b hb e => by
            have hlt := isI_block HFI.out hb
            have hng := hD.gl_not (j := 0) (by decide)
            exact hng (Or.inl (by rw [← e]; exact hlt))))
          clear HT
          go_wp2_with fail
          refine (unhide HCR).mono ?_
          rintro e w8 ⟨rfl, hD8, hK8⟩
          rw [updF_two0, two0] at hD8
          have hws1' := hws1.km hK8
          have hws2' := hws2.km hK8
          have hfewE : ∀ j, (E3.wr j).length ≤ 1000 := fun j => by have := (hD.few 1 (by decide)).wr j; rw [two1] at this; omega
          have HAM : Hid (∀ i, i < n → (D3.settle fun k => xs.getD k 0).la.getD i zsec = LA.getD i zsec ∨ ((i : Int), (D3.settle fun k => xs.getD k 0).la.getD i zsec) ∈ L2) := fun i hi => by
            have := hwl.crash (fun k => xs.getD k 0) (i := i) (by rw [hlD, hlD6]; exact hi)
            rw [hlD] at this
            exact this
          have hlS : (D3.settle fun k => xs.getD k 0).la.length = n := by rw [settle_len, hlD, hlD6]
          have hwS : ∀ i, (D3.settle fun k => xs.getD k 0).wr i = [] := fun _ => rfl
          have HI7X := HI7
          clear HCR hD hK8 hws1 hws2 hwl HI7 hlD hbw
          generalize hDS : (D3.settle fun k => xs.getD k 0) = DS at *
          clear hDS
          obtain ⟨i0, hi0, hz0, hz1, hz2⟩ := info_parts infoInt
          have HD8 := hide hD8
          have HW18 := hide hws1'
          have HW28 := hide hws2'
          clear hD8 hws1' hws2'
          go_wp2
          go_loopw [16, 17] (fun gv iv wr => ∃ k3 : Nat, k3 ≤ n ∧ iv = .int .i64 (k3 : Int) ∧ wr.ownsRow w8.heap.size 3 1 gv k3 (List.replicate k3 (.int .i64 1000)) ∧ Below w8.heap.size w8 wr) (fun _ iv _ => n - (intOf iv).toNat)
          case atStart => exact ⟨0, by omega, rfl, World.ownsRow_nil _ _ _ _, Below.refl _ _⟩
          case round =>
            obtain ⟨k3, hk3, rfl, hrow, hb8⟩ := hrel
            have hsz8 := hb8.size
            obtain ⟨ga, gc, rfl⟩ := owns_form hrow
            by_cases hlt3 : k3 < n
            · have hbn := (Below.refl wr.heap.size wr).alloc (Nat.le_refl _) (.cells #[.int .i64 1000] 3)
              have HROW := hide (owns_below hrow hbn)
              have hcn : (wr.alloc (.cells #[.int .i64 1000] 3)).cell? ⟨wr.heap.size, 0, none⟩ = some (.int .i64 1000) := by simp
              have hszn : w8.heap.size ≤ (wr.alloc (.cells #[.int .i64 1000] 3)).heap.size := by simp; omega
              have HB8 := hide hb8
              clear hrow hb8
              go_wp2_with (first
                | (at_builtin; refine wpList_appI1 rfl (.tmp 116) (.tmp 117) rfl rfl (unhide HROW) rfl hcn (by omega) hszn ?_; intro v9 w9 hr9 hg9 hv9))
              go_roundw
              case rel => exact ⟨k3 + 1, by omega, by go_num, hr9, below_app (HB8.out.trans (hbn.mono hsz8)) hg9 hszn hv9⟩
              case measure => simp [intOf]; omega
            · have hkm3 : k3 = n := by omega
              have HKM3 := hide hkm3
              have hII : IsI wr (.slice ga k3 gc) (List.replicate n 1000) := by
                have hl9 : (List.replicate n (1000 : Int)).length = k3 := by rw [List.length_replicate, hkm3]
                refine ⟨fun c hc => by rw [List.eq_of_mem_replicate hc]; omega, ga, gc, by rw [hl9], ?_⟩
                rw [hl9]
                rcases hrow.2 with ⟨hv, h0⟩ | ⟨g, cap, cur, hv, hbase, hblk, hle, hm, hsz, ht⟩
                · omega
                · injection hv with e1 e2 e3
                  subst e1 e3
                  refine ⟨hle, by simpa [maxLen] using hm, fun _ => ⟨g, 0, rfl, fun j hj => ?_⟩⟩
                  have := hrow.cells (g := g) rfl j (.int .i64 1000) (by rw [List.getElem?_replicate, if_pos hj])
                  rw [Addr.add_lit] at this
                  rw [this, List.getD_eq_getElem?_getD, List.getElem?_replicate, if_pos (by omega)]
                  rfl
              have hinb : ∀ b, Value.inBlock (.slice ga k3 gc) b → w8.heap.size ≤ b := fun b hb => by
                obtain ⟨off, nn, cc, hv, hp⟩ := hb
                rcases hrow.2 with ⟨hv2, h0⟩ | ⟨g, cap, cur, hv2, hbase, _⟩
                · omega
                · rw [hv] at hv2
                  injection hv2 with e1
                  injection e1 with e1
                  injection e1 with e1
                  omega
              have hgl8 : G3 1 < w8.heap.size := by
                obtain ⟨gm, V, q1, q2, q3⟩ := HD8.out.all
                exact (q1 1 (by decide)).lt (Or.inr (Or.inl rfl))
              have HCR := hide (dka_crash (k := 1) (HD8.out.below hb8) (by decide) (two1 p q) (by omega) hII (fun b hb e => by have := hinb b hb; omega))
              have HB8 := hide hb8
              clear hrow hb8 hII hkm3
              go_wp2_with fail
              refine (unhide HCR).mono ?_
              rintro e w10 ⟨rfl, hD10, hK10⟩
              have hD10' : Dka (Plus (fun b => b < w.heap.size) w6 w7) w7 w10 (2 * k + 2 + 2 * k2) 2 (two p q) G3 (two DS (E3.settle fun k => (List.replicate n (1000 : Int)).getD k 0)) := hD10.congr (fun _ _ => rfl) (fun _ _ => rfl) (updF_two1 DS E3 _)
              have HNW10 : Hid (Nw (E3.settle fun k => (List.replicate n (1000 : Int)).getD k 0) (L1 ++ L2)) := hnw.great (by rw [hlE]; exact Nat.le_refl _) hfewE
              have hlE10 : (E3.settle fun k => (List.replicate n (1000 : Int)).getD k 0).la.length = n := by rw [settle_len]; exact hlE
              have HW10 : Hid (IsWs w10 (.slice a1 k c1) L1 ∧ IsWs w10 (.slice a2 k2 c2) L2) := ⟨(HW18.out.below HB8.out).km hK10, (HW28.out.below HB8.out).km hK10⟩
              have HIM := hide (dka_image (k := 0) hD10' (by decide) (two0 p q))
              clear HCR hD10 hK10 HD8 HW18 HW28 HB8 hnw hfewE hlE
              generalize (E3.settle fun k => (List.replicate n (1000 : Int)).getD k 0) = ES at *
              go_wp2_with fail
              refine (unhide HIM).mono ?_
              rintro e w11 ⟨v11, rfl, hI11, hD11, hb11⟩
              rw [two0] at hI11
              obtain ⟨gim, hv11⟩ : ∃ g, v11 = .slice (some ⟨g, 0, none⟩) n n := by
                obtain ⟨gI, us, hv, _⟩ := hI11.val
                rw [hlS] at hv
                exact ⟨_, hv⟩
              subst hv11
              have HDP := hide (hD10'.plus hb11)
              have HI11 := hide hI11
              have HKP10 : Hid (Up (fun b => ¬ Plus (fun b => b < w.heap.size) w6 w7 b) w7 w10) := hD10'.kp
              have HW11 : Hid (IsWs w11 (.slice a1 k c1) L1 ∧ IsWs w11 (.slice a2 k2 c2) L2) := ⟨HW10.out.1.below hb11, HW10.out.2.below hb11⟩
              have HB11 := hide hb11
              clear HIM hD11 hD10' hI11 hb11 HW10
              have hbl := (Below.refl w11.heap.size w11).alloc (Nat.le_refl _) (.cells #[] 56)
              have HLIT := hide (OwnWs.lit (w := w11) (B := w11.heap.size) (Nat.le_refl _))
              have HA1 := hide (HW11.out.1.below hbl)
              have HA2 : Hid (∀ W, Below w11.heap.size w11 W → IsWs W (.slice a2 k2 c2) L2) := fun W hW => HW11.out.2.below hW
              have hszl : w11.heap.size ≤ (w11.alloc (.cells #[] 56)).heap.size := by simp
              have HTE : Hid (∀ W v, Below w11.heap.size w11 W → IsWs W v (L1 ++ L2) → Calls Try.prog 19 #[.pointer (some ⟨q, 0, none⟩), .int .i64 (n : Int), v, .int .i64 ((k : Int) + (k2 : Int))] W fun e w' => e = .returned (.bool true) ∧ Dka (Plus (Plus (fun b => b < w.heap.size) w6 w7) w10 w11) w11 w' (2 * k + 2 + 2 * k2 + n) 2 (two p q) G3 (two DS (ES.reads n)) ∧ IsWs w' (.slice a2 k2 c2) L2) := fun W v hW hv => by
                have := dka_tells (k := 1) (m := n) (f := k + k2) (HDP.out.below hW) (by decide) (two1 p q) (by omega) hv (by rw [List.length_append, HM1.out, HM2.out]; exact Nat.le_refl _) hlE10 (by rw [HT12.out]; exact HNW10.out)
                rw [show ((k + k2 : Nat) : Int) = (k : Int) + (k2 : Int) by omega] at this
                refine this.mono ?_
                rintro e w' ⟨h1, h2, h3⟩
                exact ⟨h1, h2.congr (fun _ _ => rfl) (fun _ _ => rfl) (updF_two1 DS ES _), (unhide HA2 W hW).km h3⟩
              have hadd : IntKind.i64.wrap ((k : Int) + (k2 : Int)) = (k : Int) + (k2 : Int) := IntWalk.i64_in _ (by omega)
              have HL1 : Hid (L1.length ≤ 100 ∧ L2.length ≤ 100) := ⟨by rw [HM1.out]; exact hml1, by rw [HM2.out]; exact hml2⟩
              clear HDP HW11
              go_wp2_with (first
                | (at_builtin; refine wpList_appWs (by rfl) (.tmp 137) (.tmp 138) rfl rfl (unhide HLIT) rfl (unhide HA1) (by have := HL1.out; simp; omega) hszl ?_; intro v12 w12 hO12 hg12 hv12; have HO12 := hide hO12; have hb12 := hide (below_app hbl hg12 hszl hv12); have hsz12 := hg12.size; clear hO12 hg12 hv12)
                | (at_builtin; refine wpList_appWs (by rfl) (.tmp 139) (.tmp 140) rfl rfl (unhide HO12) rfl (unhide HA2 _ hb12.out) (by have := HL1.out; simp; omega) (Nat.le_trans hszl hsz12) ?_; intro v13 w13 hO13 hg13 hv13; have HO13 := hide hO13; have hb13 := hide (below_app hb12.out hg13 (Nat.le_trans hszl hsz12) hv13); clear hO13 hg13 hv13))
              refine (unhide HTE w13 v13 hb13.out (by have := HO13.out.isWs; rw [List.nil_append] at this; exact this)).mono ?_
              rintro e w14 ⟨rfl, hD14, hws14⟩
              have HT : Hid (Wc (Plus (Plus (fun b => b < w.heap.size) w6 w7) w10 w11) w11 w14 (2 * k + 2 + 2 * k2 + n + 0) p q G3 (DS.reads 0) (ES.reads n) (.slice a2 k2 c2) L2) := ⟨by rw [reads_zero]; exact hD14, hws14⟩
              clear HTE HLIT HA1 HA2 hD14 hws14 HO12 HO13 hb12 hb13
              go_wp2
              go_loopw [19] (fun iv wr => ∃ k4 : Nat, k4 ≤ n ∧ iv = .int .i64 (k4 : Int) ∧ Hid (Wc (Plus (Plus (fun b => b < w.heap.size) w6 w7) w10 w11) w11 wr (2 * k + 2 + 2 * k2 + n + k4) p q G3 (DS.reads k4) (ES.reads n) (.slice a2 k2 c2) L2)) (fun iv _ => n - (intOf iv).toNat)
              case atStart => exact ⟨0, by omega, rfl, HT⟩
              case round =>
                clear HT
                obtain ⟨k4, hk4, rfl, HT⟩ := hrel
                by_cases hlt4 : k4 < n
                · obtain ⟨hD, hws⟩ := HT.out
                  have HRD := hide (dka_read (k := 0) (i := k4) hD (by decide) (two0 p q) (by show k4 < DS.la.length; rw [hlS]; exact hlt4) (by omega))
                  clear HT
                  go_wp2_with fail
                  refine (unhide HRD).mono ?_
                  rintro e w15 ⟨g15, rfl, _, hI15, _, hD15, hK15⟩
                  have hwsv := hws.km hK15
                  have hnow : ((two (DS.reads k4) (ES.reads n)) 0).now k4 = DS.la.getD k4 zsec := now_empty hwS k4
                  rw [hnow] at hI15
                  have hD15' : Dka (Plus (Plus (fun b => b < w.heap.size) w6 w7) w10 w11) w11 w15 (2 * k + 2 + 2 * k2 + n + (k4 + 1)) 2 (two p q) G3 (two (DS.reads (k4 + 1)) (ES.reads n)) := by
                    rw [updF_two0, two0] at hD15
                    have e9 : (DS.reads k4).reads 1 = DS.reads (k4 + 1) := by unfold AD.reads; simp only [AD.mk.injEq, true_and, and_true]; omega
                    rw [e9] at hD15
                    exact hD15
                  obtain ⟨gi, hci, hIi⟩ := img_cell (img_kept HI11.out hD15'.kp) hlS hlt4
                  obtain ⟨gw, hcw, hIw⟩ := img_cell (img_kept HI7X.out (up_plus HKP10.out HB11.out hD15'.kp)) hlD6 hlt4
                  have HAMC : Hid (∀ W, Below w15.heap.size w15 W → Calls Try.prog 24 #[.slice (some ⟨gi, 0, none⟩) 512 512, .slice (some ⟨gw, 0, none⟩) 512 512, .slice a2 k2 c2, .int .i64 (k4 : Int)] W fun e w' => e = .returned (.bool true) ∧ Below w15.heap.size w15 w') := fun W hW =>
                    (among_calls (hIi.below hW) (hIw.below hW) (hwsv.below hW) (unhide HAM k4 hlt4)).mono fun e w' ⟨h1, h2⟩ => ⟨h1, hW.trans (h2.mono hW.size)⟩
                  have HSS : Hid (∀ W, Below w15.heap.size w15 W → (convert 27 9 (.slice (some ⟨g15, 0, none⟩) 512 512)).run Try.prog W = .ok (.string (mkS (DS.la.getD k4 zsec))) W ∧ W.cell? ⟨gim, k4, none⟩ = some (.slice (some ⟨gi, 0, none⟩) 512 512) ∧ (convert 27 9 (.slice (some ⟨gi, 0, none⟩) 512 512)).run Try.prog W = .ok (.string (mkS (DS.la.getD k4 zsec))) W ∧ W.cell? ⟨gwas, k4, none⟩ = some (.slice (some ⟨gw, 0, none⟩) 512 512)) := fun W hW =>
                    ⟨conv_isB (hI15.below hW), (hW.cell (p := ⟨gim, k4, none⟩) (World.block_lt_of_cell? _ _ hci)).trans hci, conv_isB (hIi.below hW), (hW.cell (p := ⟨gwas, k4, none⟩) (World.block_lt_of_cell? _ _ hcw)).trans hcw⟩
                  have HT : Hid (∀ W, Below w15.heap.size w15 W → Wc (Plus (Plus (fun b => b < w.heap.size) w6 w7) w10 w11) w11 W (2 * k + 2 + 2 * k2 + n + (k4 + 1)) p q G3 (DS.reads (k4 + 1)) (ES.reads n) (.slice a2 k2 c2) L2) := fun W hW => ⟨hD15'.below hW, hwsv.below hW⟩
                  clear HRD hD hws hD15 hD15' hK15 hwsv hI15 hci hIi hcw hIw hnow
                  generalize mkS (DS.la.getD k4 zsec) = st at *
                  go_wp2_with fail
                  refine wp_region_held_drew (S := fun W => (convert 27 9 (.slice (some ⟨g15, 0, none⟩) 512 512)).run Try.prog W = .ok (.string st) W ∧ W.cell? ⟨gim, k4, none⟩ = some (.slice (some ⟨gi, 0, none⟩) 512 512) ∧ (convert 27 9 (.slice (some ⟨gi, 0, none⟩) 512 512)).run Try.prog W = .ok (.string st) W ∧ W.cell? ⟨gwas, k4, none⟩ = some (.slice (some ⟨gw, 0, none⟩) 512 512)) (by kernel_rfl) (unhide HSS _ (Below.refl _ _).drew) (fun hHeld => ?_)
                  refine wpAnyH_take (i := 0) (v := .int .i64 0) rfl (by kernel_rfl) (by kernel_rfl) (by kernel_rfl) (fun _ _ _ h => h) (Or.inl ⟨by rfl, fun w hSw => by obtain ⟨hS1, hS2, hS3, hS4⟩ := hSw; go_simp⟩) (by assumption) ?_
                  simp only [List.getElem_toArray, List.getElem_cons_zero, Act.put, List.setIfInBounds_toArray, List.set_cons_zero, List.set_cons_succ]
                  refine wpAnyH_take (i := 1) (v := .bool false) rfl (by kernel_rfl) (by kernel_rfl) (by kernel_rfl) (fun _ _ _ h => h) (Or.inl ⟨by rfl, fun w hSw => by obtain ⟨hS1, hS2, hS3, hS4⟩ := hSw; go_simp⟩) (by assumption) ?_
                  simp only [List.getElem_toArray, List.getElem_cons_succ, List.getElem_cons_zero, Act.put, List.setIfInBounds_toArray, List.set_cons_zero, List.set_cons_succ]
                  refine wpAnyH_take (i := 2) (v := .bool false) rfl (by kernel_rfl) (by kernel_rfl) (by kernel_rfl) (fun _ _ _ h => h) (Or.inl ⟨by rfl, fun w hSw => by obtain ⟨hS1, hS2, hS3, hS4⟩ := hSw; go_simp⟩) (by assumption) ?_
                  simp only [List.getElem_toArray, List.getElem_cons_succ, List.getElem_cons_zero, Act.put, List.setIfInBounds_toArray, List.set_cons_zero, List.set_cons_succ]
                  refine wpAnyH_take (i := 3) (v := .slice (some ⟨g15, 0, none⟩) 512 512) rfl (by kernel_rfl) (by kernel_rfl) (by kernel_rfl) (fun _ _ _ h => h) (Or.inl ⟨by rfl, fun w hSw => by obtain ⟨hS1, hS2, hS3, hS4⟩ := hSw; go_simp⟩) (by assumption) ?_
                  simp only [List.getElem_toArray, List.getElem_cons_succ, List.getElem_cons_zero, Act.put, List.setIfInBounds_toArray, List.set_cons_zero, List.set_cons_succ]
                  refine wpAnyH_take (i := 4) (v := .string st) rfl (by kernel_rfl) (by kernel_rfl) (by kernel_rfl) (fun _ _ _ h => h) (Or.inl ⟨by rfl, fun w hSw => by obtain ⟨hS1, hS2, hS3, hS4⟩ := hSw; go_simp⟩) (by assumption) ?_
                  simp only [List.getElem_toArray, List.getElem_cons_succ, List.getElem_cons_zero, Act.put, List.setIfInBounds_toArray, List.set_cons_zero, List.set_cons_succ]
                  refine wpAnyH_take (i := 5) (v := .slice (some ⟨gim, 0, none⟩) n n) rfl (by kernel_rfl) (by kernel_rfl) (by kernel_rfl) (fun _ _ _ h => h) (Or.inl ⟨by rfl, fun w hSw => by obtain ⟨hS1, hS2, hS3, hS4⟩ := hSw; go_simp⟩) (by assumption) ?_
                  simp only [List.getElem_toArray, List.getElem_cons_succ, List.getElem_cons_zero, Act.put, List.setIfInBounds_toArray, List.set_cons_zero, List.set_cons_succ]
                  refine wpAnyH_take (i := 6) (v := .int .i64 (k4 : Int)) rfl (by kernel_rfl) (by kernel_rfl) (by kernel_rfl) (fun _ _ _ h => h) (Or.inl ⟨by rfl, fun w hSw => by obtain ⟨hS1, hS2, hS3, hS4⟩ := hSw; go_simp⟩) (by assumption) ?_
                  simp only [List.getElem_toArray, List.getElem_cons_succ, List.getElem_cons_zero, Act.put, List.setIfInBounds_toArray, List.set_cons_zero, List.set_cons_succ]
                  refine wpAnyH_take (i := 7) (v := .pointer (some ⟨gim, k4, none⟩)) rfl (by kernel_rfl) (by kernel_rfl) (by kernel_rfl) (fun _ _ _ h => h) (Or.inl ⟨by rfl, fun w hSw => by obtain ⟨hS1, hS2, hS3, hS4⟩ := hSw; go_simp⟩) (by assumption) ?_
                  simp only [List.getElem_toArray, List.getElem_cons_succ, List.getElem_cons_zero, Act.put, List.setIfInBounds_toArray, List.set_cons_zero, List.set_cons_succ]
                  refine wpAnyH_take (i := 8) (v := .slice (some ⟨gi, 0, none⟩) 512 512) rfl (by kernel_rfl) (by kernel_rfl) (by kernel_rfl) (fun _ _ _ h => h) (Or.inl ⟨by rfl, fun w hSw => by obtain ⟨hS1, hS2, hS3, hS4⟩ := hSw; go_simp⟩) (by assumption) ?_
                  simp only [List.getElem_toArray, List.getElem_cons_succ, List.getElem_cons_zero, Act.put, List.setIfInBounds_toArray, List.set_cons_zero, List.set_cons_succ]
                  refine wpAnyH_take (i := 9) (v := .string st) rfl (by kernel_rfl) (by kernel_rfl) (by kernel_rfl) (fun _ _ _ h => h) (Or.inl ⟨by rfl, fun w hSw => by obtain ⟨hS1, hS2, hS3, hS4⟩ := hSw; go_simp⟩) (by assumption) ?_
                  simp only [List.getElem_toArray, List.getElem_cons_succ, List.getElem_cons_zero, Act.put, List.setIfInBounds_toArray, List.set_cons_zero, List.set_cons_succ]
                  refine wpAnyH_take (i := 10) (v := .bool false) rfl (by kernel_rfl) (by kernel_rfl) (by kernel_rfl) (fun _ _ _ h => h) (Or.inl ⟨by rfl, fun w hSw => by obtain ⟨hS1, hS2, hS3, hS4⟩ := hSw; go_simp⟩) (by assumption) ?_
                  simp only [List.getElem_toArray, List.getElem_cons_succ, List.getElem_cons_zero, Act.put, List.setIfInBounds_toArray, List.set_cons_zero, List.set_cons_succ]
                  refine wpAnyH_take (i := 11) (v := .bool false) rfl (by kernel_rfl) (by kernel_rfl) (by kernel_rfl) (fun _ _ _ h => h) (Or.inl ⟨by rfl, fun w hSw => by obtain ⟨hS1, hS2, hS3, hS4⟩ := hSw; go_simp⟩) (by assumption) ?_
                  simp only [List.getElem_toArray, List.getElem_cons_succ, List.getElem_cons_zero, Act.put, List.setIfInBounds_toArray, List.set_cons_zero, List.set_cons_succ]
                  refine wpAnyH_take (i := 12) (v := .bool false) rfl (by kernel_rfl) (by kernel_rfl) (by kernel_rfl) (fun _ _ _ h => h) (Or.inl ⟨by rfl, fun w hSw => by obtain ⟨hS1, hS2, hS3, hS4⟩ := hSw; go_simp⟩) (by assumption) ?_
                  simp only [List.getElem_toArray, List.getElem_cons_succ, List.getElem_cons_zero, Act.put, List.setIfInBounds_toArray, List.set_cons_zero, List.set_cons_succ]
                  refine wpAnyH_take (i := 13) (v := .slice (some ⟨gim, 0, none⟩) n n) rfl (by kernel_rfl) (by kernel_rfl) (by kernel_rfl) (fun _ _ _ h => h) (Or.inl ⟨by rfl, fun w hSw => by obtain ⟨hS1, hS2, hS3, hS4⟩ := hSw; go_simp⟩) (by assumption) ?_
                  simp only [List.getElem_toArray, List.getElem_cons_succ, List.getElem_cons_zero, Act.put, List.setIfInBounds_toArray, List.set_cons_zero, List.set_cons_succ]
                  refine wpAnyH_take (i := 14) (v := .int .i64 (k4 : Int)) rfl (by kernel_rfl) (by kernel_rfl) (by kernel_rfl) (fun _ _ _ h => h) (Or.inl ⟨by rfl, fun w hSw => by obtain ⟨hS1, hS2, hS3, hS4⟩ := hSw; go_simp⟩) (by assumption) ?_
                  simp only [List.getElem_toArray, List.getElem_cons_succ, List.getElem_cons_zero, Act.put, List.setIfInBounds_toArray, List.set_cons_zero, List.set_cons_succ]
                  refine wpAnyH_take (i := 15) (v := .pointer (some ⟨gim, k4, none⟩)) rfl (by kernel_rfl) (by kernel_rfl) (by kernel_rfl) (fun _ _ _ h => h) (Or.inl ⟨by rfl, fun w hSw => by obtain ⟨hS1, hS2, hS3, hS4⟩ := hSw; go_simp⟩) (by assumption) ?_
                  simp only [List.getElem_toArray, List.getElem_cons_succ, List.getElem_cons_zero, Act.put, List.setIfInBounds_toArray, List.set_cons_zero, List.set_cons_succ]
                  refine wpAnyH_take (i := 16) (v := .slice (some ⟨gi, 0, none⟩) 512 512) rfl (by kernel_rfl) (by kernel_rfl) (by kernel_rfl) (fun _ _ _ h => h) (Or.inl ⟨by rfl, fun w hSw => by obtain ⟨hS1, hS2, hS3, hS4⟩ := hSw; go_simp⟩) (by assumption) ?_
                  simp only [List.getElem_toArray, List.getElem_cons_succ, List.getElem_cons_zero, Act.put, List.setIfInBounds_toArray, List.set_cons_zero, List.set_cons_succ]
                  refine wpAnyH_take (i := 17) (v := .slice (some ⟨gwas, 0, none⟩) n n) rfl (by kernel_rfl) (by kernel_rfl) (by kernel_rfl) (fun _ _ _ h => h) (Or.inl ⟨by rfl, fun w hSw => by obtain ⟨hS1, hS2, hS3, hS4⟩ := hSw; go_simp⟩) (by assumption) ?_
                  simp only [List.getElem_toArray, List.getElem_cons_succ, List.getElem_cons_zero, Act.put, List.setIfInBounds_toArray, List.set_cons_zero, List.set_cons_succ]
                  refine wpAnyH_take (i := 18) (v := .int .i64 (k4 : Int)) rfl (by kernel_rfl) (by kernel_rfl) (by kernel_rfl) (fun _ _ _ h => h) (Or.inl ⟨by rfl, fun w hSw => by obtain ⟨hS1, hS2, hS3, hS4⟩ := hSw; go_simp⟩) (by assumption) ?_
                  simp only [List.getElem_toArray, List.getElem_cons_succ, List.getElem_cons_zero, Act.put, List.setIfInBounds_toArray, List.set_cons_zero, List.set_cons_succ]
                  refine wpAnyH_take (i := 19) (v := .pointer (some ⟨gwas, k4, none⟩)) rfl (by kernel_rfl) (by kernel_rfl) (by kernel_rfl) (fun _ _ _ h => h) (Or.inl ⟨by rfl, fun w hSw => by obtain ⟨hS1, hS2, hS3, hS4⟩ := hSw; go_simp⟩) (by assumption) ?_
                  simp only [List.getElem_toArray, List.getElem_cons_succ, List.getElem_cons_zero, Act.put, List.setIfInBounds_toArray, List.set_cons_zero, List.set_cons_succ]
                  refine wpAnyH_take (i := 20) (v := .slice (some ⟨gw, 0, none⟩) 512 512) rfl (by kernel_rfl) (by kernel_rfl) (by kernel_rfl) (fun _ _ _ h => h) (Or.inl ⟨by rfl, fun w hSw => by obtain ⟨hS1, hS2, hS3, hS4⟩ := hSw; go_simp⟩) (by assumption) ?_
                  simp only [List.getElem_toArray, List.getElem_cons_succ, List.getElem_cons_zero, Act.put, List.setIfInBounds_toArray, List.set_cons_zero, List.set_cons_succ]
                  refine wpAnyH_take (i := 21) (v := .slice a2 k2 c2) rfl (by kernel_rfl) (by kernel_rfl) (by kernel_rfl) (fun _ _ _ h => h) (Or.inl ⟨by rfl, fun w hSw => by obtain ⟨hS1, hS2, hS3, hS4⟩ := hSw; go_simp⟩) (by assumption) ?_
                  simp only [List.getElem_toArray, List.getElem_cons_succ, List.getElem_cons_zero, Act.put, List.setIfInBounds_toArray, List.set_cons_zero, List.set_cons_succ]
                  refine wpAnyH_take (i := 22) (v := .int .i64 (k4 : Int)) rfl (by kernel_rfl) (by kernel_rfl) (by kernel_rfl) (fun _ _ _ h => h) (Or.inl ⟨by rfl, fun w hSw => by obtain ⟨hS1, hS2, hS3, hS4⟩ := hSw; go_simp⟩) (by assumption) ?_
                  simp only [List.getElem_toArray, List.getElem_cons_succ, List.getElem_cons_zero, Act.put, List.setIfInBounds_toArray, List.set_cons_zero, List.set_cons_succ]
                  refine wpAnyH_ready (rs := [23]) (by kernel_rfl) (by simp) (AllReadyH.cons rfl (fun K hK => ?_) AllReadyH.nil)
                  refine step_call4Gd (by rfl) 24 among_enter (.tmp 177) (.tmp 181) (.tmp 182) (.tmp 183) _ rfl rfl rfl rfl rfl (unhide HAMC _ (Below.refl _ _).drew) ?_
                  rintro e w16 ⟨rfl, hb16⟩
                  refine ⟨_, rfl, ?_⟩
                  refine hK.out _ _ (unhide HSS _ hb16) (fun hHeld2 => ?_)
                  clear hK K
                  simp only [List.getElem_toArray, List.getElem_cons_succ, List.getElem_cons_zero, Act.put, List.setIfInBounds_toArray, List.set_cons_zero, List.set_cons_succ]
                  refine wpAnyH_take (i := 24) (v := .bool false) rfl (by kernel_rfl) (by kernel_rfl) (by kernel_rfl) (fun _ _ _ h => h) (Or.inl ⟨by rfl, fun w hSw => by obtain ⟨hS1, hS2, hS3, hS4⟩ := hSw; go_simp⟩) (by assumption) ?_
                  simp only [List.getElem_toArray, List.getElem_cons_succ, List.getElem_cons_zero, Act.put, List.setIfInBounds_toArray, List.set_cons_zero, List.set_cons_succ]
                  refine wpAnyH_take (i := 25) (v := .bool false) rfl (by kernel_rfl) (by kernel_rfl) (by kernel_rfl) (fun _ _ _ h => h) (Or.inl ⟨by rfl, fun w hSw => by obtain ⟨hS1, hS2, hS3, hS4⟩ := hSw; go_simp⟩) (by assumption) ?_
                  simp only [List.getElem_toArray, List.getElem_cons_succ, List.getElem_cons_zero, Act.put, List.setIfInBounds_toArray, List.set_cons_zero, List.set_cons_succ]
                  refine wpAnyH_done (by kernel_rfl) ?_ _
                  clear hHeld hHeld2
                  have HT2 := hide (unhide HT w16 hb16)
                  clear HT HAMC HSS hb16
                  go_wp2
                  go_roundw
                  case rel => exact ⟨k4 + 1, by omega, by go_num, HT2⟩
                  case measure => simp [intOf]; omega
                · have hbe : Below w.heap.size w wr := up_below (up_plus HUP.out HB7.out (up_plus HKP10.out HB11.out HT.out.1.kp))
                  clear HT
                  go_wp2
                  go_ret
                  exact ⟨rfl, hbe⟩
end Go.Proofs.Ytfgjhlnaaopdeaa

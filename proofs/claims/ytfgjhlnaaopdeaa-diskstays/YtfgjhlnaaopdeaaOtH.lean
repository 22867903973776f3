/- DiskStays, walked whole. -/
import Derived.Test.YtfgjhlnaaopdeaaOtG
import Derived.Test.YtfgjhlnaaopdeaaDkO
namespace Go.Proofs.Ytfgjhlnaaopdeaa
open Go.RowKit Go.Maps

/-- A sector that lasts, and to which nothing is written. -/
def Sy (D : AD) (i : Nat) (s : List Int) : Prop := D.la.getD i zsec = s ∧ D.wr i = []
theorem Sy.write {D : AD} {i j : Nat} {s t : List Int} (h : Sy D i s) (hj : j ≠ i) : Sy (D.write j t) i s := ⟨h.1, by simp only [AD.write]; rw [updF_other _ _ (fun e => hj e.symm)]; exact h.2⟩
theorem Sy.settle {D : AD} {i : Nat} {s : List Int} (h : Sy D i s) (hi : i < D.la.length) (fate : Nat → Int) : Sy (D.settle fate) i s := by
  refine ⟨?_, rfl⟩
  rw [AD.settle_at D fate hi, h.2, if_neg (by simp; omega)]
  exact h.1
theorem Sy.now {D : AD} {i : Nat} {s : List Int} (h : Sy D i s) : D.now i = s := by unfold AD.now; rw [h.2]; exact h.1
theorem Sy.reads {D : AD} {i : Nat} {s : List Int} (h : Sy D i s) (k : Nat) : Sy (D.reads k) i s := h
theorem Sy.made {D : AD} {i : Nat} {s : List Int} (hi : i < D.la.length) (hw : ∀ j, ((D.write i s).wr j).length < 9223372036854775807) : Sy (D.write i s).flush i s := by
  refine ⟨?_, rfl⟩
  rw [AD.flush_at (D.write i s) hi (hw i), now_write, if_pos rfl]
theorem settle_len (D : AD) (fate : Nat → Int) : (D.settle fate).la.length = D.la.length := AD.laAfter_len D fate _
/-- Lists of lists of writes that are handed in. -/
structure IsWrs (w : World) (v : Value) (ls : List Ats) : Prop where
  val : ∃ a cap, v = .slice a ls.length cap ∧ ls.length ≤ cap ∧ cap ≤ 9223372036854775807 ∧ (0 < ls.length → ∃ b off, a = some ⟨b, off, none⟩ ∧
    ∀ j, j < ls.length → ∃ u, w.cell? ⟨b, off + j, none⟩ = some u ∧ IsWr w u (ls.getD j []))
/-- Behind so many of the rounds. -/
def Ro (w wr : World) (B p n i : Nat) (s : List Int) : Prop := ∃ gl D, Dk1 w wr B p gl D ∧ D.la.length = n ∧ Sy D i s ∧ w.heap.size ≤ gl
theorem dk1_gl {w wr : World} {B p gl : Nat} {D : AD} (h : Dk1 w wr B p gl D) : w.heap.size ≤ gl := by
  obtain ⟨gm, V, h1, h2, h3⟩ := h.all
  exact h2 0 (by decide) gl (Or.inr (Or.inl rfl))
theorem isI_block {w : World} {v : Value} {xs : List Int} (h : IsI w v xs) {b : Nat} (hb : Value.inBlock v b) : b < w.heap.size := by
  obtain ⟨off, n, c, hv, hn⟩ := hb
  obtain ⟨_, a, cap, hv2, _, _, hc⟩ := h
  rw [hv] at hv2
  injection hv2 with e1 e2 e3
  obtain ⟨b2, off2, ha, hcell⟩ := hc (by omega)
  rw [ha] at e1
  injection e1 with e1
  injection e1 with e1
  subst e1
  exact World.block_lt_of_cell? w _ (hcell 0 (by omega))
set_option maxRecDepth 100000 in
set_option maxHeartbeats 2000000 in
theorem stays_walk {w : World} {vb vr vf : Value} {bs : List Int} {ls : List Ats} {xs : List Int} (x y : Int) (hB : IsB w vb bs) (hR : IsWrs w vr ls) (hF : IsI w vf xs) :
    Calls Try.prog 8 #[.int .i64 x, .int .i64 y, vb, vr, vf] w fun e w' => e = .returned (.bool true) ∧ Below w.heap.size w w' := by
  have hx63 := modN_lt x (m := 63) (by decide)
  have HMADE := hide (dks_made (x := x) (Dks.nil w 0 (fun _ => 0) (fun _ => 0) (fun _ => zeroD 2)) (isWr_nil w))
  obtain ⟨n, hn⟩ : ∃ n, 2 + modN x 63 = n := ⟨_, rfl⟩
  have hnlo : 2 ≤ n := by omega
  have hnhi : n ≤ 64 := by omega
  rw [hn] at HMADE
  have HMD : Hid (∀ (W : World) (B p gl : Nat) (D : AD) (v : Value) (l : Ats), Dk1 w W B p gl D → IsWr W v l → Calls Try.prog 16 #[.int .i64 x, v] W fun e w' => ∃ q v', e = .returned (.tuple #[.pointer (some ⟨q, 0, none⟩), .int .i64 (n : Int), v']) ∧ Dk1 w w' B p gl D ∧ IsWs w' v' (madeL n l) ∧ AtsOk n (madeL n l) ∧ (madeL n l).length ≤ 100) := fun W B p gl D v l hD hW => by
    refine (made_calls (x := x) hW).mono ?_
    rintro e w' ⟨q, gl', gm, v', rfl, hd, h1, h2, h3, hws, hb⟩
    rw [hn] at hws ⊢
    exact ⟨q, v', rfl, Dks.below hD hb, hws, madeL_ok (by omega) hW.bytes, madeL_len _ _⟩
  clear hx63 hn
  have hyn := modN_lt y (m := n) (by omega)
  have HMOD := hide (fun W => mod_calls (w := W) (x := y) (m := n) (by omega) (by omega))
  have hsec := secOf_is hB.mem
  have hbl : bs.length ≤ 9223372036854775807 := by obtain ⟨_, a', c', hv, h5, h6, _⟩ := hB; omega
  have HSEC : Hid (∀ W, Below w.heap.size w W → Calls Try.prog 26 #[vb] W fun e w' => ∃ g, e = .returned (.slice (some ⟨g, 0, none⟩) 512 512) ∧ Own8 w' W.heap.size (.slice (some ⟨g, 0, none⟩) 512 512) (secOf bs) ∧ Below W.heap.size W w') := fun W hW => sector_calls (hB.below hW) hbl
  obtain ⟨ba, bn, bc, rfl⟩ := hB.shape
  have HR := hide hR
  obtain ⟨ra, rc, rfl, hrl, hrc, hrcell⟩ := hR.val
  have HRC := hide hrcell
  have HFI := hide hF
  obtain ⟨fa, fc, hvf⟩ : ∃ a c, vf = .slice a xs.length c := by obtain ⟨_, a, c, hv, _⟩ := hF; exact ⟨a, c, hv⟩
  subst hvf
  clear hB hR hF hrcell
  generalize secOf bs = sec at *
  generalize hi0 : modN y n = i0 at *
  clear hi0
  generalize hm : ls.length = m at *
  have HM := hide hm
  clear hm
  generalize xs.length = fn at *
  go_enter Try.func8, Try.ntmps8
  go_wp2_with fail
  refine (unhide HMADE).mono ?_
  rintro e w1 ⟨p, v1, rfl, ⟨gl, hD⟩, hws, hb1⟩
  obtain ⟨a1, c1, rfl, hsh⟩ := hws.shape
  have HD1 := hide (dk1_of (D' := zeroD n) hD rfl rfl rfl)
  clear HMADE hD hws hsh
  go_wp2_with fail
  refine (unhide HMOD _).mono ?_
  rintro e w2 ⟨rfl, hw2⟩
  obtain rfl := hw2.symm
  go_wp2_with fail
  refine (unhide HSEC _ hb1).mono ?_
  rintro e w3 ⟨g3, rfl, hu3, hb3⟩
  have HW3 := hide (dks_write (k := 0) (Dks.below HD1.out hb3) (by decide) rfl (i := i0) (by show i0 < (zeroD n).la.length; simp [zeroD]; omega) (by omega) (hu3.mono (Nat.zero_le _)) hsec)
  clear hu3
  go_wp2_with fail
  refine (unhide HW3).mono ?_
  rintro e w4 ⟨rfl, hD4, _⟩
  have hD4' : Dk1 w w4 1 p gl ((zeroD n).write i0 sec) := dk1_of hD4 rfl rfl rfl
  have HFL := hide (dks_flush (k := 0) hD4' (by decide) rfl (by omega))
  have HSY : Hid (∀ W, Dks w W 2 1 (fun _ => p) (fun _ => gl) (updF (fun _ => (zeroD n).write i0 sec) 0 ((zeroD n).write i0 sec).flush) → Ro w W (200 * 0 + 2) p n i0 sec) := fun W hW => by
    have hfew : ∀ j, (((zeroD n).write i0 sec).wr j).length < 9223372036854775807 := fun q => by have := (hD4'.few 0 (by decide)).wr q; omega
    have hl : (zeroD n).la.length = n := by simp [zeroD]
    have hd := dk1_of (D' := ((zeroD n).write i0 sec).flush) hW rfl rfl rfl
    exact ⟨gl, _, hd, by rw [flush_len]; exact hl, Sy.made (by rw [hl]; exact hyn) hfew, dk1_gl hd⟩
  clear hD4 hD4' HW3 HD1
  go_wp2_with fail
  refine (unhide HFL).mono ?_
  rintro e w5 ⟨rfl, hD5, _⟩
  have HRO := hide (unhide HSY w5 hD5)
  clear hD5 HSY HFL hb3 hb1
  go_wp2
  go_loopw [14] (fun iv wr => ∃ k : Nat, k ≤ m ∧ k ≤ 10 ∧ iv = .int .i64 (k : Int) ∧ Hid (Ro w wr (200 * k + 2) p n i0 sec)) (fun iv _ => m - (intOf iv).toNat)
  case atStart => exact ⟨0, by omega, by omega, rfl, HRO⟩
  case round =>
    clear HRO
    obtain ⟨k, hk, hk10, rfl, HRO⟩ := hrel
    by_cases hlt : k < m
    · by_cases hlt2 : k < 10
      · obtain ⟨b, off, rfl, hcell⟩ := unhide HRC (by omega)
        obtain ⟨gl2, D, hD, hlen, hsy, hgl⟩ := HRO.out
        have hbel := hD.bel
        obtain ⟨u, hcu, hu⟩ := hcell k hlt
        have hcw : wr.cell? ⟨b, off + k, none⟩ = some u := (hbel.cell (p := ⟨b, off + k, none⟩) (World.block_lt_of_cell? w _ hcu)).trans hcu
        have HMK := hide (unhide HMD wr (200 * k + 2) p gl2 D u (ls.getD k []) hD (hu.below hbel))
        obtain ⟨ua0, un0, uc0, rfl⟩ : ∃ a n c, u = .slice a n c := by obtain ⟨a, c, rfl, _⟩ := hu.val; exact ⟨_, _, _, rfl⟩
        have HSW := hide (show D.la.length = n ∧ Sy D i0 sec ∧ w.heap.size ≤ gl2 from ⟨hlen, hsy, hgl⟩)
        have hd1 : decide ((k : Int) < (m : Int)) = true := by simpa using hlt
        have hd2 : decide ((k : Int) < 10) = true := by simp; omega
        clear hcell hcu hu hD hlen hsy hgl hbel HRO
        generalize madeL n (ls.getD k []) = L at *
        go_wp2_with fail
        refine (unhide HMK).mono ?_
        rintro e w6 ⟨q6, v6, rfl, hD6, hws6, hok6, hl6⟩
        have HOK : Hid (∀ j, j < L.length → ∃ (i : Nat) (s : List Int), L.getD j dA = ((i : Int), s) ∧ i < n ∧ IsSec s) := fun j hj => by
          have := hok6 _ (List.getElem_mem hj)
          rw [getD_eq hj]
          exact ⟨L[j].1.toNat, L[j].2, by rw [Int.toNat_of_nonneg this.1], by omega, this.2.2⟩
        obtain ⟨a6, c6, rfl, hsh6⟩ := hws6.shape
        have HRO6 : Hid (Ro w w6 (200 * k + 2 + 0) p n i0 sec) := ⟨gl2, D, hD6, HSW.out⟩
        generalize hmL : L.length = mL at *
        have HML := hide hmL
        have HWS6 := hide hws6
        clear hmL hok6 hD6 hws6 HMK HSW
        go_wp2
        go_loopw [18] (fun jv wr => ∃ j : Nat, j ≤ mL ∧ jv = .int .i64 (j : Int) ∧ Hid (Ro w wr (200 * k + 2 + j) p n i0 sec) ∧ Hid (IsWs wr (.slice a6 mL c6) L)) (fun jv _ => mL - (intOf jv).toNat)
        case atStart => exact ⟨0, by omega, rfl, HRO6, HWS6⟩
        case round =>
          clear HRO6 HWS6
          obtain ⟨j, hj, rfl, HRO, HWS⟩ := hrel
          by_cases hjl : j < mL
          · obtain ⟨g, rfl, hle, hcm⟩ := hsh6 (by omega)
            obtain ⟨gl3, D3, hD, hlen, hsy, hgl⟩ := HRO.out
            obtain ⟨i, s, hLk, hin, hsec3⟩ := unhide HOK j hjl
            obtain ⟨u3, hc1, hc2, hu⟩ := HWS.out.elem (j := j) (by rw [HML.out]; exact hjl)
            rw [hLk] at hc1 hu
            obtain ⟨ua, un, uc, rfl⟩ := hu.isB.shape
            have HW : Hid (∀ W, W = wr.drew → Calls Try.prog 17 #[.pointer (some ⟨p, 0, none⟩), .int .i64 (i : Int), .slice ua un uc] W fun e w' => e = .returned (.int .i64 0) ∧ Dks w w' (200 * k + 2 + j + 1) 1 (fun _ => p) (fun _ => gl3) (updF (fun _ => D3) 0 (D3.write i s)) ∧ Km wr w') := fun W hWe => by
              have hbd : Below wr.heap.size wr W := by rw [hWe]; exact (Below.refl _ _).drew
              refine (dks_write (k := 0) (Dks.below hD hbd) (by decide) rfl (i := i) (by rw [hlen]; exact hin) (by omega) (hu.below hbd) hsec3).mono ?_
              rintro e w' ⟨h1, h2, h3⟩
              exact ⟨h1, h2, by rw [hWe] at h3; exact km_drew h3⟩
            have HKM : Hid (∀ W, Km wr W → W.cell? ⟨g, j * 2, none⟩ = some (.int .i64 (i : Int)) ∧ W.cell? ⟨g, j * 2 + 1, none⟩ = some (.slice ua un uc)) := fun W hK => by
              have e := HWS.out.blk_km hK
              exact ⟨(World.cell?_of_block (a := ⟨g, j * 2, none⟩) e).trans hc1, (World.cell?_of_block (a := ⟨g, j * 2 + 1, none⟩) e).trans hc2⟩
            have HNX : Hid (i ≠ i0 → ∀ W, Dks w W (200 * k + 2 + j + 1) 1 (fun _ => p) (fun _ => gl3) (updF (fun _ => D3) 0 (D3.write i s)) → Km wr W → Ro w W (200 * k + 2 + (j + 1)) p n i0 sec ∧ IsWs W (.slice (some ⟨g, 0, none⟩) mL c6) L) := fun hne W hW hK =>
              ⟨⟨gl3, D3.write i s, dk1_of hW rfl rfl rfl, hlen, hsy.write hne, hgl⟩, HWS.out.km hK⟩
            have HSAME : Hid (Ro w wr (200 * k + 2 + (j + 1)) p n i0 sec) := ⟨gl3, D3, Dks.mono hD (by omega), hlen, hsy, hgl⟩
            clear hD hlen hsy hgl hu hsec3
            by_cases he : i = i0
            · have hde : ¬ ¬ ((i : Int) = (i0 : Int)) := by omega
              subst he
              go_wp2
              go_roundw
              case rel => exact ⟨j + 1, by omega, by go_num, HSAME, HWS⟩
              case measure => simp [intOf]; omega
            · have hne2 : ¬ (i : Int) = (i0 : Int) := by omega
              go_wp2_with fail
              refine wp_region_held_drew (S := fun W => W.cell? ⟨g, j * 2, none⟩ = some (.int .i64 (i : Int)) ∧ W.cell? ⟨g, j * 2 + 1, none⟩ = some (.slice ua un uc)) (by kernel_rfl) (unhide HKM _ (Km.of_below (Below.refl _ _).drew)) (fun hHeld => ?_)
              refine wpAnyH_take (i := 0) (v := .pointer (some ⟨p, 0, none⟩)) rfl (by kernel_rfl) (by kernel_rfl) (by kernel_rfl) (fun _ _ _ h => h) (Or.inl ⟨by rfl, fun w hSw => by obtain ⟨hS1, hS2⟩ := hSw; go_simp⟩) (by assumption) ?_
              simp only [List.getElem_toArray, List.getElem_cons_zero, Act.put, List.setIfInBounds_toArray, List.set_cons_zero, List.set_cons_succ]
              refine wpAnyH_take (i := 1) (v := .slice (some ⟨g, 0, none⟩) mL c6) rfl (by kernel_rfl) (by kernel_rfl) (by kernel_rfl) (fun _ _ _ h => h) (Or.inl ⟨by rfl, fun w hSw => by obtain ⟨hS1, hS2⟩ := hSw; go_simp⟩) (by assumption) ?_
              simp only [List.getElem_toArray, List.getElem_cons_succ, List.getElem_cons_zero, Act.put, List.setIfInBounds_toArray, List.set_cons_zero, List.set_cons_succ]
              refine wpAnyH_take (i := 2) (v := .int .i64 (j : Int)) rfl (by kernel_rfl) (by kernel_rfl) (by kernel_rfl) (fun _ _ _ h => h) (Or.inl ⟨by rfl, fun w hSw => by obtain ⟨hS1, hS2⟩ := hSw; go_simp⟩) (by assumption) ?_
              simp only [List.getElem_toArray, List.getElem_cons_succ, List.getElem_cons_zero, Act.put, List.setIfInBounds_toArray, List.set_cons_zero, List.set_cons_succ]
              refine wpAnyH_take (i := 3) (v := .pointer (some ⟨g, j * 2, none⟩)) rfl (by kernel_rfl) (by kernel_rfl) (by kernel_rfl) (fun _ _ _ h => h) (Or.inl ⟨by rfl, fun w hSw => by obtain ⟨hS1, hS2⟩ := hSw; go_simp⟩) (by assumption) ?_
              simp only [List.getElem_toArray, List.getElem_cons_succ, List.getElem_cons_zero, Act.put, List.setIfInBounds_toArray, List.set_cons_zero, List.set_cons_succ]
              refine wpAnyH_take (i := 4) (v := .pointer (some ⟨g, j * 2, none⟩)) rfl (by kernel_rfl) (by kernel_rfl) (by kernel_rfl) (fun _ _ _ h => h) (Or.inl ⟨by rfl, fun w hSw => by obtain ⟨hS1, hS2⟩ := hSw; go_simp⟩) (by assumption) ?_
              simp only [List.getElem_toArray, List.getElem_cons_succ, List.getElem_cons_zero, Act.put, List.setIfInBounds_toArray, List.set_cons_zero, List.set_cons_succ]
              refine wpAnyH_take (i := 5) (v := .int .i64 (i : Int)) rfl (by kernel_rfl) (by kernel_rfl) (by kernel_rfl) (fun _ _ _ h => h) (Or.inl ⟨by rfl, fun w hSw => by obtain ⟨hS1, hS2⟩ := hSw; go_simp⟩) (by assumption) ?_
              simp only [List.getElem_toArray, List.getElem_cons_succ, List.getElem_cons_zero, Act.put, List.setIfInBounds_toArray, List.set_cons_zero, List.set_cons_succ]
              refine wpAnyH_take (i := 6) (v := .slice (some ⟨g, 0, none⟩) mL c6) rfl (by kernel_rfl) (by kernel_rfl) (by kernel_rfl) (fun _ _ _ h => h) (Or.inl ⟨by rfl, fun w hSw => by obtain ⟨hS1, hS2⟩ := hSw; go_simp⟩) (by assumption) ?_
              simp only [List.getElem_toArray, List.getElem_cons_succ, List.getElem_cons_zero, Act.put, List.setIfInBounds_toArray, List.set_cons_zero, List.set_cons_succ]
              refine wpAnyH_take (i := 7) (v := .int .i64 (j : Int)) rfl (by kernel_rfl) (by kernel_rfl) (by kernel_rfl) (fun _ _ _ h => h) (Or.inl ⟨by rfl, fun w hSw => by obtain ⟨hS1, hS2⟩ := hSw; go_simp⟩) (by assumption) ?_
              simp only [List.getElem_toArray, List.getElem_cons_succ, List.getElem_cons_zero, Act.put, List.setIfInBounds_toArray, List.set_cons_zero, List.set_cons_succ]
              refine wpAnyH_take (i := 8) (v := .pointer (some ⟨g, j * 2, none⟩)) rfl (by kernel_rfl) (by kernel_rfl) (by kernel_rfl) (fun _ _ _ h => h) (Or.inl ⟨by rfl, fun w hSw => by obtain ⟨hS1, hS2⟩ := hSw; go_simp⟩) (by assumption) ?_
              simp only [List.getElem_toArray, List.getElem_cons_succ, List.getElem_cons_zero, Act.put, List.setIfInBounds_toArray, List.set_cons_zero, List.set_cons_succ]
              refine wpAnyH_take (i := 9) (v := .pointer (some ⟨g, j * 2 + 1, none⟩)) rfl (by kernel_rfl) (by kernel_rfl) (by kernel_rfl) (fun _ _ _ h => h) (Or.inl ⟨by rfl, fun w hSw => by obtain ⟨hS1, hS2⟩ := hSw; go_simp⟩) (by assumption) ?_
              simp only [List.getElem_toArray, List.getElem_cons_succ, List.getElem_cons_zero, Act.put, List.setIfInBounds_toArray, List.set_cons_zero, List.set_cons_succ]
              refine wpAnyH_take (i := 10) (v := .slice ua un uc) rfl (by kernel_rfl) (by kernel_rfl) (by kernel_rfl) (fun _ _ _ h => h) (Or.inl ⟨by rfl, fun w hSw => by obtain ⟨hS1, hS2⟩ := hSw; go_simp⟩) (by assumption) ?_
              simp only [List.getElem_toArray, List.getElem_cons_succ, List.getElem_cons_zero, Act.put, List.setIfInBounds_toArray, List.set_cons_zero, List.set_cons_succ]
              refine wpAnyH_ready (rs := [11]) (by kernel_rfl) (by simp) (AllReadyH.cons rfl (fun K hK => ?_) AllReadyH.nil)
              refine step_call3Gd (by rfl) 17 write_enter (.tmp 73) (.tmp 78) (.tmp 83) _ rfl rfl rfl rfl (unhide HW _ rfl) ?_
              rintro e w9 ⟨rfl, hD2, hK2⟩
              refine ⟨_, rfl, ?_⟩
              refine hK.out _ _ (unhide HKM _ hK2) (fun hHeld2 => ?_)
              clear hK K
              simp only [List.getElem_toArray, List.getElem_cons_succ, List.getElem_cons_zero, Act.put]
              refine wpAnyH_done (by kernel_rfl) ?_ _
              obtain ⟨hr9, hw9⟩ := unhide HNX he w9 hD2 hK2
              have HR9 := hide hr9
              have HW9 := hide hw9
              clear hr9 hw9 hD2 hK2 hHeld hHeld2
              go_wp2
              go_roundw
              case rel => exact ⟨j + 1, by omega, by go_num, HR9, HW9⟩
              case measure => simp [intOf]; omega
          · obtain ⟨gl3, D3, hD, hlen, hsy, hgl⟩ := HRO.out
            have hFI := HFI.out.below hD.bel
            have HCR := hide (dks_crash (k := 0) hD (by decide) rfl (by omega) hFI (fun b hb => by have := isI_block HFI.out hb; show b ≠ gl3; omega))
            have HRD : Hid (∀ W, Dks w W (200 * k + 2 + j) 1 (fun _ => p) (fun _ => gl3) (updF (fun _ => D3) 0 (D3.settle fun k => xs.getD k 0)) → Calls Try.prog 23 #[.pointer (some ⟨p, 0, none⟩), .int .i64 (i0 : Int)] W fun e w' => ∃ g, e = .returned (.tuple #[.slice (some ⟨g, 0, none⟩) 512 512, .int .i64 0]) ∧ IsB w' (.slice (some ⟨g, 0, none⟩) 512 512) sec ∧ Ro w w' (200 * (k + 1) + 2) p n i0 sec ∧ Below w.heap.size w w') := fun W hW => by
              have hl2 : (D3.settle fun k => xs.getD k 0).la.length = n := by rw [settle_len]; exact hlen
              have hs2 : Sy (D3.settle fun k => xs.getD k 0) i0 sec := hsy.settle (by rw [hlen]; exact hyn) _
              refine (dks_read (k := 0) (i := i0) hW (by decide) rfl (by simp only [updF_same]; rw [hl2]; exact hyn) (by omega)).mono ?_
              rintro e w' ⟨g, rfl, _, hI, _, hd, _⟩
              simp only [updF_same] at hI hd
              rw [hs2.now] at hI
              exact ⟨g, rfl, hI, ⟨gl3, (D3.settle fun k => xs.getD k 0).reads 1, Dks.mono (dk1_of hd rfl rfl (by simp only [updF_same])) (by omega), hl2, hs2.reads 1, hgl⟩, hd.bel⟩
            clear hD hlen hsy hgl hFI HRO HWS
            go_wp2_with fail
            refine (unhide HCR).mono ?_
            rintro e w6c ⟨rfl, hD6, _⟩
            have HRD6 := hide (unhide HRD w6c hD6)
            clear hD6 HCR HRD
            go_wp2_with fail
            refine (unhide HRD6).mono ?_
            rintro e w7 ⟨g7, rfl, hI7, hR7, hb7⟩
            have HR7 := hide hR7
            have HCV : Hid (∀ W, Below w7.heap.size w7 W → (convert 27 9 (.slice (some ⟨g7, 0, none⟩) 512 512)).run Try.prog W = .ok (.string (mkS sec)) W) := fun W hW => conv_isB (hI7.below hW)
            have HCV2 : Hid (∀ W u, IsB W u sec → (convert 27 9 u).run Try.prog W = .ok (.string (mkS sec)) W) := fun W u hu => conv_isB hu
            have HSE7 : Hid (∀ W, Below w7.heap.size w7 W → Calls Try.prog 26 #[.slice ba bn bc] W fun e w' => ∃ u, e = .returned u ∧ IsB w' u sec ∧ Below w7.heap.size w7 w') := fun W hW => by
              refine (unhide HSEC W (hb7.trans (hW.mono hb7.size))).mono ?_
              rintro e w' ⟨g, rfl, hu, hb⟩
              exact ⟨_, rfl, hu.isB, hW.trans (hb.mono hW.size)⟩
            clear hI7 hR7 HRD6
            generalize mkS sec = st at *
            go_wp2_with fail
            refine wp_region_held_drew (S := fun W => (convert 27 9 (.slice (some ⟨g7, 0, none⟩) 512 512)).run Try.prog W = .ok (.string st) W) (by kernel_rfl) (unhide HCV _ (Below.refl _ _).drew) (fun hHeld => ?_)
            refine wpAnyH_take (i := 0) (v := .int .i64 0) rfl (by kernel_rfl) (by kernel_rfl) (by kernel_rfl) (fun _ _ _ h => h) (Or.inl ⟨by rfl, fun w hSw => by go_simp⟩) (by assumption) ?_
            simp only [List.getElem_toArray, List.getElem_cons_zero, Act.put, List.setIfInBounds_toArray, List.set_cons_zero, List.set_cons_succ]
            refine wpAnyH_take (i := 1) (v := .bool false) rfl (by kernel_rfl) (by kernel_rfl) (by kernel_rfl) (fun _ _ _ h => h) (Or.inl ⟨by rfl, fun w hSw => by go_simp⟩) (by assumption) ?_
            simp only [List.getElem_toArray, List.getElem_cons_succ, List.getElem_cons_zero, Act.put, List.setIfInBounds_toArray, List.set_cons_zero, List.set_cons_succ]
            refine wpAnyH_take (i := 2) (v := .bool false) rfl (by kernel_rfl) (by kernel_rfl) (by kernel_rfl) (fun _ _ _ h => h) (Or.inl ⟨by rfl, fun w hSw => by go_simp⟩) (by assumption) ?_
            simp only [List.getElem_toArray, List.getElem_cons_succ, List.getElem_cons_zero, Act.put, List.setIfInBounds_toArray, List.set_cons_zero, List.set_cons_succ]
            refine wpAnyH_take (i := 3) (v := .slice (some ⟨g7, 0, none⟩) 512 512) rfl (by kernel_rfl) (by kernel_rfl) (by kernel_rfl) (fun _ _ _ h => h) (Or.inl ⟨by rfl, fun w hSw => by go_simp⟩) (by assumption) ?_
            simp only [List.getElem_toArray, List.getElem_cons_succ, List.getElem_cons_zero, Act.put, List.setIfInBounds_toArray, List.set_cons_zero, List.set_cons_succ]
            refine wpAnyH_take (i := 4) (v := .string st) rfl (by kernel_rfl) (by kernel_rfl) (by kernel_rfl) (fun _ _ _ h => h) (Or.inl ⟨by rfl, fun w hSw => by go_simp⟩) (by assumption) ?_
            simp only [List.getElem_toArray, List.getElem_cons_succ, List.getElem_cons_zero, Act.put, List.setIfInBounds_toArray, List.set_cons_zero, List.set_cons_succ]
            refine wpAnyH_take (i := 5) (v := .slice ba bn bc) rfl (by kernel_rfl) (by kernel_rfl) (by kernel_rfl) (fun _ _ _ h => h) (Or.inl ⟨by rfl, fun w hSw => by go_simp⟩) (by assumption) ?_
            simp only [List.getElem_toArray, List.getElem_cons_succ, List.getElem_cons_zero, Act.put, List.setIfInBounds_toArray, List.set_cons_zero, List.set_cons_succ]
            refine wpAnyH_ready (rs := [6]) (by kernel_rfl) (by simp) (AllReadyH.cons rfl (fun K hK => ?_) AllReadyH.nil)
            refine step_call1Gd (by rfl) 26 sector_enter (.tmp 99) _ rfl rfl (unhide HSE7 _ (Below.refl _ _).drew) ?_
            rintro e w8 ⟨u8, rfl, hI8, hb8⟩
            obtain ⟨a8, n8, c8, rfl⟩ := hI8.shape
            have hcv8 := unhide HCV2 _ _ hI8
            refine ⟨_, rfl, ?_⟩
            refine hK.out _ _ (unhide HCV _ hb8) (fun hHeld2 => ?_)
            clear hK K
            simp only [List.getElem_toArray, List.getElem_cons_succ, List.getElem_cons_zero, Act.put, List.setIfInBounds_toArray, List.set_cons_zero, List.set_cons_succ]
            refine wpAnyH_ready (rs := [7]) (by kernel_rfl) (by simp) (AllReadyH.cons rfl (fun K hK => ?_) AllReadyH.nil)
            refine step_conv (by rfl) (.tmp 100) rfl rfl hcv8 ?_
            refine hK.out _ _ (hHeld2) (fun hHeld3 => ?_)
            clear hK K
            simp only [List.getElem_toArray, List.getElem_cons_succ, List.getElem_cons_zero, Act.put, List.setIfInBounds_toArray, List.set_cons_zero, List.set_cons_succ]
            refine wpAnyH_take (i := 8) (v := .bool false) rfl (by kernel_rfl) (by kernel_rfl) (by kernel_rfl) (fun _ _ _ h => h) (Or.inl ⟨by rfl, fun w hSw => by go_simp⟩) (by assumption) ?_
            simp only [List.getElem_toArray, List.getElem_cons_succ, List.getElem_cons_zero, Act.put, List.setIfInBounds_toArray, List.set_cons_zero, List.set_cons_succ]
            refine wpAnyH_take (i := 9) (v := .bool false) rfl (by kernel_rfl) (by kernel_rfl) (by kernel_rfl) (fun _ _ _ h => h) (Or.inl ⟨by rfl, fun w hSw => by go_simp⟩) (by assumption) ?_
            simp only [List.getElem_toArray, List.getElem_cons_succ, List.getElem_cons_zero, Act.put, List.setIfInBounds_toArray, List.set_cons_zero, List.set_cons_succ]
            refine wpAnyH_done (by kernel_rfl) ?_ _
            have HRE : Hid (Ro w w8 (200 * (k + 1) + 2) p n i0 sec) := by
              obtain ⟨gl9, D9, h9, h10⟩ := HR7.out
              exact ⟨gl9, D9, Dks.below h9 hb8, h10⟩
            clear HR7 hb8 hHeld hHeld2 hHeld3
            go_wp2
            go_roundw
            case rel => exact ⟨k + 1, by omega, by omega, by go_num, HRE⟩
            case measure => simp [intOf]; omega
      · have hd1 : decide ((k : Int) < (m : Int)) = true := by simpa using hlt
        have hd2 : decide ((k : Int) < 10) = false := by simp; omega
        have hbel : Below w.heap.size w wr := by obtain ⟨gl2, D, hD, _⟩ := HRO.out; exact hD.bel
        clear HRO
        go_wp2
        go_ret
        exact ⟨rfl, hbel⟩
    · have hd1 : decide ((k : Int) < (m : Int)) = false := by simp; omega
      have hbel : Below w.heap.size w wr := by obtain ⟨gl2, D, hD, _⟩ := HRO.out; exact hD.bel
      clear HRO
      go_wp2
      go_ret
      exact ⟨rfl, hbel⟩
end Go.Proofs.Ytfgjhlnaaopdeaa

/- What Load answers. -/
import Derived.Test.YtfgjhlnaaopdeabDkX
import Derived.Test.YtfgjhlnaaopdeabBB
namespace Go.Proofs.Ytfgjhlnaaopdeab
open Go.RowKit Go.Maps

/-- A sector that lasts is written. -/
theorem Dk.put {w : World} {p gl gm i : Nat} {V : Nat → Value} {D : AD} {s : List Int} (h : Dk w p gl gm V D) (hi : i < D.la.length) (hs : IsSec s) : Dk (w.setCells gl (i * 512) (u8V s)) p gl gm V { D with la := D.la.set i s } := by
  have hg := grown_setCells w gl (i * 512) (u8V s)
  have hl : (D.la.set i s).length = D.la.length := List.length_set
  obtain ⟨M, hM, h2⟩ := h.map
  have hok := h.ok
  refine ⟨⟨by rw [hl]; exact hok.lo, by rw [hl]; exact hok.hi, fun t ht => ?_, hok.wrs, fun j hj => hok.out j (by rw [hl] at hj; exact hj)⟩, ?_, ?_, ⟨M, hM.kept hg (by simp only [ne_eq, Option.some.injEq]; exact fun e => h.gl_gm e.symm), h2⟩, fun j => (h.row j).kept hg (Or.inr (h.low j)), h.own, h.low⟩
  · rcases List.mem_or_eq_of_mem_set ht with ht | ht
    · exact hok.las t ht
    · rw [ht]; exact hs
  · simp only [hl]
    exact h.blk.keep (hg.block p h.blk.lt (by simp only [ne_eq, Option.some.injEq]; exact h.p_gl))
  · have := owns_set h.las hok.las rfl hi hs
    simp only [hl]
    exact this
theorem Dk.there {w : World} {p gl gm i : Nat} {V : Nat → Value} {D : AD} (h : Dk w p gl gm V D) (hi : i < D.la.length) : w.there gl (i * 512) 512 := owns_there h.las hi
theorem drew_setCells (g : Nat) : ∀ (vs : List Value) (o : Nat) (w : World), w.drew.setCells g o vs = (w.setCells g o vs).drew
  | [], _, _ => rfl
  | v :: r, o, w => by
    rw [World.setCells, World.setCells, ← drew_setCells g r]
    rfl
theorem Dk.drew {w : World} {p gl gm : Nat} {V : Nat → Value} {D : AD} (h : Dk w p gl gm V D) : Dk w.drew p gl gm V D := h.below (Below.drew (Below.refl _ _))
def laidD (xss : List (List Int)) (n k : Nat) : AD := ⟨xss.take k ++ List.replicate (n - k) zsec, fun _ => [], 0, 0, 0⟩
theorem laidD_len {xss : List (List Int)} {n k : Nat} (hn : n = xss.length) (hk : k ≤ n) : (laidD xss n k).la.length = n := by simp [laidD]; omega
theorem laidD_step {xss : List (List Int)} {n k : Nat} (hn : n = xss.length) (hk : k < n) : { laidD xss n k with la := (laidD xss n k).la.set k (xss.getD k []) } = laidD xss n (k + 1) := by
  have h : (laidD xss n k).la.set k (xss.getD k []) = (laidD xss n (k + 1)).la := by
    unfold laidD
    have hkx : k < xss.length := by omega
    have h1 : (xss.take k).length = k := by simp; omega
    show (xss.take k ++ List.replicate (n - k) zsec).set k (xss.getD k []) = xss.take (k + 1) ++ List.replicate (n - (k + 1)) zsec
    rw [List.set_append_right _ _ (by omega), h1, Nat.sub_self, show n - k = (n - (k + 1)) + 1 by omega, List.replicate_succ, List.set_cons_zero, List.take_succ_eq_append_getElem hkx, List.getD_eq_getElem?_getD, List.getElem?_eq_getElem hkx, List.append_assoc]
    rfl
  rw [h]
  rfl
theorem laidD_all {xss : List (List Int)} {n : Nat} (hn : n = xss.length) : laidD xss n n = ⟨xss, fun _ => [], 0, 0, 0⟩ := by
  unfold laidD
  rw [Nat.sub_self, List.take_of_length_le (by omega)]
  simp
set_option maxRecDepth 100000 in
set_option maxHeartbeats 2000000 in
theorem load_walk {w : World} {b off n cap : Nat} {xss : List (List Int)} (hn : n = xss.length) (h2 : 2 ≤ n) (h6 : n ≤ 65536) (hl : n ≤ cap) (hm : cap ≤ 9223372036854775807)
    (hcell : ∀ j, j < n → ∃ u, w.cell? ⟨b, off + j, none⟩ = some u ∧ IsB w u (xss.getD j [])) :
    Calls Try.prog 12 #[.slice (some ⟨b, off, none⟩) n cap] w fun e w' => Below w.heap.size w w' ∧
      ((e = .returned (.tuple #[.pointer none, .int .i64 32]) ∧ ∃ j, j < n ∧ (xss.getD j []).length ≠ 512) ∨
       ∃ p gl gm V, e = .returned (.tuple #[.pointer (some ⟨p, 0, none⟩), .int .i64 0]) ∧ (∀ j, j < n → (xss.getD j []).length = 512) ∧ Dk w' p gl gm V ⟨xss, fun _ => [], 0, 0, 0⟩ ∧ w.heap.size ≤ p ∧ w.heap.size ≤ gl ∧ w.heap.size ≤ gm ∧ (∀ i, V i = .slice none 0 0)) := by
  have HN := hide (new_calls (w := w) h2 h6)
  have HC := hide hcell
  have HX := hide hn
  clear hcell hn
  go_enter Try.func12, Try.ntmps12
  go_wp2_with (go_at_call 24; refine (unhide HN).mono ?_; rintro e w1 ⟨p, gl, gm, V, rfl, hD, hp, hgl, hgm, hV, hb1⟩)
  have hD0 : Dk w1 p gl gm V (laidD xss n 0) := by
    have e : laidD xss n 0 = zeroD n := by unfold laidD zeroD; simp
    rw [e]; exact hD
  have hfin : ∀ w', Dk w' p gl gm V (laidD xss n n) → Dk w' p gl gm V ⟨xss, fun _ => [], 0, 0, 0⟩ := fun w' h => by rw [laidD_all HX.out] at h; exact h
  have HF := hide hfin
  clear hD hfin
  go_loopw [19] (fun i wr => ∃ k : Nat, k ≤ n ∧ i = .int .i64 (k : Int) ∧ Dk wr p gl gm V (laidD xss n k) ∧ (∀ j, j < k → (xss.getD j []).length = 512) ∧ Below w.heap.size w wr) (fun i _ => n - (intOf i).toNat)
  case atStart => exact ⟨0, by omega, rfl, hD0, fun j hj => by omega, hb1⟩
  case round =>
    clear hD0 hb1
    obtain ⟨k, hk, rfl, hD, hall, hnx⟩ := hrel
    have hsz := hnx.size
    by_cases hlt : k < n
    · obtain ⟨u, hu, hB0⟩ := unhide HC k hlt
      have hB := hB0.below hnx
      have hu1 : wr.cell? ⟨b, off + k, none⟩ = some u := (hnx.cell (p := ⟨b, off + k, none⟩) (World.block_lt_of_cell? w _ hu)).trans hu
      by_cases hL : (xss.getD k []).length = 512
      · obtain ⟨bb, bo, bc, rfl, hbc, hbm, hr, hbl⟩ := hB.range (by omega)
        have hbw : bb < w.heap.size := by
          obtain ⟨bb', bo', bc', e1, _, _, _, h'⟩ := hB0.range (by omega)
          injection e1 with e1
          injection e1 with e1
          injection e1 with e1
          omega
        have hsec : IsSec (xss.getD k []) := ⟨hL, hB0.mem⟩
        have hlen := laidD_len (xss := xss) HX.out hk
        have hst := laidD_step HX.out hlt
        have hc0 := hD.cells.1
        have hpl := hD.p_gl
        rw [hlen] at hc0
        have hth := hD.there (i := k) (by rw [hlen]; exact hlt)
        rw [hL] at hu1
        have hcl : (u8V (xss.getD k [])).length = 512 := by rw [u8V_len]; exact hL
        have hinf : (Try.prog.info? 77).map (·.size) = some (u8V (xss.getD k [])).length := by rw [hcl]; kernel_rfl
        have hund := Try.underlying77
        have hone := u8V_one (xss.getD k [])
        have harr : ∀ W, (Instr.arrayAt 77 (.slice (some ⟨bb, bo, none⟩) 512 bc)).run Try.prog W = .ok (.pointer (some ⟨bb, bo, none⟩)) W := arr_at _ _
        have HNEW : Hid (Dk (wr.setCells gl (k * 512) (u8V (xss.getD k []))) p gl gm V (laidD xss n (k + 1))) := by rw [← hst]; exact hD.put (by rw [hlen]; exact hlt) hsec
        have HALL : Hid (∀ j, j < k + 1 → (xss.getD j []).length = 512) := fun j hj => by
          by_cases e : j = k
          · rw [e]; exact hL
          · exact hall j (by omega)
        have hblw : Below w.heap.size w (wr.setCells gl (k * 512) (u8V (xss.getD k []))) := hnx.grown (grown_setCells wr gl _ _) hsz (fun j hj => by injection hj with hj; omega)
        have HB2 := hide hblw
        clear hst hD hB0 hu hlen hsec hall hblw hnx
        generalize u8V (xss.getD k []) = cs at *
        go_wp2_with fail
        have HS : Hid (wr.cell? ⟨p, 0, none⟩ = some (.slice (some ⟨gl, 0, none⟩) n n) ∧ wr.there gl (k * 512) 512 ∧ wr.rangeAt bb bo cs) := ⟨hc0, hth, hr⟩
        have HS2 : Hid ((wr.drew.setCells gl (k * 512) cs).cell? ⟨p, 0, none⟩ = some (.slice (some ⟨gl, 0, none⟩) n n) ∧ (wr.drew.setCells gl (k * 512) cs).there gl (k * 512) 512 ∧ (wr.drew.setCells gl (k * 512) cs).rangeAt bb bo cs) :=
          ⟨(grown_setCells wr.drew gl (k * 512) cs).cell hc0 (by simp only [ne_eq, Option.some.injEq]; exact hpl), World.there_setCells (by simpa using hth) _ _ _, World.rangeAt_setCells_apart (by simpa using hr) _ _ _ (Or.inl (by omega))⟩
        focus (go_region_held3 (fun W => W.cell? ⟨p, 0, none⟩ = some (.slice (some ⟨gl, 0, none⟩) n n) ∧ W.there gl (k * 512) 512 ∧ W.rangeAt bb bo cs) ((first | exact unhide HS | exact unhide HS2)) (fail))
        go_wp2
        go_roundw
        case rel => exact ⟨k + 1, by omega, by go_num, by rw [drew_setCells]; exact HNEW.out.drew, HALL.out, by rw [drew_setCells]; exact HB2.out.drew⟩
        case measure => simp [intOf]; omega
      · obtain ⟨a, m, c, rfl⟩ := hB.shape
        have hm2 := hB.lenEq
        have hm3 : ¬ (m : Int) = 512 := by omega
        have HE : Hid (∃ j, j < n ∧ (xss.getD j []).length ≠ 512) := ⟨k, hlt, hL⟩
        clear hm2 hB hB0
        go_wp2
        go_ret2
        exact ⟨hnx, Or.inl ⟨rfl, HE.out⟩⟩
    · have hkn : k = n := by omega
      have HK := hide hkn
      clear hkn
      go_wp2
      go_ret2
      refine ⟨hnx, Or.inr ⟨p, gl, gm, V, rfl, fun j hj => hall j (by have := HK.out; omega), unhide HF wr (by have := HK.out; subst this; exact hD), hp, hgl, hgm, hV⟩⟩
set_option maxRecDepth 100000 in
set_option maxHeartbeats 1000000 in
theorem load_few {w : World} {a : Option Addr} {n cap : Nat} (h : n < 2 ∨ 65536 < n) (hn : n ≤ 9223372036854775807) :
    Calls Try.prog 12 #[.slice a n cap] w fun e w' => e = .returned (.tuple #[.pointer none, .int .i64 30]) ∧ w' = w := by
  have HN := hide (new_bad (w := w) (n := (n : Int)) (by omega))
  clear h
  go_enter Try.func12, Try.ntmps12
  go_wp2_with (go_at_call 24; refine (unhide HN).mono ?_; rintro e w1 ⟨rfl, rfl⟩)
  go_ret2
  exact ⟨rfl, rfl⟩
end Go.Proofs.Ytfgjhlnaaopdeab

/- The document's read and less. -/
import Derived.Test.YtpklbchbldipnabDoorNAc
namespace Go.Proofs.YtpklbchbldipnabDoor
open Go.RowKit Go.Maps

/-- A number as the document's read tells it: exact while it is small. -/
def Told40 (V N : Int) : Prop := 0 ≤ N ∧ N ≤ 4398046511104 ∧ (V < 4398046511104 → N = V) ∧ (4398046511104 ≤ V → N = 1099511627776)
theorem IsB.byteAt {w : World} {b o n c : Nat} {xs : List Int} (h : IsB w (.slice (some ⟨b, o, none⟩) n c) xs) {j : Nat} (hj : j < n) : w.cell? ⟨b, o + j, none⟩ = some (.int .u8 (xs[j]?.getD 0)) ∧ 0 ≤ xs[j]?.getD 0 ∧ xs[j]?.getD 0 ≤ 255 := by
  have hn := h.lenEq
  obtain ⟨hb, a', c', hv, _, _, _, hc⟩ := h
  obtain ⟨b', o', ha, hcell⟩ := hc (by omega)
  injection hv with e1 _ _
  rw [ha] at e1
  injection e1 with e1
  injection e1 with e1 e2
  subst e1 e2
  have := hcell j (by omega)
  rw [List.getD_eq_getElem?_getD] at this
  exact ⟨this, hb j⟩
theorem IsB.spot {w : World} {a : Option Addr} {n c : Nat} {xs : List Int} (h : IsB w (.slice a n c) xs) (hp : 0 < n) : ∃ b o, a = some ⟨b, o, none⟩ := by
  have hn := h.lenEq
  obtain ⟨_, a', c', hv, _, _, _, hc⟩ := h
  obtain ⟨b', o', ha, _⟩ := hc (by omega)
  injection hv with e1 _ _
  exact ⟨b', o', by rw [e1, ha]⟩
theorem p128 {k : Nat} (h : k ≤ 6) : (1 : Int) ≤ 128 ^ k ∧ (128 : Int) ^ k ≤ 4398046511104 := by
  have e : (128 : Int) ^ 6 = 4398046511104 := by decide
  constructor
  · have : (0 : Int) < 128 ^ k := Int.pow_pos (by decide)
    omega
  · rw [← e]
    exact_mod_cast Nat.pow_le_pow_right (by decide : 0 < 128) h
theorem p128_ge {k : Nat} (h : 6 ≤ k) : (4398046511104 : Int) ≤ 128 ^ k := by
  have e : (128 : Int) ^ 6 = 4398046511104 := by decide
  rw [← e]
  exact_mod_cast Nat.pow_le_pow_right (by decide : 0 < 128) h
/-- Where the document's reading of a number stands. -/
structure R40 (k : Nat) (X N B : Int) : Prop where
  x0 : 0 ≤ X
  x1 : X < 128 ^ k
  n0 : 0 ≤ N
  lo : k ≤ 6 → N = X ∧ B = 128 ^ k
  hi : 6 ≤ k → Told40 X N
theorem R40.bound {k : Nat} {X N B : Int} (h : R40 k X N B) : 0 ≤ N ∧ N ≤ 4398046511104 := by
  by_cases hk : k ≤ 6
  · have h1 := (h.lo hk).1
    have h2 := p128 hk
    have h3 := h.x1
    have h4 := h.x0
    omega
  · have := h.hi (by omega)
    exact ⟨this.1, this.2.1⟩
/-- One group more, below the sixth. -/
theorem R40.low {k : Nat} {X N B c : Int} (h : R40 k X N B) (hk : k < 6) : R40 (k + 1) (X + c % 128 * 128 ^ k) (N + c % 128 * B) (B * 128) := by
  obtain ⟨e1, e2⟩ := h.lo (by omega)
  subst e1 e2
  have hx0 := h.x0
  have hx1 := h.x1
  have hp := (p128 (k := k) (by omega)).1
  have hs : (128 : Int) ^ (k + 1) = 128 ^ k * 128 := Int.pow_succ _ _
  have hb : c % 128 * 128 ^ k ≤ 127 * 128 ^ k := Int.mul_le_mul_of_nonneg_right (by omega) (by omega)
  have hb0 : 0 ≤ c % 128 * 128 ^ k := Int.mul_nonneg (by omega) (by omega)
  refine ⟨by omega, by rw [hs]; omega, by omega, fun _ => ⟨rfl, hs.symm⟩, fun h6 => ?_⟩
  have hk5 : k + 1 = 6 := by omega
  have e6 : (128 : Int) ^ 6 = 4398046511104 := by decide
  have hlt : N + c % 128 * 128 ^ k < 4398046511104 := by rw [← e6, ← hk5, hs]; omega
  exact ⟨by omega, by omega, fun _ => rfl, fun hx => by omega⟩
/-- One group more, from the sixth on: of zeros, or not. -/
theorem R40.zero {k : Nat} {X N B c : Int} (h : R40 k X N B) (hk : 6 ≤ k) (hc : c % 128 = 0) : R40 (k + 1) (X + c % 128 * 128 ^ k) N B := by
  have hx0 := h.x0
  have hx1 := h.x1
  have hp := p128_ge hk
  have hs : (128 : Int) ^ (k + 1) = 128 ^ k * 128 := Int.pow_succ _ _
  rw [hc, Int.zero_mul, Int.add_zero]
  exact ⟨hx0, by rw [hs]; omega, h.n0, fun h6 => by omega, fun _ => h.hi hk⟩
theorem R40.more {k : Nat} {X N B c : Int} (h : R40 k X N B) (hk : 6 ≤ k) (hc : 0 < c % 128) : R40 (k + 1) (X + c % 128 * 128 ^ k) 1099511627776 B := by
  have hx0 := h.x0
  have hx1 := h.x1
  have hp := p128_ge hk
  have hs : (128 : Int) ^ (k + 1) = 128 ^ k * 128 := Int.pow_succ _ _
  have hb : c % 128 * 128 ^ k ≤ 127 * 128 ^ k := Int.mul_le_mul_of_nonneg_right (by omega) (by omega)
  have hb0 : 1 * 128 ^ k ≤ c % 128 * 128 ^ k := Int.mul_le_mul_of_nonneg_right (by omega) (by omega)
  exact ⟨by omega, by rw [hs]; omega, by decide, fun h6 => by omega, fun _ => ⟨by decide, by decide, fun hx => by omega, fun _ => rfl⟩⟩
set_option maxRecDepth 100000 in
set_option maxHeartbeats 4000000 in
theorem read_calls {w : World} {a : Option Addr} {n c p : Nat} {xs : List Int} (h : IsB w (.slice a n c) xs) (hp : p ≤ n) (hnl : n ≤ 1048576) :
    Calls Tryd.prog 43 #[.slice a n c, .int .i64 (p : Int)] w fun e w' => w' = w ∧ ((rU 0 0 (xs.drop p)).2.2 ≠ 0 → e = .returned (.tuple #[.int .i64 (-1), .int .i64 0])) ∧ ((rU 0 0 (xs.drop p)).2.2 = 0 → ∃ N, Told40 (rU 0 0 (xs.drop p)).1 N ∧ e = .returned (.tuple #[.int .i64 N, .int .i64 ((p + (rU 0 0 (xs.drop p)).2.1 : Nat) : Int)])) := by
  have hn := h.lenEq
  have HN := hide hn
  have HH := hide h
  generalize hR : rU 0 0 (xs.drop p) = R at *
  have HE : Hid (R = rU 0 0 (xs.drop (p + 0))) := hR.symm
  have HR := hide hR
  have hcc : c ≤ 9223372036854775807 := by
    obtain ⟨_, a', c', hv, _, h2, _⟩ := h
    injection hv with e1 e2 e3
    omega
  have hnc : n ≤ c := h.room
  clear h hn hR
  go_enter Tryd.func43, Tryd.ntmps43
  go_wp2_with fail
  go_loop [6, 7, 8] (fun nv bv iv => ∃ (k : Nat) (X N B : Int), k ≤ 9 ∧ p + k ≤ n ∧ nv = .int .i64 N ∧ bv = .int .i64 B ∧ iv = .int .i64 (k : Int) ∧ Hid (R40 k X N B) ∧ Hid (0 ≤ B ∧ B ≤ 4398046511104) ∧ Hid (R = rU k X (xs.drop (p + k)))) (fun _ _ i => 10 - (intOf i).toNat)
  case atStart => exact ⟨0, 0, 0, 1, by omega, by omega, rfl, rfl, rfl, ⟨by decide, by decide, by decide, fun _ => ⟨rfl, rfl⟩, fun h => by omega⟩, ⟨by decide, by decide⟩, HE⟩
  case round =>
    clear HE
    obtain ⟨k, X, N, B, hk9, hpk, rfl, rfl, rfl, HRK, HBB, HE⟩ := hrel
    have hkI : (k : Int) < 10 := by omega
    obtain ⟨q, hq⟩ : ∃ q, p + k = q := ⟨_, rfl⟩
    have hJ : (p : Int) + (k : Int) = (q : Int) := by omega
    have HQ := hide hq
    rw [hq] at hpk HE
    have hN0 := HRK.out.bound.1
    have hN1 := HRK.out.bound.2
    have hB0 := HBB.out.1
    have hB1 := HBB.out.2
    clear hq
    by_cases hlt : q < n
    · obtain ⟨b, o, rfl⟩ := HH.out.spot (by omega)
      obtain ⟨hcell, hc0, hc1⟩ := HH.out.byteAt hlt
      have hlti : ¬ (n : Int) ≤ (q : Int) := by omega
      have hltI : (q : Int) < (n : Int) := by omega
      have hst : R = if k = 9 ∧ 1 < xs[q]?.getD 0 then (0, 0, 12) else if xs[q]?.getD 0 = 0 ∧ 0 < k then (0, 0, 11) else if xs[q]?.getD 0 < 128 then (X + xs[q]?.getD 0 * 128 ^ k, k + 1, 0) else rU (k + 1) (X + (xs[q]?.getD 0 - 128) * 128 ^ k) (xs.drop (q + 1)) := by
        rw [HE.out, drop_at (show q < xs.length by rw [← HN.out]; exact hlt), rU]
      have HST := hide hst
      generalize xs[q]?.getD 0 = cb at *
      clear hst HE
      have hmod : cb.tmod 128 = cb % 128 := Int.tmod_eq_emod_of_nonneg hc0
      have b9 : ((k : Int) == 9) = decide (k = 9) := by
        by_cases e : k = 9
        · rw [decide_eq_true e, e]; rfl
        · rw [decide_eq_false e]; simp; omega
      have b0 : (cb == 0) = decide (cb = 0) := rfl
      by_cases hA : k = 9 ∧ 1 < cb
      · have HF : Hid (R.2.2 ≠ 0) := by show _ ≠ _; rw [HST.out, if_pos hA]; decide
        obtain ⟨hA1, hA2⟩ := hA
        rw [decide_eq_true hA1] at b9
        clear HST hA1
        go_wp2
        go_ret2
        exact ⟨rfl, fun _ => rfl, fun h => absurd h HF.out⟩
      · by_cases hB : cb = 0 ∧ 0 < k
        · have HF : Hid (R.2.2 ≠ 0) := by show _ ≠ _; rw [HST.out, if_neg hA, if_pos hB]; decide
          obtain ⟨hB1, hB2⟩ := hB
          have hk0 : (0 : Int) < (k : Int) := by omega
          have h11 : ¬ 1 < cb := by omega
          rw [decide_eq_true hB1] at b0
          clear HST hA hB1 hmod
          by_cases e9 : k = 9
          · rw [decide_eq_true e9] at b9
            clear e9
            go_wp2
            go_ret2
            exact ⟨rfl, fun _ => rfl, fun h => absurd h HF.out⟩
          · rw [decide_eq_false e9] at b9
            clear e9
            go_wp2
            go_ret2
            exact ⟨rfl, fun _ => rfl, fun h => absurd h HF.out⟩
        · have HX1 := hide hA
          have HX2 := hide hB
          have g1 : ((decide (k = 9)) && decide (1 < cb)) = false := by
            by_cases e : k = 9
            · rw [decide_eq_true e, decide_eq_false (fun h => hA ⟨e, h⟩)]; rfl
            · rw [decide_eq_false e]; rfl
          by_cases e6 : k < 6
          · have e6I : (k : Int) < 6 := by omega
            have hkn : ¬ k = 9 := by omega
            rw [decide_eq_false hkn] at b9
            have hpr0 : 0 ≤ cb % 128 * B := Int.mul_nonneg (by omega) hB0
            have hpr1 : cb % 128 * B ≤ 127 * 4398046511104 := Int.mul_le_mul (by omega) hB1 hB0 (by decide)
            have hw1 : IntKind.i64.wrap (cb % 128 * B) = cb % 128 * B := IntWalk.i64_in _ ⟨by omega, by omega⟩
            have hw2 : IntKind.i64.wrap (N + cb % 128 * B) = N + cb % 128 * B := IntWalk.i64_in _ ⟨by omega, by omega⟩
            have HR2 := hide (HRK.out.low (c := cb) e6)
            have HB2 : Hid (0 ≤ B * 128 ∧ B * 128 ≤ 4398046511104) := by
              have h1 := (HR2.out.lo (by omega)).2
              have h2 := p128 (k := k + 1) (by omega)
              show _ ∧ _
              omega
            have HTD : Hid (cb < 128 → Told40 (X + cb % 128 * 128 ^ k) (N + cb % 128 * B)) := fun _ => by
              have h1 := HR2.out.lo (by omega)
              have h2 := HR2.out.bound
              have h3 := HR2.out.x1
              have h4 := p128 (k := k + 1) (by omega)
              exact ⟨h2.1, h2.2, fun _ => h1.1, fun h => by omega⟩
            by_cases z0 : cb = 0
            · have hk0 : ¬ (0 : Int) < (k : Int) := by omega
              rw [decide_eq_true z0] at b0
              clear z0 hkn
              by_cases e128 : cb < 128
              · have HF : Hid (R = (X + cb % 128 * 128 ^ k, k + 1, 0)) := by
                  show _ = _
                  rw [HST.out, if_neg HX1.out, if_neg HX2.out, if_pos e128, show cb % 128 = cb by omega]
                have HP : Hid (((p + (k + 1) : Nat) : Int) = (q : Int) + 1) := by show _ = _; omega
                have HT : Hid (Told40 (X + cb % 128 * 128 ^ k) (N + cb % 128 * B)) := unhide HTD e128
                clear HST HX1 HX2 HR2 HTD
                go_wp2
                go_ret2
                refine ⟨rfl, fun h => absurd (by rw [HF.out]) h, fun _ => ⟨_, by rw [HF.out]; exact HT.out, ?_⟩⟩
                have e : (p : Int) + ((R.2.1 : Nat) : Int) = (q : Int) + 1 := by rw [HF.out]; have := HP.out; simp only at *; omega
                rw [e]
                rfl
              · have HS2 : Hid (R = rU (k + 1) (X + cb % 128 * 128 ^ k) (xs.drop (p + (k + 1)))) := by
                  show _ = _
                  rw [HST.out, if_neg HX1.out, if_neg HX2.out, if_neg e128, show cb % 128 = cb - 128 by omega, show p + (k + 1) = q + 1 by have := HQ.out; omega]
                have hk8 : k ≤ 8 := by have := HX1.out; omega
                clear HST HX1 HX2 HTD
                go_wp2
                go_round
                case rel => exact ⟨k + 1, X + cb % 128 * 128 ^ k, (N + cb % 128 * B), (B * 128), by omega, by have := HQ.out; omega, rfl, rfl, by go_num, HR2, HB2, HS2⟩
                case measure => simp [intOf]; omega
            · rw [decide_eq_false z0] at b0
              clear z0 hkn
              by_cases e128 : cb < 128
              · have HF : Hid (R = (X + cb % 128 * 128 ^ k, k + 1, 0)) := by
                  show _ = _
                  rw [HST.out, if_neg HX1.out, if_neg HX2.out, if_pos e128, show cb % 128 = cb by omega]
                have HP : Hid (((p + (k + 1) : Nat) : Int) = (q : Int) + 1) := by show _ = _; omega
                have HT : Hid (Told40 (X + cb % 128 * 128 ^ k) (N + cb % 128 * B)) := unhide HTD e128
                clear HST HX1 HX2 HR2 HTD
                go_wp2
                go_ret2
                refine ⟨rfl, fun h => absurd (by rw [HF.out]) h, fun _ => ⟨_, by rw [HF.out]; exact HT.out, ?_⟩⟩
                have e : (p : Int) + ((R.2.1 : Nat) : Int) = (q : Int) + 1 := by rw [HF.out]; have := HP.out; simp only at *; omega
                rw [e]
                rfl
              · have HS2 : Hid (R = rU (k + 1) (X + cb % 128 * 128 ^ k) (xs.drop (p + (k + 1)))) := by
                  show _ = _
                  rw [HST.out, if_neg HX1.out, if_neg HX2.out, if_neg e128, show cb % 128 = cb - 128 by omega, show p + (k + 1) = q + 1 by have := HQ.out; omega]
                have hk8 : k ≤ 8 := by have := HX1.out; omega
                clear HST HX1 HX2 HTD
                go_wp2
                go_round
                case rel => exact ⟨k + 1, X + cb % 128 * 128 ^ k, (N + cb % 128 * B), (B * 128), by omega, by have := HQ.out; omega, rfl, rfl, by go_num, HR2, HB2, HS2⟩
                case measure => simp [intOf]; omega
          · have e6I : ¬ (k : Int) < 6 := by omega
            have z0 : ¬ cb = 0 := fun h => hB ⟨h, by omega⟩
            rw [decide_eq_false z0] at b0
            by_cases em : 0 < cb % 128
            · have HR2 := hide (HRK.out.more (c := cb) (by omega) em)
              have HB2 := HBB
              have HTD : Hid (cb < 128 → Told40 (X + cb % 128 * 128 ^ k) 1099511627776) := fun _ => HR2.out.hi (by omega)
              by_cases e9 : k = 9
              · have h11 : ¬ 1 < cb := fun h => hA ⟨e9, h⟩
                rw [decide_eq_true e9] at b9
                clear e9 z0 hA hB g1
                by_cases e128 : cb < 128
                · have HF : Hid (R = (X + cb % 128 * 128 ^ k, k + 1, 0)) := by
                    show _ = _
                    rw [HST.out, if_neg HX1.out, if_neg HX2.out, if_pos e128, show cb % 128 = cb by omega]
                  have HP : Hid (((p + (k + 1) : Nat) : Int) = (q : Int) + 1) := by show _ = _; omega
                  have HT : Hid (Told40 (X + cb % 128 * 128 ^ k) 1099511627776) := unhide HTD e128
                  clear HST HX1 HX2 HR2 HTD
                  go_wp2
                  go_ret2
                  refine ⟨rfl, fun h => absurd (by rw [HF.out]) h, fun _ => ⟨_, by rw [HF.out]; exact HT.out, ?_⟩⟩
                  have e : (p : Int) + ((R.2.1 : Nat) : Int) = (q : Int) + 1 := by rw [HF.out]; have := HP.out; simp only at *; omega
                  rw [e]
                  rfl
                · have HS2 : Hid (R = rU (k + 1) (X + cb % 128 * 128 ^ k) (xs.drop (p + (k + 1)))) := by
                    show _ = _
                    rw [HST.out, if_neg HX1.out, if_neg HX2.out, if_neg e128, show cb % 128 = cb - 128 by omega, show p + (k + 1) = q + 1 by have := HQ.out; omega]
                  have hk8 : k ≤ 8 := by have := HX1.out; omega
                  clear HST HX1 HX2 HTD
                  go_wp2
                  go_round
                  case rel => exact ⟨k + 1, X + cb % 128 * 128 ^ k, 1099511627776, B, by omega, by have := HQ.out; omega, rfl, rfl, by go_num, HR2, HB2, HS2⟩
                  case measure => simp [intOf]; omega
              · rw [decide_eq_false e9] at b9
                clear e9 z0 hA hB g1
                by_cases e128 : cb < 128
                · have HF : Hid (R = (X + cb % 128 * 128 ^ k, k + 1, 0)) := by
                    show _ = _
                    rw [HST.out, if_neg HX1.out, if_neg HX2.out, if_pos e128, show cb % 128 = cb by omega]
                  have HP : Hid (((p + (k + 1) : Nat) : Int) = (q : Int) + 1) := by show _ = _; omega
                  have HT : Hid (Told40 (X + cb % 128 * 128 ^ k) 1099511627776) := unhide HTD e128
                  clear HST HX1 HX2 HR2 HTD
                  go_wp2
                  go_ret2
                  refine ⟨rfl, fun h => absurd (by rw [HF.out]) h, fun _ => ⟨_, by rw [HF.out]; exact HT.out, ?_⟩⟩
                  have e : (p : Int) + ((R.2.1 : Nat) : Int) = (q : Int) + 1 := by rw [HF.out]; have := HP.out; simp only at *; omega
                  rw [e]
                  rfl
                · have HS2 : Hid (R = rU (k + 1) (X + cb % 128 * 128 ^ k) (xs.drop (p + (k + 1)))) := by
                    show _ = _
                    rw [HST.out, if_neg HX1.out, if_neg HX2.out, if_neg e128, show cb % 128 = cb - 128 by omega, show p + (k + 1) = q + 1 by have := HQ.out; omega]
                  have hk8 : k ≤ 8 := by have := HX1.out; omega
                  clear HST HX1 HX2 HTD
                  go_wp2
                  go_round
                  case rel => exact ⟨k + 1, X + cb % 128 * 128 ^ k, 1099511627776, B, by omega, by have := HQ.out; omega, rfl, rfl, by go_num, HR2, HB2, HS2⟩
                  case measure => simp [intOf]; omega
            · have hz : cb % 128 = 0 := by omega
              have HR2 := hide (HRK.out.zero (c := cb) (by omega) hz)
              have HB2 := HBB
              have HTD : Hid (cb < 128 → Told40 (X + cb % 128 * 128 ^ k) N) := fun _ => HR2.out.hi (by omega)
              by_cases e9 : k = 9
              · have h11 : ¬ 1 < cb := fun h => hA ⟨e9, h⟩
                rw [decide_eq_true e9] at b9
                have HZ := hide hz
                clear e9 z0 hA hB g1 hz
                by_cases e128 : cb < 128
                · have HF : Hid (R = (X + cb % 128 * 128 ^ k, k + 1, 0)) := by
                    show _ = _
                    rw [HST.out, if_neg HX1.out, if_neg HX2.out, if_pos e128, show cb % 128 = cb by omega]
                  have HP : Hid (((p + (k + 1) : Nat) : Int) = (q : Int) + 1) := by show _ = _; omega
                  have HT : Hid (Told40 (X + cb % 128 * 128 ^ k) N) := unhide HTD e128
                  clear HST HX1 HX2 HR2 HTD
                  go_wp2
                  go_ret2
                  refine ⟨rfl, fun h => absurd (by rw [HF.out]) h, fun _ => ⟨_, by rw [HF.out]; exact HT.out, ?_⟩⟩
                  have e : (p : Int) + ((R.2.1 : Nat) : Int) = (q : Int) + 1 := by rw [HF.out]; have := HP.out; simp only at *; omega
                  rw [e]
                  rfl
                · have HS2 : Hid (R = rU (k + 1) (X + cb % 128 * 128 ^ k) (xs.drop (p + (k + 1)))) := by
                    show _ = _
                    rw [HST.out, if_neg HX1.out, if_neg HX2.out, if_neg e128, show cb % 128 = cb - 128 by omega, show p + (k + 1) = q + 1 by have := HQ.out; omega]
                  have hk8 : k ≤ 8 := by have := HX1.out; omega
                  clear HST HX1 HX2 HTD
                  go_wp2
                  go_round
                  case rel => exact ⟨k + 1, X + cb % 128 * 128 ^ k, N, B, by omega, by have := HQ.out; omega, rfl, rfl, by go_num, HR2, HB2, HS2⟩
                  case measure => simp [intOf]; omega
              · rw [decide_eq_false e9] at b9
                have HZ := hide hz
                clear e9 z0 hA hB g1 hz
                by_cases e128 : cb < 128
                · have HF : Hid (R = (X + cb % 128 * 128 ^ k, k + 1, 0)) := by
                    show _ = _
                    rw [HST.out, if_neg HX1.out, if_neg HX2.out, if_pos e128, show cb % 128 = cb by omega]
                  have HP : Hid (((p + (k + 1) : Nat) : Int) = (q : Int) + 1) := by show _ = _; omega
                  have HT : Hid (Told40 (X + cb % 128 * 128 ^ k) N) := unhide HTD e128
                  clear HST HX1 HX2 HR2 HTD
                  go_wp2
                  go_ret2
                  refine ⟨rfl, fun h => absurd (by rw [HF.out]) h, fun _ => ⟨_, by rw [HF.out]; exact HT.out, ?_⟩⟩
                  have e : (p : Int) + ((R.2.1 : Nat) : Int) = (q : Int) + 1 := by rw [HF.out]; have := HP.out; simp only at *; omega
                  rw [e]
                  rfl
                · have HS2 : Hid (R = rU (k + 1) (X + cb % 128 * 128 ^ k) (xs.drop (p + (k + 1)))) := by
                    show _ = _
                    rw [HST.out, if_neg HX1.out, if_neg HX2.out, if_neg e128, show cb % 128 = cb - 128 by omega, show p + (k + 1) = q + 1 by have := HQ.out; omega]
                  have hk8 : k ≤ 8 := by have := HX1.out; omega
                  clear HST HX1 HX2 HTD
                  go_wp2
                  go_round
                  case rel => exact ⟨k + 1, X + cb % 128 * 128 ^ k, N, B, by omega, by have := HQ.out; omega, rfl, rfl, by go_num, HR2, HB2, HS2⟩
                  case measure => simp [intOf]; omega
    · have hlti : (n : Int) ≤ (q : Int) := by omega
      have HF : Hid (R.2.2 ≠ 0) := by
        show _ ≠ _
        rw [HE.out, List.drop_eq_nil_of_le (by rw [← HN.out]; omega), rU]
        decide
      go_wp2
      go_ret2
      exact ⟨rfl, fun _ => rfl, fun h => absurd h HF.out⟩
theorem drop_cons4 {xs : List Int} {p : Nat} (h : p + 4 ≤ xs.length) : (xs.drop p).take 4 = [xs[p]?.getD 0, xs[p + 1]?.getD 0, xs[p + 2]?.getD 0, xs[p + 3]?.getD 0] := by
  rw [drop_at (show p < xs.length by omega), drop_at (show p + 1 < xs.length by omega), drop_at (show p + 1 + 1 < xs.length by omega), drop_at (show p + 1 + 1 + 1 < xs.length by omega)]
  rfl
set_option maxRecDepth 100000 in
set_option maxHeartbeats 4000000 in
theorem less_calls {w : World} {b o n c p : Nat} {xs : List Int} (h : IsB w (.slice (some ⟨b, o, none⟩) n c) xs) (hp : p + 4 ≤ n) (hnl : n ≤ 1048576) :
    Calls Tryd.prog 63 #[.slice (some ⟨b, o, none⟩) n c, .int .i64 (p : Int)] w fun e w' => e = .returned (.int .i64 (leN ((xs.drop p).take 4))) ∧ Below w.heap.size w w' := by
  have hn := h.lenEq
  obtain ⟨m0, a0, b0⟩ := h.byteAt (j := p) (by omega)
  obtain ⟨m1, a1, b1⟩ := h.byteAt (j := p + 1) (by omega)
  obtain ⟨m2, a2, b2⟩ := h.byteAt (j := p + 2) (by omega)
  obtain ⟨m3, a3, b3⟩ := h.byteAt (j := p + 3) (by omega)
  have HV : Hid (leN ((xs.drop p).take 4) = xs[p]?.getD 0 + 256 * xs[p + 1]?.getD 0 + 65536 * xs[p + 2]?.getD 0 + 16777216 * xs[p + 3]?.getD 0) := by
    show _ = _
    rw [drop_cons4 (by omega)]
    simp only [leN]
    omega
  rw [HV.out]
  generalize xs[p]?.getD 0 = c0 at *
  generalize xs[p + 1]?.getD 0 = c1 at *
  generalize xs[p + 2]?.getD 0 = c2 at *
  generalize xs[p + 3]?.getD 0 = c3 at *
  obtain ⟨q1, hq1⟩ : ∃ q, p + 1 = q := ⟨_, rfl⟩
  obtain ⟨q2, hq2⟩ : ∃ q, p + 2 = q := ⟨_, rfl⟩
  obtain ⟨q3, hq3⟩ : ∃ q, p + 3 = q := ⟨_, rfl⟩
  rw [hq1] at m1
  rw [hq2] at m2
  rw [hq3] at m3
  have j1 : IntKind.i64.wrap ((p : Int) + 1) = (q1 : Int) := by rw [IntWalk.i64_in _ ⟨by omega, by omega⟩]; omega
  have j2 : IntKind.i64.wrap ((p : Int) + 2) = (q2 : Int) := by rw [IntWalk.i64_in _ ⟨by omega, by omega⟩]; omega
  have j3 : IntKind.i64.wrap ((p : Int) + 3) = (q3 : Int) := by rw [IntWalk.i64_in _ ⟨by omega, by omega⟩]; omega
  have k0 : (p : Int) < (n : Int) := by omega
  have k1 : (q1 : Int) < (n : Int) := by omega
  have k2 : (q2 : Int) < (n : Int) := by omega
  have k3 : (q3 : Int) < (n : Int) := by omega
  have u1 : IntKind.i64.wrap (256 * c1) = 256 * c1 := IntWalk.i64_in _ ⟨by omega, by omega⟩
  have u2 : IntKind.i64.wrap (65536 * c2) = 65536 * c2 := IntWalk.i64_in _ ⟨by omega, by omega⟩
  have u3 : IntKind.i64.wrap (16777216 * c3) = 16777216 * c3 := IntWalk.i64_in _ ⟨by omega, by omega⟩
  have s1 : IntKind.i64.wrap (c0 + 256 * c1) = c0 + 256 * c1 := IntWalk.i64_in _ ⟨by omega, by omega⟩
  have s2 : IntKind.i64.wrap (c0 + 256 * c1 + 65536 * c2) = c0 + 256 * c1 + 65536 * c2 := IntWalk.i64_in _ ⟨by omega, by omega⟩
  have s3 : IntKind.i64.wrap (c0 + 256 * c1 + 65536 * c2 + 16777216 * c3) = c0 + 256 * c1 + 65536 * c2 + 16777216 * c3 := IntWalk.i64_in _ ⟨by omega, by omega⟩
  clear h hn hq1 hq2 hq3 hp
  go_enter Tryd.func63, Tryd.ntmps63
  go_wp2_with fail
  go_quiet (fail)
  go_wp2
  go_ret
  exact ⟨rfl, drewn_below _ _⟩
end Go.Proofs.YtpklbchbldipnabDoor

/- TokenLong: the walk. -/
import Derived.Test.YtcdilcjgmcamcaaTkHb
import Derived.Deep.DeepCutAuto
namespace Go.Proofs.Ytcdilcjgmcamcaa
open Go.RowKit Go.Maps Classical

theorem writ_bound (k : Int) (t : ByteArray) : (writL k t).length ≤ 4 * t.size + 3 := by
  unfold writL
  split
  · rw [len_data]; omega
  · split
    · have := quote_le t.data.toList; rw [len_data] at this; omega
    · simp
theorem printL_bound : ∀ (l : List Tok) (a : Bool) (M : Nat), (∀ t ∈ l, t.text.size ≤ M) → (printL l a).length ≤ l.length * (4 * M + 4)
  | [], _, _, _ => by simp [printL]
  | t :: l, a, M, h => by
    have h1 := printL_bound l (ap t.kind) M (fun x hx => h x (by simp [hx]))
    have h2 := writ_bound t.kind t.text
    have h3 := h t (by simp)
    have h4 : (if a && ap t.kind then [(32 : UInt8)] else []).length ≤ 1 := by split <;> simp
    rw [printL]
    simp only [List.length_append, List.length_cons, Nat.add_mul, Nat.one_mul]
    omega
theorem lit_prints (l : List Tok) (hl : l.length ≤ 10) (h : ∀ t ∈ l, t.text.size ≤ 1000000) (W : World) : Calls Try.prog 14 #[.slice (some ⟨W.heap.size, 0, none⟩) l.length l.length] (W.alloc (.cells (tkV l).toArray 27)) fun e w' => e = .returned (.bool true) ∧ Below W.heap.size W w' := by
  have h1 := printL_bound l false 1000000 h
  have h2 : l.length * (4 * 1000000 + 4) ≤ 10 * (4 * 1000000 + 4) := Nat.mul_le_mul_right _ hl
  refine (prints_calls (isTk_lit W l (by omega)) (by omega) (by omega)).mono fun e w' ⟨he, hb⟩ => ⟨he, ?_⟩
  have hbn := (Below.refl W.heap.size W).alloc (Nat.le_refl _) (.cells (tkV l).toArray 27)
  exact hbn.trans (hb.mono hbn.size)
theorem rep_size (l : List UInt8) (n : Nat) (hl : l.length = 1) : (bs (repL l n)).size = n := by rw [bs_size, repL_len, hl, Nat.mul_one]
set_option maxRecDepth 100000 in
set_option maxHeartbeats 8000000 in
theorem tokenLong_walk (n0 m0 : Int) (w : World) : Calls Try.prog 5 #[.int .i64 n0, .int .i64 m0] w fun e w' => e = .returned (.bool true) ∧ Below w.heap.size w w' := by
  have HTO := hide (told_calls w)
  have HC := hide (fun s W => cuts_calls s W)
  have HM : Hid (∀ (c : UInt8) (n : Nat) (W : World), n ≤ 1000000 → Calls Try.prog 15 #[.string ⟨#[c]⟩, .int .i64 (n : Int)] W fun e w' => (∃ x : ByteArray, x.size = n ∧ e = .returned (.string x)) ∧ Below W.heap.size W w') := fun c n W hn => (many_calls ⟨#[c]⟩ n hn (by show 1 ≤ 1000; omega) W).mono fun e w' ⟨he, hb⟩ => ⟨⟨_, rep_size _ n rfl, he⟩, hb⟩
  have HP2 : Hid (∀ (x : ByteArray) (k : Int) (W : World), x.size ≤ 1000000 → Calls Try.prog 14 #[.slice (some ⟨W.heap.size, 0, none⟩) 2 2] (W.alloc (.cells #[.int .i64 k, .string x, .int .i64 0, .int .i64 0, .int .i64 7, .string ⟨#[]⟩, .int .i64 0, .int .i64 0] 27)) fun e w' => e = .returned (.bool true) ∧ Below W.heap.size W w') := fun x k W hx => lit_prints [⟨k, x, 0, 0⟩, ⟨7, ⟨#[]⟩, 0, 0⟩] (by show 2 ≤ 10; decide) (by intro t ht; simp at ht; rcases ht with rfl | rfl; exact hx; show 0 ≤ _; omega) W
  go_enter Try.func5, Try.ntmps5
  go_upto_region 1 with fail
  go_cut [13] (fun a wc => a = .bool (decide (n0 < 0 ∨ 600 < n0)) ∧ w = wc)
  case first =>
    by_cases h1 : n0 < 0
    · go_wp2
      go_meet
      exact ⟨by simp [h1], rfl⟩
    · go_wp2
      go_meet
      exact ⟨congrArg Value.bool (decide_eq_decide.2 (by omega)), rfl⟩
  case rest =>
  obtain ⟨rfl, rfl⟩ := hcut
  go_upto_if 13 with fail
  go_cut [0] (fun a wc => ∃ n : Nat, a = .int .i64 (n : Int) ∧ n ≤ 600 ∧ w = wc)
  case first =>
    by_cases h1 : n0 < 0 ∨ 600 < n0
    · go_wp2
      go_meet
      exact ⟨255, rfl, by omega, rfl⟩
    · go_wp2
      go_meet
      exact ⟨n0.toNat, by rw [Int.toNat_of_nonneg (by omega)], by omega, rfl⟩
  case rest =>
  obtain ⟨n, rfl, hn, rfl⟩ := hcut
  go_upto_region 3 with fail
  go_cut [19] (fun a wc => a = .bool (decide (m0 < -3 ∨ 3 < m0)) ∧ w = wc)
  case first =>
    by_cases h1 : m0 < -3
    · go_wp2
      go_meet
      exact ⟨by simp [h1], rfl⟩
    · go_wp2
      go_meet
      exact ⟨congrArg Value.bool (decide_eq_decide.2 (by omega)), rfl⟩
  case rest =>
  obtain ⟨rfl, rfl⟩ := hcut
  go_upto_if 19 with fail
  go_cut [1] (fun a wc => ∃ m : Int, a = .int .i64 m ∧ -3 ≤ m ∧ m ≤ 3 ∧ w = wc)
  case first =>
    by_cases h1 : m0 < -3 ∨ 3 < m0
    · go_wp2
      go_meet
      exact ⟨0, rfl, by omega, by omega, rfl⟩
    · go_wp2
      go_meet
      exact ⟨m0, rfl, by omega, by omega, rfl⟩
  case rest =>
  obtain ⟨m, rfl, hm1, hm2, rfl⟩ := hcut
  obtain ⟨a1, ha1⟩ : ∃ a : Nat, (a : Int) = 65533 + m := ⟨(65533 + m).toNat, by omega⟩
  obtain ⟨a2, ha2⟩ : ∃ a : Nat, (a : Int) = 65536 + m := ⟨(65536 + m).toNat, by omega⟩
  obtain ⟨a3, ha3⟩ : ∃ a : Nat, (a : Int) = 65535 + m := ⟨(65535 + m).toNat, by omega⟩
  obtain ⟨a4, ha4⟩ : ∃ a : Nat, (a : Int) = 16383 + m := ⟨(16383 + m).toNat, by omega⟩
  go_wp2_with fail
  refine (unhide HTO).mono ?_
  rintro e w1 ⟨rfl, hb1⟩
  have HM2 := hide (unhide HM 97 n w1 (by omega))
  go_wp2_with fail
  refine (unhide HM2).mono ?_
  rintro e w2 ⟨⟨x2, hx2, rfl⟩, hc2⟩
  have hb2 := hb1.trans (hc2.mono hb1.size)
  clear hc2
  go_wp2_with fail
  refine (unhide HC _ w2).mono ?_
  rintro e w3 ⟨rfl, hc3⟩
  have hb3 := hb2.trans (hc3.mono hb2.size)
  clear hc3 hb2
  have HM3 := hide (unhide HM 97 n w3 (by omega))
  go_wp2_with fail
  refine (unhide HM3).mono ?_
  rintro e w4 ⟨⟨x3, hx3, rfl⟩, hc4⟩
  have hb4 := hb3.trans (hc4.mono hb3.size)
  clear hc4 hb3
  go_wp2_with fail
  refine (unhide HC _ w4).mono ?_
  rintro e w5 ⟨rfl, hc5⟩
  have hb5 := hb4.trans (hc5.mono hb4.size)
  clear hc5 hb4
  have HM4 := hide (unhide HM 97 n w5 (by omega))
  go_wp2_with fail
  refine (unhide HM4).mono ?_
  rintro e w6 ⟨⟨x4, hx4, rfl⟩, hc6⟩
  have hb6 := hb5.trans (hc6.mono hb5.size)
  clear hc6 hb5
  go_wp2_with fail
  refine (unhide HP2 x4 1 w6 (by omega)).mono ?_
  rintro e w7 ⟨rfl, hc7⟩
  have hb7 := hb6.trans (hc7.mono hb6.size)
  clear hc7 hb6
  have HM5 := hide (unhide HM 98 a1 w7 (by omega))
  rw [ha1] at HM5
  go_wp2_with fail
  refine (unhide HM5).mono ?_
  rintro e w8 ⟨⟨x5, hx5, rfl⟩, hc8⟩
  have hb8 := hb7.trans (hc8.mono hb7.size)
  clear hc8 hb7
  go_wp2_with fail
  refine (unhide HC _ w8).mono ?_
  rintro e w9 ⟨rfl, hc9⟩
  have hb9 := hb8.trans (hc9.mono hb8.size)
  clear hc9 hb8
  have HM6 := hide (unhide HM 32 a2 w9 (by omega))
  rw [ha2] at HM6
  go_wp2_with fail
  refine (unhide HM6).mono ?_
  rintro e w10 ⟨⟨x6, hx6, rfl⟩, hc10⟩
  have hb10 := hb9.trans (hc10.mono hb9.size)
  clear hc10 hb9
  go_wp2_with fail
  refine (unhide HC _ w10).mono ?_
  rintro e w11 ⟨rfl, hc11⟩
  have hb11 := hb10.trans (hc11.mono hb10.size)
  clear hc11 hb10
  have HM7 := hide (unhide HM 10 a3 w11 (by omega))
  rw [ha3] at HM7
  go_wp2_with fail
  refine (unhide HM7).mono ?_
  rintro e w12 ⟨⟨x7, hx7, rfl⟩, hc12⟩
  have hb12 := hb11.trans (hc12.mono hb11.size)
  clear hc12 hb11
  go_wp2_with fail
  refine (unhide HC _ w12).mono ?_
  rintro e w13 ⟨rfl, hc13⟩
  have hb13 := hb12.trans (hc13.mono hb12.size)
  clear hc13 hb12
  have HM8 := hide (unhide HM 99 a1 w13 (by omega))
  rw [ha1] at HM8
  go_wp2_with fail
  refine (unhide HM8).mono ?_
  rintro e w14 ⟨⟨x8, hx8, rfl⟩, hc14⟩
  have hb14 := hb13.trans (hc14.mono hb13.size)
  clear hc14 hb13
  have hL1 := isTk_lit w14 [⟨2, x8, 0, 0⟩, ⟨7, ⟨#[]⟩, 0, 0⟩] (by show 2 ≤ _; omega)
  have hal1 := (Below.refl w14.heap.size w14).alloc (Nat.le_refl _) (.cells (tkV [⟨2, x8, 0, 0⟩, ⟨7, ⟨#[]⟩, 0, 0⟩]).toArray 27)
  have HL1 := hide hL1
  have hbl1 := hb14.trans (hal1.mono hb14.size)
  have HPL1 : Hid (∀ (W : World) (v : Value), IsTk W v [⟨2, x8, 0, 0⟩, ⟨7, ⟨#[]⟩, 0, 0⟩] → Calls Try.prog 14 #[v] W fun e w' => e = .returned (.bool true) ∧ Below W.heap.size W w') := fun W v hv => by
    have h1 := printL_bound [⟨2, x8, 0, 0⟩, ⟨7, ⟨#[]⟩, 0, 0⟩] false 1000000 (by intro t ht; simp at ht; rcases ht with rfl | rfl; (show x8.size ≤ _; omega); (show 0 ≤ _; omega))
    simp only [List.length_cons, List.length_nil] at h1
    exact prints_calls hv (by show 2 ≤ _; omega) (by omega)
  clear hL1 hal1 hb14
  have HM9 := hide (unhide HM 1 a4 (w14.alloc (.cells (tkV [⟨2, x8, 0, 0⟩, ⟨7, ⟨#[]⟩, 0, 0⟩]).toArray 27)) (by omega))
  rw [ha4] at HM9
  go_wp2_with fail
  refine (unhide HM9).mono ?_
  rintro e w15 ⟨⟨x9, hx9, rfl⟩, hc15⟩
  replace HL1 := hide (HL1.out.below hc15)
  have hb15 := hbl1.trans (hc15.mono hbl1.size)
  clear hc15 hbl1
  replace HL1 := hide (HL1.out.below ((Below.refl w15.heap.size w15).alloc (Nat.le_refl _) (.cells (tkV [⟨2, x9, 0, 0⟩, ⟨1, ⟨#[97]⟩, 0, 0⟩, ⟨7, ⟨#[]⟩, 0, 0⟩]).toArray 27)))
  have hL2 := isTk_lit w15 [⟨2, x9, 0, 0⟩, ⟨1, ⟨#[97]⟩, 0, 0⟩, ⟨7, ⟨#[]⟩, 0, 0⟩] (by show 3 ≤ _; omega)
  have hal2 := (Below.refl w15.heap.size w15).alloc (Nat.le_refl _) (.cells (tkV [⟨2, x9, 0, 0⟩, ⟨1, ⟨#[97]⟩, 0, 0⟩, ⟨7, ⟨#[]⟩, 0, 0⟩]).toArray 27)
  have HL2 := hide hL2
  have hbl2 := hb15.trans (hal2.mono hb15.size)
  have HPL2 : Hid (∀ (W : World) (v : Value), IsTk W v [⟨2, x9, 0, 0⟩, ⟨1, ⟨#[97]⟩, 0, 0⟩, ⟨7, ⟨#[]⟩, 0, 0⟩] → Calls Try.prog 14 #[v] W fun e w' => e = .returned (.bool true) ∧ Below W.heap.size W w') := fun W v hv => by
    have h1 := printL_bound [⟨2, x9, 0, 0⟩, ⟨1, ⟨#[97]⟩, 0, 0⟩, ⟨7, ⟨#[]⟩, 0, 0⟩] false 1000000 (by intro t ht; simp at ht; rcases ht with rfl | rfl | rfl; (show x9.size ≤ _; omega); (show 1 ≤ _; omega); (show 0 ≤ _; omega))
    simp only [List.length_cons, List.length_nil] at h1
    exact prints_calls hv (by show 3 ≤ _; omega) (by omega)
  clear hL2 hal2 hb15
  have HM10 := hide (unhide HM 99 a1 (w15.alloc (.cells (tkV [⟨2, x9, 0, 0⟩, ⟨1, ⟨#[97]⟩, 0, 0⟩, ⟨7, ⟨#[]⟩, 0, 0⟩]).toArray 27)) (by omega))
  rw [ha1] at HM10
  go_wp2_with fail
  refine (unhide HM10).mono ?_
  rintro e w16 ⟨⟨x10, hx10, rfl⟩, hc16⟩
  replace HL1 := hide (HL1.out.below hc16)
  replace HL2 := hide (HL2.out.below hc16)
  have hb16 := hbl2.trans (hc16.mono hbl2.size)
  clear hc16 hbl2
  replace HL1 := hide (HL1.out.below ((Below.refl w16.heap.size w16).alloc (Nat.le_refl _) (.cells (tkV [⟨2, x10, 0, 0⟩, ⟨1, ⟨#[97, 32, 98]⟩, 0, 0⟩, ⟨7, ⟨#[]⟩, 0, 0⟩]).toArray 27)))
  replace HL2 := hide (HL2.out.below ((Below.refl w16.heap.size w16).alloc (Nat.le_refl _) (.cells (tkV [⟨2, x10, 0, 0⟩, ⟨1, ⟨#[97, 32, 98]⟩, 0, 0⟩, ⟨7, ⟨#[]⟩, 0, 0⟩]).toArray 27)))
  have hL3 := isTk_lit w16 [⟨2, x10, 0, 0⟩, ⟨1, ⟨#[97, 32, 98]⟩, 0, 0⟩, ⟨7, ⟨#[]⟩, 0, 0⟩] (by show 3 ≤ _; omega)
  have hal3 := (Below.refl w16.heap.size w16).alloc (Nat.le_refl _) (.cells (tkV [⟨2, x10, 0, 0⟩, ⟨1, ⟨#[97, 32, 98]⟩, 0, 0⟩, ⟨7, ⟨#[]⟩, 0, 0⟩]).toArray 27)
  have HL3 := hide hL3
  have hbl3 := hb16.trans (hal3.mono hb16.size)
  have HPL3 : Hid (∀ (W : World) (v : Value), IsTk W v [⟨2, x10, 0, 0⟩, ⟨1, ⟨#[97, 32, 98]⟩, 0, 0⟩, ⟨7, ⟨#[]⟩, 0, 0⟩] → Calls Try.prog 14 #[v] W fun e w' => e = .returned (.bool true) ∧ Below W.heap.size W w') := fun W v hv => by
    have h1 := printL_bound [⟨2, x10, 0, 0⟩, ⟨1, ⟨#[97, 32, 98]⟩, 0, 0⟩, ⟨7, ⟨#[]⟩, 0, 0⟩] false 1000000 (by intro t ht; simp at ht; rcases ht with rfl | rfl | rfl; (show x10.size ≤ _; omega); (show 3 ≤ _; omega); (show 0 ≤ _; omega))
    simp only [List.length_cons, List.length_nil] at h1
    exact prints_calls hv (by show 3 ≤ _; omega) (by omega)
  clear hL3 hal3 hb16
  go_wp2_with fail
  refine (unhide HPL1 _ _ HL1.out).mono ?_
  rintro e w17 ⟨rfl, hc17⟩
  replace HL2 := hide (HL2.out.below hc17)
  replace HL3 := hide (HL3.out.below hc17)
  have hb17 := hbl3.trans (hc17.mono hbl3.size)
  clear hc17 hbl3
  go_wp2_with fail
  refine (unhide HPL2 _ _ HL2.out).mono ?_
  rintro e w18 ⟨rfl, hc18⟩
  replace HL3 := hide (HL3.out.below hc18)
  have hb18 := hb17.trans (hc18.mono hb17.size)
  clear hc18 hb17
  go_wp2_with fail
  refine (unhide HPL3 _ _ HL3.out).mono ?_
  rintro e w19 ⟨rfl, hc19⟩
  have hb19 := hb18.trans (hc19.mono hb18.size)
  clear hc19 hb18
  go_wp2
  go_ret
  exact ⟨rfl, hb19⟩
end Go.Proofs.Ytcdilcjgmcamcaa

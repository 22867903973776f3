/- PathTogether. -/
import Derived.Test.YtmogbkgchhplkabDoorPaTold
namespace Go.Proofs.YtmogbkgchhplkabDoor
open Go.RowKit

theorem ord_between : ∀ (x a b c : List UInt8), ordL (x ++ a) b ≤ 0 → ordL b (x ++ c) ≤ 0 → ∃ b', b = x ++ b' ∧ ordL b' c ≤ 0
  | [], _, b, _, _, h => ⟨b, rfl, h⟩
  | h :: x, a, [], c, h1, _ => by simp [ordL] at h1
  | h :: x, a, k :: b, c, h1, h2 => by
    rw [List.cons_append, ordL] at h1 h2
    by_cases e : h = k
    · subst e
      rw [if_pos rfl] at h1 h2
      obtain ⟨b', e1, e2⟩ := ord_between x a b c h1 h2
      exact ⟨b', by rw [e1]; rfl, e2⟩
    · rw [if_neg e] at h1
      rw [if_neg (fun x => e x.symm)] at h2
      have g1 := sg_le.1 h1
      have g2 := sg_le.1 h2
      exact absurd (rkL_inj (by omega)) e
theorem und_cases (x a : List UInt8) (h : x = [] ∨ cutL x <+: cutL a) : x = [] ∨ ∃ t, a = x ++ t ∧ (t = [] ∨ ∃ r, t = 47 :: r) := by
  rcases h with h | h
  · exact Or.inl h
  · right
    rcases (cut_pre x a).1 h with h | ⟨r, h⟩
    · exact ⟨[], by rw [h, List.append_nil], Or.inl rfl⟩
    · exact ⟨47 :: r, by rw [← h]; simp, Or.inr ⟨r, rfl⟩⟩
theorem low_slash {b c : List UInt8} (hc : c = [] ∨ ∃ r, c = 47 :: r) (h : ordL b c ≤ 0) : b = [] ∨ ∃ r, b = 47 :: r := by
  cases b with
  | nil => exact Or.inl rfl
  | cons k b =>
    rcases hc with rfl | ⟨r, rfl⟩
    · simp [ordL] at h
    · rw [ordL] at h
      by_cases e : k = 47
      · exact Or.inr ⟨b, by rw [e]⟩
      · rw [if_neg e] at h
        have := sg_le.1 h
        unfold rkL at this
        rw [if_neg e, if_pos rfl] at this
        omega
theorem together (x a b c : List UInt8) (ha : x = [] ∨ cutL x <+: cutL a) (hc : x = [] ∨ cutL x <+: cutL c) (h1 : ordL a b ≤ 0) (h2 : ordL b c ≤ 0) : x = [] ∨ cutL x <+: cutL b := by
  rcases und_cases x a ha with h | ⟨ta, rfl, hta⟩
  · exact Or.inl h
  rcases und_cases x c hc with h | ⟨tc, rfl, htc⟩
  · exact Or.inl h
  obtain ⟨tb, rfl, h3⟩ := ord_between x ta b tc h1 h2
  right
  rw [cut_pre]
  rcases low_slash htc h3 with rfl | ⟨r, rfl⟩
  · exact Or.inl (List.append_nil x).symm
  · exact Or.inr ⟨r, by simp⟩
theorem ord_ahead : ∀ (x t : List UInt8), t ≠ [] → ordL x (x ++ t) = -1
  | [], [], h => absurd rfl h
  | [], _ :: _, _ => rfl
  | k :: x, t, h => by rw [List.cons_append, ordL, if_pos rfl, ord_ahead x t h]
theorem behind (x a : List UInt8) (ha : x = [] ∨ cutL x <+: cutL a) (hne : a ≠ x) : ordL x a = -1 := by
  rcases und_cases x a ha with rfl | ⟨t, rfl, ht⟩
  · cases a with
    | nil => exact absurd rfl hne
    | cons _ _ => rfl
  · exact ord_ahead x t (fun e => hne (by rw [e, List.append_nil]))
set_option maxRecDepth 100000 in
set_option maxHeartbeats 16000000 in
theorem together_walk (x0 a0 b0 c0 : ByteArray) (put : Bool) (w : World) (hM : Mx w) : Calls Tryd.prog 3 #[.string x0, .string a0, .string b0, .string c0, .bool put] w fun e w' => e = .returned (.bool true) ∧ Below w.heap.size w w' := by
  have HCx := hide (cut_calls x0 w)
  have HCa := hide (cut_calls a0 w)
  have HCb := hide (cut_calls b0 w)
  have HCc := hide (cut_calls c0 w)
  have hx := cutS_le x0
  have ha := cutS_le a0
  have hb := cutS_le b0
  have hc := cutS_le c0
  generalize cutS x0 = x at *
  generalize cutS a0 = a at *
  generalize cutS b0 = b at *
  generalize cutS c0 = c at *
  have HT := hide (told_calls w hM)
  have HU : Hid (∀ (p q : ByteArray) W, Calls Tryd.prog 9 #[.string p, .string q] W fun e w' => e = .returned (.bool (undB p q)) ∧ w' = W) := under_calls
  have HO : Hid (∀ (p q : ByteArray), p.size ≤ 10000 → q.size ≤ 10000 → ∀ W, Calls Tryd.prog 10 #[.string p, .string q] W fun e w' => e = .returned (.int .i64 (ordS p q)) ∧ Below W.heap.size W w') := fun p q h1 h2 W => order_calls p q (by omega) (by omega) W
  clear hM
  cases put with
  | true =>
    have hp1 : undB x ((x ++ ⟨#[47]⟩) ++ a) = true := (und_L _ _).2 (Or.inr (by rw [toL_app, toL_app, cut_pre]; exact Or.inr ⟨toL a, rfl⟩))
    have hp2 : undB x ((x ++ ⟨#[47]⟩) ++ c) = true := (und_L _ _).2 (Or.inr (by rw [toL_app, toL_app, cut_pre]; exact Or.inr ⟨toL c, rfl⟩))
    have sa : ((x ++ ⟨#[47]⟩) ++ a).size ≤ 10000 := by rw [ByteArray.size_append, ByteArray.size_append]; show x.size + 1 + a.size ≤ _; omega
    have sc : ((x ++ ⟨#[47]⟩) ++ c).size ≤ 10000 := by rw [ByteArray.size_append, ByteArray.size_append]; show x.size + 1 + c.size ≤ _; omega
    obtain ⟨a2, ha2⟩ : ∃ a2, a2 = (x ++ ⟨#[47]⟩) ++ a := ⟨_, rfl⟩
    obtain ⟨c2, hc2⟩ : ∃ c2, c2 = (x ++ ⟨#[47]⟩) ++ c := ⟨_, rfl⟩
    rw [← ha2] at hp1 sa
    rw [← hc2] at hp2 sc
    have HA2 := hide ha2
    have HC2 := hide hc2
    clear ha2 hc2
    have HUa : Hid (∀ W, Calls Tryd.prog 9 #[.string x, .string a2] W fun e w' => e = .returned (.bool true) ∧ w' = W) := fun W => by
      rw [← hp1]; exact unhide HU x a2 W
    have HBE : Hid (¬ a2 = x → ordS x a2 = -1) := fun h => by
      rw [ordS_L]; exact behind _ _ ((und_L x a2).1 hp1) (fun e => h (toL_inj e))
    have HUc : Hid (∀ W, Calls Tryd.prog 9 #[.string x, .string c2] W fun e w' => e = .returned (.bool true) ∧ w' = W) := fun W => by
      rw [← hp2]; exact unhide HU x c2 W
    go_enter Tryd.func3, Tryd.ntmps3
    have HH := hide (unhide HCx)
    go_wp2_with fail
    refine (unhide HH).mono ?_
    rintro e wq ⟨rfl, hwq⟩
    obtain rfl := hwq.symm
    clear hwq HH
    have HH := hide (unhide HCa)
    go_wp2_with fail
    refine (unhide HH).mono ?_
    rintro e wq ⟨rfl, hwq⟩
    obtain rfl := hwq.symm
    clear hwq HH
    have HH := hide (unhide HCb)
    go_wp2_with fail
    refine (unhide HH).mono ?_
    rintro e wq ⟨rfl, hwq⟩
    obtain rfl := hwq.symm
    clear hwq HH
    have HH := hide (unhide HCc)
    go_wp2_with fail
    refine (unhide HH).mono ?_
    rintro e wq ⟨rfl, hwq⟩
    obtain rfl := hwq.symm
    clear hwq HH
    go_wp2_with fail
    refine (unhide HT).mono ?_
    rintro e w1 ⟨rfl, hA1⟩
    go_wp2_with fail
    rw [← HA2.out, ← HC2.out]
    refine (unhide HUa w1).mono ?_
    rintro e wq ⟨rfl, hwq⟩
    obtain rfl := hwq.symm
    clear hwq
    have HH := hide (unhide HUc w1)
    go_wp2_with fail
    refine (unhide HH).mono ?_
    rintro e wq ⟨rfl, hwq⟩
    obtain rfl := hwq.symm
    clear hwq HH
    have HOab := hide (unhide HO a2 b (by omega) (by omega))
    have HObc := hide (unhide HO b c2 (by omega) (by omega))
    have HTG : Hid (ordS a2 b ≤ 0 → ordS b c2 ≤ 0 → undB x b = true) := fun h1 h2 => (und_L x b).2 (together (toL x) (toL a2) (toL b) (toL c2) ((und_L x a2).1 hp1) ((und_L x c2).1 hp2) (by rw [← ordS_L]; exact h1) (by rw [← ordS_L]; exact h2))
    generalize ordS a2 b = o1 at *
    generalize ordS b c2 = o2 at *
    clear hp1 hp2
    have HH := hide (unhide HUa w1)
    go_wp2_with fail
    refine (unhide HH).mono ?_
    rintro e wq ⟨rfl, hwq⟩
    obtain rfl := hwq.symm
    clear hwq HH
    have HH := hide (unhide HUc w1)
    go_wp2_with fail
    refine (unhide HH).mono ?_
    rintro e wq ⟨rfl, hwq⟩
    obtain rfl := hwq.symm
    clear hwq HH
    by_cases h1 : o1 ≤ 0
    · have HH := hide (unhide HOab w1)
      go_wp2_with fail
      refine (unhide HH).mono ?_
      rintro e w2 ⟨rfl, hB2⟩
      have hA2 := hA1.trans (hB2.mono hA1.size)
      clear HH
      by_cases h2 : o2 ≤ 0
      · have HUb : Hid (∀ W, Calls Tryd.prog 9 #[.string x, .string b] W fun e w' => e = .returned (.bool true) ∧ w' = W) := fun W => by
          rw [← unhide HTG h1 h2]; exact unhide HU x b W
        have HH := hide (unhide HObc w2)
        go_wp2_with fail
        refine (unhide HH).mono ?_
        rintro e w3 ⟨rfl, hB3⟩
        have hA3 := hA2.trans (hB3.mono hA2.size)
        clear HH
        have HH := hide (unhide HUb w3)
        go_wp2_with fail
        refine (unhide HH).mono ?_
        rintro e wq ⟨rfl, hwq⟩
        obtain rfl := hwq.symm
        clear hwq HH
        have HH := hide (unhide HUa w3)
        go_wp2_with fail
        refine (unhide HH).mono ?_
        rintro e wq ⟨rfl, hwq⟩
        obtain rfl := hwq.symm
        clear hwq HH
        by_cases hax : a2 = x
        · have qx : (a2.toList == x.toList) = true := by rw [str_eq, decide_eq_true hax]
          clear hax
          go_wp2
          go_ret
          exact ⟨rfl, hA3⟩
        · have qx : (a2.toList == x.toList) = false := by rw [str_eq, decide_eq_false hax]
          have HXA : Hid (∀ W, Calls Tryd.prog 10 #[.string x, .string a2] W fun e w' => e = .returned (.int .i64 (-1)) ∧ Below W.heap.size W w') := fun W => by
            rw [← unhide HBE hax]; exact unhide HO x a2 (by omega) (by omega) W
          clear hax
          have HH := hide (unhide HXA w3)
          go_wp2_with fail
          refine (unhide HH).mono ?_
          rintro e w4 ⟨rfl, hB4⟩
          have hA4 := hA3.trans (hB4.mono hA3.size)
          clear HH
          go_wp2
          go_ret
          exact ⟨rfl, hA4⟩
      · have HH := hide (unhide HObc w2)
        go_wp2_with fail
        refine (unhide HH).mono ?_
        rintro e w3 ⟨rfl, hB3⟩
        have hA3 := hA2.trans (hB3.mono hA2.size)
        clear HH
        have HH := hide (unhide HUa w3)
        go_wp2_with fail
        refine (unhide HH).mono ?_
        rintro e wq ⟨rfl, hwq⟩
        obtain rfl := hwq.symm
        clear hwq HH
        by_cases hax : a2 = x
        · have qx : (a2.toList == x.toList) = true := by rw [str_eq, decide_eq_true hax]
          clear hax
          go_wp2
          go_ret
          exact ⟨rfl, hA3⟩
        · have qx : (a2.toList == x.toList) = false := by rw [str_eq, decide_eq_false hax]
          have HXA : Hid (∀ W, Calls Tryd.prog 10 #[.string x, .string a2] W fun e w' => e = .returned (.int .i64 (-1)) ∧ Below W.heap.size W w') := fun W => by
            rw [← unhide HBE hax]; exact unhide HO x a2 (by omega) (by omega) W
          clear hax
          have HH := hide (unhide HXA w3)
          go_wp2_with fail
          refine (unhide HH).mono ?_
          rintro e w4 ⟨rfl, hB4⟩
          have hA4 := hA3.trans (hB4.mono hA3.size)
          clear HH
          go_wp2
          go_ret
          exact ⟨rfl, hA4⟩
    · have HH := hide (unhide HOab w1)
      go_wp2_with fail
      refine (unhide HH).mono ?_
      rintro e w2 ⟨rfl, hB2⟩
      have hA2 := hA1.trans (hB2.mono hA1.size)
      clear HH
      have HH := hide (unhide HUa w2)
      go_wp2_with fail
      refine (unhide HH).mono ?_
      rintro e wq ⟨rfl, hwq⟩
      obtain rfl := hwq.symm
      clear hwq HH
      by_cases hax : a2 = x
      · have qx : (a2.toList == x.toList) = true := by rw [str_eq, decide_eq_true hax]
        clear hax
        go_wp2
        go_ret
        exact ⟨rfl, hA2⟩
      · have qx : (a2.toList == x.toList) = false := by rw [str_eq, decide_eq_false hax]
        have HXA : Hid (∀ W, Calls Tryd.prog 10 #[.string x, .string a2] W fun e w' => e = .returned (.int .i64 (-1)) ∧ Below W.heap.size W w') := fun W => by
          rw [← unhide HBE hax]; exact unhide HO x a2 (by omega) (by omega) W
        clear hax
        have HH := hide (unhide HXA w2)
        go_wp2_with fail
        refine (unhide HH).mono ?_
        rintro e w3 ⟨rfl, hB3⟩
        have hA3 := hA2.trans (hB3.mono hA2.size)
        clear HH
        go_wp2
        go_ret
        exact ⟨rfl, hA3⟩
  | false =>
    cases hp1 : undB x a with
    | false =>
      have HUa : Hid (∀ W, Calls Tryd.prog 9 #[.string x, .string a] W fun e w' => e = .returned (.bool false) ∧ w' = W) := fun W => by
        rw [← hp1]; exact unhide HU x a W
      clear hp1
      go_enter Tryd.func3, Tryd.ntmps3
      have HH := hide (unhide HCx)
      go_wp2_with fail
      refine (unhide HH).mono ?_
      rintro e wq ⟨rfl, hwq⟩
      obtain rfl := hwq.symm
      clear hwq HH
      have HH := hide (unhide HCa)
      go_wp2_with fail
      refine (unhide HH).mono ?_
      rintro e wq ⟨rfl, hwq⟩
      obtain rfl := hwq.symm
      clear hwq HH
      have HH := hide (unhide HCb)
      go_wp2_with fail
      refine (unhide HH).mono ?_
      rintro e wq ⟨rfl, hwq⟩
      obtain rfl := hwq.symm
      clear hwq HH
      have HH := hide (unhide HCc)
      go_wp2_with fail
      refine (unhide HH).mono ?_
      rintro e wq ⟨rfl, hwq⟩
      obtain rfl := hwq.symm
      clear hwq HH
      go_wp2_with fail
      refine (unhide HT).mono ?_
      rintro e w1 ⟨rfl, hA1⟩
      have HH := hide (unhide HUa w1)
      go_wp2_with fail
      refine (unhide HH).mono ?_
      rintro e wq ⟨rfl, hwq⟩
      obtain rfl := hwq.symm
      clear hwq HH
      have HH := hide (unhide HUa w1)
      go_wp2_with fail
      refine (unhide HH).mono ?_
      rintro e wq ⟨rfl, hwq⟩
      obtain rfl := hwq.symm
      clear hwq HH
      go_wp2
      go_ret
      exact ⟨rfl, hA1⟩
    | true =>
      cases hp2 : undB x c with
      | false =>
        have HUa : Hid (∀ W, Calls Tryd.prog 9 #[.string x, .string a] W fun e w' => e = .returned (.bool true) ∧ w' = W) := fun W => by
          rw [← hp1]; exact unhide HU x a W
        have HBE : Hid (¬ a = x → ordS x a = -1) := fun h => by
          rw [ordS_L]; exact behind _ _ ((und_L x a).1 hp1) (fun e => h (toL_inj e))
        have HUc : Hid (∀ W, Calls Tryd.prog 9 #[.string x, .string c] W fun e w' => e = .returned (.bool false) ∧ w' = W) := fun W => by
          rw [← hp2]; exact unhide HU x c W
        clear hp1 hp2
        go_enter Tryd.func3, Tryd.ntmps3
        have HH := hide (unhide HCx)
        go_wp2_with fail
        refine (unhide HH).mono ?_
        rintro e wq ⟨rfl, hwq⟩
        obtain rfl := hwq.symm
        clear hwq HH
        have HH := hide (unhide HCa)
        go_wp2_with fail
        refine (unhide HH).mono ?_
        rintro e wq ⟨rfl, hwq⟩
        obtain rfl := hwq.symm
        clear hwq HH
        have HH := hide (unhide HCb)
        go_wp2_with fail
        refine (unhide HH).mono ?_
        rintro e wq ⟨rfl, hwq⟩
        obtain rfl := hwq.symm
        clear hwq HH
        have HH := hide (unhide HCc)
        go_wp2_with fail
        refine (unhide HH).mono ?_
        rintro e wq ⟨rfl, hwq⟩
        obtain rfl := hwq.symm
        clear hwq HH
        go_wp2_with fail
        refine (unhide HT).mono ?_
        rintro e w1 ⟨rfl, hA1⟩
        have HH := hide (unhide HUa w1)
        go_wp2_with fail
        refine (unhide HH).mono ?_
        rintro e wq ⟨rfl, hwq⟩
        obtain rfl := hwq.symm
        clear hwq HH
        have HH := hide (unhide HUc w1)
        go_wp2_with fail
        refine (unhide HH).mono ?_
        rintro e wq ⟨rfl, hwq⟩
        obtain rfl := hwq.symm
        clear hwq HH
        have HH := hide (unhide HUa w1)
        go_wp2_with fail
        refine (unhide HH).mono ?_
        rintro e wq ⟨rfl, hwq⟩
        obtain rfl := hwq.symm
        clear hwq HH
        by_cases hax : a = x
        · have qx : (a.toList == x.toList) = true := by rw [str_eq, decide_eq_true hax]
          clear hax
          go_wp2
          go_ret
          exact ⟨rfl, hA1⟩
        · have qx : (a.toList == x.toList) = false := by rw [str_eq, decide_eq_false hax]
          have HXA : Hid (∀ W, Calls Tryd.prog 10 #[.string x, .string a] W fun e w' => e = .returned (.int .i64 (-1)) ∧ Below W.heap.size W w') := fun W => by
            rw [← unhide HBE hax]; exact unhide HO x a (by omega) (by omega) W
          clear hax
          have HH := hide (unhide HXA w1)
          go_wp2_with fail
          refine (unhide HH).mono ?_
          rintro e w2 ⟨rfl, hB2⟩
          have hA2 := hA1.trans (hB2.mono hA1.size)
          clear HH
          go_wp2
          go_ret
          exact ⟨rfl, hA2⟩
      | true =>
        have HUa : Hid (∀ W, Calls Tryd.prog 9 #[.string x, .string a] W fun e w' => e = .returned (.bool true) ∧ w' = W) := fun W => by
          rw [← hp1]; exact unhide HU x a W
        have HBE : Hid (¬ a = x → ordS x a = -1) := fun h => by
          rw [ordS_L]; exact behind _ _ ((und_L x a).1 hp1) (fun e => h (toL_inj e))
        have HUc : Hid (∀ W, Calls Tryd.prog 9 #[.string x, .string c] W fun e w' => e = .returned (.bool true) ∧ w' = W) := fun W => by
          rw [← hp2]; exact unhide HU x c W
        go_enter Tryd.func3, Tryd.ntmps3
        have HH := hide (unhide HCx)
        go_wp2_with fail
        refine (unhide HH).mono ?_
        rintro e wq ⟨rfl, hwq⟩
        obtain rfl := hwq.symm
        clear hwq HH
        have HH := hide (unhide HCa)
        go_wp2_with fail
        refine (unhide HH).mono ?_
        rintro e wq ⟨rfl, hwq⟩
        obtain rfl := hwq.symm
        clear hwq HH
        have HH := hide (unhide HCb)
        go_wp2_with fail
        refine (unhide HH).mono ?_
        rintro e wq ⟨rfl, hwq⟩
        obtain rfl := hwq.symm
        clear hwq HH
        have HH := hide (unhide HCc)
        go_wp2_with fail
        refine (unhide HH).mono ?_
        rintro e wq ⟨rfl, hwq⟩
        obtain rfl := hwq.symm
        clear hwq HH
        go_wp2_with fail
        refine (unhide HT).mono ?_
        rintro e w1 ⟨rfl, hA1⟩
        have HOab := hide (unhide HO a b (by omega) (by omega))
        have HObc := hide (unhide HO b c (by omega) (by omega))
        have HTG : Hid (ordS a b ≤ 0 → ordS b c ≤ 0 → undB x b = true) := fun h1 h2 => (und_L x b).2 (together (toL x) (toL a) (toL b) (toL c) ((und_L x a).1 hp1) ((und_L x c).1 hp2) (by rw [← ordS_L]; exact h1) (by rw [← ordS_L]; exact h2))
        generalize ordS a b = o1 at *
        generalize ordS b c = o2 at *
        clear hp1 hp2
        have HH := hide (unhide HUa w1)
        go_wp2_with fail
        refine (unhide HH).mono ?_
        rintro e wq ⟨rfl, hwq⟩
        obtain rfl := hwq.symm
        clear hwq HH
        have HH := hide (unhide HUc w1)
        go_wp2_with fail
        refine (unhide HH).mono ?_
        rintro e wq ⟨rfl, hwq⟩
        obtain rfl := hwq.symm
        clear hwq HH
        by_cases h1 : o1 ≤ 0
        · have HH := hide (unhide HOab w1)
          go_wp2_with fail
          refine (unhide HH).mono ?_
          rintro e w2 ⟨rfl, hB2⟩
          have hA2 := hA1.trans (hB2.mono hA1.size)
          clear HH
          by_cases h2 : o2 ≤ 0
          · have HUb : Hid (∀ W, Calls Tryd.prog 9 #[.string x, .string b] W fun e w' => e = .returned (.bool true) ∧ w' = W) := fun W => by
              rw [← unhide HTG h1 h2]; exact unhide HU x b W
            have HH := hide (unhide HObc w2)
            go_wp2_with fail
            refine (unhide HH).mono ?_
            rintro e w3 ⟨rfl, hB3⟩
            have hA3 := hA2.trans (hB3.mono hA2.size)
            clear HH
            have HH := hide (unhide HUb w3)
            go_wp2_with fail
            refine (unhide HH).mono ?_
            rintro e wq ⟨rfl, hwq⟩
            obtain rfl := hwq.symm
            clear hwq HH
            have HH := hide (unhide HUa w3)
            go_wp2_with fail
            refine (unhide HH).mono ?_
            rintro e wq ⟨rfl, hwq⟩
            obtain rfl := hwq.symm
            clear hwq HH
            by_cases hax : a = x
            · have qx : (a.toList == x.toList) = true := by rw [str_eq, decide_eq_true hax]
              clear hax
              go_wp2
              go_ret
              exact ⟨rfl, hA3⟩
            · have qx : (a.toList == x.toList) = false := by rw [str_eq, decide_eq_false hax]
              have HXA : Hid (∀ W, Calls Tryd.prog 10 #[.string x, .string a] W fun e w' => e = .returned (.int .i64 (-1)) ∧ Below W.heap.size W w') := fun W => by
                rw [← unhide HBE hax]; exact unhide HO x a (by omega) (by omega) W
              clear hax
              have HH := hide (unhide HXA w3)
              go_wp2_with fail
              refine (unhide HH).mono ?_
              rintro e w4 ⟨rfl, hB4⟩
              have hA4 := hA3.trans (hB4.mono hA3.size)
              clear HH
              go_wp2
              go_ret
              exact ⟨rfl, hA4⟩
          · have HH := hide (unhide HObc w2)
            go_wp2_with fail
            refine (unhide HH).mono ?_
            rintro e w3 ⟨rfl, hB3⟩
            have hA3 := hA2.trans (hB3.mono hA2.size)
            clear HH
            have HH := hide (unhide HUa w3)
            go_wp2_with fail
            refine (unhide HH).mono ?_
            rintro e wq ⟨rfl, hwq⟩
            obtain rfl := hwq.symm
            clear hwq HH
            by_cases hax : a = x
            · have qx : (a.toList == x.toList) = true := by rw [str_eq, decide_eq_true hax]
              clear hax
              go_wp2
              go_ret
              exact ⟨rfl, hA3⟩
            · have qx : (a.toList == x.toList) = false := by rw [str_eq, decide_eq_false hax]
              have HXA : Hid (∀ W, Calls Tryd.prog 10 #[.string x, .string a] W fun e w' => e = .returned (.int .i64 (-1)) ∧ Below W.heap.size W w') := fun W => by
                rw [← unhide HBE hax]; exact unhide HO x a (by omega) (by omega) W
              clear hax
              have HH := hide (unhide HXA w3)
              go_wp2_with fail
              refine (unhide HH).mono ?_
              rintro e w4 ⟨rfl, hB4⟩
              have hA4 := hA3.trans (hB4.mono hA3.size)
              clear HH
              go_wp2
              go_ret
              exact ⟨rfl, hA4⟩
        · have HH := hide (unhide HOab w1)
          go_wp2_with fail
          refine (unhide HH).mono ?_
          rintro e w2 ⟨rfl, hB2⟩
          have hA2 := hA1.trans (hB2.mono hA1.size)
          clear HH
          have HH := hide (unhide HUa w2)
          go_wp2_with fail
          refine (unhide HH).mono ?_
          rintro e wq ⟨rfl, hwq⟩
          obtain rfl := hwq.symm
          clear hwq HH
          by_cases hax : a = x
          · have qx : (a.toList == x.toList) = true := by rw [str_eq, decide_eq_true hax]
            clear hax
            go_wp2
            go_ret
            exact ⟨rfl, hA2⟩
          · have qx : (a.toList == x.toList) = false := by rw [str_eq, decide_eq_false hax]
            have HXA : Hid (∀ W, Calls Tryd.prog 10 #[.string x, .string a] W fun e w' => e = .returned (.int .i64 (-1)) ∧ Below W.heap.size W w') := fun W => by
              rw [← unhide HBE hax]; exact unhide HO x a (by omega) (by omega) W
            clear hax
            have HH := hide (unhide HXA w2)
            go_wp2_with fail
            refine (unhide HH).mono ?_
            rintro e w3 ⟨rfl, hB3⟩
            have hA3 := hA2.trans (hB3.mono hA2.size)
            clear HH
            go_wp2
            go_ret
            exact ⟨rfl, hA3⟩
end Go.Proofs.YtmogbkgchhplkabDoor

/- The program's reader of tokens in memory: demand, next, word, sign, stands, more. Paths none of which lies under another one, in their order, in plain terms: where one may join them. The document's Has and Clashes over lists of texts. -/
import Derived.Test.YtfhfobikbfbajaaGreatDoorTAE
import Derived.Test.YtfhfobikbfbajaaGreatDoorTAP
import Derived.Tactics2
import Derived.Deep.CutRange
import Derived.Test.YtfhfobikbfbajaaGreatDoorTAO
namespace Go.Proofs.YtfhfobikbfbajaaGreatDoor
open Go.RowKit Go.Maps

theorem pgrown_put (W : World) (g j : Nat) (v : Value) : W.grownBy (W.setCell ⟨g, j, none⟩ v) (some g) :=
  ⟨rfl, rfl, rfl, by simp, fun k _ hne => Below.heap_setCell W ⟨g, j, none⟩ v k (fun e => hne (by rw [e]))⟩
end Go.Proofs.YtfhfobikbfbajaaGreatDoor

namespace Go.Proofs.YtfhfobikbfbajaaGreatDoor
open Go.RowKit

theorem qord_between : ∀ (x a b c : List UInt8), ordL (x ++ a) b ≤ 0 → ordL b (x ++ c) ≤ 0 → ∃ b', b = x ++ b' ∧ ordL b' c ≤ 0
  | [], _, b, _, _, h => ⟨b, rfl, h⟩
  | h :: x, a, [], c, h1, _ => by simp [ordL] at h1
  | h :: x, a, k :: b, c, h1, h2 => by
    rw [List.cons_append, ordL] at h1 h2
    by_cases e : h = k
    · subst e
      rw [if_pos rfl] at h1 h2
      obtain ⟨b', e1, e2⟩ := qord_between x a b c h1 h2
      exact ⟨b', by rw [e1]; rfl, e2⟩
    · rw [if_neg e] at h1
      rw [if_neg (fun x => e x.symm)] at h2
      have g1 := sg_le.1 h1
      have g2 := sg_le.1 h2
      exact absurd (rkL_inj (by omega)) e
theorem qund_cases (x a : List UInt8) (h : x = [] ∨ cutL x <+: cutL a) : x = [] ∨ ∃ t, a = x ++ t ∧ (t = [] ∨ ∃ r, t = 47 :: r) := by
  rcases h with h | h
  · exact Or.inl h
  · right
    rcases (cut_pre x a).1 h with h | ⟨r, h⟩
    · exact ⟨[], by rw [h, List.append_nil], Or.inl rfl⟩
    · exact ⟨47 :: r, by rw [← h]; simp, Or.inr ⟨r, rfl⟩⟩
theorem qlow_slash {b c : List UInt8} (hc : c = [] ∨ ∃ r, c = 47 :: r) (h : ordL b c ≤ 0) : b = [] ∨ ∃ r, b = 47 :: r := by
  cases b with
  | nil => exact Or.inl rfl
  | cons k b =>
    rcases hc with rfl | ⟨r, rfl⟩
    · simp [ordL] at h
    · rw [ordL] at h
      by_cases e : k = 47
      · exact Or.inr ⟨b, by rw [e]⟩
      · rw [if_neg e] at h
        have := sg_le.1 h
        unfold rkL at this
        rw [if_neg e, if_pos rfl] at this
        omega
theorem qtogether (x a b c : List UInt8) (ha : x = [] ∨ cutL x <+: cutL a) (hc : x = [] ∨ cutL x <+: cutL c) (h1 : ordL a b ≤ 0) (h2 : ordL b c ≤ 0) : x = [] ∨ cutL x <+: cutL b := by
  rcases qund_cases x a ha with h | ⟨ta, rfl, hta⟩
  · exact Or.inl h
  rcases qund_cases x c hc with h | ⟨tc, rfl, htc⟩
  · exact Or.inl h
  obtain ⟨tb, rfl, h3⟩ := qord_between x ta b tc h1 h2
  right
  rw [cut_pre]
  rcases qlow_slash htc h3 with rfl | ⟨r, rfl⟩
  · exact Or.inl (List.append_nil x).symm
  · exact Or.inr ⟨r, by simp⟩
theorem qord_ahead : ∀ (x t : List UInt8), t ≠ [] → ordL x (x ++ t) = -1
  | [], [], h => absurd rfl h
  | [], _ :: _, _ => rfl
  | k :: x, t, h => by rw [List.cons_append, ordL, if_pos rfl, qord_ahead x t h]
theorem qbehind (x a : List UInt8) (ha : x = [] ∨ cutL x <+: cutL a) (hne : a ≠ x) : ordL x a = -1 := by
  rcases qund_cases x a ha with rfl | ⟨t, rfl, ht⟩
  · cases a with
    | nil => exact absurd rfl hne
    | cons _ _ => rfl
  · exact qord_ahead x t (fun e => hne (by rw [e, List.append_nil]))
theorem qord_neg (a b : ByteArray) : ordS b a = - ordS a b := by rw [ordS_L, ordS_L, ordL_neg]
theorem qord_self (a : ByteArray) : ordS a a = 0 := by rw [ordS_L, ordL_self]
theorem qord_zero (a b : ByteArray) : ordS a b = 0 ↔ a = b := ⟨fun h => toL_inj (ordL_zero _ _ (by rw [← ordS_L]; exact h)), fun h => by rw [h, qord_self]⟩
theorem qord_bd (a b : ByteArray) : -1 ≤ ordS a b ∧ ordS a b ≤ 1 := by rw [ordS_L]; exact ordL_bd _ _
theorem qord_trans (a b c : ByteArray) (h1 : ordS a b ≤ 0) (h2 : ordS b c ≤ 0) : ordS a c ≤ 0 ∧ (ordS a c = 0 → ordS a b = 0 ∧ ordS b c = 0) := by
  rw [ordS_L] at h1 h2
  rw [ordS_L, ordS_L, ordS_L]
  exact ordL_trans _ _ _ h1 h2
/-- Does it lie under one of them, or one of them under it? -/
def clB (md : List ByteArray) (p : ByteArray) : Bool := md.any fun x => undB x p || undB p x
theorem clB_iff {md : List ByteArray} {p : ByteArray} : clB md p = true ↔ ∃ x ∈ md, undB x p = true ∨ undB p x = true := by
  unfold clB
  rw [List.any_eq_true]
  simp only [Bool.or_eq_true]
theorem clB_mem {a b : List ByteArray} (h : ∀ x, x ∈ a ↔ x ∈ b) (p : ByteArray) : clB a p = clB b p := by
  rw [Bool.eq_iff_iff, clB_iff, clB_iff]
  exact ⟨fun ⟨x, hx, k⟩ => ⟨x, (h x).1 hx, k⟩, fun ⟨x, hx, k⟩ => ⟨x, (h x).2 hx, k⟩⟩
/-- Paths that rise, none under another one. -/
structure Apt (sl : List ByteArray) : Prop where
  ne : ∀ x ∈ sl, toL x ≠ []
  up : ∀ i j, i < j → j < sl.length → ordS (sl.getD i default) (sl.getD j default) < 0
  no : ∀ i j, i < sl.length → j < sl.length → i ≠ j → undB (sl.getD i default) (sl.getD j default) = false
theorem Apt.nil : Apt [] := ⟨fun x hx => by simp at hx, fun _ _ _ h => by simp at h, fun _ _ h => by simp at h⟩
theorem getS {l : List ByteArray} {i : Nat} (h : i < l.length) : l.getD i default ∈ l := by
  rw [List.getD_eq_getElem?_getD, List.getElem?_eq_getElem h]
  exact List.getElem_mem h
theorem memS {l : List ByteArray} {x : ByteArray} (h : x ∈ l) : ∃ i, i < l.length ∧ l.getD i default = x := by
  obtain ⟨i, hi, e⟩ := List.getElem_of_mem h
  exact ⟨i, hi, by rw [List.getD_eq_getElem?_getD, List.getElem?_eq_getElem hi]; exact e⟩
theorem und_self (a : ByteArray) : undB a a = true := (und_L a a).2 (Or.inr (List.prefix_refl _))
/-- Where it would stand: what is ahead is below it, what is behind isn't. -/
def Spl (sl : List ByteArray) (p : ByteArray) (i : Nat) : Prop := i ≤ sl.length ∧ (∀ k, k < i → ordS (sl.getD k default) p < 0) ∧ (∀ k, i ≤ k → k < sl.length → 0 ≤ ordS (sl.getD k default) p)
/-- Whatever is in the way is a neighbour. -/
theorem Apt.clash {sl : List ByteArray} (h : Apt sl) {p : ByteArray} (_hp : toL p ≠ []) {i : Nat} (hs : Spl sl p i) : clB sl p = ((decide (0 < i) && undB (sl.getD (i - 1) default) p) || (decide (i < sl.length) && undB p (sl.getD i default))) := by
  obtain ⟨hi, h1, h2⟩ := hs
  rw [Bool.eq_iff_iff, clB_iff]
  simp only [Bool.or_eq_true, Bool.and_eq_true, decide_eq_true_eq]
  constructor
  · rintro ⟨x, hx, hu⟩
    obtain ⟨j, hj, rfl⟩ := memS hx
    by_cases e : sl.getD j default = p
    · right
      have hij : i ≤ j := by
        rcases Nat.lt_or_ge j i with q | q
        · have := h1 j q
          rw [e, qord_self] at this
          omega
        · exact q
      refine ⟨by omega, ?_⟩
      by_cases eij : i = j
      · rw [eij, e]; exact und_self p
      · exfalso
        have a1 := h.up i j (by omega) hj
        rw [e] at a1
        have := h2 i (Nat.le_refl _) (by omega)
        omega
    · rcases hu with hu | hu
      · left
        have hb := qbehind (toL (sl.getD j default)) (toL p) ((und_L _ _).1 hu) (fun q => e (toL_inj q).symm)
        rw [← ordS_L] at hb
        have hji : j < i := by
          rcases Nat.lt_or_ge j i with q | q
          · exact q
          · have := h2 j q hj; omega
        refine ⟨by omega, ?_⟩
        have hy := h1 (i - 1) (by omega)
        by_cases ej : j = i - 1
        · rw [← ej]; exact hu
        · exfalso
          have hxy := h.up j (i - 1) (by omega) (by omega)
          have := qtogether (toL (sl.getD j default)) (toL (sl.getD j default)) (toL (sl.getD (i - 1) default)) (toL p) (Or.inr (List.prefix_refl _)) ((und_L _ _).1 hu) (by rw [← ordS_L]; omega) (by rw [← ordS_L]; omega)
          have h3 := h.no j (i - 1) hj (by omega) ej
          rw [(und_L _ _).2 this] at h3
          cases h3
      · right
        have hb := qbehind (toL p) (toL (sl.getD j default)) ((und_L _ _).1 hu) (fun q => e (toL_inj q))
        rw [← ordS_L, qord_neg] at hb
        have hij : i ≤ j := by
          rcases Nat.lt_or_ge j i with q | q
          · have := h1 j q; omega
          · exact q
        refine ⟨by omega, ?_⟩
        by_cases ej : i = j
        · rw [ej]; exact hu
        · have hy := h2 i (Nat.le_refl _) (by omega)
          have hyx := h.up i j (by omega) hj
          have := qtogether (toL p) (toL p) (toL (sl.getD i default)) (toL (sl.getD j default)) (Or.inr (List.prefix_refl _)) ((und_L _ _).1 hu) (by rw [← ordS_L, qord_neg]; omega) (by rw [← ordS_L]; omega)
          exact (und_L _ _).2 this
  · rintro (⟨h0, hu⟩ | ⟨h0, hu⟩)
    · exact ⟨_, getS (by omega), Or.inl hu⟩
    · exact ⟨_, getS h0, Or.inr hu⟩
/-- It has joined them. -/
def insL (sl : List ByteArray) (p : ByteArray) (i : Nat) : List ByteArray := sl.take i ++ p :: sl.drop i
theorem insL_len {sl : List ByteArray} {p : ByteArray} {i : Nat} (hi : i ≤ sl.length) : (insL sl p i).length = sl.length + 1 := by
  unfold insL
  rw [List.length_append, List.length_cons, List.length_take, List.length_drop]
  omega
theorem insL_mem {sl : List ByteArray} {p : ByteArray} {i : Nat} (x : ByteArray) : x ∈ insL sl p i ↔ x ∈ sl ++ [p] := by
  unfold insL
  rw [List.mem_append, List.mem_cons, List.mem_append, List.mem_singleton]
  have : x ∈ sl ↔ x ∈ sl.take i ∨ x ∈ sl.drop i := by rw [← List.mem_append, List.take_append_drop]
  rw [this]
  constructor
  · rintro (h | h | h)
    · exact Or.inl (Or.inl h)
    · exact Or.inr h
    · exact Or.inl (Or.inr h)
  · rintro ((h | h) | h)
    · exact Or.inl h
    · exact Or.inr (Or.inr h)
    · exact Or.inr (Or.inl h)
theorem insL_at {sl : List ByteArray} {p : ByteArray} {i j : Nat} (hi : i ≤ sl.length) : (insL sl p i).getD j default = if j < i then sl.getD j default else if j = i then p else sl.getD (j - 1) default := by
  unfold insL
  rw [List.getD_eq_getElem?_getD]
  have hl : (sl.take i).length = i := by rw [List.length_take]; omega
  by_cases h : j < i
  · rw [if_pos h, List.getElem?_append_left (by omega), List.getElem?_take_of_lt h, List.getD_eq_getElem?_getD]
  · rw [if_neg h, List.getElem?_append_right (by omega), hl]
    by_cases e : j = i
    · rw [if_pos e, e, Nat.sub_self]
      rfl
    · rw [if_neg e, List.getD_eq_getElem?_getD, show j - i = (j - 1 - i) + 1 by omega, List.getElem?_cons_succ, List.getElem?_drop, show i + (j - 1 - i) = j - 1 by omega]
theorem Apt.ins {sl : List ByteArray} (h : Apt sl) {p : ByteArray} (hp : toL p ≠ []) {i : Nat} (hs : Spl sl p i) (hc : clB sl p = false) : Apt (insL sl p i) := by
  obtain ⟨hi, h1, h2⟩ := hs
  have hn : ∀ x ∈ sl, undB x p = false ∧ undB p x = false := fun x hx => by
    have hq : ¬ clB sl p = true := by rw [hc]; decide
    rw [clB_iff] at hq
    exact ⟨by by_cases e : undB x p = true
              · exact absurd ⟨x, hx, Or.inl e⟩ hq
              · simpa using e,
           by by_cases e : undB p x = true
              · exact absurd ⟨x, hx, Or.inr e⟩ hq
              · simpa using e⟩
  refine ⟨fun x hx => ?_, fun a b hab hb => ?_, fun a b ha hb hne => ?_⟩
  · rcases List.mem_append.1 ((insL_mem x).1 hx) with q | q
    · exact h.ne x q
    · rw [List.mem_singleton.1 q]; exact hp
  · rw [insL_len hi] at hb
    rw [insL_at hi, insL_at hi]
    by_cases ha1 : a < i
    · rw [if_pos ha1]
      by_cases hb1 : b < i
      · rw [if_pos hb1]; exact h.up a b hab (by omega)
      · rw [if_neg hb1]
        by_cases hb2 : b = i
        · rw [if_pos hb2]; exact h1 a ha1
        · rw [if_neg hb2]; exact h.up a (b - 1) (by omega) (by omega)
    · have hb1 : ¬ b < i := by omega
      have hb2 : ¬ b = i := by omega
      rw [if_neg ha1, if_neg hb1, if_neg hb2]
      by_cases ha2 : a = i
      · rw [if_pos ha2]
        have q1 := h2 (b - 1) (by omega) (by omega)
        have q2 := qord_neg (sl.getD (b - 1) default) p
        have q3 : ordS (sl.getD (b - 1) default) p ≠ 0 := fun e => by
          have e1 := (qord_zero _ _).1 e
          have := (hn _ (getS (l := sl) (i := b - 1) (by omega))).1
          rw [e1, und_self] at this
          cases this
        omega
      · rw [if_neg ha2]; exact h.up (a - 1) (b - 1) (by omega) (by omega)
  · rw [insL_len hi] at ha hb
    rw [insL_at hi, insL_at hi]
    by_cases ha1 : a < i
    · rw [if_pos ha1]
      by_cases hb1 : b < i
      · rw [if_pos hb1]; exact h.no a b (by omega) (by omega) hne
      · rw [if_neg hb1]
        by_cases hb2 : b = i
        · rw [if_pos hb2]; exact (hn _ (getS (by omega))).1
        · rw [if_neg hb2]; exact h.no a (b - 1) (by omega) (by omega) (by omega)
    · rw [if_neg ha1]
      by_cases ha2 : a = i
      · rw [if_pos ha2]
        by_cases hb1 : b < i
        · rw [if_pos hb1]; exact (hn _ (getS (by omega))).2
        · rw [if_neg hb1, if_neg (by omega)]; exact (hn _ (getS (by omega))).2
      · rw [if_neg ha2]
        by_cases hb1 : b < i
        · rw [if_pos hb1]; exact h.no (a - 1) b (by omega) (by omega) (by omega)
        · rw [if_neg hb1]
          by_cases hb2 : b = i
          · rw [if_pos hb2]; exact (hn _ (getS (by omega))).1
          · rw [if_neg hb2]; exact h.no (a - 1) (b - 1) (by omega) (by omega) (by omega)
end Go.Proofs.YtfhfobikbfbajaaGreatDoor

namespace Go.Proofs.YtfhfobikbfbajaaGreatDoor
open Go.RowKit

set_option maxRecDepth 100000 in
set_option maxHeartbeats 4000000 in
theorem dhas_calls {v : Value} {l : List ByteArray} {w : World} (h : IsS w v l) (s : ByteArray) : Calls Tryz.prog 42 #[v, .string s] w fun e w' => e = .returned (.bool (hasB l s)) ∧ Below w.heap.size w w' := by
  obtain ⟨a, c, rfl, hl, hm, hz, hc⟩ := h
  have HC := hide hc
  obtain ⟨n, hn⟩ : ∃ n, n = l.length := ⟨_, rfl⟩
  rw [← hn] at hl
  have HN := hide hn
  rw [← hn]
  obtain ⟨q, hq⟩ : ∃ q, q = hasB l s := ⟨_, rfl⟩
  rw [← hq]
  have HQ := hide hq
  clear hn hq hc hz
  go_enter Tryz.func42, Tryz.ntmps42
  go_wp2_with fail
  go_loopw [5] (fun iv W => ∃ (j : Nat), j ≤ n ∧ iv = .int .i64 (j : Int) ∧ Below w.heap.size w W ∧ Hid (∀ k, k < j → l.getD k default ≠ s)) (fun i _ => n - (intOf i).toNat)
  case atStart => exact ⟨0, by omega, rfl, Below.refl _ _, fun k hk => absurd hk (by omega)⟩
  case round =>
    obtain ⟨j, hjn, rfl, hbw, HJ⟩ := hrel
    by_cases hlt : j < n
    · obtain ⟨b1, o1, rfl, hc1⟩ := unhide HC (by rw [← HN.out]; omega)
      have hx := hc1 j (by rw [← HN.out]; exact hlt)
      have hx2 := (hbw.cell (p := ⟨b1, o1 + j, none⟩) (World.block_lt_of_cell? w _ hx)).trans hx
      have hlti : (j : Int) < (n : Int) := by omega
      obtain ⟨x, hxe⟩ : ∃ x, x = l.getD j default := ⟨_, rfl⟩
      rw [← hxe] at hx hx2
      have HX := hide hxe
      clear hxe hx hc1
      by_cases hxy : x = s
      · have HE : Hid (q = true) := hide (by rw [HQ.out]; exact hasB_yes (by rw [← HN.out]; exact hlt) (by rw [← HX.out, hxy]))
        have hne : (x.toList == s.toList) = true := by rw [str_eq, decide_eq_true hxy]
        clear hxy
        go_wp2
        go_ret
        exact ⟨by rw [HE.out]; rfl, hbw⟩
      · have HJ2 : Hid (∀ k, k < j + 1 → l.getD k default ≠ s) := fun k hk => by
          by_cases e : k = j
          · subst e; rw [← HX.out]; exact fun e => hxy e
          · exact unhide HJ k (by omega)
        have hne : (x.toList == s.toList) = false := by rw [str_eq, decide_eq_false hxy]
        clear hxy
        go_wp2
        exact ⟨⟨j + 1, by omega, by go_num, hbw, HJ2⟩, by simp [intOf]; omega⟩
    · have HE : Hid (q = false) := hide (by rw [HQ.out]; exact hasB_no fun k hk => unhide HJ k (by rw [← HN.out] at hk; omega))
      go_wp2
      go_ret
      exact ⟨by rw [HE.out]; rfl, hbw⟩
/-- All its texts are so long at most. -/
def ShS (l : List ByteArray) : Prop := ∀ x ∈ l, x.size ≤ 100000
set_option maxRecDepth 100000 in
set_option maxHeartbeats 4000000 in
theorem dclash_calls {v : Value} {l : List ByteArray} {w : World} (h : IsS w v l) (hsz : ShS l) (s : ByteArray) (hs : s.size ≤ 100000) : Calls Tryz.prog 68 #[v, .string s] w fun e w' => e = .returned (.bool (clB l s)) ∧ Below w.heap.size w w' := by
  obtain ⟨a, c, rfl, hl, hm, hz, hc⟩ := h
  have HC := hide hc
  have HU : Hid (∀ x y : ByteArray, x.size ≤ 100000 → y.size ≤ 100000 → ∀ W, Calls Tryz.prog 108 #[.string x, .string y] W fun e w' => e = .returned (.bool (undB x y)) ∧ Below W.heap.size W w') := hide (fun x y hx hy W => runder_calls x y hx hy W)
  have HSZ := hide hsz
  have HS := hide hs
  obtain ⟨n, hn⟩ : ∃ n, n = l.length := ⟨_, rfl⟩
  rw [← hn] at hl
  have HN := hide hn
  rw [← hn]
  obtain ⟨q, hq⟩ : ∃ q, q = clB l s := ⟨_, rfl⟩
  rw [← hq]
  have HQ := hide hq
  clear hn hq hc hz hsz hs
  go_enter Tryz.func68, Tryz.ntmps68
  go_wp2_with fail
  go_loopw [5] (fun iv W => ∃ (j : Nat), j ≤ n ∧ iv = .int .i64 (j : Int) ∧ Below w.heap.size w W ∧ Hid (∀ k, k < j → undB (l.getD k default) s = false ∧ undB s (l.getD k default) = false)) (fun i _ => n - (intOf i).toNat)
  case atStart => exact ⟨0, by omega, rfl, Below.refl _ _, fun k hk => absurd hk (by omega)⟩
  case round =>
    obtain ⟨j, hjn, rfl, hbw, HJ⟩ := hrel
    by_cases hlt : j < n
    · obtain ⟨b1, o1, rfl, hc1⟩ := unhide HC (by rw [← HN.out]; omega)
      have hx := hc1 j (by rw [← HN.out]; exact hlt)
      have hx2 := (hbw.cell (p := ⟨b1, o1 + j, none⟩) (World.block_lt_of_cell? w _ hx)).trans hx
      have hlti : (j : Int) < (n : Int) := by omega
      obtain ⟨x, hxe⟩ : ∃ x, x = l.getD j default := ⟨_, rfl⟩
      rw [← hxe] at hx hx2
      have HX := hide hxe
      have HXS : Hid (x.size ≤ 100000) := hide (by rw [hxe]; exact HSZ.out _ (getS (by rw [← HN.out]; exact hlt)))
      have HU1 : Hid (∀ W, Calls Tryz.prog 108 #[.string x, .string s] W fun e w' => e = .returned (.bool (undB x s)) ∧ Below W.heap.size W w') := hide (fun W => unhide HU x s HXS.out HS.out W)
      have HU2 : Hid (∀ W, Calls Tryz.prog 108 #[.string s, .string x] W fun e w' => e = .returned (.bool (undB s x)) ∧ Below W.heap.size W w') := hide (fun W => unhide HU s x HS.out HXS.out W)
      have HB := hide hbw
      have HXW := hide hx
      clear hxe hx hc1 hbw
      cases h1 : undB x s with
      | true =>
        have HE : Hid (q = true) := hide (by rw [HQ.out]; exact clB_iff.2 ⟨x, by rw [HX.out]; exact getS (by rw [← HN.out]; exact hlt), Or.inl h1⟩)
        rw [h1] at HU1
        clear h1
        go_wp2_with fail
        refine (unhide HU1 _).mono ?_
        rintro e w2 ⟨rfl, hb2⟩
        have HB2 := hide (below_then HB.out hb2)
        clear hb2
        go_wp2
        go_ret
        exact ⟨by rw [HE.out]; rfl, HB2.out⟩
      | false =>
        rw [h1] at HU1
        have H1 := hide h1
        clear h1
        go_wp2_with fail
        refine (unhide HU1 _).mono ?_
        rintro e w2 ⟨rfl, hb2⟩
        have HB2 := hide (below_then HB.out hb2)
        have hx3 := (HB2.out.cell (p := ⟨b1, o1 + j, none⟩) (World.block_lt_of_cell? w _ HXW.out)).trans HXW.out
        clear hb2 hx2
        cases h2 : undB s x with
        | true =>
          have HE : Hid (q = true) := hide (by rw [HQ.out]; exact clB_iff.2 ⟨x, by rw [HX.out]; exact getS (by rw [← HN.out]; exact hlt), Or.inr h2⟩)
          rw [h2] at HU2
          clear h2
          go_wp2_with fail
          refine (unhide HU2 _).mono ?_
          rintro e w3 ⟨rfl, hb3⟩
          have HB3 := hide (below_then HB2.out hb3)
          clear hb3
          go_wp2
          go_ret
          exact ⟨by rw [HE.out]; rfl, HB3.out⟩
        | false =>
          rw [h2] at HU2
          have HJ2 : Hid (∀ k, k < j + 1 → undB (l.getD k default) s = false ∧ undB s (l.getD k default) = false) := fun k hk => by
            by_cases e : k = j
            · subst e; rw [← HX.out]; exact ⟨H1.out, h2⟩
            · exact unhide HJ k (by omega)
          clear h2
          go_wp2_with fail
          refine (unhide HU2 _).mono ?_
          rintro e w3 ⟨rfl, hb3⟩
          have HB3 := hide (below_then HB2.out hb3)
          clear hb3
          go_wp2
          exact ⟨⟨j + 1, by omega, by go_num, HB3.out, HJ2⟩, by simp [intOf]; omega⟩
    · have HE : Hid (q = false) := hide (by
        rw [HQ.out, ← Bool.not_eq_true, clB_iff]
        rintro ⟨x, hx, hu⟩
        obtain ⟨k, hk, rfl⟩ := memS hx
        have := unhide HJ k (by rw [← HN.out] at hk; omega)
        rcases hu with hu | hu
        · rw [this.1] at hu; cases hu
        · rw [this.2] at hu; cases hu)
      go_wp2
      go_ret
      exact ⟨by rw [HE.out]; rfl, hbw⟩
end Go.Proofs.YtfhfobikbfbajaaGreatDoor

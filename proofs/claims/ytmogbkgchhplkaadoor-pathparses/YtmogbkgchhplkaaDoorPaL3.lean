/- The program's texts as lists of bytes. -/
import Derived.Test.YtmogbkgchhplkaaDoorPaL2
namespace Go.Proofs.YtmogbkgchhplkaaDoor
open Go.RowKit

def toL (s : ByteArray) : List UInt8 := s.data.toList
theorem toL_inj {a b : ByteArray} (h : toL a = toL b) : a = b := Go.WideShapes.bytes_inj h
theorem toL_iff {a b : ByteArray} : toL a = toL b ↔ a = b := ⟨toL_inj, fun h => by rw [h]⟩
theorem toL_len (s : ByteArray) : (toL s).length = s.size := by show s.data.toList.length = s.data.size; exact Array.length_toList
theorem toL_ext (s : ByteArray) (a b : Nat) : toL (s.extract a b) = ((toL s).drop a).take (b - a) := by
  simp [toL, List.extract_eq_take_drop]
theorem toL_from (s : ByteArray) (a : Nat) : toL (s.extract a s.size) = (toL s).drop a := by
  rw [toL_ext, List.take_of_length_le]
  simp [toL_len]
theorem toL_at (s : ByteArray) {i : Nat} (h : i < s.size) : (toL s).drop i = (toL s).getD i 0 :: (toL s).drop (i + 1) := by
  have h' : i < (toL s).length := by rw [toL_len]; exact h
  rw [List.drop_eq_getElem_cons h', List.getD_eq_getElem?_getD, List.getElem?_eq_getElem h']
  rfl
theorem byt_at (s : ByteArray) (i : Nat) : byt s i = ((((toL s).getD i 0).toNat : Nat) : Int) := rfl
theorem byt_eq47 (s : ByteArray) (i : Nat) : byt s i = 47 ↔ (toL s).getD i 0 = 47 := by
  rw [byt_at]
  constructor
  · intro h; exact UInt8.toNat_inj.1 (by show _ = 47; omega)
  · intro h; rw [h]; rfl
theorem ordF_L (a b : ByteArray) : ∀ n i, i + n = min a.size b.size → ordF a b n i = ordL ((toL a).drop i) ((toL b).drop i)
  | 0, i, h => by
    unfold ordF sgn
    have ha := toL_len a
    have hb := toL_len b
    by_cases h1 : a.size < b.size
    · rw [if_pos (by omega), List.drop_of_length_le (l := toL a) (by omega), toL_at b (by omega)]; rfl
    · by_cases h2 : b.size < a.size
      · rw [if_neg (by omega), if_pos (by omega), List.drop_of_length_le (l := toL b) (by omega), toL_at a (by omega)]; rfl
      · rw [if_neg (by omega), if_neg (by omega), List.drop_of_length_le (l := toL b) (by omega), List.drop_of_length_le (l := toL a) (by omega)]; rfl
  | n + 1, i, h => by
    unfold ordF
    rw [ordF_L a b n (i + 1) (by omega), toL_at a (i := i) (by omega), toL_at b (i := i) (by omega), ordL]
    have e : byt a i = byt b i ↔ (toL a).getD i 0 = (toL b).getD i 0 := by
      rw [byt_at, byt_at]
      constructor
      · intro h; exact UInt8.toNat_inj.1 (by omega)
      · intro h; rw [h]
    have er : ∀ (s : ByteArray), rk (byt s i) = rkL ((toL s).getD i 0) := fun s => by
      unfold rk rkL
      by_cases h : (toL s).getD i 0 = 47
      · rw [if_pos h, if_pos ((byt_eq47 s i).2 h)]
      · rw [if_neg h, if_neg (fun e => h ((byt_eq47 s i).1 e))]; rfl
    by_cases hc : (toL a).getD i 0 = (toL b).getD i 0
    · rw [if_pos hc, if_pos (e.2 hc)]
    · rw [if_neg hc, if_neg (fun x => hc (e.1 x)), er, er]; rfl
theorem ordS_L (a b : ByteArray) : ordS a b = ordL (toL a) (toL b) := by
  unfold ordS
  rw [ordF_L a b _ 0 (by omega)]
  rfl
theorem preB_L (s p : ByteArray) : preB s p = true ↔ toL p <+: toL s := by
  unfold preB fst
  simp only [decide_eq_true_eq]
  constructor
  · rintro ⟨h1, h2⟩
    rw [← h2, toL_ext, List.drop_zero]
    exact List.take_prefix _ _
  · intro h
    have hl := h.length_le
    rw [toL_len, toL_len] at hl
    refine ⟨hl, toL_inj ?_⟩
    rw [toL_ext, List.drop_zero, Nat.sub_zero]
    have := List.prefix_iff_eq_take.1 h
    rw [toL_len] at this
    exact this.symm
theorem dots_L (s : ByteArray) : dotsB s = dtL (toL s) := by
  unfold dotsB dtL
  have e1 : decide (s = dot1) = decide (toL s = [46]) := decide_eq_decide.2 (by rw [← toL_iff]; rfl)
  have e2 : decide (s = dot2) = decide (toL s = [46, 46]) := decide_eq_decide.2 (by rw [← toL_iff]; rfl)
  have e3 : preB s dotS = decide ([46, 47] <+: toL s) := by
    rw [Bool.eq_iff_iff, preB_L, decide_eq_true_eq]; rfl
  have e4 : preB s dotT = decide ([46, 46, 47] <+: toL s) := by
    rw [Bool.eq_iff_iff, preB_L, decide_eq_true_eq]; rfl
  rw [e1, e2, e3, e4]
theorem lvF_L (s : ByteArray) : ∀ n p fr ah, p + n = s.size → fr ≤ p → lvL ((toL s).drop p) p (p - fr) ah = ((lvF s n p fr ah).1, decide ((lvF s n p fr ah).1 < s.size ∨ (lvF s n p fr ah).1 = (lvF s n p fr ah).2))
  | 0, p, fr, ah, h, hf => by
    rw [List.drop_of_length_le (by rw [toL_len]; omega), lvL, lvF]
    simp only [Prod.mk.injEq, true_and]
    exact decide_eq_decide.2 (by omega)
  | n + 1, p, fr, ah, h, hf => by
    have hlt : p < s.size := by omega
    rw [toL_at s hlt, lvL, lvF]
    have hin : inL ((toL s).getD p 0) = inN (byt s p) := rfl
    have hdt : dtL ((toL s).getD p 0 :: (toL s).drop (p + 1)) = dotsB (s.extract p s.size) := by rw [← toL_at s hlt, dots_L, toL_from]
    have h47 := byt_eq47 s p
    rw [hin, hdt]
    unfold lvStop
    have wr : decide (p < s.size ∨ p = fr) = true := decide_eq_true (Or.inl hlt)
    by_cases c255 : p = 255
    · rw [if_pos c255, decide_eq_true c255, Bool.true_or, if_pos rfl]
      simp only [wr]
    · rw [if_neg c255, decide_eq_false c255, Bool.false_or]
      by_cases hb : (toL s).getD p 0 = 47
      · rw [if_pos hb, if_pos (h47.2 hb), if_pos (h47.2 hb)]
        by_cases hst : p - fr = 0 ∨ ah = 15
        · rw [if_pos hst]
          have : (decide (p = fr) || decide (ah = 15)) = true := by
            rcases hst with e | e
            · rw [decide_eq_true (by omega : p = fr)]; rfl
            · rw [decide_eq_true e, Bool.or_true]
          rw [if_pos this]
          simp only [wr]
        · rw [if_neg hst]
          have : ¬ (decide (p = fr) || decide (ah = 15)) = true := by
            rw [decide_eq_false (by omega : ¬ p = fr), decide_eq_false (by omega : ¬ ah = 15)]; decide
          rw [if_neg this]
          have := lvF_L s n (p + 1) (p + 1) (ah + 1) (by omega) (by omega)
          rw [Nat.sub_self] at this
          exact this
      · have hb' : ¬ byt s p = 47 := fun e => hb (h47.1 e)
        rw [if_neg hb, if_neg hb', if_neg hb']
        by_cases hst : inN (byt s p) = false ∨ p - fr = 64 ∨ (p - fr = 0 ∧ dotsB (s.extract p s.size) = true)
        · rw [if_pos hst]
          have : (!inN (byt s p) || decide (p - fr = 64) || decide (p = fr) && dotsB (s.extract p s.size)) = true := by
            rcases hst with e | e | ⟨e1, e2⟩
            · rw [e]; rfl
            · rw [decide_eq_true e, Bool.or_true, Bool.true_or]
            · rw [decide_eq_true (by omega : p = fr), e2, Bool.true_and, Bool.or_true]
          rw [if_pos this]
          simp only [wr]
        · rw [if_neg hst]
          have : ¬ (!inN (byt s p) || decide (p - fr = 64) || decide (p = fr) && dotsB (s.extract p s.size)) = true := by
            intro e
            simp only [Bool.or_eq_true, Bool.not_eq_true', decide_eq_true_eq, Bool.and_eq_true] at e
            rcases e with (e | e) | ⟨e1, e2⟩
            · exact hst (Or.inl e)
            · exact hst (Or.inr (Or.inl e))
            · exact hst (Or.inr (Or.inr ⟨by omega, e2⟩))
          rw [if_neg this]
          have := lvF_L s n (p + 1) fr ah (by omega) (by omega)
          rw [show p + 1 - fr = p - fr + 1 by omega] at this
          exact this
/-- Where a text is no path: the least place. -/
def plL (l : List UInt8) : Nat × Bool := finL (docL (cutL l) 0 0) l.length
theorem lv_pl (s : ByteArray) : ((lvS s).1, wrongB s) = plL (toL s) := by
  have h := lvF_L s s.size 0 0 0 (by omega) (by omega)
  rw [Nat.sub_self, List.drop_zero, lv_doc _ _ (Nat.le_refl _) 0 0 (by omega), Nat.zero_add] at h
  exact h.symm
theorem slash_L (s : ByteArray) : slashB s = decide (47 ∈ toL s) := by
  unfold slashB
  refine decide_eq_decide.2 ?_
  show 0 ≤ Lib.indexByte (toL s) 47 ↔ _
  induction toL s with
  | nil => simp [Lib.indexByte]
  | cons b l ih =>
    have hge := Lib.indexByte_ge l 47
    unfold Lib.indexByte
    by_cases hb : b = 47
    · subst hb; simp
    · have : (b == 47) = false := by simpa using hb
      rw [this]
      simp only [Bool.false_eq_true, if_false, List.mem_cons]
      by_cases h1 : Lib.indexByte l 47 = -1
      · rw [h1] at ih
        simp [h1]
        refine ⟨fun e => hb e.symm, fun e => ?_⟩
        have := ih.2 e
        omega
      · have h2 : (Lib.indexByte l 47 == -1) = false := by simpa using h1
        rw [h2]
        simp only [Bool.false_eq_true, if_false]
        constructor
        · intro _; exact Or.inr (ih.1 (by omega))
        · intro _; omega
theorem und_L (a b : ByteArray) : undB a b = true ↔ (toL a = [] ∨ cutL (toL a) <+: cutL (toL b)) := by
  unfold undB
  rw [cut_pre, toL_iff]
  simp only [Bool.or_eq_true, decide_eq_true_eq, Bool.and_eq_true]
  rw [preB_L, byt_eq47]
  have h0 : a.size = 0 ↔ toL a = [] := by rw [← toL_len, List.length_eq_zero_iff]
  rw [h0]
  have h2 : (toL a <+: toL b ∧ (toL b).getD a.size 0 = 47) ↔ (toL a ++ [47]) <+: toL b := by
    rw [← toL_len a]
    constructor
    · rintro ⟨⟨t, ht⟩, h⟩
      rw [← ht] at h ⊢
      rw [List.getD_eq_getElem?_getD, List.getElem?_append_right (Nat.le_refl _), Nat.sub_self] at h
      cases t with
      | nil => exact absurd h (by decide)
      | cons x t =>
        have hx : x = 47 := h
        subst hx
        exact ⟨t, by simp⟩
    · rintro ⟨t, ht⟩
      rw [← ht]
      refine ⟨⟨47 :: t, by simp⟩, ?_⟩
      rw [List.append_assoc, List.getD_eq_getElem?_getD, List.getElem?_append_right (Nat.le_refl _), Nat.sub_self]
      rfl
  rw [h2]
  exact or_assoc
end Go.Proofs.YtmogbkgchhplkaaDoor

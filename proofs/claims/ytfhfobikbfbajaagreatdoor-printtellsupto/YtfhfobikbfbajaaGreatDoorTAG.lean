/- Where a text is no path: read from the left, and as the document says it. The program's texts as lists of bytes. Slices of texts. Outputs and tasks in memory: their cells; what changes but for some blocks. -/
import Derived.Test.YtfhfobikbfbajaaGreatDoorTAF
import Derived.Test.YtfhfobikbfbajaaGreatDoorTAE
namespace Go.Proofs.YtfhfobikbfbajaaGreatDoor

def inL (b : UInt8) : Bool := inN ((b.toNat : Nat) : Int)
/-- Is the first part of dots alone? -/
def dtL (l : List UInt8) : Bool := decide (l = [46]) || decide (l = [46, 46]) || decide ([46, 47] <+: l) || decide ([46, 46, 47] <+: l)
/-- Where reading ends, and whether at something that can't be: p bytes are read, c of the part, ah parts are done. -/
def lvL : List UInt8 → Nat → Nat → Nat → Nat × Bool
  | [], p, c, _ => (p, decide (c = 0))
  | b :: r, p, c, ah =>
    if p = 255 then (p, true)
    else if b = 47 then (if c = 0 ∨ ah = 15 then (p, true) else lvL r (p + 1) 0 (ah + 1))
    else if inL b = false ∨ c = 64 ∨ (c = 0 ∧ dtL (b :: r) = true) then (p, true) else lvL r (p + 1) (c + 1) ah
/-- The first byte of a part, from the c-th on, that can't be. -/
def wrL : List UInt8 → Nat → Option Nat
  | [], _ => none
  | b :: r, c => if inL b = false ∨ c = 64 then some c else wrL r (c + 1)
def dpL (p : List UInt8) : Option Nat := if p = [46] ∨ p = [46, 46] then some 0 else wrL p 0
/-- The least place of a text that can't be, part by part; the 255th byte aside. -/
def docL : List (List UInt8) → Nat → Nat → Option Nat
  | [], _, _ => none
  | p :: r, at_, i => match dpL p with
    | some x => some (at_ + x)
    | none => if p = [] ∨ (i = 15 ∧ r ≠ []) then some (at_ + p.length) else docL r (at_ + p.length + 1) (i + 1)
theorem docL_ge : ∀ ps a i x, docL ps a i = some x → a ≤ x
  | [], _, _, _, h => by simp [docL] at h
  | p :: r, a, i, x, h => by
    rw [docL] at h
    split at h
    · simp at h; omega
    · split at h
      · simp at h; omega
      · have := docL_ge r _ _ _ h; omega
/-- With the bound on the text's length. -/
def finL (d : Option Nat) (n : Nat) : Nat × Bool :=
  match d with
  | none => if 255 < n then (255, true) else (n, false)
  | some x => if 255 < n then (min x 255, true) else (x, true)
theorem inside : ∀ (q t : List UInt8) (p c ah : Nat), 47 ∉ q → p ≤ 255 → (c = 0 → q ≠ [] → dtL (q ++ t) = false) →
    lvL (q ++ t) p c ah = match wrL q c with
      | some w => (min (p + (w - c)) 255, true)
      | none => if 255 < p + q.length then (255, true) else lvL t (p + q.length) (c + q.length) ah
  | [], t, p, c, ah, _, hp, _ => by
    simp only [wrL, List.nil_append, List.length_nil, Nat.add_zero]
    rw [if_neg (by omega)]
  | b :: q, t, p, c, ah, hq, hp, hd => by
    have hb : b ≠ 47 := fun e => hq (by simp [e])
    rw [List.cons_append, lvL]
    by_cases h255 : p = 255
    · rw [if_pos h255]
      cases h : wrL (b :: q) c with
      | none => simp only []; rw [if_pos (by simp; omega), h255]
      | some w => simp only []; rw [show min (p + (w - c)) 255 = 255 by omega, h255]
    · rw [if_neg h255, if_neg hb]
      by_cases hw : inL b = false ∨ c = 64
      · rw [if_pos (by rcases hw with h | h; exact Or.inl h; exact Or.inr (Or.inl h))]
        rw [wrL, if_pos hw]
        simp only [Nat.sub_self, Nat.add_zero]
        rw [show min p 255 = p by omega]
      · have hd' : ¬ (c = 0 ∧ dtL (b :: (q ++ t)) = true) := fun ⟨e1, e2⟩ => by
          have := hd e1 (by simp)
          rw [List.cons_append, e2] at this
          cases this
        rw [if_neg (fun h => h.elim (fun h => hw (Or.inl h)) fun h => h.elim (fun h => hw (Or.inr h)) hd')]
        rw [inside q t (p + 1) (c + 1) ah (fun e => hq (by simp [e])) (by omega) (fun e => by omega)]
        rw [wrL, if_neg hw]
        have hge : ∀ (l : List UInt8) k x, wrL l k = some x → k ≤ x := by
          intro l
          induction l with
          | nil => intro k x h; simp [wrL] at h
          | cons b l ih =>
            intro k x h
            rw [wrL] at h
            split at h
            · simp at h; omega
            · have := ih _ _ h; omega
        cases h : wrL q (c + 1) with
        | none =>
          simp only [List.length_cons]
          rw [show p + 1 + q.length = p + (q.length + 1) by omega, show c + 1 + q.length = c + (q.length + 1) by omega]
        | some w =>
          have := hge _ _ _ h
          simp only []
          rw [show p + 1 + (w - (c + 1)) = p + (w - c) by omega]
/-- A part, and what stands behind it: nothing, or a slash first. -/
theorem dt_part (q t : List UInt8) (hq : 47 ∉ q) (ht : t = [] ∨ ∃ r, t = 47 :: r) (hne : q ≠ []) : dtL (q ++ t) = true ↔ (q = [46] ∨ q = [46, 46]) := by
  unfold dtL
  simp only [Bool.or_eq_true, decide_eq_true_eq]
  match q, hq, hne with
  | [], _, h => exact absurd rfl h
  | [a], hq, _ =>
    rcases ht with rfl | ⟨r, rfl⟩
    · simp
    · simp; exact eq_comm
  | [a, b], hq, _ =>
    rcases ht with rfl | ⟨r, rfl⟩
    · simp
      intro h1 h2
      simp [← h2] at hq
    · simp
      constructor
      · rintro (⟨h1, h2⟩ | ⟨h1, h2⟩)
        · simp [← h2] at hq
        · exact ⟨h1.symm, h2.symm⟩
      · rintro ⟨h1, h2⟩
        exact Or.inr ⟨h1.symm, h2.symm⟩
  | a :: b :: c :: q, hq, _ =>
    simp
    constructor
    · intro h1 h2
      simp [← h2] at hq
    · intro h1 h2 h3
      simp [h1, ← h2, ← h3] at hq
/-- Read from the left it is the least place, as the document tells it. -/
theorem lv_doc : ∀ (n : Nat) (l : List UInt8), l.length ≤ n → ∀ p ah, p ≤ 255 → lvL l p 0 ah = finL (docL (cutL l) p ah) (p + l.length) := by
  intro n
  induction n with
  | zero =>
    intro l hl p ah hp
    obtain rfl : l = [] := List.eq_nil_of_length_eq_zero (by omega)
    simp [lvL, cutL, docL, dpL, wrL, finL]
    intro h; omega
  | succ n ih =>
    intro l hl p ah hp
    rcases slash_cases l with hns | ⟨q, r, rfl, hq⟩
    · rw [cutL_one l hns]
      by_cases hne : l = []
      · subst hne
        simp [lvL, docL, dpL, wrL, finL]
        intro h; omega
      · by_cases hd : l = [46] ∨ l = [46, 46]
        · have hdp : docL [l] p ah = some (p + 0) := by rw [docL, dpL, if_pos hd]
          rw [hdp]
          obtain ⟨b, l', rfl⟩ : ∃ b l', l = b :: l' := by cases l with
            | nil => exact absurd rfl hne
            | cons b l' => exact ⟨b, l', rfl⟩
          have hb : b = 46 := by rcases hd with h | h <;> simp at h <;> exact h.1
          subst hb
          have hdt : dtL (46 :: l') = true := by
            have := (dt_part (46 :: l') [] hns (Or.inl rfl) (by simp)).2 hd
            rwa [List.append_nil] at this
          rw [lvL, if_neg (by decide : ¬ (46 : UInt8) = 47), if_pos (Or.inr (Or.inr ⟨rfl, hdt⟩))]
          unfold finL
          simp only [Nat.add_zero]
          rw [show min p 255 = p by omega]
          split <;> split <;> rfl
        · have hi := inside l [] p 0 ah hns hp (fun _ _ => by
            cases h : dtL (l ++ []) with
            | false => rfl
            | true => exact absurd ((dt_part l [] hns (Or.inl rfl) hne).1 h) hd)
          rw [List.append_nil] at hi
          rw [hi, docL, dpL, if_neg hd]
          cases hw : wrL l 0 with
          | some w =>
            simp only [finL, Nat.sub_zero]
            split
            · rfl
            · rename_i h
              have : ∀ (l : List UInt8) k x, wrL l k = some x → x < k + l.length := by
                intro l
                induction l with
                | nil => intro k x h; simp [wrL] at h
                | cons b l ih =>
                  intro k x h
                  rw [wrL] at h
                  split at h
                  · simp at h; simp; omega
                  · have := ih _ _ h; simp; omega
              have := this l 0 w hw
              rw [show min (p + w) 255 = p + w by omega]
          | none =>
            have hno : ¬ (l = [] ∨ (ah = 15 ∧ ([] : List (List UInt8)) ≠ [])) := fun h => h.elim hne fun h => h.2 rfl
            simp only [if_neg hno]
            simp only [docL, finL, lvL, Nat.zero_add]
            split
            · rfl
            · have : l.length ≠ 0 := fun e => hne (List.eq_nil_of_length_eq_zero e)
              rw [decide_eq_false this]
    · rw [cutL_app q hq]
      have hlen : (q ++ 47 :: r).length = q.length + r.length + 1 := by simp; omega
      rw [hlen] at hl ⊢
      have behind : ∀ x, docL (cutL r) (p + q.length + 1) (ah + 1) = some x → p + q.length + 1 ≤ x := fun x h => docL_ge _ _ _ _ h
      by_cases hd : q = [46] ∨ q = [46, 46]
      · have hdp : docL (q :: cutL r) p ah = some (p + 0) := by rw [docL, dpL, if_pos hd]
        rw [hdp]
        have hdt := (dt_part q (47 :: r) hq (Or.inr ⟨r, rfl⟩) (by rintro rfl; rcases hd with h | h <;> cases h)).2 hd
        obtain ⟨q', rfl⟩ : ∃ q', q = 46 :: q' := by rcases hd with h | h <;> exact ⟨_, h⟩
        rw [List.cons_append] at hdt ⊢
        rw [lvL, if_neg (by decide : ¬ (46 : UInt8) = 47), if_pos (Or.inr (Or.inr ⟨rfl, hdt⟩))]
        unfold finL
        simp only [Nat.add_zero]
        rw [show min p 255 = p by omega]
        split <;> split <;> rfl
      · have hi := inside q (47 :: r) p 0 ah hq hp (fun _ hne => by
          cases h : dtL (q ++ 47 :: r) with
          | false => rfl
          | true => exact absurd ((dt_part q (47 :: r) hq (Or.inr ⟨r, rfl⟩) hne).1 h) hd)
        rw [hi, docL, dpL, if_neg hd]
        cases hw : wrL q 0 with
        | some w =>
          simp only [finL, Nat.sub_zero]
          split
          · rfl
          · have : ∀ (l : List UInt8) k x, wrL l k = some x → x < k + l.length := by
              intro l
              induction l with
              | nil => intro k x h; simp [wrL] at h
              | cons b l ih =>
                intro k x h
                rw [wrL] at h
                split at h
                · simp at h; simp; omega
                · have := ih _ _ h; simp; omega
            have := this q 0 w hw
            rw [show min (p + w) 255 = p + w by omega]
        | none =>
          simp only [Nat.zero_add]
          by_cases hbig : 255 < p + q.length
          · rw [if_pos hbig]
            unfold finL
            split
            · rw [if_pos (by omega)]
            · rename_i x hx
              have : p + q.length ≤ x := by
                split at hx
                · simp at hx; omega
                · have := behind x hx; omega
              rw [if_pos (by omega), show min x 255 = 255 by omega]
          · rw [if_neg hbig, lvL, if_pos (rfl : (47 : UInt8) = 47)]
            have hcr : cutL r ≠ [] := cutL_ne r
            by_cases h255 : p + q.length = 255
            · rw [if_pos h255, h255]
              unfold finL
              split
              · rw [if_pos (by omega)]
              · rename_i x hx
                have : p + q.length ≤ x := by
                  split at hx
                  · simp at hx; omega
                  · have := behind x (by rw [h255]; exact hx); omega
                rw [if_pos (by omega), show min x 255 = 255 by omega]
            · rw [if_neg h255]
              by_cases hstop : q = [] ∨ ah = 15
              · have h1 : q.length = 0 ∨ ah = 15 := hstop.elim (fun h => Or.inl (by rw [h]; rfl)) Or.inr
                rw [if_pos h1, if_pos (hstop.elim Or.inl fun h => Or.inr ⟨h, hcr⟩)]
                unfold finL
                simp only []
                rw [show min (p + q.length) 255 = p + q.length by omega]
                split <;> rfl
              · have h1 : ¬ (q.length = 0 ∨ ah = 15) := fun h => hstop (h.elim (fun h => Or.inl (List.eq_nil_of_length_eq_zero h)) Or.inr)
                rw [if_neg h1, if_neg (fun h => hstop (h.elim Or.inl fun h => Or.inr h.1))]
                rw [ih r (by omega) (p + q.length + 1) (ah + 1) (by omega)]
                rw [show p + q.length + 1 + r.length = p + (q.length + r.length + 1) by omega]
end Go.Proofs.YtfhfobikbfbajaaGreatDoor

namespace Go.Proofs.YtfhfobikbfbajaaGreatDoor
open Go.RowKit

def toL (s : ByteArray) : List UInt8 := s.data.toList
theorem toL_inj {a b : ByteArray} (h : toL a = toL b) : a = b := Go.WideShapes.bytes_inj h
theorem toL_iff {a b : ByteArray} : toL a = toL b ↔ a = b := ⟨toL_inj, fun h => by rw [h]⟩
theorem toL_len (s : ByteArray) : (toL s).length = s.size := by show s.data.toList.length = s.data.size; exact Array.length_toList
theorem toL_ext (s : ByteArray) (a b : Nat) : toL (s.extract a b) = ((toL s).drop a).take (b - a) := by
  simp [toL, List.extract_eq_take_drop]
theorem toL_from (s : ByteArray) (a : Nat) : toL (s.extract a s.size) = (toL s).drop a := by
  rw [toL_ext, List.take_of_length_le]
  simp [toL_len]
theorem toL_at (s : ByteArray) {i : Nat} (h : i < s.size) : (toL s).drop i = (toL s).getD i 0 :: (toL s).drop (i + 1) := by
  have h' : i < (toL s).length := by rw [toL_len]; exact h
  rw [List.drop_eq_getElem_cons h', List.getD_eq_getElem?_getD, List.getElem?_eq_getElem h']
  rfl
theorem byt_at (s : ByteArray) (i : Nat) : byt s i = ((((toL s).getD i 0).toNat : Nat) : Int) := rfl
theorem byt_eq47 (s : ByteArray) (i : Nat) : byt s i = 47 ↔ (toL s).getD i 0 = 47 := by
  rw [byt_at]
  constructor
  · intro h; exact UInt8.toNat_inj.1 (by show _ = 47; omega)
  · intro h; rw [h]; rfl
theorem ordF_L (a b : ByteArray) : ∀ n i, i + n = min a.size b.size → ordF a b n i = ordL ((toL a).drop i) ((toL b).drop i)
  | 0, i, h => by
    unfold ordF sgn
    have ha := toL_len a
    have hb := toL_len b
    by_cases h1 : a.size < b.size
    · rw [if_pos (by omega), List.drop_of_length_le (l := toL a) (by omega), toL_at b (by omega)]; rfl
    · by_cases h2 : b.size < a.size
      · rw [if_neg (by omega), if_pos (by omega), List.drop_of_length_le (l := toL b) (by omega), toL_at a (by omega)]; rfl
      · rw [if_neg (by omega), if_neg (by omega), List.drop_of_length_le (l := toL b) (by omega), List.drop_of_length_le (l := toL a) (by omega)]; rfl
  | n + 1, i, h => by
    unfold ordF
    rw [ordF_L a b n (i + 1) (by omega), toL_at a (i := i) (by omega), toL_at b (i := i) (by omega), ordL]
    have e : byt a i = byt b i ↔ (toL a).getD i 0 = (toL b).getD i 0 := by
      rw [byt_at, byt_at]
      constructor
      · intro h; exact UInt8.toNat_inj.1 (by omega)
      · intro h; rw [h]
    have er : ∀ (s : ByteArray), rk (byt s i) = rkL ((toL s).getD i 0) := fun s => by
      unfold rk rkL
      by_cases h : (toL s).getD i 0 = 47
      · rw [if_pos h, if_pos ((byt_eq47 s i).2 h)]
      · rw [if_neg h, if_neg (fun e => h ((byt_eq47 s i).1 e))]; rfl
    by_cases hc : (toL a).getD i 0 = (toL b).getD i 0
    · rw [if_pos hc, if_pos (e.2 hc)]
    · rw [if_neg hc, if_neg (fun x => hc (e.1 x)), er, er]; rfl
theorem ordS_L (a b : ByteArray) : ordS a b = ordL (toL a) (toL b) := by
  unfold ordS
  rw [ordF_L a b _ 0 (by omega)]
  rfl
theorem preB_L (s p : ByteArray) : preB s p = true ↔ toL p <+: toL s := by
  unfold preB fst
  simp only [decide_eq_true_eq]
  constructor
  · rintro ⟨h1, h2⟩
    rw [← h2, toL_ext, List.drop_zero]
    exact List.take_prefix _ _
  · intro h
    have hl := h.length_le
    rw [toL_len, toL_len] at hl
    refine ⟨hl, toL_inj ?_⟩
    rw [toL_ext, List.drop_zero, Nat.sub_zero]
    have := List.prefix_iff_eq_take.1 h
    rw [toL_len] at this
    exact this.symm
theorem dots_L (s : ByteArray) : dotsB s = dtL (toL s) := by
  unfold dotsB dtL
  have e1 : decide (s = dot1) = decide (toL s = [46]) := decide_eq_decide.2 (by rw [← toL_iff]; rfl)
  have e2 : decide (s = dot2) = decide (toL s = [46, 46]) := decide_eq_decide.2 (by rw [← toL_iff]; rfl)
  have e3 : preB s dotS = decide ([46, 47] <+: toL s) := by
    rw [Bool.eq_iff_iff, preB_L, decide_eq_true_eq]; rfl
  have e4 : preB s dotT = decide ([46, 46, 47] <+: toL s) := by
    rw [Bool.eq_iff_iff, preB_L, decide_eq_true_eq]; rfl
  rw [e1, e2, e3, e4]
theorem lvF_L (s : ByteArray) : ∀ n p fr ah, p + n = s.size → fr ≤ p → lvL ((toL s).drop p) p (p - fr) ah = ((lvF s n p fr ah).1, decide ((lvF s n p fr ah).1 < s.size ∨ (lvF s n p fr ah).1 = (lvF s n p fr ah).2))
  | 0, p, fr, ah, h, hf => by
    rw [List.drop_of_length_le (by rw [toL_len]; omega), lvL, lvF]
    simp only [Prod.mk.injEq, true_and]
    exact decide_eq_decide.2 (by omega)
  | n + 1, p, fr, ah, h, hf => by
    have hlt : p < s.size := by omega
    rw [toL_at s hlt, lvL, lvF]
    have hin : inL ((toL s).getD p 0) = inN (byt s p) := rfl
    have hdt : dtL ((toL s).getD p 0 :: (toL s).drop (p + 1)) = dotsB (s.extract p s.size) := by rw [← toL_at s hlt, dots_L, toL_from]
    have h47 := byt_eq47 s p
    rw [hin, hdt]
    unfold lvStop
    have wr : decide (p < s.size ∨ p = fr) = true := decide_eq_true (Or.inl hlt)
    by_cases c255 : p = 255
    · rw [if_pos c255, decide_eq_true c255, Bool.true_or, if_pos rfl]
      simp only [wr]
    · rw [if_neg c255, decide_eq_false c255, Bool.false_or]
      by_cases hb : (toL s).getD p 0 = 47
      · rw [if_pos hb, if_pos (h47.2 hb), if_pos (h47.2 hb)]
        by_cases hst : p - fr = 0 ∨ ah = 15
        · rw [if_pos hst]
          have : (decide (p = fr) || decide (ah = 15)) = true := by
            rcases hst with e | e
            · rw [decide_eq_true (by omega : p = fr)]; rfl
            · rw [decide_eq_true e, Bool.or_true]
          rw [if_pos this]
          simp only [wr]
        · rw [if_neg hst]
          have : ¬ (decide (p = fr) || decide (ah = 15)) = true := by
            rw [decide_eq_false (by omega : ¬ p = fr), decide_eq_false (by omega : ¬ ah = 15)]; decide
          rw [if_neg this]
          have := lvF_L s n (p + 1) (p + 1) (ah + 1) (by omega) (by omega)
          rw [Nat.sub_self] at this
          exact this
      · have hb' : ¬ byt s p = 47 := fun e => hb (h47.1 e)
        rw [if_neg hb, if_neg hb', if_neg hb']
        by_cases hst : inN (byt s p) = false ∨ p - fr = 64 ∨ (p - fr = 0 ∧ dotsB (s.extract p s.size) = true)
        · rw [if_pos hst]
          have : (!inN (byt s p) || decide (p - fr = 64) || decide (p = fr) && dotsB (s.extract p s.size)) = true := by
            rcases hst with e | e | ⟨e1, e2⟩
            · rw [e]; rfl
            · rw [decide_eq_true e, Bool.or_true, Bool.true_or]
            · rw [decide_eq_true (by omega : p = fr), e2, Bool.true_and, Bool.or_true]
          rw [if_pos this]
          simp only [wr]
        · rw [if_neg hst]
          have : ¬ (!inN (byt s p) || decide (p - fr = 64) || decide (p = fr) && dotsB (s.extract p s.size)) = true := by
            intro e
            simp only [Bool.or_eq_true, Bool.not_eq_true', decide_eq_true_eq, Bool.and_eq_true] at e
            rcases e with (e | e) | ⟨e1, e2⟩
            · exact hst (Or.inl e)
            · exact hst (Or.inr (Or.inl e))
            · exact hst (Or.inr (Or.inr ⟨by omega, e2⟩))
          rw [if_neg this]
          have := lvF_L s n (p + 1) fr ah (by omega) (by omega)
          rw [show p + 1 - fr = p - fr + 1 by omega] at this
          exact this
/-- Where a text is no path: the least place. -/
def plL (l : List UInt8) : Nat × Bool := finL (docL (cutL l) 0 0) l.length
theorem lv_pl (s : ByteArray) : ((lvS s).1, wrongB s) = plL (toL s) := by
  have h := lvF_L s s.size 0 0 0 (by omega) (by omega)
  rw [Nat.sub_self, List.drop_zero, lv_doc _ _ (Nat.le_refl _) 0 0 (by omega), Nat.zero_add] at h
  exact h.symm
theorem slash_L (s : ByteArray) : slashB s = decide (47 ∈ toL s) := by
  unfold slashB
  refine decide_eq_decide.2 ?_
  show 0 ≤ Lib.indexByte (toL s) 47 ↔ _
  induction toL s with
  | nil => simp [Lib.indexByte]
  | cons b l ih =>
    have hge := Lib.indexByte_ge l 47
    unfold Lib.indexByte
    by_cases hb : b = 47
    · subst hb; simp
    · have : (b == 47) = false := by simpa using hb
      rw [this]
      simp only [Bool.false_eq_true, if_false, List.mem_cons]
      by_cases h1 : Lib.indexByte l 47 = -1
      · rw [h1] at ih
        simp [h1]
        refine ⟨fun e => hb e.symm, fun e => ?_⟩
        have := ih.2 e
        omega
      · have h2 : (Lib.indexByte l 47 == -1) = false := by simpa using h1
        rw [h2]
        simp only [Bool.false_eq_true, if_false]
        constructor
        · intro _; exact Or.inr (ih.1 (by omega))
        · intro _; omega
theorem und_L (a b : ByteArray) : undB a b = true ↔ (toL a = [] ∨ cutL (toL a) <+: cutL (toL b)) := by
  unfold undB
  rw [cut_pre, toL_iff]
  simp only [Bool.or_eq_true, decide_eq_true_eq, Bool.and_eq_true]
  rw [preB_L, byt_eq47]
  have h0 : a.size = 0 ↔ toL a = [] := by rw [← toL_len, List.length_eq_zero_iff]
  rw [h0]
  have h2 : (toL a <+: toL b ∧ (toL b).getD a.size 0 = 47) ↔ (toL a ++ [47]) <+: toL b := by
    rw [← toL_len a]
    constructor
    · rintro ⟨⟨t, ht⟩, h⟩
      rw [← ht] at h ⊢
      rw [List.getD_eq_getElem?_getD, List.getElem?_append_right (Nat.le_refl _), Nat.sub_self] at h
      cases t with
      | nil => exact absurd h (by decide)
      | cons x t =>
        have hx : x = 47 := h
        subst hx
        exact ⟨t, by simp⟩
    · rintro ⟨t, ht⟩
      rw [← ht]
      refine ⟨⟨47 :: t, by simp⟩, ?_⟩
      rw [List.append_assoc, List.getD_eq_getElem?_getD, List.getElem?_append_right (Nat.le_refl _), Nat.sub_self]
      rfl
  rw [h2]
  exact or_assoc
end Go.Proofs.YtfhfobikbfbajaaGreatDoor

namespace Go.Proofs.YtfhfobikbfbajaaGreatDoor
open Go.RowKit

/-- The value is a slice of texts; in this world it reads the list. -/
def IsS (w : World) (v : Value) (l : List ByteArray) : Prop :=
  ∃ a c, v = .slice a l.length c ∧ l.length ≤ c ∧ c ≤ 9223372036854775807 ∧ (a = none → c = 0) ∧ (0 < l.length → ∃ b o, a = some ⟨b, o, none⟩ ∧ ∀ j, j < l.length → w.cell? ⟨b, o + j, none⟩ = some (.string (l.getD j default)))
theorem IsS.below {w w' : World} {v : Value} {l : List ByteArray} (h : IsS w v l) (hb : Below w.heap.size w w') : IsS w' v l := by
  obtain ⟨a, c, hv, hl, hm, hz, hc⟩ := h
  refine ⟨a, c, hv, hl, hm, hz, fun hp => ?_⟩
  obtain ⟨b, o, ha, hcell⟩ := hc hp
  exact ⟨b, o, ha, fun j hj => (hb.cell (p := ⟨b, o + j, none⟩) (World.block_lt_of_cell? w _ (hcell j hj))).trans (hcell j hj)⟩
theorem IsS.nil (w : World) : IsS w (.slice none 0 0) [] := ⟨none, 0, rfl, Nat.le_refl _, by decide, fun _ => rfl, fun h => absurd h (by simp)⟩
theorem Row.isS {w : World} {B : Nat} {v : Value} {l : List ByteArray} (h : Row w B 9 v (sV l)) : IsS w v l := by
  cases l with
  | nil =>
    obtain ⟨a, c, hv⟩ := h.shape
    obtain ⟨hl, hh⟩ := h
    rcases hh with ⟨rfl, h0⟩ | ⟨g, cap, cur, rfl, _, hg, hle, hm, hs, ht⟩
    · exact IsS.nil w
    · refine ⟨some ⟨g, 0, none⟩, cap, rfl, by simp, by simpa [maxLen] using hm, fun h => (by cases h), fun hp => absurd hp (by simp)⟩
  | cons x r =>
    obtain ⟨g, c, hv, h1, h2, _, _⟩ := h.head (by simp [sV])
    subst hv
    rw [sV_len] at h1
    refine ⟨some ⟨g, 0, none⟩, c, by rw [sV_len], h1, h2, fun h => (by cases h), fun _ => ⟨g, 0, rfl, fun j hj => ?_⟩⟩
    rw [Nat.zero_add, h.cellAt (by rw [sV_len]; exact hj)]
    unfold sV
    rw [List.getElem?_map, List.getD_eq_getElem?_getD, List.getElem?_eq_getElem hj]
    rfl
theorem isS_block {w : World} {g : Nat} {l : List ByteArray} (hl : l.length ≤ 9223372036854775807) (h : w.heap[g]? = some (.cells (l.map Value.string).toArray 9 (0, 0))) : IsS w (.slice (some ⟨g, 0, none⟩) l.length l.length) l := by
  refine ⟨some ⟨g, 0, none⟩, l.length, rfl, Nat.le_refl _, hl, fun h => (by cases h), fun _ => ⟨g, 0, rfl, fun j hj => ?_⟩⟩
  rw [cell_of_row w g (0 + j) _ _ _ h]
  simp [List.getElem?_map, List.getD_eq_getElem?_getD, List.getElem?_eq_getElem hj]
theorem strI_eq (x y : ByteArray) : (x.toList == y.toList) = decide (x = y) := str_eq x y
theorem eq_step {a b : List ByteArray} {i : Nat} (h : a.getD i default ≠ b.getD i default) : a ≠ b := fun e => h (by rw [e])
theorem eq_all {a b : List ByteArray} (hl : a.length = b.length) (h : ∀ j, j < a.length → a.getD j default = b.getD j default) : a = b := by
  refine List.ext_getElem hl fun j h1 h2 => ?_
  have := h j h1
  rw [List.getD_eq_getElem?_getD, List.getD_eq_getElem?_getD, List.getElem?_eq_getElem h1, List.getElem?_eq_getElem h2] at this
  exact this
set_option maxRecDepth 100000 in
set_option maxHeartbeats 4000000 in
/-- The document's Same. -/
theorem same_calls {va vb : Value} {la lb : List ByteArray} {w : World} (ha : IsS w va la) (hb : IsS w vb lb) : Calls Tryz.prog 25 #[va, vb] w fun e w' => e = .returned (.bool (decide (la = lb))) ∧ Below w.heap.size w w' := by
  have HA := hide ha
  have HB := hide hb
  obtain ⟨aa, ca, rfl, hla, hma, _, hca⟩ := ha
  obtain ⟨ab, cb, rfl, hlb, hmb, _, hcb⟩ := hb
  obtain ⟨q, hq⟩ : ∃ q, q = decide (la = lb) := ⟨_, rfl⟩
  have HQ := hide hq
  rw [← hq]
  clear hq
  have HCA := hide hca
  have HCB := hide hcb
  clear hca hcb
  obtain ⟨n, hn⟩ : ∃ n, n = la.length := ⟨_, rfl⟩
  obtain ⟨m, hm⟩ : ∃ m, m = lb.length := ⟨_, rfl⟩
  rw [← hn] at hla
  rw [← hm] at hlb
  have HN := hide hn
  have HM := hide hm
  rw [← hn, ← hm]
  clear hn hm
  by_cases hnm : n = m
  · subst hnm
    go_enter Tryz.func25, Tryz.ntmps25
    go_wp2_with fail
    go_loopw [5] (fun iv W => ∃ (j : Nat), j ≤ n ∧ iv = .int .i64 (j : Int) ∧ Below w.heap.size w W ∧ Hid (∀ k, k < j → la.getD k default = lb.getD k default)) (fun i _ => n - (intOf i).toNat)
    case atStart => exact ⟨0, by omega, rfl, Below.refl _ _, fun k hk => absurd hk (by omega)⟩
    case round =>
      obtain ⟨j, hjn, rfl, hbw, HJ⟩ := hrel
      by_cases hlt : j < n
      · obtain ⟨b1, o1, rfl, hc1⟩ := unhide HCA (by rw [← HN.out]; omega)
        obtain ⟨b2, o2, rfl, hc2⟩ := unhide HCB (by rw [← HM.out]; omega)
        have hx := hc1 j (by rw [← HN.out]; exact hlt)
        have hy := hc2 j (by rw [← HM.out]; exact hlt)
        have hx2 := (hbw.cell (p := ⟨b1, o1 + j, none⟩) (World.block_lt_of_cell? w _ hx)).trans hx
        have hy2 := (hbw.cell (p := ⟨b2, o2 + j, none⟩) (World.block_lt_of_cell? w _ hy)).trans hy
        have hlti : (j : Int) < (n : Int) := by omega
        obtain ⟨x, hxe⟩ : ∃ x, x = la.getD j default := ⟨_, rfl⟩
        obtain ⟨y, hye⟩ : ∃ y, y = lb.getD j default := ⟨_, rfl⟩
        rw [← hxe] at hx hx2
        rw [← hye] at hy hy2
        have HX := hide hxe
        have HY := hide hye
        clear hxe hye hx hy hc1 hc2
        by_cases hxy : x = y
        · have HJ2 : Hid (∀ k, k < j + 1 → la.getD k default = lb.getD k default) := fun k hk => by
            by_cases e : k = j
            · subst e; rw [← HX.out, ← HY.out, hxy]
            · exact unhide HJ k (by omega)
          have hne : (x.toList == y.toList) = true := by rw [str_eq, decide_eq_true hxy]
          clear hxy
          go_wp2_with fail
          go_quiet (fail)
          go_wp2
          exact ⟨⟨j + 1, by omega, by go_num, hbw.trans ((drewn_below wr nq).mono hbw.size), HJ2⟩, by simp [intOf]; omega⟩
        · have HE : Hid (q = false) := by
            show _ = _
            rw [HQ.out, decide_eq_false (eq_step (i := j) (by rw [← HX.out, ← HY.out]; exact hxy))]
          have hne : (x.toList == y.toList) = false := by rw [str_eq, decide_eq_false hxy]
          clear hxy
          go_wp2_with fail
          go_quiet (fail)
          go_wp2
          go_ret
          exact ⟨by rw [HE.out]; rfl, hbw.trans ((drewn_below wr nq).mono hbw.size)⟩
      · have HE : Hid (q = true) := by
          show _ = _
          rw [HQ.out, decide_eq_true (eq_all (by rw [← HN.out, ← HM.out]) fun k hk => unhide HJ k (by rw [← HN.out] at hk; omega))]
        go_wp2
        go_ret
        exact ⟨by rw [HE.out]; rfl, hbw⟩
  · have HE : Hid (q = false) := by
      show _ = _
      rw [HQ.out, decide_eq_false fun e => hnm (by rw [HN.out, HM.out, e])]
    have hni : ((n : Int) != (m : Int)) = true := by simp; omega
    go_enter Tryz.func25, Tryz.ntmps25
    go_wp2
    go_ret
    exact ⟨by rw [HE.out]; rfl, Below.refl _ _⟩
end Go.Proofs.YtfhfobikbfbajaaGreatDoor

namespace Go.Proofs.YtfhfobikbfbajaaGreatDoor
open Go.RowKit Go.Maps

/-- Is it a path? -/
def ptW (s : ByteArray) : Bool := !(wrongB s)
def zTm : List Value := tmC ⟨0, ByteArray.empty, 0, 0, []⟩ (.slice none 0 0)
theorem infoTmz : (Tryz.prog.info? 52).map (fun i => (i.zero, i.size, i.bytes)) = some (some (.agg zTm.toArray), 5, 64) := by kernel_rfl
theorem infoTms (t : Tm) (v : Value) : (Tryz.prog.info? 52).map (·.size) = some (tmC t v).length := by kernel_rfl
/-- A result that is a term's variable. -/
theorem results_tm {fn : Func} {p : Tmp} {g : Nat} {tmps : Array Value} {w : World} {t : Tm} {v : Value} (h : fn.results = #[.cell p 52]) (ha : tmps.getD p undef = .pointer (some ⟨g, 0, none⟩)) (hA : Arr w g 52 (tmC t v)) :
    (results fn tmps).run Tryz.prog w = .ok (.agg (tmC t v).toArray) w := by
  have h1 : (loadVar 52 ⟨g, 0, none⟩).run Tryz.prog w = .ok (.agg (tmC t v).toArray) w := run_loadVar_mid (P := Tryz.prog) w g 0 _ (tmC t v) _ hA.rangeJ Tryz.underlying52 rfl (infoTms t v)
  have ha' : tmps[p]?.getD undef = .pointer (some ⟨g, 0, none⟩) := by simpa using ha
  simp [results, h, asAddr, ha', h1]
section
variable {ops : Array Oper} {rest : List Oper} {o : Oper} {a : Act} {Q : Exit → Act → World → Prop} {w : World}
theorem wpList_bld1 (hgd : o.guard = none) (t : TypeId) (i : Nat) (x : Operand) (ho : o.op = .build t #[(i, x)]) {vx v : Value} (hx : a.eval x = vx) (hrun : ∀ W, (Instr.build t #[(i, vx)]).run Tryz.prog W = .ok v W)
    (hk : wpList Tryz.prog ops Q rest (a.put o.dst v) w) : wpList Tryz.prog ops Q (o :: rest) a w := by
  refine wpList_plain hgd fun K hK => ?_
  unfold Oper.wp execOp
  simp only [ho, hx, hrun, List.map_toArray, List.map_cons, List.map_nil, Sem.run_bind, Sem.run_pure, Result.andThen_ok]
  exact hK _ _ hk
end
theorem tm_bld (k : Int) (W : World) : (Instr.build 52 #[(0, .int .i64 k)]).run Tryz.prog W = .ok (.agg (tmC ⟨k, ByteArray.empty, 0, 0, []⟩ (.slice none 0 0)).toArray) W := by kernel_rfl
/-- An output's cells. -/
def ouC (p : ByteArray) (t : Tm) (u : Value) : List Value := .string p :: tmC t u
def zOu : List Value := ouC ByteArray.empty ⟨0, ByteArray.empty, 0, 0, []⟩ (.slice none 0 0)
theorem infoOuz : (Tryz.prog.info? 54).map (fun i => (i.zero, i.size, i.bytes)) = some (some (.agg zOu.toArray), 6, 80) := by kernel_rfl
theorem infoOus (p : ByteArray) (t : Tm) (u : Value) : (Tryz.prog.info? 54).map (·.size) = some (ouC p t u).length := by kernel_rfl
theorem ouC_one {p : ByteArray} (t : Tm) {u : Value} (hu : u.oneCell' = true) : ∀ x ∈ ouC p t u, x.oneCell' = true := by
  intro x hx
  rcases List.mem_cons.1 hx with rfl | hx
  · rfl
  · exact tmC_one t hu x hx
/-- Nothing but these blocks, and new ones. -/
structure Sb (W W' : World) (F : Nat → Prop) : Prop where
  os : W'.os = W.os
  tape : W'.tape = W.tape
  output : W'.output = W.output
  size : W.heap.size ≤ W'.heap.size
  block : ∀ k, k < W.heap.size → ¬ F k → W'.heap[k]? = W.heap[k]?
theorem Sb.of {W W' : World} {row : Option Nat} (h : W.grownBy W' row) {F : Nat → Prop} (hF : ∀ b, row = some b → F b ∨ W.heap.size ≤ b) : Sb W W' F :=
  ⟨h.os, h.tape, h.output, h.size, fun k hk hn => h.block k hk (fun e => (hF k e.symm).elim hn (fun q => by omega))⟩
theorem Sb.below {W W' : World} (h : Below W.heap.size W W') (F : Nat → Prop) : Sb W W' F := ⟨h.os, h.tape, h.output, h.size, fun k hk _ => h.block k hk⟩
theorem Sb.then {W W1 W2 : World} {F G : Nat → Prop} (h : Sb W W1 F) (k : Sb W1 W2 G) (hG : ∀ b, G b → F b ∨ W.heap.size ≤ b) : Sb W W2 F :=
  ⟨k.os.trans h.os, k.tape.trans h.tape, k.output.trans h.output, Nat.le_trans h.size k.size, fun b hb hn => (k.block b (Nat.lt_of_lt_of_le hb h.size) (fun e => (hG b e).elim hn (fun q => by omega))).trans (h.block b hb hn)⟩
theorem Sb.old {W W' w : World} {F : Nat → Prop} (h : Sb W W' F) (ho : Below w.heap.size w W) (hF : ∀ b, F b → w.heap.size ≤ b) : Below w.heap.size w W' :=
  ⟨h.os.trans ho.os, h.tape.trans ho.tape, h.output.trans ho.output, Nat.le_trans ho.size h.size, fun k hk => (h.block k (Nat.lt_of_lt_of_le hk ho.size) (fun e => by have := hF k e; omega)).trans (ho.block k hk)⟩
theorem Sb.row {W W' : World} {F : Nat → Prop} (h : Sb W W' F) {B : Nat} {t : TypeId} {v : Value} {xs : List Value} (hr : Row W B t v xs) (hn : ∀ b, v.ownBlock = some b → ¬ F b) : Row W' B t v xs := by
  obtain ⟨hl, hh⟩ := hr
  refine ⟨hl, ?_⟩
  rcases hh with hh | ⟨g, cap, cur, rfl, hB, hg, h1, h2, h3, h4⟩
  · exact Or.inl hh
  · exact Or.inr ⟨g, cap, cur, rfl, hB, (h.block g (Array.getElem?_eq_some_iff.1 hg).1 (hn g rfl)).trans hg, h1, h2, h3, h4⟩
def ou0 : ByteArray × Tm := (noText, .nul)
/-- The cells of outputs. -/
def ousC : List (ByteArray × Tm) → (Nat → Value) → List Value
  | [], _ => []
  | o :: os, V => ouC o.1 o.2 (V 0) ++ ousC os (fun j => V (j + 1))
theorem ousC_at : ∀ {os : List (ByteArray × Tm)} {V : Nat → Value} {j k : Nat}, j < os.length → k < 6 → (ousC os V)[j * 6 + k]? = (ouC (os.getD j ou0).1 (os.getD j ou0).2 (V j))[k]?
  | [], _, j, _, hj, _ => by simp at hj
  | o :: os, V, j, k, hj, hk => by
    have hl : (ouC o.1 o.2 (V 0)).length = 6 := rfl
    rw [ousC]
    cases j with
    | zero => rw [List.getElem?_append_left (by omega)]; simp
    | succ j =>
      rw [List.getElem?_append_right (by omega), hl, show (j + 1) * 6 + k - 6 = j * 6 + k by omega, ousC_at (by simpa using hj) hk]
      simp
theorem ousC_snoc : ∀ {os : List (ByteArray × Tm)} {V : Nat → Value} {o : ByteArray × Tm} {u : Value}, ousC (os ++ [o]) (fun j => if j = os.length then u else V j) = ousC os V ++ ouC o.1 o.2 u
  | [], V, o, u => by simp [ousC]
  | x :: os, V, o, u => by
    have ih := ousC_snoc (os := os) (V := fun j => V (j + 1)) (o := o) (u := u)
    show ouC x.1 x.2 _ ++ ousC (os ++ [o]) _ = ouC x.1 x.2 _ ++ ousC os _ ++ ouC o.1 o.2 u
    rw [List.append_assoc, ← ih]
    congr 1
    simp
/-- A task's cells. -/
def tsC (nm : ByteArray) (b : Int) (vi vo : Value) : List Value := [.string nm, .int .i64 b, vi, vo]
def zTs : List Value := tsC ByteArray.empty 0 (.slice none 0 0) (.slice none 0 0)
theorem infoTsz : (Tryz.prog.info? 25).map (fun i => (i.zero, i.size, i.bytes)) = some (some (.agg zTs.toArray), 4, 72) := by kernel_rfl
theorem infoTss (nm : ByteArray) (b : Int) (vi vo : Value) : (Tryz.prog.info? 25).map (·.size) = some (tsC nm b vi vo).length := by kernel_rfl
theorem tsC_one {nm : ByteArray} {b : Int} {vi vo : Value} (h1 : vi.oneCell' = true) (h2 : vo.oneCell' = true) : ∀ x ∈ tsC nm b vi vo, x.oneCell' = true := by
  intro x hx
  simp only [tsC, List.mem_cons, List.not_mem_nil, or_false] at hx
  rcases hx with rfl | rfl | rfl | rfl
  · rfl
  · rfl
  · exact h1
  · exact h2
end Go.Proofs.YtfhfobikbfbajaaGreatDoor

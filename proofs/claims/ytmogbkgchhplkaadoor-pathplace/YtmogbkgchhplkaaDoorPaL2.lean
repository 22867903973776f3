/- Where a text is no path: read from the left, and as the document says it. -/
import Derived.Test.YtmogbkgchhplkaaDoorPaL1
import Derived.Test.YtmogbkgchhplkaaDoorPaCont
namespace Go.Proofs.YtmogbkgchhplkaaDoor

def inL (b : UInt8) : Bool := inN ((b.toNat : Nat) : Int)
/-- Is the first part of dots alone? -/
def dtL (l : List UInt8) : Bool := decide (l = [46]) || decide (l = [46, 46]) || decide ([46, 47] <+: l) || decide ([46, 46, 47] <+: l)
/-- Where reading ends, and whether at something that can't be: p bytes are read, c of the part, ah parts are done. -/
def lvL : List UInt8 → Nat → Nat → Nat → Nat × Bool
  | [], p, c, _ => (p, decide (c = 0))
  | b :: r, p, c, ah =>
    if p = 255 then (p, true)
    else if b = 47 then (if c = 0 ∨ ah = 15 then (p, true) else lvL r (p + 1) 0 (ah + 1))
    else if inL b = false ∨ c = 64 ∨ (c = 0 ∧ dtL (b :: r) = true) then (p, true) else lvL r (p + 1) (c + 1) ah
/-- The first byte of a part, from the c-th on, that can't be. -/
def wrL : List UInt8 → Nat → Option Nat
  | [], _ => none
  | b :: r, c => if inL b = false ∨ c = 64 then some c else wrL r (c + 1)
def dpL (p : List UInt8) : Option Nat := if p = [46] ∨ p = [46, 46] then some 0 else wrL p 0
/-- The least place of a text that can't be, part by part; the 255th byte aside. -/
def docL : List (List UInt8) → Nat → Nat → Option Nat
  | [], _, _ => none
  | p :: r, at_, i => match dpL p with
    | some x => some (at_ + x)
    | none => if p = [] ∨ (i = 15 ∧ r ≠ []) then some (at_ + p.length) else docL r (at_ + p.length + 1) (i + 1)
theorem docL_ge : ∀ ps a i x, docL ps a i = some x → a ≤ x
  | [], _, _, _, h => by simp [docL] at h
  | p :: r, a, i, x, h => by
    rw [docL] at h
    split at h
    · simp at h; omega
    · split at h
      · simp at h; omega
      · have := docL_ge r _ _ _ h; omega
/-- With the bound on the text's length. -/
def finL (d : Option Nat) (n : Nat) : Nat × Bool :=
  match d with
  | none => if 255 < n then (255, true) else (n, false)
  | some x => if 255 < n then (min x 255, true) else (x, true)
theorem inside : ∀ (q t : List UInt8) (p c ah : Nat), 47 ∉ q → p ≤ 255 → (c = 0 → q ≠ [] → dtL (q ++ t) = false) →
    lvL (q ++ t) p c ah = match wrL q c with
      | some w => (min (p + (w - c)) 255, true)
      | none => if 255 < p + q.length then (255, true) else lvL t (p + q.length) (c + q.length) ah
  | [], t, p, c, ah, _, hp, _ => by
    simp only [wrL, List.nil_append, List.length_nil, Nat.add_zero]
    rw [if_neg (by omega)]
  | b :: q, t, p, c, ah, hq, hp, hd => by
    have hb : b ≠ 47 := fun e => hq (by simp [e])
    rw [List.cons_append, lvL]
    by_cases h255 : p = 255
    · rw [if_pos h255]
      cases h : wrL (b :: q) c with
      | none => simp only []; rw [if_pos (by simp; omega), h255]
      | some w => simp only []; rw [show min (p + (w - c)) 255 = 255 by omega, h255]
    · rw [if_neg h255, if_neg hb]
      by_cases hw : inL b = false ∨ c = 64
      · rw [if_pos (by rcases hw with h | h; exact Or.inl h; exact Or.inr (Or.inl h))]
        rw [wrL, if_pos hw]
        simp only [Nat.sub_self, Nat.add_zero]
        rw [show min p 255 = p by omega]
      · have hd' : ¬ (c = 0 ∧ dtL (b :: (q ++ t)) = true) := fun ⟨e1, e2⟩ => by
          have := hd e1 (by simp)
          rw [List.cons_append, e2] at this
          cases this
        rw [if_neg (fun h => h.elim (fun h => hw (Or.inl h)) fun h => h.elim (fun h => hw (Or.inr h)) hd')]
        rw [inside q t (p + 1) (c + 1) ah (fun e => hq (by simp [e])) (by omega) (fun e => by omega)]
        rw [wrL, if_neg hw]
        have hge : ∀ (l : List UInt8) k x, wrL l k = some x → k ≤ x := by
          intro l
          induction l with
          | nil => intro k x h; simp [wrL] at h
          | cons b l ih =>
            intro k x h
            rw [wrL] at h
            split at h
            · simp at h; omega
            · have := ih _ _ h; omega
        cases h : wrL q (c + 1) with
        | none =>
          simp only [List.length_cons]
          rw [show p + 1 + q.length = p + (q.length + 1) by omega, show c + 1 + q.length = c + (q.length + 1) by omega]
        | some w =>
          have := hge _ _ _ h
          simp only []
          rw [show p + 1 + (w - (c + 1)) = p + (w - c) by omega]
/-- A part, and what stands behind it: nothing, or a slash first. -/
theorem dt_part (q t : List UInt8) (hq : 47 ∉ q) (ht : t = [] ∨ ∃ r, t = 47 :: r) (hne : q ≠ []) : dtL (q ++ t) = true ↔ (q = [46] ∨ q = [46, 46]) := by
  unfold dtL
  simp only [Bool.or_eq_true, decide_eq_true_eq]
  match q, hq, hne with
  | [], _, h => exact absurd rfl h
  | [a], hq, _ =>
    rcases ht with rfl | ⟨r, rfl⟩
    · simp
    · simp; exact eq_comm
  | [a, b], hq, _ =>
    rcases ht with rfl | ⟨r, rfl⟩
    · simp
      intro h1 h2
      simp [← h2] at hq
    · simp
      constructor
      · rintro (⟨h1, h2⟩ | ⟨h1, h2⟩)
        · simp [← h2] at hq
        · exact ⟨h1.symm, h2.symm⟩
      · rintro ⟨h1, h2⟩
        exact Or.inr ⟨h1.symm, h2.symm⟩
  | a :: b :: c :: q, hq, _ =>
    simp
    constructor
    · intro h1 h2
      simp [← h2] at hq
    · intro h1 h2 h3
      simp [h1, ← h2, ← h3] at hq
theorem inL_dot : inL 46 = true := by decide
/-- Read from the left it is the least place, as the document tells it. -/
theorem lv_doc : ∀ (n : Nat) (l : List UInt8), l.length ≤ n → ∀ p ah, p ≤ 255 → lvL l p 0 ah = finL (docL (cutL l) p ah) (p + l.length) := by
  intro n
  induction n with
  | zero =>
    intro l hl p ah hp
    obtain rfl : l = [] := List.eq_nil_of_length_eq_zero (by omega)
    simp [lvL, cutL, docL, dpL, wrL, finL]
    intro h; omega
  | succ n ih =>
    intro l hl p ah hp
    rcases slash_cases l with hns | ⟨q, r, rfl, hq⟩
    · rw [cutL_one l hns]
      by_cases hne : l = []
      · subst hne
        simp [lvL, docL, dpL, wrL, finL]
        intro h; omega
      · by_cases hd : l = [46] ∨ l = [46, 46]
        · have hdp : docL [l] p ah = some (p + 0) := by rw [docL, dpL, if_pos hd]
          rw [hdp]
          obtain ⟨b, l', rfl⟩ : ∃ b l', l = b :: l' := by cases l with
            | nil => exact absurd rfl hne
            | cons b l' => exact ⟨b, l', rfl⟩
          have hb : b = 46 := by rcases hd with h | h <;> simp at h <;> exact h.1
          subst hb
          have hdt : dtL (46 :: l') = true := by
            have := (dt_part (46 :: l') [] hns (Or.inl rfl) (by simp)).2 hd
            rwa [List.append_nil] at this
          rw [lvL, if_neg (by decide : ¬ (46 : UInt8) = 47), if_pos (Or.inr (Or.inr ⟨rfl, hdt⟩))]
          unfold finL
          simp only [Nat.add_zero]
          rw [show min p 255 = p by omega]
          split <;> split <;> rfl
        · have hi := inside l [] p 0 ah hns hp (fun _ _ => by
            cases h : dtL (l ++ []) with
            | false => rfl
            | true => exact absurd ((dt_part l [] hns (Or.inl rfl) hne).1 h) hd)
          rw [List.append_nil] at hi
          rw [hi, docL, dpL, if_neg hd]
          cases hw : wrL l 0 with
          | some w =>
            simp only [finL, Nat.sub_zero]
            split
            · rfl
            · rename_i h
              have : ∀ (l : List UInt8) k x, wrL l k = some x → x < k + l.length := by
                intro l
                induction l with
                | nil => intro k x h; simp [wrL] at h
                | cons b l ih =>
                  intro k x h
                  rw [wrL] at h
                  split at h
                  · simp at h; simp; omega
                  · have := ih _ _ h; simp; omega
              have := this l 0 w hw
              rw [show min (p + w) 255 = p + w by omega]
          | none =>
            have hno : ¬ (l = [] ∨ (ah = 15 ∧ ([] : List (List UInt8)) ≠ [])) := fun h => h.elim hne fun h => h.2 rfl
            simp only [if_neg hno]
            simp only [docL, finL, lvL, Nat.zero_add]
            split
            · rfl
            · have : l.length ≠ 0 := fun e => hne (List.eq_nil_of_length_eq_zero e)
              rw [decide_eq_false this]
    · rw [cutL_app q hq]
      have hlen : (q ++ 47 :: r).length = q.length + r.length + 1 := by simp; omega
      rw [hlen] at hl ⊢
      have behind : ∀ x, docL (cutL r) (p + q.length + 1) (ah + 1) = some x → p + q.length + 1 ≤ x := fun x h => docL_ge _ _ _ _ h
      by_cases hd : q = [46] ∨ q = [46, 46]
      · have hdp : docL (q :: cutL r) p ah = some (p + 0) := by rw [docL, dpL, if_pos hd]
        rw [hdp]
        have hdt := (dt_part q (47 :: r) hq (Or.inr ⟨r, rfl⟩) (by rintro rfl; rcases hd with h | h <;> cases h)).2 hd
        obtain ⟨q', rfl⟩ : ∃ q', q = 46 :: q' := by rcases hd with h | h <;> exact ⟨_, h⟩
        rw [List.cons_append] at hdt ⊢
        rw [lvL, if_neg (by decide : ¬ (46 : UInt8) = 47), if_pos (Or.inr (Or.inr ⟨rfl, hdt⟩))]
        unfold finL
        simp only [Nat.add_zero]
        rw [show min p 255 = p by omega]
        split <;> split <;> rfl
      · have hi := inside q (47 :: r) p 0 ah hq hp (fun _ hne => by
          cases h : dtL (q ++ 47 :: r) with
          | false => rfl
          | true => exact absurd ((dt_part q (47 :: r) hq (Or.inr ⟨r, rfl⟩) hne).1 h) hd)
        rw [hi, docL, dpL, if_neg hd]
        cases hw : wrL q 0 with
        | some w =>
          simp only [finL, Nat.sub_zero]
          split
          · rfl
          · have : ∀ (l : List UInt8) k x, wrL l k = some x → x < k + l.length := by
              intro l
              induction l with
              | nil => intro k x h; simp [wrL] at h
              | cons b l ih =>
                intro k x h
                rw [wrL] at h
                split at h
                · simp at h; simp; omega
                · have := ih _ _ h; simp; omega
            have := this q 0 w hw
            rw [show min (p + w) 255 = p + w by omega]
        | none =>
          simp only [Nat.zero_add]
          by_cases hbig : 255 < p + q.length
          · rw [if_pos hbig]
            unfold finL
            split
            · rw [if_pos (by omega)]
            · rename_i x hx
              have : p + q.length ≤ x := by
                split at hx
                · simp at hx; omega
                · have := behind x hx; omega
              rw [if_pos (by omega), show min x 255 = 255 by omega]
          · rw [if_neg hbig, lvL, if_pos (rfl : (47 : UInt8) = 47)]
            have hcr : cutL r ≠ [] := cutL_ne r
            by_cases h255 : p + q.length = 255
            · rw [if_pos h255, h255]
              unfold finL
              split
              · rw [if_pos (by omega)]
              · rename_i x hx
                have : p + q.length ≤ x := by
                  split at hx
                  · simp at hx; omega
                  · have := behind x (by rw [h255]; exact hx); omega
                rw [if_pos (by omega), show min x 255 = 255 by omega]
            · rw [if_neg h255]
              by_cases hstop : q = [] ∨ ah = 15
              · have h1 : q.length = 0 ∨ ah = 15 := hstop.elim (fun h => Or.inl (by rw [h]; rfl)) Or.inr
                rw [if_pos h1, if_pos (hstop.elim Or.inl fun h => Or.inr ⟨h, hcr⟩)]
                unfold finL
                simp only []
                rw [show min (p + q.length) 255 = p + q.length by omega]
                split <;> rfl
              · have h1 : ¬ (q.length = 0 ∨ ah = 15) := fun h => hstop (h.elim (fun h => Or.inl (List.eq_nil_of_length_eq_zero h)) Or.inr)
                rw [if_neg h1, if_neg (fun h => hstop (h.elim Or.inl fun h => Or.inr h.1))]
                rw [ih r (by omega) (p + q.length + 1) (ah + 1) (by omega)]
                rw [show p + q.length + 1 + r.length = p + (q.length + r.length + 1) by omega]
end Go.Proofs.YtmogbkgchhplkaaDoor

/- Texts as lists of bytes: parts, joining, the two orders. Nothing of a program. -/
import Derived.Lib.SplitLaws
import Derived.Lib.Join
namespace Go.Proofs.YtmogbkgchhplkaaDoor

/-- What stands between the slashes. -/
def cutL : List UInt8 → List (List UInt8)
  | [] => [[]]
  | b :: l => if b = 47 then [] :: cutL l else (b :: (cutL l).headD []) :: (cutL l).tail
theorem cutL_ne (l : List UInt8) : cutL l ≠ [] := by
  cases l with
  | nil => simp [cutL]
  | cons b l => unfold cutL; split <;> simp
theorem cutL_eta (l : List UInt8) : (cutL l).headD [] :: (cutL l).tail = cutL l := by
  cases h : cutL l with
  | nil => exact absurd h (cutL_ne l)
  | cons a b => rfl
theorem cutL_slash (l : List UInt8) : cutL (47 :: l) = [] :: cutL l := by rw [cutL, if_pos rfl]
theorem cutL_cons {b : UInt8} (h : b ≠ 47) (l : List UInt8) : cutL (b :: l) = (b :: (cutL l).headD []) :: (cutL l).tail := by rw [cutL, if_neg h]
theorem cutL_app : ∀ (p : List UInt8), 47 ∉ p → ∀ r, cutL (p ++ 47 :: r) = p :: cutL r
  | [], _, r => cutL_slash r
  | b :: p, h, r => by
    have hb : b ≠ 47 := fun e => h (by simp [e])
    rw [List.cons_append, cutL_cons hb, cutL_app p (fun e => h (by simp [e])) r]
    rfl
theorem cutL_one : ∀ (p : List UInt8), 47 ∉ p → cutL p = [p]
  | [], _ => rfl
  | b :: p, h => by
    have hb : b ≠ 47 := fun e => h (by simp [e])
    rw [cutL_cons hb, cutL_one p (fun e => h (by simp [e]))]
    rfl
theorem slash_cases : ∀ l : List UInt8, 47 ∉ l ∨ ∃ p r, l = p ++ 47 :: r ∧ 47 ∉ p
  | [] => Or.inl (by simp)
  | b :: l => by
    by_cases hb : b = 47
    · exact Or.inr ⟨[], l, by rw [hb]; rfl, by simp⟩
    · rcases slash_cases l with h | ⟨p, r, h1, h2⟩
      · exact Or.inl (by simp only [List.mem_cons, not_or]; exact ⟨fun e => hb e.symm, h⟩)
      · exact Or.inr ⟨b :: p, r, by rw [h1]; rfl, by simp only [List.mem_cons, not_or]; exact ⟨fun e => hb e.symm, h2⟩⟩
theorem cutL_noSlash : ∀ (l : List UInt8) p, p ∈ cutL l → 47 ∉ p
  | [], p, h => by simp [cutL] at h; subst h; simp
  | b :: l, p, h => by
    by_cases hb : b = 47
    · subst hb
      rw [cutL_slash] at h
      rcases List.mem_cons.1 h with rfl | h
      · simp
      · exact cutL_noSlash l p h
    · rw [cutL_cons hb] at h
      have he := cutL_eta l
      rcases List.mem_cons.1 h with rfl | h
      · have := cutL_noSlash l ((cutL l).headD []) (by rw [← he]; simp)
        simp only [List.mem_cons, not_or]
        exact ⟨fun e => hb e.symm, this⟩
      · exact cutL_noSlash l p (by rw [← he]; exact List.mem_cons_of_mem _ h)
/-- Laid behind one another, a slash between each two. -/
def jn : List (List UInt8) → List UInt8
  | [] => []
  | x :: r => x ++ Lib.joinTail [47] r
theorem jn_join (l : List (List UInt8)) : Lib.join l [47] = jn l := by
  cases l with
  | nil => rfl
  | cons x r => exact Lib.join_cons x r [47]
theorem jn_two (x y : List UInt8) (r : List (List UInt8)) : jn (x :: y :: r) = x ++ 47 :: jn (y :: r) := by
  simp [jn, Lib.joinTail]
theorem jn_one (x : List UInt8) : jn [x] = x := by simp [jn, Lib.joinTail]
theorem jn_cons {r : List (List UInt8)} (x : List UInt8) (h : r ≠ []) : jn (x :: r) = x ++ 47 :: jn r := by
  cases r with
  | nil => exact absurd rfl h
  | cons y r => exact jn_two x y r
theorem jn_cut (l : List UInt8) : jn (cutL l) = l := by
  induction l with
  | nil => rfl
  | cons b l ih =>
    by_cases hb : b = 47
    · subst hb
      rw [cutL_slash, jn_cons _ (cutL_ne l), ih]; rfl
    · rw [cutL_cons hb]
      rw [← cutL_eta l] at ih
      have : ∀ (x : List UInt8) (r : List (List UInt8)), jn ((b :: x) :: r) = b :: jn (x :: r) := fun x r => rfl
      rw [this, ih]
theorem cut_jn : ∀ (l : List (List UInt8)), l ≠ [] → (∀ p ∈ l, 47 ∉ p) → cutL (jn l) = l
  | [], h, _ => absurd rfl h
  | [x], _, h => by rw [jn_one, cutL_one x (h x (by simp))]
  | x :: y :: r, _, h => by
    rw [jn_two, cutL_app x (h x (by simp)), cut_jn (y :: r) (by simp) (fun p hp => h p (by simp only [List.mem_cons] at hp ⊢; exact Or.inr hp))]
theorem jn_take_succ (l : List (List UInt8)) (k : Nat) (y : List UInt8) (hk : 0 < k) (h : l[k]? = some y) : jn (l.take (k + 1)) = jn (l.take k) ++ [47] ++ y := by
  cases l with
  | nil => simp at h
  | cons x r =>
    obtain ⟨j, rfl⟩ : ∃ j, k = j + 1 := ⟨k - 1, by omega⟩
    rw [List.take_succ_cons, List.take_succ_cons]
    show x ++ Lib.joinTail [47] (r.take (j + 1)) = x ++ Lib.joinTail [47] (r.take j) ++ [47] ++ y
    rw [Lib.joinTail_take_succ [47] r j y (by simpa using h)]
    simp [List.append_assoc]
/-- Which of two numbers is the greater one. -/
def sg (x y : Int) : Int := if x < y then -1 else if y < x then 1 else 0
def rkL (b : UInt8) : Int := if b = 47 then -1 else (b.toNat : Int)
theorem rkL_inj {a b : UInt8} (h : rkL a = rkL b) : a = b := by
  unfold rkL at h
  split at h <;> split at h
  · rename_i h1 h2; rw [h1, h2]
  · omega
  · omega
  · exact UInt8.toNat_inj.1 (by omega)
/-- The order of texts: the first unlike bytes decide, a slash being the lowest. -/
def ordL : List UInt8 → List UInt8 → Int
  | [], [] => 0
  | [], _ :: _ => -1
  | _ :: _, [] => 1
  | a :: x, b :: y => if a = b then ordL x y else sg (rkL a) (rkL b)
theorem ordL_self : ∀ x, ordL x x = 0
  | [] => rfl
  | a :: x => by rw [ordL, if_pos rfl, ordL_self x]
theorem sg_bd (x y : Int) : -1 ≤ sg x y ∧ sg x y ≤ 1 := by unfold sg; split <;> (try split) <;> omega
theorem sg_neg (x y : Int) : sg x y = - sg y x := by unfold sg; split <;> split <;> (try split) <;> (try split) <;> omega
theorem sg_zero {x y : Int} (h : sg x y = 0) : x = y := by unfold sg at h; split at h <;> (try split at h) <;> omega
theorem ordL_bd : ∀ x y, -1 ≤ ordL x y ∧ ordL x y ≤ 1
  | [], [] => by decide
  | [], _ :: _ => by simp [ordL]
  | _ :: _, [] => by simp [ordL]
  | a :: x, b :: y => by
    rw [ordL]
    split
    · exact ordL_bd x y
    · exact sg_bd _ _
theorem ordL_neg : ∀ x y, ordL x y = - ordL y x
  | [], [] => by decide
  | [], _ :: _ => by simp [ordL]
  | _ :: _, [] => by simp [ordL]
  | a :: x, b :: y => by
    rw [ordL, ordL]
    by_cases h : a = b
    · rw [if_pos h, if_pos h.symm, ordL_neg x y]
    · rw [if_neg h, if_neg (fun e => h e.symm), sg_neg]
theorem ordL_zero : ∀ x y, ordL x y = 0 → x = y
  | [], [], _ => rfl
  | [], _ :: _, h => by revert h; unfold ordL; intro h; omega
  | _ :: _, [], h => by revert h; unfold ordL; intro h; omega
  | a :: x, b :: y, h => by
    rw [ordL] at h
    split at h
    · rename_i e; rw [e, ordL_zero x y h]
    · rename_i e; exact absurd (rkL_inj (sg_zero h)) e
theorem sg_lt {x y : Int} : sg x y < 0 ↔ x < y := by unfold sg; split <;> (try split) <;> omega
theorem sg_le {x y : Int} : sg x y ≤ 0 ↔ x ≤ y := by unfold sg; split <;> (try split) <;> omega
/-- It goes on from one to the next. -/
theorem ordL_trans : ∀ x y z, ordL x y ≤ 0 → ordL y z ≤ 0 → ordL x z ≤ 0 ∧ (ordL x z = 0 → ordL x y = 0 ∧ ordL y z = 0)
  | [], [], [], _, _ => by decide
  | [], [], _ :: _, _, _ => by simp [ordL]
  | [], _ :: _, [], _, h => by simp [ordL] at h
  | [], _ :: _, _ :: _, _, _ => by simp [ordL]
  | _ :: _, [], _, h, _ => by simp [ordL] at h
  | _ :: _, _ :: _, [], _, h => by simp [ordL] at h
  | a :: x, b :: y, c :: z, h1, h2 => by
    simp only [ordL] at h1 h2 ⊢
    by_cases hab : a = b
    · subst hab
      rw [if_pos rfl] at h1
      by_cases hac : a = c
      · subst hac
        rw [if_pos rfl] at h2
        simp only [if_true]
        exact ordL_trans x y z h1 h2
      · rw [if_neg hac] at h2
        simp only [if_neg hac, if_true]
        exact ⟨h2, fun h => absurd (rkL_inj (sg_zero h)) hac⟩
    · rw [if_neg hab] at h1
      by_cases hbc : b = c
      · subst hbc
        simp only [if_neg hab]
        exact ⟨h1, fun h => absurd (rkL_inj (sg_zero h)) hab⟩
      · rw [if_neg hbc] at h2
        have h1' := sg_le.1 h1
        have h2' := sg_le.1 h2
        have n1 : rkL a ≠ rkL b := fun e => hab (rkL_inj e)
        have n2 : rkL b ≠ rkL c := fun e => hbc (rkL_inj e)
        have hac : a ≠ c := fun e => by rw [e] at h1'; omega
        simp only [if_neg hac]
        have hlt : sg (rkL a) (rkL c) < 0 := sg_lt.2 (by omega)
        exact ⟨by omega, fun h => by omega⟩
/-- Byte by byte, a beginning ahead. -/
def bwL : List UInt8 → List UInt8 → Int
  | [], [] => 0
  | [], _ :: _ => -1
  | _ :: _, [] => 1
  | a :: x, b :: y => if a = b then bwL x y else sg (a.toNat : Int) (b.toNat : Int)
/-- Part by part. -/
def prL : List (List UInt8) → List (List UInt8) → Int
  | [], [] => 0
  | [], _ :: _ => -1
  | _ :: _, [] => 1
  | a :: x, b :: y => if bwL a b = 0 then prL x y else bwL a b
theorem bwL_self : ∀ x, bwL x x = 0
  | [] => rfl
  | a :: x => by rw [bwL, if_pos rfl, bwL_self x]
theorem prL_head {a b : List UInt8} {x y : List (List UInt8)} (c : UInt8) : prL ((c :: a) :: x) ((c :: b) :: y) = prL (a :: x) (b :: y) := by
  rw [prL, prL]
  have : bwL (c :: a) (c :: b) = bwL a b := by rw [bwL, if_pos rfl]
  rw [this]
theorem ord_parts : ∀ x y : List UInt8, ordL x y = prL (cutL x) (cutL y)
  | [], [] => by decide
  | [], b :: y => by
    by_cases hb : b = 47
    · subst hb
      rw [cutL_slash]
      cases h : cutL y with
      | nil => exact absurd h (cutL_ne y)
      | cons p r => rfl
    · rw [cutL_cons hb]; rfl
  | a :: x, [] => by
    by_cases hb : a = 47
    · subst hb
      rw [cutL_slash]
      cases h : cutL x with
      | nil => exact absurd h (cutL_ne x)
      | cons p r => rfl
    · rw [cutL_cons hb]; rfl
  | a :: x, b :: y => by
    rw [ordL]
    by_cases hab : a = b
    · subst hab
      rw [if_pos rfl, ord_parts x y]
      by_cases ha : a = 47
      · subst ha
        rw [cutL_slash, cutL_slash]
        rfl
      · rw [cutL_cons ha, cutL_cons ha, prL_head, cutL_eta, cutL_eta]
    · rw [if_neg hab]
      by_cases ha : a = 47
      · subst ha
        have hb : b ≠ 47 := fun e => hab e.symm
        rw [cutL_slash, cutL_cons hb]
        have : sg (rkL 47) (rkL b) = -1 := by
          unfold sg rkL
          rw [if_pos rfl, if_neg hb, if_pos (by omega)]
        rw [this]; rfl
      · by_cases hb : b = 47
        · subst hb
          rw [cutL_slash, cutL_cons ha]
          have : sg (rkL a) (rkL 47) = 1 := by
            unfold sg rkL
            rw [if_pos rfl, if_neg ha, if_neg (by omega), if_pos (by omega)]
          rw [this]; rfl
        · rw [cutL_cons ha, cutL_cons hb]
          have hne : (a.toNat : Int) ≠ (b.toNat : Int) := fun e => hab (UInt8.toNat_inj.1 (by omega))
          have e1 : bwL (a :: (cutL x).headD []) (b :: (cutL y).headD []) = sg (a.toNat : Int) (b.toNat : Int) := by rw [bwL, if_neg hab]
          have e2 : rkL a = (a.toNat : Int) := by unfold rkL; rw [if_neg ha]
          have e3 : rkL b = (b.toNat : Int) := by unfold rkL; rw [if_neg hb]
          rw [prL, e1, if_neg (fun e => hne (sg_zero e)), e2, e3]
/-- Lies b under a? -/
theorem cut_pre : ∀ a b : List UInt8, cutL a <+: cutL b ↔ (a = b ∨ (a ++ [47]) <+: b)
  | [], [] => by simp [cutL]
  | [], b :: y => by
    by_cases hb : b = 47
    · subst hb; rw [cutL_slash]; simp [cutL]
    · rw [cutL_cons hb]; simp [cutL]; exact fun e => hb e.symm
  | a :: x, [] => by
    by_cases ha : a = 47
    · subst ha
      rw [cutL_slash]
      simp [cutL]
      exact cutL_ne x
    · rw [cutL_cons ha]; simp [cutL]
  | a :: x, b :: y => by
    have hr : ((a :: x = b :: y) ∨ ((a :: x) ++ [47]) <+: (b :: y)) ↔ (a = b ∧ (x = y ∨ (x ++ [47]) <+: y)) := by
      simp only [List.cons.injEq, List.cons_append, List.cons_prefix_cons]
      constructor
      · rintro (⟨h1, h2⟩ | ⟨h1, h2⟩)
        · exact ⟨h1, Or.inl h2⟩
        · exact ⟨h1, Or.inr h2⟩
      · rintro ⟨h1, h2 | h2⟩
        · exact Or.inl ⟨h1, h2⟩
        · exact Or.inr ⟨h1, h2⟩
    rw [hr, ← cut_pre x y]
    by_cases ha : a = 47
    · subst ha
      by_cases hb : b = 47
      · subst hb
        rw [cutL_slash, cutL_slash, List.cons_prefix_cons]
        simp
      · rw [cutL_slash, cutL_cons hb, List.cons_prefix_cons]
        simp
        exact fun e => absurd e.symm hb
    · by_cases hb : b = 47
      · subst hb
        rw [cutL_slash, cutL_cons ha, List.cons_prefix_cons]
        simp
        exact fun e => absurd e ha
      · rw [cutL_cons ha, cutL_cons hb, List.cons_prefix_cons, List.cons.injEq]
        have := cutL_eta x
        have h2 := cutL_eta y
        constructor
        · rintro ⟨⟨e1, e2⟩, e3⟩
          refine ⟨e1, ?_⟩
          rw [← this, ← h2, List.cons_prefix_cons]
          exact ⟨e2, e3⟩
        · rintro ⟨e1, e2⟩
          rw [← this, ← h2, List.cons_prefix_cons] at e2
          exact ⟨⟨e1, e2.1⟩, e2.2⟩
end Go.Proofs.YtmogbkgchhplkaaDoor

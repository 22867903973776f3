/- Tasks written, in plain terms: what a node must have; how long what is written is. Nothing of a program. Terms written, in plain terms: as the document writes them, and as the program does. Nothing of a program. Lists of arguments as they are read, whatever blocks they lie in. Outputs and tasks as they are read; copies of them with marks behind each list. strings.Builder, by the library's own contracts: the numbering is ours. A reader in memory; look, more. pass. -/
import Derived.Test.YtfhfobikbfbajaaGreatDoorTAI
import Derived.Test.YtfhfobikbfbajaaGreatDoorTAE
import Derived.Test.YtfhfobikbfbajaaGreatDoorTAG
import Derived.Test.YtfhfobikbfbajaaGreatDoorTAD
import Derived.Shelf.Strings.BuilderK
import Derived.Shelf.Strings.Builder2
namespace Go.Proofs.YtfhfobikbfbajaaGreatDoor

theorem digs_dec (u : Nat) : Lib.decDigits u = digs u := by
  induction u using Nat.strongRecOn with
  | _ u ih =>
    rw [digits_eq, digs_eq]
    by_cases h : u < 10
    · rw [if_pos h, if_pos h]
    · rw [if_neg h, if_neg h, ih (u / 10) (by omega)]
theorem itoa_dec {n : Int} (h : 0 ≤ n) : (⟨(Lib.itoa n).toArray⟩ : ByteArray) = decW n := by
  unfold Lib.itoa decW bs
  rw [if_neg (by omega), digs_dec]
theorem digs_len : ∀ (k n : Nat), n < 10 ^ (k + 1) → (digs n).length ≤ k + 1
  | k, n, h => (digs_read k n h).2.2.1
theorem decW_len {n : Int} (_h : 0 ≤ n) (h1 : n ≤ 2147483647) : (byL (decW n)).length ≤ 10 := by
  have := digs_len 9 n.toNat (by omega)
  unfold byL decW bs
  simpa using this
section
variable (nm pt : ByteArray → Bool)
/-- What a node has, without its arguments' own. -/
def fit1 (t : Tm) : Bool := decide (1 ≤ t.kind ∧ t.kind ≤ 15) && (txF nm pt t.kind t.text && (cntF t.kind t.args.length && nuF t.kind t.n t.m))
theorem fitT_succ (d : Nat) (t : Tm) : fitT nm pt (d + 1) t = (fit1 nm pt t && t.args.all (fitT nm pt d)) := by
  rw [fitT, fit1]
  simp only [Bool.and_assoc]
end
/-- How long a term's writing is at most. -/
def tmW : Tm → Nat
  | ⟨_, x, _, _, az⟩ => 64 + 4 * x.size + (az.map fun a => tmW a + 1).sum
theorem tmW_eq (t : Tm) : tmW t = 64 + 4 * t.text.size + (t.args.map fun a => tmW a + 1).sum := by
  cases t; rw [tmW]
def tmsW (az : List Tm) : Nat := (az.map fun a => tmW a + 1).sum
theorem tmsW_nil : tmsW [] = 0 := rfl
theorem tmsW_cons (a : Tm) (az : List Tm) : tmsW (a :: az) = tmW a + 1 + tmsW az := by unfold tmsW; simp
theorem tmsW_app (a b : List Tm) : tmsW (a ++ b) = tmsW a + tmsW b := by unfold tmsW; simp
theorem tmsW_take {az : List Tm} {i : Nat} (h : i < az.length) : tmsW (az.take (i + 1)) = tmsW (az.take i) + (tmW (az.getD i .nul) + 1) := by
  rw [List.take_succ_eq_append_getElem h, tmsW_app, tmsW_cons, tmsW_nil, List.getD_eq_getElem?_getD, List.getElem?_eq_getElem h]
  rfl
theorem tmsW_le (az : List Tm) (i : Nat) : tmsW (az.take i) ≤ tmsW az := by
  have := tmsW_app (az.take i) (az.drop i)
  rw [List.take_append_drop] at this
  omega
theorem tmW_at {az : List Tm} {i : Nat} (h : i < az.length) : tmW (az.getD i .nul) + 1 + tmsW (az.take i) ≤ tmsW az := by
  have := tmsW_le az (i + 1)
  rw [tmsW_take h] at this
  omega
/-- The parts behind the arguments so far: the mark ahead of the first is the one that is told. -/
def argB (mk : UInt8) (az : List Tm) : List UInt8 := pjB mk (az.map tmB)
theorem pjB_app : ∀ (mk : UInt8) (a b : List (List UInt8)), pjB mk (a ++ b) = pjB mk a ++ pjB (if a = [] then mk else 44) b
  | _, [], _ => rfl
  | mk, p :: a, b => by
    show mk :: (p ++ pjB 44 (a ++ b)) = mk :: (p ++ pjB 44 a) ++ _
    rw [pjB_app 44 a b]
    by_cases h : a = []
    · simp [h, pjB]
    · simp [h]
theorem argB_snoc (mk : UInt8) (az : List Tm) (t : Tm) : argB mk (az ++ [t]) = argB mk az ++ ((if az = [] then mk else 44) :: tmB t) := by
  unfold argB
  rw [List.map_append, pjB_app]
  congr 1
  show pjB _ [tmB t] = _
  by_cases h : az = []
  · simp [h, pjB]
  · simp [h, pjB]
theorem argB_take {mk : UInt8} {az : List Tm} {i : Nat} (h : i < az.length) : argB mk (az.take (i + 1)) = argB mk (az.take i) ++ ((if i = 0 then mk else 44) :: tmB (az.getD i .nul)) := by
  rw [List.take_succ_eq_append_getElem h, argB_snoc, List.getD_eq_getElem?_getD, List.getElem?_eq_getElem h]
  congr 2
  by_cases e : i = 0
  · simp [e]
  · rw [if_neg e, if_neg]
    intro q
    have := congrArg List.length q
    simp at this
    rcases this with rfl | rfl
    · exact e rfl
    · simp at h
end Go.Proofs.YtfhfobikbfbajaaGreatDoor

namespace Go.Proofs.YtfhfobikbfbajaaGreatDoor

/-- Arguments with commas between; with one ahead too. -/
def dA : Bool → List Tm → List UInt8
  | _, [] => []
  | f, a :: az => (if f = true then [44] else []) ++ (tmB a ++ dA true az)
theorem dA_true : ∀ az : List Tm, dA true az = argB 44 az
  | [] => rfl
  | a :: az => by
    show 44 :: (tmB a ++ dA true az) = 44 :: (tmB a ++ pjB 44 (az.map tmB))
    rw [dA_true az]
    rfl
theorem dA_app : ∀ (f : Bool) (a b : List Tm), dA f (a ++ b) = dA f a ++ dA (if a = [] then f else true) b
  | _, [], _ => rfl
  | f, x :: a, b => by
    rw [List.cons_append, dA, dA_app true a b, dA, List.append_assoc, List.append_assoc]
    by_cases h : a = [] <;> simp [h]
theorem dA_take {f : Bool} {az : List Tm} {i : Nat} (h : i < az.length) : dA f (az.take (i + 1)) = dA f (az.take i) ++ ((if decide (0 < i) = true ∨ f = true then [44] else []) ++ tmB (az.getD i .nul)) := by
  rw [List.take_succ_eq_append_getElem h, dA_app, List.getD_eq_getElem?_getD, List.getElem?_eq_getElem h]
  congr 1
  show (if _ = true then [44] else []) ++ (tmB (az[i]) ++ []) = (if _ then [44] else []) ++ tmB (az[i])
  rw [List.append_nil]
  congr 1
  have hn : az.take i = [] ↔ i = 0 := by
    constructor
    · intro q
      have := congrArg List.length q
      rw [List.length_take] at this
      simp at this
      rcases this with rfl | rfl
      · rfl
      · simp at h
    · rintro rfl; rfl
  by_cases e : i = 0
  · subst e
    simp
  · rw [if_neg (fun q => e (hn.1 q)), if_pos rfl, if_pos (Or.inl (decide_eq_true (by omega)))]
/-- What the document has written ahead of argument i. -/
def dB (t : Tm) (i : Nat) : List UInt8 := byL (wds.getD t.kind.toNat noText) ++ (40 :: (byL t.text ++ dA (decide (t.kind = 13)) (t.args.take i)))
theorem dB_step {t : Tm} {i : Nat} (h : i < t.args.length) : dB t (i + 1) = dB t i ++ ((if decide (0 < i) = true ∨ decide (t.kind = 13) = true then [44] else []) ++ tmB (t.args.getD i .nul)) := by
  unfold dB
  rw [dA_take h]
  simp only [List.append_assoc, List.cons_append]
def dN (t : Tm) : List UInt8 := if t.kind = 7 then 44 :: (byL (decW t.n) ++ 44 :: byL (decW t.m)) else []
section
variable {nm pt : ByteArray → Bool}
theorem fit1_parts {t : Tm} (h : fit1 nm pt t = true) : (1 ≤ t.kind ∧ t.kind ≤ 15) ∧ txF nm pt t.kind t.text = true ∧ cntF t.kind t.args.length = true ∧ nuF t.kind t.n t.m = true := by
  unfold fit1 at h
  rw [Bool.and_eq_true, Bool.and_eq_true, Bool.and_eq_true] at h
  exact ⟨of_decide_eq_true h.1, h.2.1, h.2.2.1, h.2.2.2⟩
theorem fit_text {t : Tm} (h : fit1 nm pt t = true) (h1 : t.kind ≠ 1) (hT : hasT t.kind = false) : t.text = noText ∧ 1 ≤ t.args.length := by
  obtain ⟨hk, h2, h3, _⟩ := fit1_parts h
  unfold hasT at hT
  have hT := of_decide_eq_false hT
  unfold txF at h2
  rw [if_neg h1, if_neg (by omega), if_neg (by omega)] at h2
  refine ⟨of_decide_eq_true h2, ?_⟩
  unfold cntF at h3
  rw [if_neg h1] at h3
  have h3 := of_decide_eq_true h3
  unfold argN at h3
  split at h3
  · omega
  · split at h3
    · omega
    · split at h3
      · omega
      · omega
theorem fit_none {t : Tm} (h : fit1 nm pt t = true) (hk : t.kind = 2 ∨ t.kind = 3) : t.args = [] := by
  obtain ⟨_, _, h3, _⟩ := fit1_parts h
  unfold cntF at h3
  rw [if_neg (by omega)] at h3
  have h3 := of_decide_eq_true h3
  unfold argN at h3
  have : t.args.length = 0 := by
    split at h3
    · omega
    · split at h3
      · omega
      · split at h3
        · omega
        · omega
  exact List.eq_nil_of_length_eq_zero this
theorem fit_lit {t : Tm} (h : fit1 nm pt t = true) (hk : t.kind = 1) : t.args = [] := by
  obtain ⟨_, _, h3, _⟩ := fit1_parts h
  unfold cntF at h3
  rw [if_pos hk] at h3
  exact List.eq_nil_of_length_eq_zero (of_decide_eq_true h3)
/-- All that the document writes. -/
theorem dB_end {t : Tm} (h : fit1 nm pt t = true) (h1 : t.kind ≠ 1) : tmB t = dB t t.args.length ++ (dN t ++ [41]) := by
  rw [tmB_eq, if_neg h1]
  unfold dB dN tmPB
  rw [List.take_length, List.append_assoc]
  congr 1
  by_cases hT : hasT t.kind = true
  · rw [if_pos hT]
    have hT := of_decide_eq_true hT
    rw [if_neg (show ¬ t.kind = 7 by omega), if_neg (show ¬ t.kind = 7 by omega)]
    rcases Classical.em (t.kind = 13) with h13 | h13
    · rw [decide_eq_true h13, dA_true]
      show 40 :: (byL t.text ++ pjB 44 (t.args.map tmB ++ [])) ++ [41] = 40 :: (byL t.text ++ argB 44 t.args) ++ ([] ++ [41])
      rw [List.append_nil]
      rfl
    · rw [fit_none h (by omega)]
      show 40 :: (byL t.text ++ []) ++ [41] = 40 :: (byL t.text ++ []) ++ ([] ++ [41])
      rfl
  · have hT2 : hasT t.kind = false := by simpa using hT
    obtain ⟨hx, hl⟩ := fit_text h h1 hT2
    rw [if_neg hT, hx]
    have hT3 := of_decide_eq_false hT2
    rw [decide_eq_false (show ¬ t.kind = 13 by omega)]
    obtain ⟨a, az, ha⟩ : ∃ a az, t.args = a :: az := by
      cases q : t.args with
      | nil => rw [q] at hl; simp at hl
      | cons a az => exact ⟨a, az, rfl⟩
    rw [ha]
    show 40 :: (tmB a ++ pjB 44 (az.map tmB ++ _)) ++ [41] = 40 :: (byL noText ++ ([] ++ (tmB a ++ dA true az))) ++ (_ ++ [41])
    rw [pjB_app, dA_true]
    have e0 : byL noText = [] := rfl
    rw [e0]
    by_cases h7 : t.kind = 7
    · rw [if_pos h7, if_pos h7]
      have : (if az.map tmB = [] then (44 : UInt8) else 44) = 44 := by split <;> rfl
      rw [this]
      simp [pjB, argB]
    · rw [if_neg h7, if_neg h7]
      simp [pjB, argB]
/-- What the program has written ahead of argument i, and the mark that comes then. -/
def pB (t : Tm) (i : Nat) : List UInt8 := byL (wds.getD t.kind.toNat noText) ++ ((if hasT t.kind = true then 40 :: byL t.text else []) ++ argB (if hasT t.kind = true then 44 else 40) (t.args.take i))
def pK (t : Tm) (i : Nat) : UInt8 := if hasT t.kind = true ∨ 0 < i then 44 else 40
theorem pB_step {t : Tm} {i : Nat} (h : i < t.args.length) : pB t (i + 1) = (pB t i ++ [pK t i]) ++ tmB (t.args.getD i .nul) := by
  unfold pB pK
  rw [argB_take h]
  by_cases e : i = 0
  · subst e
    by_cases hT : hasT t.kind = true
    · simp [hT]
    · simp [hT]
  · rw [if_neg e, if_pos (Or.inr (by omega))]
    simp only [List.append_assoc, List.cons_append, List.nil_append]
theorem pB_end (t : Tm) (h1 : t.kind ≠ 1) : tmB t = pB t t.args.length ++ ((if t.kind = 7 then pK t t.args.length :: (byL (decW t.n) ++ 44 :: byL (decW t.m)) else []) ++ [41]) := by
  rw [tmB_eq, if_neg h1]
  unfold pB tmPB pK
  rw [List.take_length, List.append_assoc]
  congr 1
  by_cases hT : hasT t.kind = true
  · rw [if_pos hT, if_pos hT, if_pos (Or.inl hT), if_pos hT]
    show 40 :: (byL t.text ++ pjB 44 (t.args.map tmB ++ _)) ++ [41] = 40 :: (byL t.text) ++ argB 44 t.args ++ (_ ++ [41])
    rw [pjB_app]
    have : (if t.args.map tmB = [] then (44 : UInt8) else 44) = 44 := by split <;> rfl
    rw [this]
    by_cases h7 : t.kind = 7
    · simp [h7, pjB, argB]
    · simp [h7, pjB, argB]
  · rw [if_neg hT, if_neg hT, if_neg hT]
    show pjB 40 (t.args.map tmB ++ _) ++ [41] = [] ++ argB 40 t.args ++ (_ ++ [41])
    rw [pjB_app]
    have : (if t.args.map tmB = [] then (40 : UInt8) else 44) = if hasT t.kind = true ∨ 0 < t.args.length then 44 else 40 := by
      by_cases e : t.args = []
      · rw [if_pos (by simp [e]), if_neg]
        rintro (q | q)
        · exact hT q
        · rw [e] at q; simp at q
      · rw [if_neg (by simpa using e), if_pos (Or.inr (List.length_pos_iff.2 e))]
    rw [this]
    by_cases h7 : t.kind = 7
    · simp [h7, pjB, argB]
    · simp [h7, pjB, argB]
theorem byL_len (s : ByteArray) : (byL s).length = s.size := by unfold byL; rw [Array.length_toList]; rfl
theorem wdk_len (k : Nat) : (byL (wds.getD k noText)).length ≤ 7 := by
  rcases Nat.lt_or_ge k 16 with h | h
  · have : ∀ k : Fin 16, (byL (wds.getD k.1 noText)).length ≤ 7 := by decide +kernel
    exact this ⟨k, h⟩
  · rw [show wds.getD k noText = noText from by
      rw [List.getD_eq_getElem?_getD, List.getElem?_eq_none (by show 16 ≤ k; exact h)]; rfl]
    decide
/-- What fits is not too long. -/
theorem tmB_len : ∀ (d : Nat) (t : Tm), fitT nm pt d t = true → (tmB t).length ≤ tmW t
  | 0, _, h => by cases h
  | d + 1, t, h => by
    rw [fitT_succ, Bool.and_eq_true] at h
    obtain ⟨h1, ha⟩ := h
    have ha := List.all_eq_true.1 ha
    rw [tmW_eq]
    by_cases e : t.kind = 1
    · rw [tmB_eq, if_pos e]
      have := quote_le t.text.data.toList
      have e2 : t.text.data.toList.length = t.text.size := byL_len t.text
      rw [e2] at this
      show (quoteL t.text.data.toList).length ≤ _
      omega
    · rw [pB_end t e]
      have hm : (argB (if hasT t.kind = true then 44 else 40) t.args).length ≤ tmsW t.args := by
        have : ∀ (mk : UInt8) (az : List Tm), (∀ a ∈ az, (tmB a).length ≤ tmW a) → (argB mk az).length ≤ tmsW az := by
          intro mk az
          induction az generalizing mk with
          | nil => intro _; exact Nat.zero_le _
          | cons a az ih =>
            intro hq
            have i1 := ih 44 (fun b hb => hq b (by simp [hb]))
            have i2 := hq a (by simp)
            rw [tmsW_cons]
            show (mk :: (tmB a ++ argB 44 az)).length ≤ _
            rw [List.length_cons, List.length_append]
            omega
        exact this _ _ (fun a ha' => tmB_len d a (ha a ha'))
      have hw := wdk_len t.kind.toNat
      have hn := (fit1_parts h1).2.2.2
      unfold pB
      rw [List.take_length]
      simp only [List.length_append, List.length_cons, List.length_nil]
      have hx : (if hasT t.kind = true then (40 : UInt8) :: byL t.text else []).length ≤ 1 + t.text.size := by
        split
        · rw [List.length_cons, byL_len]; omega
        · simp
      have h7 : (if t.kind = 7 then pK t t.args.length :: (byL (decW t.n) ++ (44 : UInt8) :: byL (decW t.m)) else []).length ≤ 24 := by
        split
        · rename_i h7
          unfold nuF at hn
          rw [if_pos h7] at hn
          have hn := of_decide_eq_true hn
          have q1 := decW_len hn.1 hn.2.1
          have q2 := decW_len hn.2.2.1 hn.2.2.2
          simp only [List.length_append, List.length_cons]
          omega
        · simp
      show _ ≤ 64 + 4 * t.text.size + tmsW t.args
      omega
end
end Go.Proofs.YtfhfobikbfbajaaGreatDoor

namespace Go.Proofs.YtfhfobikbfbajaaGreatDoor
open Go.RowKit Go.Maps

def IsTr (W : World) : (Nat → Prop) → Nat → List Tm → Value → Prop
  | _, 0, ts, v => ts = [] ∧ ∃ a c, v = .slice a 0 c ∧ c ≤ 9223372036854775807 ∧ (a = none → c = 0)
  | F, d + 1, ts, v => ∃ a c, v = .slice a ts.length c ∧ ts.length ≤ c ∧ c ≤ 9223372036854775807 ∧ (a = none → c = 0) ∧
      (0 < ts.length → ∃ b o, a = some ⟨b, o, none⟩ ∧ F b ∧ b < W.heap.size ∧ ∀ j, j < ts.length → ∃ u, W.rangeAt b (o + j * 5) (tmC (ts.getD j .nul) u) ∧ IsTr W F d (ts.getD j .nul).args u)
theorem IsTr.shape {W : World} {F : Nat → Prop} : ∀ {d : Nat} {ts : List Tm} {v : Value}, IsTr W F d ts v → ∃ a c, v = .slice a ts.length c ∧ ts.length ≤ c ∧ c ≤ 9223372036854775807
  | 0, ts, v, h => by
    obtain ⟨rfl, a, c, rfl, h1, _⟩ := h
    exact ⟨a, c, rfl, by simp, h1⟩
  | d + 1, ts, v, h => by
    obtain ⟨a, c, rfl, h1, h2, _⟩ := h
    exact ⟨a, c, rfl, h1, h2⟩
theorem IsTr.one {W : World} {F : Nat → Prop} {d : Nat} {ts : List Tm} {v : Value} (h : IsTr W F d ts v) : v.oneCell' = true := by
  obtain ⟨a, c, rfl, _⟩ := h.shape
  rfl
theorem IsTr.below {W W' : World} {F : Nat → Prop} : ∀ {d : Nat} {ts : List Tm} {v : Value}, IsTr W F d ts v → Below W.heap.size W W' → IsTr W' F d ts v
  | 0, ts, v, h, _ => h
  | d + 1, ts, v, h, hb => by
    obtain ⟨a, c, hv, h1, h2, h3, h4⟩ := h
    refine ⟨a, c, hv, h1, h2, h3, fun hp => ?_⟩
    obtain ⟨b, o, ha, hF, hl, he⟩ := h4 hp
    refine ⟨b, o, ha, hF, Nat.lt_of_lt_of_le hl hb.size, fun j hj => ?_⟩
    obtain ⟨u, hr, hi⟩ := he j hj
    refine ⟨u, fun q x hx => ?_, IsTr.below hi hb⟩
    have := hr q x hx
    rw [← this]
    unfold World.cell?
    simp only [hb.block b hl]
theorem IsTr.nil (W : World) (F : Nat → Prop) : ∀ d, IsTr W F d [] (.slice none 0 0)
  | 0 => ⟨rfl, none, 0, rfl, by decide, fun _ => rfl⟩
  | _ + 1 => ⟨none, 0, rfl, Nat.le_refl _, by decide, fun _ => rfl, fun h => absurd h (by simp)⟩
theorem IsTr.deeper {W : World} {F : Nat → Prop} : ∀ {d d' : Nat} {ts : List Tm} {v : Value}, IsTr W F d ts v → d ≤ d' → IsTr W F d' ts v
  | 0, 0, _, _, h, _ => h
  | 0, d' + 1, ts, v, h, _ => by
    obtain ⟨rfl, a, c, rfl, h1, h2⟩ := h
    exact ⟨a, c, rfl, by simp, h1, h2, fun hp => absurd hp (by simp)⟩
  | d + 1, 0, _, _, _, hd => absurd hd (by omega)
  | d + 1, d' + 1, ts, v, h, hd => by
    obtain ⟨a, c, hv, h1, h2, h3, h4⟩ := h
    refine ⟨a, c, hv, h1, h2, h3, fun hp => ?_⟩
    obtain ⟨b, o, ha, hF, hb, he⟩ := h4 hp
    exact ⟨b, o, ha, hF, hb, fun j hj => by
      obtain ⟨u, hr, hi⟩ := he j hj
      exact ⟨u, hr, IsTr.deeper hi (by omega)⟩⟩
end Go.Proofs.YtfhfobikbfbajaaGreatDoor

namespace Go.Proofs.YtfhfobikbfbajaaGreatDoor
open Go.RowKit Go.Maps

def anyB : Nat → Prop := fun _ => True
theorem rangeAt_below {w w' : World} {b f : Nat} {cs : List Value} (h : w.rangeAt b f cs) (hb : Below w.heap.size w w') : w'.rangeAt b f cs := fun k x hx => (hb.cell (p := ⟨b, f + k, none⟩) (World.block_lt_of_cell? w _ (h k x hx))).trans (h k x hx)
/-- A slice of outputs, as it is read. -/
def IsOu (W : World) (d : Nat) (v : Value) (os : List (ByteArray × Tm)) : Prop :=
  ∃ a c, v = .slice a os.length c ∧ os.length ≤ c ∧ c ≤ 9223372036854775807 ∧ (a = none → c = 0) ∧ (0 < os.length → ∃ b o, a = some ⟨b, o, none⟩ ∧ ∀ j, j < os.length → ∃ u, W.rangeAt b (o + j * 6) (ouC (os.getD j ou0).1 (os.getD j ou0).2 u) ∧ IsTr W anyB d (os.getD j ou0).2.args u)
theorem IsOu.below {W W' : World} {d : Nat} {v : Value} {os : List (ByteArray × Tm)} (h : IsOu W d v os) (hb : Below W.heap.size W W') : IsOu W' d v os := by
  obtain ⟨a, c, hv, h1, h2, h3, h4⟩ := h
  refine ⟨a, c, hv, h1, h2, h3, fun hp => ?_⟩
  obtain ⟨b, o, ha, he⟩ := h4 hp
  exact ⟨b, o, ha, fun j hj => by
    obtain ⟨u, hr, ht⟩ := he j hj
    exact ⟨u, rangeAt_below hr hb, ht.below hb⟩⟩
theorem IsOu.shape {W : World} {d : Nat} {v : Value} {os : List (ByteArray × Tm)} (h : IsOu W d v os) : ∃ a c, v = .slice a os.length c ∧ os.length ≤ c ∧ c ≤ 9223372036854775807 := by
  obtain ⟨a, c, rfl, h1, h2, _⟩ := h
  exact ⟨a, c, rfl, h1, h2⟩
/-- A task, as it is read. -/
def IsTa (W : World) (d : Nat) (v : Value) (t : Tsk) : Prop := ∃ vi vo, v = .agg (tsC t.name t.budget vi vo).toArray ∧ IsS W vi t.ins ∧ IsOu W d vo t.outs
theorem IsTa.below {W W' : World} {d : Nat} {v : Value} {t : Tsk} (h : IsTa W d v t) (hb : Below W.heap.size W W') : IsTa W' d v t := by
  obtain ⟨vi, vo, hv, h1, h2⟩ := h
  exact ⟨vi, vo, hv, h1.below hb, h2.below hb⟩
def Tsk.nul : Tsk := ⟨noText, 0, [], []⟩
/-- A slice of tasks, as it is read. -/
def IsTas (W : World) (d : Nat) (v : Value) (ts : List Tsk) : Prop :=
  ∃ a c, v = .slice a ts.length c ∧ ts.length ≤ c ∧ c ≤ 9223372036854775807 ∧ (a = none → c = 0) ∧ (0 < ts.length → ∃ b o, a = some ⟨b, o, none⟩ ∧ ∀ j, j < ts.length → ∃ vi vo, W.rangeAt b (o + j * 4) (tsC (ts.getD j .nul).name (ts.getD j .nul).budget vi vo) ∧ IsS W vi (ts.getD j .nul).ins ∧ IsOu W d vo (ts.getD j .nul).outs)
theorem IsTas.below {W W' : World} {d : Nat} {v : Value} {ts : List Tsk} (h : IsTas W d v ts) (hb : Below W.heap.size W W') : IsTas W' d v ts := by
  obtain ⟨a, c, hv, h1, h2, h3, h4⟩ := h
  refine ⟨a, c, hv, h1, h2, h3, fun hp => ?_⟩
  obtain ⟨b, o, ha, he⟩ := h4 hp
  exact ⟨b, o, ha, fun j hj => by
    obtain ⟨vi, vo, hr, hi, ho⟩ := he j hj
    exact ⟨vi, vo, rangeAt_below hr hb, hi.below hb, ho.below hb⟩⟩
theorem IsTas.shape {W : World} {d : Nat} {v : Value} {ts : List Tsk} (h : IsTas W d v ts) : ∃ a c, v = .slice a ts.length c ∧ ts.length ≤ c ∧ c ≤ 9223372036854775807 := by
  obtain ⟨a, c, rfl, h1, h2, _⟩ := h
  exact ⟨a, c, rfl, h1, h2⟩
/-- How long a task's writing is at most. -/
def ousW (os : List (ByteArray × Tm)) : Nat := (os.map fun o => 20 + o.1.size + tmW o.2).sum
def insW (l : List ByteArray) : Nat := (l.map fun s => 1 + s.size).sum
def tskW (t : Tsk) : Nat := 64 + t.name.size + insW t.ins + ousW t.outs
theorem insW_take {l : List ByteArray} {i : Nat} (h : i < l.length) : insW (l.take (i + 1)) = insW (l.take i) + (1 + (l.getD i default).size) := by
  rw [List.take_succ_eq_append_getElem h, List.getD_eq_getElem?_getD, List.getElem?_eq_getElem h]
  unfold insW
  rw [List.map_append, List.sum_append]
  rfl
theorem insW_le (l : List ByteArray) (i : Nat) : insW (l.take i) ≤ insW l := by
  have : insW (l.take i ++ l.drop i) = insW (l.take i) + insW (l.drop i) := by unfold insW; rw [List.map_append, List.sum_append]
  rw [List.take_append_drop] at this
  omega
theorem ousW_take {l : List (ByteArray × Tm)} {i : Nat} (h : i < l.length) : ousW (l.take (i + 1)) = ousW (l.take i) + (20 + (l.getD i ou0).1.size + tmW (l.getD i ou0).2) := by
  rw [List.take_succ_eq_append_getElem h, List.getD_eq_getElem?_getD, List.getElem?_eq_getElem h]
  unfold ousW
  rw [List.map_append, List.sum_append]
  rfl
theorem ousW_le (l : List (ByteArray × Tm)) (i : Nat) : ousW (l.take i) ≤ ousW l := by
  have : ousW (l.take i ++ l.drop i) = ousW (l.take i) + ousW (l.drop i) := by unfold ousW; rw [List.map_append, List.sum_append]
  rw [List.take_append_drop] at this
  omega
end Go.Proofs.YtfhfobikbfbajaaGreatDoor

namespace Go.Proofs.YtfhfobikbfbajaaGreatDoor
open Go.RowKit Go.Shelf

def renB : Ren := ⟨fun n => if n = 165 then 131 else if n = 166 then 58 else if n = 167 then 60 else if n = 169 then 35 else if n = 240 then 99 else if n = 241 then 151 else if n = 276 then 133 else if n = 277 then 170 else 0,
  fun n => if n = 0 then 0 else if n = 3 then 3 else if n = 4 then 4 else if n = 5 then 5 else if n = 9 then 9 else if n = 20 then 20 else if n = 37 then 65 else if n = 70 then 79 else if n = 72 then 81 else if n = 75 then 116 else if n = 76 then 117 else if n = 80 then 85 else if n = 127 then 121 else if n = 164 then 176 else 0,
  fun n => n⟩
theorem lays165 : Lays.n165 Tryz.prog renB := by
  constructor
  all_goals first | kernel_rfl | (intro w; kernel_rfl)
theorem lays166 : Lays.n166 Tryz.prog renB := by
  constructor
  all_goals first | kernel_rfl | (intro w; kernel_rfl)
theorem lays167 : Lays.n167 Tryz.prog renB := by
  constructor
  all_goals first | kernel_rfl | (intro w; kernel_rfl)
theorem lays169 : Lays.n169 Tryz.prog renB := by
  constructor
  all_goals first | kernel_rfl | (intro w; kernel_rfl)
theorem extraB : Builder.Extra Tryz.prog renB := by
  refine { sizeBuilder := ?_, liesBuilder := ?_, t5 := ?_, a5 := ?_, z5 := ?_, v5 := ?_, infoByte := ?_, cellsByte := ?_, sizeByte := ?_, neB5 := ?_ }
  all_goals first | kernel_rfl | (intro w; kernel_rfl) | decide
/-- A builder that holds these bytes. -/
def Bd (w : World) (B b : Nat) (l : List UInt8) : Prop := Lib.IsBuilderF 81 5 B b (Lib.byteCells l) w
def Oth (b : Nat) (w w' : World) : Prop := Lib.OthersKept 5 (some b) w w'
section
variable {w w' : World} {B b : Nat} {l : List UInt8}
theorem bd_byte (h : Bd w B b l) (hB : B ≤ w.heap.size) (hl : l.length ≤ 1000000000000) (c : UInt8) : Calls Tryz.prog 60 #[.pointer (some ⟨b, 0, none⟩), .int .u8 (c.toNat : Int)] w fun e w' => e = .returned .nilIface ∧ Bd w' B b (l ++ [c]) ∧ Below B w w' ∧ Oth b w w' :=
  (Any.Builder_WriteByte_k lays167 extraB B b (Lib.byteCells l) (c.toNat : Int) w h (by rw [Lib.byteCells_length]; omega) hB).mono fun e w' ⟨h1, h2, h3, h4⟩ => ⟨h1, Or.inr (by rw [Lib.byteCells_append]; exact h2), h3, h4⟩
theorem bd_str (h : Bd w B b l) (hB : B ≤ w.heap.size) (s : ByteArray) (hl : l.length + s.size ≤ 1000000000000) : Calls Tryz.prog 58 #[.pointer (some ⟨b, 0, none⟩), .string s] w fun e w' => e = .returned (.tuple #[.int .i64 s.size, .nilIface]) ∧ Bd w' B b (l ++ s.data.toList) ∧ Below B w w' ∧ Oth b w w' :=
  (Any.Builder_WriteString_k lays166 extraB B b (Lib.byteCells l) s w h (by rw [Lib.byteCells_length]; omega) hB).mono fun e w' ⟨h1, h2, h3, h4⟩ => ⟨h1, Or.inr (by rw [Lib.byteCells_append, ← Lib.strCells_eq]; exact h2), h3, h4⟩
theorem bd_string (h : Bd w B b l) (hB : B ≤ w.heap.size) : Calls Tryz.prog 35 #[.pointer (some ⟨b, 0, none⟩)] w fun e w' => e = .returned (.string (bs l)) ∧ Below B w w' :=
  (Any.Builder_String_any_k lays169 extraB B b l w h hB).mono fun _ _ ⟨h1, _, h3, _⟩ => ⟨h1, h3⟩
theorem bd_grow (n : Nat) (hn : n ≤ 281474976710656) (w : World) : Calls Tryz.prog 131 #[.pointer (some ⟨w.heap.size, 0, none⟩), .int .i64 (n : Int)] (w.alloc (.cells #[.pointer none, .slice none 0 0] 81)) fun e w' => e = .returned (.tuple #[]) ∧ Bd w' w.heap.size w.heap.size [] ∧ Below w.heap.size w w' :=
  (Any.Builder_Grow_fresh lays165 extraB w.heap.size w.heap.size n _ (Nat.le_refl _) (heap_alloc_last w _) (by simp) hn).mono fun e w' ⟨h1, h2, h3⟩ => ⟨h1, Lib.IsBuilderF.of (Or.inr h2), ((Below.refl w.heap.size w).alloc (Nat.le_refl _) _).trans h3⟩
end
end Go.Proofs.YtfhfobikbfbajaaGreatDoor

namespace Go.Proofs.YtfhfobikbfbajaaGreatDoor
open Go.RowKit Go.Maps

/-- The byte at a place; behind the text a line's end. -/
def lk (s : ByteArray) (i : Nat) : UInt8 := s.data.toList.getD i 10
theorem len_data (s : ByteArray) : s.data.toList.length = s.size := by rw [Array.length_toList]; rfl
theorem kindex_str (s : ByteArray) (j : Nat) (hj : j < s.size) (W : World) : (Instr.index 9 (.string s) (.int .i64 (j : Int))).run Tryz.prog W = .ok (.int .u8 ((lk s j).toNat : Int)) W := by
  rw [run_index_string W 9 s .i64 j Tryz.underlying9]
  have e : lk s j = s[j]'hj := by
    unfold lk
    rw [List.getD_eq_getElem?_getD, List.getElem?_eq_getElem (by rw [len_data]; exact hj)]
    rfl
  rw [e, dif_pos ⟨by omega, by omega⟩]
  rfl
section
variable {w0 w w' : World} {g : Nat} {s : ByteArray} {a st bh ln : Nat} {out : List Tok} {wr : Int} {v : Value}
theorem grown_set (w : World) (g j : Nat) (u : Value) : w.grownBy (w.setCell ⟨g, j, none⟩ u) (some g) := by
  refine ⟨rfl, rfl, rfl, by simp [World.setCell], fun k hk hne => ?_⟩
  exact Below.heap_setCell w ⟨g, j, none⟩ u k (fun e => hne (by rw [e]))
end
end Go.Proofs.YtfhfobikbfbajaaGreatDoor

namespace Go.Proofs.YtfhfobikbfbajaaGreatDoor
open Go.RowKit Go.Maps

theorem u8_eq (c : UInt8) (k : Nat) : ((c.toNat : Int) == (k : Int)) = decide (c.toNat = k) := by
  by_cases h : c.toNat = k
  · rw [h]; simp
  · rw [decide_eq_false h]; simp; omega
end Go.Proofs.YtfhfobikbfbajaaGreatDoor

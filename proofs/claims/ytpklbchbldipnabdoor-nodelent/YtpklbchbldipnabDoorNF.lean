/- The document's may and Name. A name, both ways; texts laid behind one another. Names: strings and lists of bytes, the order. -/
import Derived.Test.YtpklbchbldipnabDoorNE
import Derived.Test.YtpklbchbldipnabDoorNB
import Derived.Test.YtpklbchbldipnabDoorNA
namespace Go.Proofs.YtpklbchbldipnabDoor
open Go.RowKit

theorem infoStr : (Tryd.prog.info? 9).map (fun i => (i.zero, i.size, i.bytes)) = some (some (.string ByteArray.empty), 1, 16) := by kernel_rfl
set_option maxRecDepth 100000 in
set_option maxHeartbeats 2000000 in
theorem may_calls (c : Int) (w : World) : Calls Tryd.prog 75 #[.int .u8 c] w fun e w' => e = .returned (.bool (inN c)) ∧ w' = w := by
  obtain ⟨q, hq⟩ : ∃ q, q = inN c := ⟨_, rfl⟩
  have HQ := hide hq
  rw [← hq]
  clear hq
  by_cases a1 : 97 ≤ c
  all_goals by_cases a2 : c ≤ 122
  all_goals by_cases a3 : 65 ≤ c
  all_goals by_cases a4 : c ≤ 90
  all_goals by_cases a5 : 48 ≤ c
  all_goals by_cases a6 : c ≤ 57
  all_goals by_cases a7 : c = 46
  all_goals by_cases a8 : c = 95
  all_goals by_cases a9 : c = 45
  all_goals try (exfalso; omega)
  all_goals (
    have HV : Hid (q = decide ((97 ≤ c ∧ c ≤ 122) ∨ (65 ≤ c ∧ c ≤ 90) ∨ (48 ≤ c ∧ c ≤ 57) ∨ c = 46 ∨ c = 95 ∨ c = 45)) := HQ.out
    have b7 : (c == 46) = decide (c = 46) := rfl
    have b8 : (c == 95) = decide (c = 95) := rfl
    have b9 : (c == 45) = decide (c = 45) := rfl
    go_enter Tryd.func75, Tryd.ntmps75
    go_wp2
    go_ret
    refine ⟨?_, rfl⟩
    rw [HV.out]
    first
    | (rw [decide_eq_true (by omega)]; rfl)
    | (rw [decide_eq_false (by omega)]; rfl))
/-- The document's name: the first i bytes may stand in one. -/
def mayTo (s : ByteArray) (i : Nat) : Prop := ∀ j, j < i → inN (byt s j) = true
def rnameB (s : ByteArray) : Prop := 1 ≤ s.size ∧ s.size ≤ 64 ∧ s ≠ dot1 ∧ s ≠ dot2 ∧ mayTo s s.size
set_option maxRecDepth 100000 in
set_option maxHeartbeats 2000000 in
theorem rname_calls (s : ByteArray) (hs : s.size ≤ 140737488360000) (q : Bool) (hq : q = true ↔ rnameB s) (w : World) : Calls Tryd.prog 61 #[.string s] w fun e w' => e = .returned (.bool q) ∧ w' = w := by
  have HT : Hid (rnameB s → q = true) := hq.2
  have HF : Hid (¬ rnameB s → q = false) := fun h => by
    cases q with
    | false => rfl
    | true => exact absurd (hq.1 rfl) h
  clear hq
  have e1 : (s.toList == [46]) = decide (s = dot1) := by rw [← str_eq, ByteArray.toList_eq dot1]; rfl
  have e2 : (s.toList == [46, 46]) = decide (s = dot2) := by rw [← str_eq, ByteArray.toList_eq dot2]; rfl
  by_cases h : 1 ≤ s.size ∧ s.size ≤ 64 ∧ s ≠ dot1 ∧ s ≠ dot2
  · obtain ⟨h1, h2, h3, h4⟩ := h
    rw [decide_eq_false h3] at e1
    rw [decide_eq_false h4] at e2
    have H3 := hide h3
    have H4 := hide h4
    clear h3 h4
    have i1 : (1 : Int) ≤ (s.size : Int) := by omega
    have i2 : (s.size : Int) ≤ 64 := by omega
    go_enter Tryd.func61, Tryd.ntmps61
    go_wp2_with fail
    go_loop [3] (fun jv => ∃ (j : Nat), j ≤ s.size ∧ jv = .int .i64 (j : Int) ∧ Hid (mayTo s j)) (fun j => s.size - (intOf j).toNat)
    case atStart => exact ⟨0, by omega, rfl, fun j hj => by omega⟩
    case round =>
      obtain ⟨j, hj, rfl, HJ⟩ := hrel
      by_cases hlt : j < s.size
      · have hidx := index_str s j hlt
        have HM := hide (may_calls (byt s j) w)
        have hjI : (j : Int) < (s.size : Int) := by omega
        cases hin : inN (byt s j) with
        | true =>
          have HN : Hid (mayTo s (j + 1)) := fun k hk => by
            by_cases e : k = j
            · subst e; exact hin
            · exact unhide HJ k (by omega)
          rw [hin] at HM
          generalize byt s j = x at *
          clear hin
          go_wp2_with fail
          refine (unhide HM).mono ?_
          rintro e w1 ⟨rfl, hw1⟩
          obtain rfl := hw1.symm
          clear hw1
          go_wp2
          go_roundw
          case rel => exact ⟨j + 1, by omega, by go_num, HN⟩
          case measure => simp [intOf]; omega
        | false =>
          have HN : Hid (¬ rnameB s) := fun hr => by
            have := hr.2.2.2.2 j hlt
            rw [hin] at this
            cases this
          rw [hin] at HM
          generalize byt s j = x at *
          clear hin
          go_wp2_with fail
          refine (unhide HM).mono ?_
          rintro e w1 ⟨rfl, hw1⟩
          obtain rfl := hw1.symm
          clear hw1
          go_wp2
          go_ret
          exact ⟨by rw [unhide HF HN.out]; rfl, rfl⟩
      · have HN : Hid (rnameB s) := ⟨h1, h2, H3.out, H4.out, fun k hk => unhide HJ k (by omega)⟩
        go_wp2
        go_ret
        exact ⟨by rw [unhide HT HN.out]; rfl, rfl⟩
  · have HN : Hid (¬ rnameB s) := fun hr => h ⟨hr.1, hr.2.1, hr.2.2.1, hr.2.2.2.1⟩
    have hcond : s.size < 1 ∨ (1 ≤ s.size ∧ 64 < s.size) ∨ (1 ≤ s.size ∧ s.size ≤ 64 ∧ s = dot1) ∨ (1 ≤ s.size ∧ s.size ≤ 64 ∧ s ≠ dot1 ∧ s = dot2) := by
      by_cases a1 : 1 ≤ s.size
      · by_cases a2 : s.size ≤ 64
        · by_cases a3 : s = dot1
          · exact Or.inr (Or.inr (Or.inl ⟨a1, a2, a3⟩))
          · by_cases a4 : s = dot2
            · exact Or.inr (Or.inr (Or.inr ⟨a1, a2, a3, a4⟩))
            · exact absurd ⟨a1, a2, a3, a4⟩ h
        · exact Or.inr (Or.inl ⟨a1, by omega⟩)
      · exact Or.inl (by omega)
    clear h
    rcases hcond with c1 | ⟨c1, c2⟩ | ⟨c1, c2, c3⟩ | ⟨c1, c2, c3, c4⟩
    · have i1 : (s.size : Int) < 1 := by omega
      go_enter Tryd.func61, Tryd.ntmps61
      go_wp2
      go_ret
      exact ⟨by rw [unhide HF HN.out]; rfl, rfl⟩
    · have i1 : (1 : Int) ≤ (s.size : Int) := by omega
      have i2 : (64 : Int) < (s.size : Int) := by omega
      go_enter Tryd.func61, Tryd.ntmps61
      go_wp2
      go_ret
      exact ⟨by rw [unhide HF HN.out]; rfl, rfl⟩
    · have i1 : (1 : Int) ≤ (s.size : Int) := by omega
      have i2 : (s.size : Int) ≤ 64 := by omega
      rw [decide_eq_true c3] at e1
      clear c3
      go_enter Tryd.func61, Tryd.ntmps61
      go_wp2
      go_ret
      exact ⟨by rw [unhide HF HN.out]; rfl, rfl⟩
    · have i1 : (1 : Int) ≤ (s.size : Int) := by omega
      have i2 : (s.size : Int) ≤ 64 := by omega
      rw [decide_eq_false c3] at e1
      rw [decide_eq_true c4] at e2
      clear c3 c4
      go_enter Tryd.func61, Tryd.ntmps61
      go_wp2
      go_ret
      exact ⟨by rw [unhide HF HN.out]; rfl, rfl⟩
end Go.Proofs.YtpklbchbldipnabDoor

namespace Go.Proofs.YtpklbchbldipnabDoor
open Go.RowKit

theorem wrL_none : ∀ (l : List UInt8) (c : Nat), c ≤ 64 → (wrL l c = none ↔ ((∀ b ∈ l, inL b = true) ∧ c + l.length ≤ 64))
  | [], c, hc => by simp [wrL]; omega
  | b :: l, c, hc => by
    rw [wrL]
    by_cases h : inL b = false ∨ c = 64
    · rw [if_pos h]
      simp
      intro h1 _
      rcases h with h | h
      · rw [h1] at h; cases h
      · omega
    · rw [if_neg h, wrL_none l (c + 1) (by omega)]
      have hb : inL b = true := by cases hh : inL b with
        | true => rfl
        | false => exact absurd (Or.inl hh) h
      simp [hb]
      intro _
      omega
theorem inL_47 : inL 47 = false := by decide
/-- A part that is a name. -/
def nmL (p : List UInt8) : Prop := dpL p = none ∧ p ≠ []
theorem nmL_iff (p : List UInt8) : nmL p ↔ (p ≠ [46] ∧ p ≠ [46, 46] ∧ (∀ b ∈ p, inL b = true) ∧ p.length ≤ 64 ∧ p ≠ []) := by
  unfold nmL dpL
  by_cases h : p = [46] ∨ p = [46, 46]
  · rw [if_pos h]
    constructor
    · rintro ⟨h1, _⟩; cases h1
    · rintro ⟨h1, h2, _⟩
      exact absurd h (fun h => h.elim h1 h2)
  · rw [if_neg h, wrL_none p 0 (by omega)]
    constructor
    · rintro ⟨⟨h1, h2⟩, h3⟩
      exact ⟨fun e => h (Or.inl e), fun e => h (Or.inr e), h1, by omega, h3⟩
    · rintro ⟨_, _, h1, h2, h3⟩
      exact ⟨⟨h1, by omega⟩, h3⟩
theorem nmL_noSlash {p : List UInt8} (h : nmL p) : 47 ∉ p := fun e => by
  have := ((nmL_iff p).1 h).2.2.1 47 e
  rw [inL_47] at this
  cases this
/-- The parts are names, from the i-th on, and not too many. -/
theorem docL_none : ∀ (ps : List (List UInt8)) (a i : Nat), i ≤ 15 → ps ≠ [] → (docL ps a i = none ↔ ((∀ p ∈ ps, nmL p) ∧ i + ps.length ≤ 16))
  | [], _, _, _, h => absurd rfl h
  | p :: r, a, i, hi, _ => by
    rw [docL]
    cases hd : dpL p with
    | some x =>
      simp only []
      constructor
      · intro h; cases h
      · rintro ⟨h, _⟩
        have := (h p (by simp)).1
        rw [hd] at this
        cases this
    | none =>
      simp only []
      by_cases h : p = [] ∨ (i = 15 ∧ r ≠ [])
      · rw [if_pos h]
        constructor
        · intro h; cases h
        · rintro ⟨h1, h2⟩
          rcases h with h | ⟨h, h'⟩
          · exact absurd h (h1 p (by simp)).2
          · cases r with
            | nil => exact absurd rfl h'
            | cons _ _ => simp at h2; omega
      · rw [if_neg h]
        have hp : nmL p := ⟨hd, fun e => h (Or.inl e)⟩
        cases r with
        | nil =>
          simp [docL]
          exact ⟨hp, by omega⟩
        | cons q r =>
          rw [docL_none (q :: r) _ (i + 1) (by
            have : i ≠ 15 := fun e => h (Or.inr ⟨e, by simp⟩)
            omega) (by simp)]
          constructor
          · rintro ⟨h1, h2⟩
            refine ⟨fun x hx => ?_, by simp at h2 ⊢; omega⟩
            rcases List.mem_cons.1 hx with rfl | hx
            · exact hp
            · exact h1 x hx
          · rintro ⟨h1, h2⟩
            exact ⟨fun x hx => h1 x (List.mem_cons_of_mem _ hx), by simp at h2 ⊢; omega⟩
/-- A path: its parts are names, at most sixteen; at most 255 bytes. -/
theorem pl_ok (l : List UInt8) : (plL l).2 = false ↔ ((∀ p ∈ cutL l, nmL p) ∧ (cutL l).length ≤ 16 ∧ l.length ≤ 255) := by
  have hn := docL_none (cutL l) 0 0 (by omega) (cutL_ne l)
  rw [Nat.zero_add] at hn
  unfold plL finL
  cases hd : docL (cutL l) 0 0 with
  | none =>
    have := hn.1 hd
    simp only []
    split
    · rename_i h
      constructor
      · intro e; cases e
      · rintro ⟨_, _, e⟩; omega
    · rename_i h
      exact ⟨fun _ => ⟨this.1, this.2, by omega⟩, fun _ => rfl⟩
  | some x =>
    simp only []
    have : ¬ ((∀ p ∈ cutL l, nmL p) ∧ (cutL l).length ≤ 16) := fun h => by
      have := hn.2 h
      rw [hd] at this
      cases this
    split
    · constructor
      · intro e; cases e
      · rintro ⟨h1, h2, _⟩; exact absurd ⟨h1, h2⟩ this
    · constructor
      · intro e; cases e
      · rintro ⟨h1, h2, _⟩; exact absurd ⟨h1, h2⟩ this
theorem wrong_pl (s : ByteArray) : wrongB s = (plL (toL s)).2 := by rw [← lv_pl]
theorem place_pl (s : ByteArray) : (lvS s).1 = (plL (toL s)).1 := by rw [← lv_pl]
theorem nameB_L (s : ByteArray) : nameB s = true ↔ nmL (toL s) := by
  unfold nameB
  rw [slash_L, wrong_pl]
  simp only [Bool.and_eq_true, Bool.not_eq_true', decide_eq_false_iff_not]
  rw [pl_ok]
  constructor
  · rintro ⟨⟨h1, _, _⟩, h2⟩
    rw [cutL_one _ h2] at h1
    exact h1 _ (by simp)
  · intro h
    have h2 := nmL_noSlash h
    rw [cutL_one _ h2]
    refine ⟨⟨fun p hp => ?_, by simp, ?_⟩, h2⟩
    · rw [List.mem_singleton.1 hp]; exact h
    · have := ((nmL_iff _).1 h).2.2.2.1
      omega
theorem rnameB_L (s : ByteArray) : rnameB s ↔ nmL (toL s) := by
  rw [nmL_iff]
  unfold rnameB mayTo
  have d1 : s = dot1 ↔ toL s = [46] := by rw [← toL_iff]; rfl
  have d2 : s = dot2 ↔ toL s = [46, 46] := by rw [← toL_iff]; rfl
  have hall : (∀ j, j < s.size → inN (byt s j) = true) ↔ ∀ b ∈ toL s, inL b = true := by
    constructor
    · intro h b hb
      obtain ⟨j, hj, rfl⟩ := List.mem_iff_getElem.1 hb
      have := h j (by rw [← toL_len]; exact hj)
      rw [byt_at, List.getD_eq_getElem?_getD, List.getElem?_eq_getElem hj] at this
      exact this
    · intro h j hj
      have hj' : j < (toL s).length := by rw [toL_len]; exact hj
      have := h ((toL s)[j]) (List.getElem_mem hj')
      rw [byt_at, List.getD_eq_getElem?_getD, List.getElem?_eq_getElem hj']
      exact this
  have hz : 1 ≤ s.size ↔ toL s ≠ [] := by
    rw [← toL_len]
    cases toL s <;> simp
  rw [hall, hz, toL_len, ne_eq, ne_eq, ne_eq, d1, d2]
  constructor
  · rintro ⟨a, b, c, d, e⟩; exact ⟨c, d, e, b, a⟩
  · rintro ⟨c, d, e, b, a⟩; exact ⟨a, b, c, d, e⟩
theorem name_iff (s : ByteArray) : nameB s = true ↔ rnameB s := by rw [nameB_L, rnameB_L]
/-- The texts, a slash between each two. -/
def joinS (l : List ByteArray) : ByteArray := ⟨(jn (l.map toL)).toArray⟩
theorem toL_join (l : List ByteArray) : toL (joinS l) = jn (l.map toL) := by simp [toL, joinS]
theorem toL_app (a b : ByteArray) : toL (a ++ b) = toL a ++ toL b := by simp [toL, ByteArray.data_append]
theorem join_first {l : List ByteArray} (h : 0 < l.length) : joinS (l.take 1) = ⟨#[]⟩ ++ l.getD 0 default := by
  refine toL_inj ?_
  cases l with
  | nil => simp at h
  | cons x r =>
    rw [toL_join, toL_app]
    simp [jn, Lib.joinTail, toL]
theorem join_more {l : List ByteArray} {k : Nat} (hk : 0 < k) (h : k < l.length) : joinS (l.take (k + 1)) = (joinS (l.take k) ++ ⟨#[47]⟩) ++ l.getD k default := by
  refine toL_inj ?_
  rw [toL_join, toL_app, toL_app, toL_join, List.map_take, List.map_take, jn_take_succ (l.map toL) k (toL (l.getD k default)) hk]
  · rfl
  · rw [List.getElem?_map, List.getD_eq_getElem?_getD, List.getElem?_eq_getElem h]
    rfl
theorem jn_len (M : Nat) : ∀ (l : List (List UInt8)), (∀ p ∈ l, p.length ≤ M) → (jn l).length ≤ l.length * (M + 1)
  | [], _ => by simp [jn]
  | [x], h => by rw [jn_one]; have := h x (by simp); simp; omega
  | x :: y :: r, h => by
    rw [jn_two]
    have h1 := h x (by simp)
    have h2 := jn_len M (y :: r) (fun p hp => h p (List.mem_cons_of_mem _ hp))
    simp only [List.length_append, List.length_cons] at h2 ⊢
    have : (r.length + 1 + 1) * (M + 1) = (r.length + 1) * (M + 1) + (M + 1) := Nat.succ_mul _ _
    omega
theorem join_len {M : Nat} {l : List ByteArray} (h : ∀ p ∈ l, p.size ≤ M) : (joinS l).size ≤ l.length * (M + 1) := by
  rw [← toL_len, toL_join]
  have := jn_len M (l.map toL) (fun p hp => by
    obtain ⟨x, hx, rfl⟩ := List.mem_map.1 hp
    rw [toL_len]; exact h x hx)
  rwa [List.length_map] at this
/-- Has it a path? -/
def textB (l : List ByteArray) : Bool := decide (1 ≤ l.length ∧ l.length ≤ 16 ∧ (joinS l).size ≤ 255) && l.all nameB
end Go.Proofs.YtpklbchbldipnabDoor

namespace Go.Proofs.YtpklbchbldipnabDoor
open Go.RowKit

theorem toL_mkS (x : List Int) : toL (mkS x) = x.map fun n => UInt8.ofNat n.toNat := by
  have := mkS_list x ByteArray.empty
  unfold toL mkS
  rw [this]
  simp
theorem mkS_size (x : List Int) : (mkS x).size = x.length := by
  rw [← toL_len, toL_mkS, List.length_map]
theorem byt_mkS {x : List Int} (h : Byt x) (j : Nat) : byt (mkS x) j = x.getD j 0 := by
  rw [byt_at, toL_mkS]
  by_cases hj : j < x.length
  · have h1 := h x[j] (List.getElem_mem hj)
    rw [List.getD_eq_getElem?_getD, List.getD_eq_getElem?_getD, List.getElem?_map, List.getElem?_eq_getElem hj]
    simp only [Option.map_some, Option.getD_some, UInt8.toNat_ofNat']
    omega
  · rw [List.getD_eq_getElem?_getD, List.getD_eq_getElem?_getD, List.getElem?_eq_none (by simpa using hj), List.getElem?_eq_none (by omega)]
    rfl
/-- The bytes of a text. -/
def bsL (s : ByteArray) : List Int := (toL s).map fun b => ((b.toNat : Nat) : Int)
theorem bsL_byt (s : ByteArray) : Byt (bsL s) := by
  intro x hx
  obtain ⟨b, _, rfl⟩ := List.mem_map.1 hx
  have := b.toNat_lt
  omega
theorem bsL_len (s : ByteArray) : (bsL s).length = s.size := by unfold bsL; rw [List.length_map, toL_len]
theorem mkS_bsL (s : ByteArray) : mkS (bsL s) = s := by
  refine toL_inj ?_
  rw [toL_mkS]
  unfold bsL
  rw [List.map_map]
  conv => rhs; rw [← List.map_id (toL s)]
  refine List.map_congr_left fun b _ => ?_
  simp
theorem bsL_mkS {x : List Int} (h : Byt x) : bsL (mkS x) = x := mkS_inj (bsL_byt _) h (mkS_bsL _)
theorem mkS_eq {x y : List Int} (hx : Byt x) (hy : Byt y) : decide (mkS x = mkS y) = decide (x = y) := by
  by_cases e : x = y
  · subst e; simp
  · rw [decide_eq_false e, decide_eq_false fun h => e (mkS_inj hx hy h)]
/-- A name. -/
def nbL (x : List Int) : Bool := nameB (mkS x)
theorem nbL_le (x : List Int) (h : nbL x = true) : x.length ≤ 64 := by
  have h1 := (nmL_iff _).1 ((nameB_L _).1 h)
  rw [toL_mkS, List.length_map] at h1
  exact h1.2.2.2.1
theorem less_ahd : ∀ {x y : List Int}, Byt x → Byt y → Op.bytesLess (x.map fun n => UInt8.ofNat n.toNat) (y.map fun n => UInt8.ofNat n.toNat) = ahd x y
  | x, [], _, _ => by cases x <;> rfl
  | [], _ :: _, _, _ => rfl
  | a :: x, b :: y, hx, hy => by
    have ha := hx a (by simp)
    have hb := hy b (by simp)
    have ih := less_ahd (x := x) (y := y) (fun c hc => hx c (by simp [hc])) (fun c hc => hy c (by simp [hc]))
    rw [List.map_cons, List.map_cons, Op.bytesLess, ih, ahd]
    have e1 : (UInt8.ofNat a.toNat == UInt8.ofNat b.toNat) = decide (a = b) := by
      by_cases e : a = b
      · subst e; simp
      · rw [decide_eq_false e]
        simp only [beq_eq_false_iff_ne, ne_eq]
        intro h
        have := congrArg UInt8.toNat h
        simp only [UInt8.toNat_ofNat'] at this
        omega
    have e2 : decide (UInt8.ofNat a.toNat < UInt8.ofNat b.toNat) = decide (a < b) := by
      refine decide_eq_decide.2 ?_
      rw [UInt8.lt_iff_toNat_lt, UInt8.toNat_ofNat', UInt8.toNat_ofNat']
      omega
    rw [e1, e2]
    by_cases e : a = b
    · subst e; simp
    · rw [if_neg e, decide_eq_false e, Bool.false_and, Bool.or_false]
theorem less_mkS {x y : List Int} (hx : Byt x) (hy : Byt y) : Op.bytesLess (mkS x).toList (mkS y).toList = ahd x y := by
  rw [ByteArray.toList_eq, ByteArray.toList_eq]
  have h1 : (mkS x).data.toList = _ := toL_mkS x
  have h2 : (mkS y).data.toList = _ := toL_mkS y
  rw [h1, h2]
  exact less_ahd hx hy
theorem ahd_or : ∀ (x y : List Int), (ahd x y || decide (x = y)) = !ahd y x
  | [], [] => rfl
  | [], _ :: _ => rfl
  | _ :: _, [] => rfl
  | a :: x, b :: y => by
    have ih := ahd_or x y
    rw [ahd, ahd]
    by_cases e : a = b
    · subst e
      rw [if_pos rfl, if_pos rfl, ← ih]
      simp
    · have e' : ¬ (a :: x) = (b :: y) := fun h => e (by injection h)
      rw [if_neg e, if_neg (fun h => e h.symm), decide_eq_false e', Bool.or_false, ← decide_not]
      exact decide_eq_decide.2 (by omega)
/-- The string order, as the program asks it. -/
theorem leq_mkS {x y : List Int} (hx : Byt x) (hy : Byt y) : (Op.bytesLess (mkS x).toList (mkS y).toList || (mkS x).toList == (mkS y).toList) = !ahd y x := by
  rw [less_mkS hx hy, str_eq, mkS_eq hx hy, ahd_or]
theorem leq_run {x y : List Int} (hx : Byt x) (hy : Byt y) (W : World) : (binOp .leq 9 (.string (mkS x)) (.string (mkS y))).run Tryd.prog W = .ok (.bool (!ahd y x)) W := by
  rw [← leq_mkS hx hy]
  simp [binOp, Op.stringOp]
theorem ahd_step {x y : List Int} {i : Nat} (h1 : i < x.length) (h2 : i < y.length) : ahd (x.drop i) (y.drop i) = if x.getD i 0 = y.getD i 0 then ahd (x.drop (i + 1)) (y.drop (i + 1)) else decide (x.getD i 0 < y.getD i 0) := by
  rw [List.drop_eq_getElem_cons h1, List.drop_eq_getElem_cons h2, ahd, List.getD_eq_getElem?_getD, List.getD_eq_getElem?_getD, List.getElem?_eq_getElem h1, List.getElem?_eq_getElem h2]
  rfl
theorem ahd_end {x y : List Int} {i : Nat} (h : x.length ≤ i ∨ y.length ≤ i) (h1 : i ≤ x.length) (h2 : i ≤ y.length) : ahd (x.drop i) (y.drop i) = decide (x.length < y.length) := by
  by_cases hy : y.length ≤ i
  · rw [List.drop_eq_nil_of_le hy, decide_eq_false (by omega)]
    cases x.drop i <;> rfl
  · have hx : x.length ≤ i := by omega
    rw [List.drop_eq_nil_of_le hx, decide_eq_true (by omega), List.drop_eq_getElem_cons (by omega : i < y.length)]
    rfl
end Go.Proofs.YtpklbchbldipnabDoor

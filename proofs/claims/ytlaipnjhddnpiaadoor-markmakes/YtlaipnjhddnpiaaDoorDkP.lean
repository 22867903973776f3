/- Disks in words: what lasts, what is cached, what the calls make of it; the document's lists; that both tell the same. -/
import Derived.Below
namespace Go.Proofs.YtlaipnjhddnpiaaDoor

/-- A sector's bytes. -/
def IsSec (s : List Int) : Prop := s.length = 512 ∧ ∀ x ∈ s, 0 ≤ x ∧ x ≤ 255
def zsec : List Int := List.replicate 512 0
theorem zsec_is : IsSec zsec := ⟨List.length_replicate, fun x hx => by have := List.eq_of_mem_replicate hx; omega⟩

/-- A disk: what lasts, the writes since the last Flush, the acts. -/
structure AD where
  la : List (List Int)
  wr : Nat → List (List Int)
  rd : Int
  wt : Int
  fl : Int
def AD.now (D : AD) (i : Nat) : List Int := (D.wr i).getLast?.getD (D.la.getD i zsec)
def updF {α : Type} (f : Nat → α) (i : Nat) (x : α) : Nat → α := fun j => if j = i then x else f j
theorem updF_same {α : Type} (f : Nat → α) (i : Nat) (x : α) : updF f i x i = x := by simp [updF]
theorem updF_other {α : Type} (f : Nat → α) {i j : Nat} (x : α) (h : j ≠ i) : updF f i x j = f j := by simp [updF, h]
/-- Disks that may be. -/
structure AD.Ok (D : AD) : Prop where
  lo : 2 ≤ D.la.length
  hi : D.la.length ≤ 65536
  las : ∀ s ∈ D.la, IsSec s
  wrs : ∀ i, ∀ s ∈ D.wr i, IsSec s
  out : ∀ i, D.la.length ≤ i → D.wr i = []
theorem AD.Ok.now {D : AD} (h : D.Ok) {i : Nat} (hi : i < D.la.length) : IsSec (D.now i) := by
  unfold AD.now
  cases hw : (D.wr i).getLast? with
  | none =>
    simp only [Option.getD_none]
    rw [List.getD_eq_getElem?_getD, List.getElem?_eq_getElem hi]
    exact h.las _ (List.getElem_mem hi)
  | some s => exact h.wrs i s (List.mem_of_getLast? hw)
def AD.read (D : AD) : AD := { D with rd := D.rd + 1 }
def AD.write (D : AD) (i : Nat) (s : List Int) : AD := { D with wr := updF D.wr i (D.wr i ++ [s]), wt := D.wt + 1 }
/-- A bit turned over. -/
def turnB (s : List Int) (bit : Nat) : List Int := s.set (bit / 8) (Int.ofNat ((s.getD (bit / 8) 0).toNat ^^^ 2 ^ (bit % 8)))
def AD.turn (D : AD) (i bit : Nat) : AD := { D with la := D.la.set i (turnB (D.la.getD i zsec) bit), wr := updF D.wr i ((D.wr i).map (turnB · bit)) }
theorem turnB_is {s : List Int} (h : IsSec s) {bit : Nat} (hb : bit < 4096) : IsSec (turnB s bit) := by
  refine ⟨by simp [turnB, h.1], fun x hx => ?_⟩
  unfold turnB at hx
  rcases List.mem_or_eq_of_mem_set hx with hx | hx
  · exact h.2 x hx
  · have hj : bit / 8 < s.length := by rw [h.1]; omega
    have hm := h.2 _ (List.getElem_mem hj)
    rw [List.getD_eq_getElem?_getD, List.getElem?_eq_getElem hj, Option.getD_some] at hx
    have h1 : (s[bit / 8].toNat) < 2 ^ 8 := by omega
    have h2 : 2 ^ (bit % 8) < 2 ^ 8 := Nat.pow_lt_pow_right (by omega) (by omega)
    have h3 := Nat.xor_lt_two_pow h1 h2
    subst hx
    generalize (s[bit / 8].toNat ^^^ 2 ^ (bit % 8)) = z at h3
    show 0 ≤ (z : Int) ∧ (z : Int) ≤ 255
    omega
theorem AD.Ok.read {D : AD} (h : D.Ok) : D.read.Ok := ⟨h.lo, h.hi, h.las, h.wrs, h.out⟩
theorem AD.Ok.write {D : AD} (h : D.Ok) {i : Nat} (hi : i < D.la.length) {s : List Int} (hs : IsSec s) : (D.write i s).Ok := by
  refine ⟨h.lo, h.hi, h.las, fun j t ht => ?_, fun j hj => ?_⟩
  · by_cases e : j = i
    · subst e
      simp only [AD.write, updF_same] at ht
      rcases List.mem_append.1 ht with ht | ht
      · exact h.wrs j t ht
      · rw [List.mem_singleton.1 ht]; exact hs
    · simp only [AD.write, updF_other _ _ e] at ht
      exact h.wrs j t ht
  · have hj' : D.la.length ≤ j := hj
    simp only [AD.write]
    rw [updF_other _ _ (by omega)]
    exact h.out j hj'
theorem AD.Ok.turn {D : AD} (h : D.Ok) {i bit : Nat} (hi : i < D.la.length) (hb : bit < 4096) : (D.turn i bit).Ok := by
  have hla : (D.turn i bit).la.length = D.la.length := by simp [AD.turn]
  refine ⟨by rw [hla]; exact h.lo, by rw [hla]; exact h.hi, fun s hs => ?_, fun j t ht => ?_, fun j hj => ?_⟩
  · simp only [AD.turn] at hs
    rcases List.mem_or_eq_of_mem_set hs with hs | hs
    · exact h.las s hs
    · rw [hs, List.getD_eq_getElem?_getD, List.getElem?_eq_getElem hi]
      exact turnB_is (h.las _ (List.getElem_mem hi)) hb
  · by_cases e : j = i
    · subst e
      simp only [AD.turn, updF_same] at ht
      obtain ⟨u, hu, rfl⟩ := List.mem_map.1 ht
      exact turnB_is (h.wrs j u hu) hb
    · simp only [AD.turn, updF_other _ _ e] at ht
      exact h.wrs j t ht
  · rw [hla] at hj
    simp only [AD.turn]
    rw [updF_other _ _ (by omega)]
    exact h.out j hj

/-- The document's lists: numbers and bytes. -/
abbrev Ats := List (Int × List Int)
def ofN (l : Ats) (n : Int) : List (List Int) := (l.filter fun a => a.1 == n).map (·.2)
def lastOf (l : Ats) (n : Int) : List Int := (ofN l n).getLast?.getD zsec
def putL (l : Ats) (n : Int) (b : List Int) : Ats := (l.filter fun a => a.1 != n) ++ [(n, b)]
theorem ofN_append (l m : Ats) (n : Int) : ofN (l ++ m) n = ofN l n ++ ofN m n := by simp [ofN]
theorem ofN_put (l : Ats) (n i : Int) (b : List Int) : ofN (putL l n b) i = if i = n then [b] else ofN l i := by
  unfold putL
  rw [ofN_append]
  by_cases h : i = n
  · subst h
    rw [if_pos rfl]
    have e1 : ofN (l.filter fun a => a.1 != i) i = [] := by
      unfold ofN
      rw [List.filter_filter]
      rw [List.map_eq_nil_iff, List.filter_eq_nil_iff]
      intro a _
      by_cases e : a.1 = i <;> simp [e]
    rw [e1]
    simp [ofN]
  · rw [if_neg h]
    have e2 : ofN [(n, b)] i = [] := by simp [ofN]; omega
    rw [e2, List.append_nil]
    unfold ofN
    rw [List.filter_filter]
    congr 1
    apply List.filter_congr
    intro a _
    by_cases e : a.1 = i
    · subst e; simp; omega
    · simp [e]
theorem lastOf_put (l : Ats) (n i : Int) (b : List Int) : lastOf (putL l n b) i = if i = n then b else lastOf l i := by
  unfold lastOf
  rw [ofN_put]
  by_cases h : i = n <;> simp [h]
/-- The document's disk. -/
structure RD where
  n : Nat
  la : Ats
  wr : Ats
  rd : Int
  wt : Int
  fl : Int
/-- The lists hold sectors of the disk. -/
def AtsOk (n : Nat) (l : Ats) : Prop := ∀ a ∈ l, 0 ≤ a.1 ∧ a.1 < n ∧ IsSec a.2
structure Rel (D : AD) (R : RD) : Prop where
  n : R.n = D.la.length
  la : ∀ i, i < D.la.length → D.la.getD i zsec = lastOf R.la i
  wr : ∀ i, i < D.la.length → D.wr i = ofN R.wr i
  lok : AtsOk R.n R.la
  wok : AtsOk R.n R.wr
  rd : R.rd = D.rd
  wt : R.wt = D.wt
  fl : R.fl = D.fl
theorem AtsOk.put {n : Nat} {l : Ats} (h : AtsOk n l) {i : Int} (h0 : 0 ≤ i) (hi : i < n) {b : List Int} (hb : IsSec b) : AtsOk n (putL l i b) := by
  intro a ha
  rcases List.mem_append.1 ha with ha | ha
  · exact h a (List.mem_filter.1 ha).1
  · rw [List.mem_singleton.1 ha]; exact ⟨h0, hi, hb⟩
theorem AtsOk.append {n : Nat} {l m : Ats} (h : AtsOk n l) (k : AtsOk n m) : AtsOk n (l ++ m) := fun a ha => (List.mem_append.1 ha).elim (h a) (k a)
/-- What Read tells. -/
def RD.now (R : RD) (i : Int) : List Int := (ofN R.wr i).getLast?.getD (lastOf R.la i)
theorem Rel.now {D : AD} {R : RD} (h : Rel D R) {i : Nat} (hi : i < D.la.length) : R.now i = D.now i := by
  unfold RD.now AD.now
  rw [h.wr i hi, h.la i hi]
def RD.read (R : RD) : RD := { R with rd := R.rd + 1 }
def RD.write (R : RD) (i : Int) (s : List Int) : RD := { R with wr := R.wr ++ [(i, s)], wt := R.wt + 1 }
def RD.turn (R : RD) (i : Int) (bit : Nat) : RD := { R with la := putL R.la i (turnB (lastOf R.la i) bit), wr := R.wr.map fun a => if a.1 = i then (i, turnB a.2 bit) else a }
theorem Rel.read {D : AD} {R : RD} (h : Rel D R) : Rel D.read R.read := ⟨h.n, h.la, h.wr, h.lok, h.wok, by simp [RD.read, AD.read, h.rd], h.wt, h.fl⟩
theorem Rel.write {D : AD} {R : RD} (h : Rel D R) {i : Nat} (hi : i < D.la.length) {s : List Int} (hs : IsSec s) : Rel (D.write i s) (R.write i s) := by
  refine ⟨h.n, h.la, fun j hj => ?_, h.lok, ?_, h.rd, by simp [RD.write, AD.write, h.wt], h.fl⟩
  · simp only [AD.write, RD.write, ofN_append]
    have hj' : j < D.la.length := hj
    by_cases e : j = i
    · subst e
      rw [updF_same, h.wr j hj']
      simp [ofN]
    · rw [updF_other _ _ e, h.wr j hj']
      have : ofN [((i : Int), s)] (j : Int) = [] := by simp [ofN]; omega
      rw [this, List.append_nil]
  · exact h.wok.append fun a ha => by rw [List.mem_singleton.1 ha]; exact ⟨by simp, by rw [h.n]; simpa using hi, hs⟩
theorem ofN_turn (l : Ats) (i j : Int) (bit : Nat) : ofN (l.map fun a => if a.1 = i then (i, turnB a.2 bit) else a) j = if j = i then (ofN l j).map (turnB · bit) else ofN l j := by
  unfold ofN
  induction l with
  | nil => by_cases h : j = i <;> simp [h]
  | cons a t ih =>
    obtain ⟨x, s⟩ := a
    rw [List.map_cons, List.filter_cons, List.filter_cons]
    by_cases hx : x = i
    · subst hx
      by_cases hj : j = x
      · subst hj
        simp only [if_true, beq_self_eq_true] at ih ⊢
        rw [List.map_cons, ih]
        simp
      · have h2 : (x == j) = false := by simp; omega
        simp only [if_true, if_neg hj, h2] at ih ⊢
        exact ih
    · by_cases hj : j = i
      · subst hj
        have h2 : (x == j) = false := by simp; omega
        simp only [if_true, if_neg hx, h2] at ih ⊢
        exact ih
      · simp only [if_neg hx, if_neg hj] at ih ⊢
        by_cases hxj : x = j
        · subst hxj; simp [ih]
        · have h2 : (x == j) = false := by simpa using hxj
          simp only [h2] at ih ⊢
          exact ih
theorem lastOf_is {n : Nat} {l : Ats} (h : AtsOk n l) (i : Int) : IsSec (lastOf l i) := by
  unfold lastOf
  cases hw : (ofN l i).getLast? with
  | none => exact zsec_is
  | some s =>
    have hm := List.mem_of_getLast? hw
    unfold ofN at hm
    obtain ⟨a, ha, rfl⟩ := List.mem_map.1 hm
    exact (h a (List.mem_filter.1 ha).1).2.2
theorem Rel.turn {D : AD} {R : RD} (h : Rel D R) {i bit : Nat} (hi : i < D.la.length) (hb : bit < 4096) : Rel (D.turn i bit) (R.turn i bit) := by
  have hla : (D.turn i bit).la.length = D.la.length := by simp [AD.turn]
  refine ⟨by rw [hla]; exact h.n, fun j hj => ?_, fun j hj => ?_, ?_, ?_, h.rd, h.wt, h.fl⟩
  · rw [hla] at hj
    simp only [AD.turn, RD.turn, lastOf_put]
    by_cases e : j = i
    · subst e
      rw [if_pos rfl, List.getD_eq_getElem?_getD, List.getElem?_set_self hj, ← h.la j hj]
      rfl
    · rw [if_neg (by omega), List.getD_eq_getElem?_getD, List.getElem?_set_ne (by omega), ← List.getD_eq_getElem?_getD, h.la j hj]
  · rw [hla] at hj
    simp only [AD.turn, RD.turn, ofN_turn]
    by_cases e : j = i
    · subst e
      rw [if_pos rfl, updF_same, h.wr j hj]
    · rw [if_neg (by omega), updF_other _ _ e, h.wr j hj]
  · exact h.lok.put (by simp) (by rw [h.n]; simpa using hi) (turnB_is (lastOf_is h.lok _) hb)
  · intro a ha
    simp only [RD.turn] at ha
    obtain ⟨c, hc, rfl⟩ := List.mem_map.1 ha
    have h3 := h.wok c hc
    by_cases e : c.1 = i
    · rw [if_pos e]; exact ⟨by simp, by show (i : Int) < R.n; rw [h.n]; simpa using hi, turnB_is h3.2.2 hb⟩
    · rw [if_neg e]; exact h3
end Go.Proofs.YtlaipnjhddnpiaaDoor

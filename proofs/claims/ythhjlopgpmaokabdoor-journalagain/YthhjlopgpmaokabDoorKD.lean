/- Disks in words: what lasts, what is cached, what the calls make of it; the document's lists; that both tell the same. Flush, Crash, Image and Load in words; the document's. What a replay tells, in plain terms. -/
import Derived.Below
import Derived.Test.YthhjlopgpmaokabDoorKB
namespace Go.Proofs.YthhjlopgpmaokabDoor

/-- A sector's bytes. -/
def IsSec (s : List Int) : Prop := s.length = 512 ∧ ∀ x ∈ s, 0 ≤ x ∧ x ≤ 255
def zsec : List Int := List.replicate 512 0
theorem zsec_is : IsSec zsec := ⟨List.length_replicate, fun x hx => by have := List.eq_of_mem_replicate hx; omega⟩

/-- A disk: what lasts, the writes since the last Flush, the acts. -/
structure AD where
  la : List (List Int)
  wr : Nat → List (List Int)
  rd : Int
  wt : Int
  fl : Int
def AD.now (D : AD) (i : Nat) : List Int := (D.wr i).getLast?.getD (D.la.getD i zsec)
def updF {α : Type} (f : Nat → α) (i : Nat) (x : α) : Nat → α := fun j => if j = i then x else f j
theorem updF_same {α : Type} (f : Nat → α) (i : Nat) (x : α) : updF f i x i = x := by simp [updF]
theorem updF_other {α : Type} (f : Nat → α) {i j : Nat} (x : α) (h : j ≠ i) : updF f i x j = f j := by simp [updF, h]
/-- Disks that may be. -/
structure AD.Ok (D : AD) : Prop where
  lo : 2 ≤ D.la.length
  hi : D.la.length ≤ 65536
  las : ∀ s ∈ D.la, IsSec s
  wrs : ∀ i, ∀ s ∈ D.wr i, IsSec s
  out : ∀ i, D.la.length ≤ i → D.wr i = []
theorem AD.Ok.now {D : AD} (h : D.Ok) {i : Nat} (hi : i < D.la.length) : IsSec (D.now i) := by
  unfold AD.now
  cases hw : (D.wr i).getLast? with
  | none =>
    simp only [Option.getD_none]
    rw [List.getD_eq_getElem?_getD, List.getElem?_eq_getElem hi]
    exact h.las _ (List.getElem_mem hi)
  | some s => exact h.wrs i s (List.mem_of_getLast? hw)
def AD.read (D : AD) : AD := { D with rd := D.rd + 1 }
def AD.write (D : AD) (i : Nat) (s : List Int) : AD := { D with wr := updF D.wr i (D.wr i ++ [s]), wt := D.wt + 1 }
/-- A bit turned over. -/
def turnB (s : List Int) (bit : Nat) : List Int := s.set (bit / 8) (Int.ofNat ((s.getD (bit / 8) 0).toNat ^^^ 2 ^ (bit % 8)))
def AD.turn (D : AD) (i bit : Nat) : AD := { D with la := D.la.set i (turnB (D.la.getD i zsec) bit), wr := updF D.wr i ((D.wr i).map (turnB · bit)) }
theorem turnB_is {s : List Int} (h : IsSec s) {bit : Nat} (hb : bit < 4096) : IsSec (turnB s bit) := by
  refine ⟨by simp [turnB, h.1], fun x hx => ?_⟩
  unfold turnB at hx
  rcases List.mem_or_eq_of_mem_set hx with hx | hx
  · exact h.2 x hx
  · have hj : bit / 8 < s.length := by rw [h.1]; omega
    have hm := h.2 _ (List.getElem_mem hj)
    rw [List.getD_eq_getElem?_getD, List.getElem?_eq_getElem hj, Option.getD_some] at hx
    have h1 : (s[bit / 8].toNat) < 2 ^ 8 := by omega
    have h2 : 2 ^ (bit % 8) < 2 ^ 8 := Nat.pow_lt_pow_right (by omega) (by omega)
    have h3 := Nat.xor_lt_two_pow h1 h2
    subst hx
    generalize (s[bit / 8].toNat ^^^ 2 ^ (bit % 8)) = z at h3
    show 0 ≤ (z : Int) ∧ (z : Int) ≤ 255
    omega
theorem AD.Ok.read {D : AD} (h : D.Ok) : D.read.Ok := ⟨h.lo, h.hi, h.las, h.wrs, h.out⟩
theorem AD.Ok.write {D : AD} (h : D.Ok) {i : Nat} (hi : i < D.la.length) {s : List Int} (hs : IsSec s) : (D.write i s).Ok := by
  refine ⟨h.lo, h.hi, h.las, fun j t ht => ?_, fun j hj => ?_⟩
  · by_cases e : j = i
    · subst e
      simp only [AD.write, updF_same] at ht
      rcases List.mem_append.1 ht with ht | ht
      · exact h.wrs j t ht
      · rw [List.mem_singleton.1 ht]; exact hs
    · simp only [AD.write, updF_other _ _ e] at ht
      exact h.wrs j t ht
  · have hj' : D.la.length ≤ j := hj
    simp only [AD.write]
    rw [updF_other _ _ (by omega)]
    exact h.out j hj'
theorem AD.Ok.turn {D : AD} (h : D.Ok) {i bit : Nat} (hi : i < D.la.length) (hb : bit < 4096) : (D.turn i bit).Ok := by
  have hla : (D.turn i bit).la.length = D.la.length := by simp [AD.turn]
  refine ⟨by rw [hla]; exact h.lo, by rw [hla]; exact h.hi, fun s hs => ?_, fun j t ht => ?_, fun j hj => ?_⟩
  · simp only [AD.turn] at hs
    rcases List.mem_or_eq_of_mem_set hs with hs | hs
    · exact h.las s hs
    · rw [hs, List.getD_eq_getElem?_getD, List.getElem?_eq_getElem hi]
      exact turnB_is (h.las _ (List.getElem_mem hi)) hb
  · by_cases e : j = i
    · subst e
      simp only [AD.turn, updF_same] at ht
      obtain ⟨u, hu, rfl⟩ := List.mem_map.1 ht
      exact turnB_is (h.wrs j u hu) hb
    · simp only [AD.turn, updF_other _ _ e] at ht
      exact h.wrs j t ht
  · rw [hla] at hj
    simp only [AD.turn]
    rw [updF_other _ _ (by omega)]
    exact h.out j hj

/-- The document's lists: numbers and bytes. -/
abbrev Ats := List (Int × List Int)
def ofN (l : Ats) (n : Int) : List (List Int) := (l.filter fun a => a.1 == n).map (·.2)
def lastOf (l : Ats) (n : Int) : List Int := (ofN l n).getLast?.getD zsec
def putL (l : Ats) (n : Int) (b : List Int) : Ats := (l.filter fun a => a.1 != n) ++ [(n, b)]
theorem ofN_append (l m : Ats) (n : Int) : ofN (l ++ m) n = ofN l n ++ ofN m n := by simp [ofN]
theorem ofN_put (l : Ats) (n i : Int) (b : List Int) : ofN (putL l n b) i = if i = n then [b] else ofN l i := by
  unfold putL
  rw [ofN_append]
  by_cases h : i = n
  · subst h
    rw [if_pos rfl]
    have e1 : ofN (l.filter fun a => a.1 != i) i = [] := by
      unfold ofN
      rw [List.filter_filter]
      rw [List.map_eq_nil_iff, List.filter_eq_nil_iff]
      intro a _
      by_cases e : a.1 = i <;> simp [e]
    rw [e1]
    simp [ofN]
  · rw [if_neg h]
    have e2 : ofN [(n, b)] i = [] := by simp [ofN]; omega
    rw [e2, List.append_nil]
    unfold ofN
    rw [List.filter_filter]
    congr 1
    apply List.filter_congr
    intro a _
    by_cases e : a.1 = i
    · subst e; simp; omega
    · simp [e]
theorem lastOf_put (l : Ats) (n i : Int) (b : List Int) : lastOf (putL l n b) i = if i = n then b else lastOf l i := by
  unfold lastOf
  rw [ofN_put]
  by_cases h : i = n <;> simp [h]
/-- The document's disk. -/
structure RD where
  n : Nat
  la : Ats
  wr : Ats
  rd : Int
  wt : Int
  fl : Int
/-- The lists hold sectors of the disk. -/
def AtsOk (n : Nat) (l : Ats) : Prop := ∀ a ∈ l, 0 ≤ a.1 ∧ a.1 < n ∧ IsSec a.2
structure Rel (D : AD) (R : RD) : Prop where
  n : R.n = D.la.length
  la : ∀ i, i < D.la.length → D.la.getD i zsec = lastOf R.la i
  wr : ∀ i, i < D.la.length → D.wr i = ofN R.wr i
  lok : AtsOk R.n R.la
  wok : AtsOk R.n R.wr
  rd : R.rd = D.rd
  wt : R.wt = D.wt
  fl : R.fl = D.fl
theorem AtsOk.put {n : Nat} {l : Ats} (h : AtsOk n l) {i : Int} (h0 : 0 ≤ i) (hi : i < n) {b : List Int} (hb : IsSec b) : AtsOk n (putL l i b) := by
  intro a ha
  rcases List.mem_append.1 ha with ha | ha
  · exact h a (List.mem_filter.1 ha).1
  · rw [List.mem_singleton.1 ha]; exact ⟨h0, hi, hb⟩
theorem AtsOk.append {n : Nat} {l m : Ats} (h : AtsOk n l) (k : AtsOk n m) : AtsOk n (l ++ m) := fun a ha => (List.mem_append.1 ha).elim (h a) (k a)
/-- What Read tells. -/
def RD.now (R : RD) (i : Int) : List Int := (ofN R.wr i).getLast?.getD (lastOf R.la i)
theorem Rel.now {D : AD} {R : RD} (h : Rel D R) {i : Nat} (hi : i < D.la.length) : R.now i = D.now i := by
  unfold RD.now AD.now
  rw [h.wr i hi, h.la i hi]
def RD.read (R : RD) : RD := { R with rd := R.rd + 1 }
def RD.write (R : RD) (i : Int) (s : List Int) : RD := { R with wr := R.wr ++ [(i, s)], wt := R.wt + 1 }
def RD.turn (R : RD) (i : Int) (bit : Nat) : RD := { R with la := putL R.la i (turnB (lastOf R.la i) bit), wr := R.wr.map fun a => if a.1 = i then (i, turnB a.2 bit) else a }
theorem Rel.read {D : AD} {R : RD} (h : Rel D R) : Rel D.read R.read := ⟨h.n, h.la, h.wr, h.lok, h.wok, by simp [RD.read, AD.read, h.rd], h.wt, h.fl⟩
theorem Rel.write {D : AD} {R : RD} (h : Rel D R) {i : Nat} (hi : i < D.la.length) {s : List Int} (hs : IsSec s) : Rel (D.write i s) (R.write i s) := by
  refine ⟨h.n, h.la, fun j hj => ?_, h.lok, ?_, h.rd, by simp [RD.write, AD.write, h.wt], h.fl⟩
  · simp only [AD.write, RD.write, ofN_append]
    have hj' : j < D.la.length := hj
    by_cases e : j = i
    · subst e
      rw [updF_same, h.wr j hj']
      simp [ofN]
    · rw [updF_other _ _ e, h.wr j hj']
      have : ofN [((i : Int), s)] (j : Int) = [] := by simp [ofN]; omega
      rw [this, List.append_nil]
  · exact h.wok.append fun a ha => by rw [List.mem_singleton.1 ha]; exact ⟨by simp, by rw [h.n]; simpa using hi, hs⟩
theorem ofN_turn (l : Ats) (i j : Int) (bit : Nat) : ofN (l.map fun a => if a.1 = i then (i, turnB a.2 bit) else a) j = if j = i then (ofN l j).map (turnB · bit) else ofN l j := by
  unfold ofN
  induction l with
  | nil => by_cases h : j = i <;> simp [h]
  | cons a t ih =>
    obtain ⟨x, s⟩ := a
    rw [List.map_cons, List.filter_cons, List.filter_cons]
    by_cases hx : x = i
    · subst hx
      by_cases hj : j = x
      · subst hj
        simp only [if_true, beq_self_eq_true] at ih ⊢
        rw [List.map_cons, ih]
        simp
      · have h2 : (x == j) = false := by simp; omega
        simp only [if_true, if_neg hj, h2] at ih ⊢
        exact ih
    · by_cases hj : j = i
      · subst hj
        have h2 : (x == j) = false := by simp; omega
        simp only [if_true, if_neg hx, h2] at ih ⊢
        exact ih
      · simp only [if_neg hx, if_neg hj] at ih ⊢
        by_cases hxj : x = j
        · subst hxj; simp [ih]
        · have h2 : (x == j) = false := by simpa using hxj
          simp only [h2] at ih ⊢
          exact ih
theorem lastOf_is {n : Nat} {l : Ats} (h : AtsOk n l) (i : Int) : IsSec (lastOf l i) := by
  unfold lastOf
  cases hw : (ofN l i).getLast? with
  | none => exact zsec_is
  | some s =>
    have hm := List.mem_of_getLast? hw
    unfold ofN at hm
    obtain ⟨a, ha, rfl⟩ := List.mem_map.1 hm
    exact (h a (List.mem_filter.1 ha).1).2.2
theorem Rel.turn {D : AD} {R : RD} (h : Rel D R) {i bit : Nat} (hi : i < D.la.length) (hb : bit < 4096) : Rel (D.turn i bit) (R.turn i bit) := by
  have hla : (D.turn i bit).la.length = D.la.length := by simp [AD.turn]
  refine ⟨by rw [hla]; exact h.n, fun j hj => ?_, fun j hj => ?_, ?_, ?_, h.rd, h.wt, h.fl⟩
  · rw [hla] at hj
    simp only [AD.turn, RD.turn, lastOf_put]
    by_cases e : j = i
    · subst e
      rw [if_pos rfl, List.getD_eq_getElem?_getD, List.getElem?_set_self hj, ← h.la j hj]
      rfl
    · rw [if_neg (by omega), List.getD_eq_getElem?_getD, List.getElem?_set_ne (by omega), ← List.getD_eq_getElem?_getD, h.la j hj]
  · rw [hla] at hj
    simp only [AD.turn, RD.turn, ofN_turn]
    by_cases e : j = i
    · subst e
      rw [if_pos rfl, updF_same, h.wr j hj]
    · rw [if_neg (by omega), updF_other _ _ e, h.wr j hj]
  · exact h.lok.put (by simp) (by rw [h.n]; simpa using hi) (turnB_is (lastOf_is h.lok _) hb)
  · intro a ha
    simp only [RD.turn] at ha
    obtain ⟨c, hc, rfl⟩ := List.mem_map.1 ha
    have h3 := h.wok c hc
    by_cases e : c.1 = i
    · rw [if_pos e]; exact ⟨by simp, by show (i : Int) < R.n; rw [h.n]; simpa using hi, turnB_is h3.2.2 hb⟩
    · rw [if_neg e]; exact h3
end Go.Proofs.YthhjlopgpmaokabDoor

namespace Go.Proofs.YthhjlopgpmaokabDoor

theorem snoc_ind {α : Type} {P : List α → Prop} (h0 : P []) (h1 : ∀ l a, P l → P (l ++ [a])) (l : List α) : P l := by
  have : ∀ n (l : List α), l.length = n → P l := by
    intro n
    induction n with
    | zero => intro l h; rw [List.eq_nil_of_length_eq_zero h]; exact h0
    | succ n ih =>
      intro l h
      have hne : l ≠ [] := fun e => by subst e; simp at h
      rw [← List.dropLast_concat_getLast hne]
      exact h1 _ _ (ih _ (by simp [h]))
  exact this _ l rfl
theorem lastOf_snoc (l : Ats) (a : Int × List Int) (i : Int) : lastOf (l ++ [a]) i = if i = a.1 then a.2 else lastOf l i := by
  unfold lastOf
  rw [ofN_append]
  by_cases h : i = a.1
  · subst h; simp [ofN]
  · have : ofN [a] i = [] := by simp [ofN]; omega
    rw [this, List.append_nil, if_neg h]
theorem lastOf_nil (i : Int) : lastOf [] i = zsec := rfl
/-- An image as the document's list. -/
def atsOf (im : List (List Int)) : Ats := im.zipIdx.map fun p => ((p.2 : Int), p.1)
theorem atsOf_snoc (im : List (List Int)) (s : List Int) : atsOf (im ++ [s]) = atsOf im ++ [((im.length : Int), s)] := by
  simp [atsOf, List.zipIdx_append]
theorem atsOf_len (im : List (List Int)) : (atsOf im).length = im.length := by simp [atsOf]
theorem lastOf_atsOf (im : List (List Int)) : ∀ i : Nat, i < im.length → lastOf (atsOf im) i = im.getD i zsec := by
  refine snoc_ind (P := fun im => ∀ i : Nat, i < im.length → lastOf (atsOf im) i = im.getD i zsec) ?_ (fun im s ih => ?_) im
  · intro i h; simp at h
  · intro i hi
    rw [atsOf_snoc, lastOf_snoc]
    simp only [List.length_append, List.length_singleton] at hi
    by_cases e : i = im.length
    · subst e; simp
    · rw [if_neg (by simp; omega), ih i (by omega), List.getD_eq_getElem?_getD, List.getD_eq_getElem?_getD, List.getElem?_append_left (by omega)]
theorem atsOf_ok (im : List (List Int)) (h : ∀ s ∈ im, IsSec s) : AtsOk im.length (atsOf im) := by
  intro a ha
  obtain ⟨p, hp, rfl⟩ := List.mem_map.1 ha
  obtain ⟨s, i⟩ := p
  have := List.mem_zipIdx hp
  simp only [Nat.zero_add, Nat.zero_le, true_and] at this
  refine ⟨by simp, by simp; omega, ?_⟩
  rw [this.2]
  exact h _ (List.getElem_mem _)
/-- The sectors that have writes, rising. -/
def AD.keys (D : AD) : List Nat := (List.range D.la.length).filter fun i => decide (0 < (D.wr i).length)
theorem AD.keys_lt {D : AD} {i : Nat} (h : i ∈ D.keys) : i < D.la.length := by simpa using (List.mem_filter.1 h).1
theorem AD.keys_nodup (D : AD) : D.keys.Nodup := List.Pairwise.filter _ List.nodup_range
theorem AD.keys_sorted (D : AD) : D.keys.Pairwise (· < ·) := List.Pairwise.filter _ List.pairwise_lt_range
/-- Which of the writes lasts. -/
def pickW (ws : List (List Int)) (f : Int) : List Int := ws.getD ((min f ws.length).toNat - 1) zsec
def AD.laAfter (D : AD) (fate : Nat → Int) : Nat → List (List Int)
  | 0 => D.la
  | k + 1 => if 1 ≤ min (fate k) (D.wr (D.keys.getD k 0)).length then (D.laAfter fate k).set (D.keys.getD k 0) (pickW (D.wr (D.keys.getD k 0)) (fate k)) else D.laAfter fate k
def AD.settle (D : AD) (fate : Nat → Int) : AD := { D with la := D.laAfter fate D.keys.length, wr := fun _ => [] }
theorem AD.laAfter_len (D : AD) (fate : Nat → Int) : ∀ k, (D.laAfter fate k).length = D.la.length
  | 0 => rfl
  | k + 1 => by
    rw [AD.laAfter]
    split
    · rw [List.length_set, AD.laAfter_len D fate k]
    · exact AD.laAfter_len D fate k
theorem pickW_mem {ws : List (List Int)} {f : Int} (h : 1 ≤ min f ws.length) : pickW ws f ∈ ws := by
  unfold pickW
  have : (min f ws.length).toNat - 1 < ws.length := by omega
  rw [List.getD_eq_getElem?_getD, List.getElem?_eq_getElem this]
  exact List.getElem_mem this
theorem AD.Ok.after {D : AD} (h : D.Ok) (fate : Nat → Int) : ∀ k, ∀ s ∈ D.laAfter fate k, IsSec s
  | 0 => h.las
  | k + 1 => by
    intro s hs
    rw [AD.laAfter] at hs
    split at hs
    · rename_i hc
      rcases List.mem_or_eq_of_mem_set hs with hs | hs
      · exact h.after fate k s hs
      · rw [hs]; exact h.wrs _ _ (pickW_mem hc)
    · exact h.after fate k s hs
theorem AD.Ok.settle {D : AD} (h : D.Ok) (fate : Nat → Int) : (D.settle fate).Ok := by
  have hl : (D.settle fate).la.length = D.la.length := AD.laAfter_len D fate _
  exact ⟨by rw [hl]; exact h.lo, by rw [hl]; exact h.hi, h.after fate _, fun i s hs => by simp [AD.settle] at hs, fun i _ => rfl⟩
/-- The document's Crash. -/
def RD.laAfter (R : RD) (ks : List Nat) (fate : Nat → Int) : Nat → Ats
  | 0 => R.la
  | k + 1 => if 1 ≤ min (fate k) (ofN R.wr (ks.getD k 0 : Nat)).length then putL (R.laAfter ks fate k) (ks.getD k 0 : Nat) (pickW (ofN R.wr (ks.getD k 0 : Nat)) (fate k)) else R.laAfter ks fate k
theorem Rel.after {D : AD} {R : RD} (h : Rel D R) (fate : Nat → Int) : ∀ k, k ≤ D.keys.length → (∀ i, i < D.la.length → (D.laAfter fate k).getD i zsec = lastOf (R.laAfter D.keys fate k) i) ∧ AtsOk R.n (R.laAfter D.keys fate k)
  | 0, _ => ⟨h.la, h.lok⟩
  | k + 1, hk => by
    obtain ⟨ih, io⟩ := h.after fate k (by omega)
    have hm : D.keys.getD k 0 ∈ D.keys := by
      rw [List.getD_eq_getElem?_getD, List.getElem?_eq_getElem (by omega)]
      exact List.getElem_mem _
    have hlt := AD.keys_lt hm
    generalize hq : D.keys.getD k 0 = q at *
    rw [AD.laAfter, RD.laAfter, hq, h.wr q hlt]
    by_cases hc : 1 ≤ min (fate k) (ofN R.wr q).length
    · rw [if_pos hc, if_pos hc]
      refine ⟨fun i hi => ?_, io.put (by simp) (by rw [h.n]; simpa using hlt) ?_⟩
      · rw [lastOf_put]
        by_cases e : i = q
        · subst e
          rw [if_pos rfl, List.getD_eq_getElem?_getD, List.getElem?_set_self (by rw [AD.laAfter_len]; exact hi)]
          rfl
        · rw [if_neg (by omega), List.getD_eq_getElem?_getD, List.getElem?_set_ne (by omega), ← List.getD_eq_getElem?_getD, ih i hi]
      · have := pickW_mem hc
        unfold ofN at this
        obtain ⟨a, ha, he⟩ := List.mem_map.1 this
        have h3 := (h.wok a (List.mem_filter.1 ha).1).2.2
        rw [he] at h3
        exact h3
    · rw [if_neg hc, if_neg hc]
      exact ⟨ih, io⟩
def RD.crash (R : RD) (ks : List Nat) (fate : Nat → Int) : RD := { R with la := R.laAfter ks fate ks.length, wr := [] }
theorem Rel.crash {D : AD} {R : RD} (h : Rel D R) (fate : Nat → Int) : Rel (D.settle fate) (R.crash D.keys fate) := by
  have hl : (D.settle fate).la.length = D.la.length := AD.laAfter_len D fate _
  obtain ⟨h1, h2⟩ := h.after fate D.keys.length (Nat.le_refl _)
  refine ⟨by rw [hl]; exact h.n, fun i hi => ?_, fun i hi => ?_, h2, fun a ha => by simp [RD.crash] at ha, h.rd, h.wt, h.fl⟩
  · rw [hl] at hi; exact h1 i hi
  · simp [RD.crash, AD.settle, ofN]
/-- The document's Flush. -/
def RD.flushL (la : Ats) (wr : Ats) : Ats := wr.foldl (fun l a => putL l a.1 a.2) la
def RD.flush (R : RD) : RD := { R with la := RD.flushL R.la R.wr, wr := [], fl := R.fl + 1 }
theorem flushL_snoc (la wr : Ats) (a : Int × List Int) : RD.flushL la (wr ++ [a]) = putL (RD.flushL la wr) a.1 a.2 := by simp [RD.flushL]
theorem flushL_last (la wr : Ats) (i : Int) : lastOf (RD.flushL la wr) i = (ofN wr i).getLast?.getD (lastOf la i) := by
  refine snoc_ind (P := fun wr => lastOf (RD.flushL la wr) i = (ofN wr i).getLast?.getD (lastOf la i)) ?_ (fun wr a ih => ?_) wr
  · rfl
  · rw [flushL_snoc, lastOf_put, ofN_append]
    by_cases h : i = a.1
    · subst h; simp [ofN]
    · have : ofN [a] i = [] := by simp [ofN]; omega
      rw [if_neg h, this, List.append_nil, ih]
theorem flushL_ok {n : Nat} {la wr : Ats} (h : AtsOk n la) (k : AtsOk n wr) : AtsOk n (RD.flushL la wr) := by
  revert k
  refine snoc_ind (P := fun wr => AtsOk n wr → AtsOk n (RD.flushL la wr)) (fun _ => h) (fun wr a ih k => ?_) wr
  rw [flushL_snoc]
  have := k a (by simp)
  exact (ih fun b hb => k b (by simp [hb])).put this.1 this.2.1 this.2.2
/-- What lasts behind so many of the sectors. -/
theorem AD.after_in (D : AD) (fate : Nat → Int) : ∀ k, k ≤ D.keys.length → ∀ i, i < D.la.length → (D.laAfter fate k).getD i zsec =
    if i ∈ D.keys.take k then (if 1 ≤ min (fate (D.keys.idxOf i)) (D.wr i).length then pickW (D.wr i) (fate (D.keys.idxOf i)) else D.la.getD i zsec) else D.la.getD i zsec
  | 0, _, i, _ => by simp [AD.laAfter]
  | k + 1, hk, i, hi => by
    have ih := D.after_in fate k (by omega) i hi
    have hkl : k < D.keys.length := by omega
    have hq : D.keys.getD k 0 = D.keys[k] := by rw [List.getD_eq_getElem?_getD, List.getElem?_eq_getElem hkl]; rfl
    have hix : D.keys.idxOf D.keys[k] = k := List.Nodup.idxOf_getElem D.keys_nodup k hkl
    have hnot : D.keys[k] ∉ D.keys.take k := fun hm => by
      obtain ⟨j, hj, e⟩ := List.getElem_of_mem hm
      rw [List.length_take] at hj
      rw [List.getElem_take] at e
      have := (List.getElem_inj (h₀ := (by omega : j < D.keys.length)) (h₁ := hkl) D.keys_nodup).1 e
      omega
    have htk : D.keys.take (k + 1) = D.keys.take k ++ [D.keys[k]] := List.take_succ_eq_append_getElem hkl
    rw [AD.laAfter, hq, htk]
    by_cases e : i = D.keys[k]
    · subst e
      rw [if_pos (List.mem_append.2 (Or.inr (List.mem_singleton.2 rfl))), hix]
      rw [if_neg hnot] at ih
      by_cases hc : 1 ≤ min (fate k) (D.wr D.keys[k]).length
      · rw [if_pos hc, if_pos hc, List.getD_eq_getElem?_getD, List.getElem?_set_self (by rw [AD.laAfter_len]; exact hi)]
        rfl
      · rw [if_neg hc, if_neg hc]; exact ih
    · have hmem : (i ∈ D.keys.take k ++ [D.keys[k]]) ↔ i ∈ D.keys.take k := by rw [List.mem_append, List.mem_singleton]; exact or_iff_left e
      simp only [hmem]
      rw [← ih]
      split
      · rw [List.getD_eq_getElem?_getD, List.getElem?_set_ne (fun h => e h.symm), ← List.getD_eq_getElem?_getD]
      · rfl
theorem AD.settle_at (D : AD) (fate : Nat → Int) {i : Nat} (hi : i < D.la.length) : (D.settle fate).la.getD i zsec =
    if 1 ≤ min (fate (D.keys.idxOf i)) (D.wr i).length then pickW (D.wr i) (fate (D.keys.idxOf i)) else D.la.getD i zsec := by
  have := D.after_in fate D.keys.length (Nat.le_refl _) i hi
  rw [List.take_length] at this
  show (D.laAfter fate D.keys.length).getD i zsec = _
  rw [this]
  by_cases hm : i ∈ D.keys
  · rw [if_pos hm]
  · rw [if_neg hm]
    have h0 : (D.wr i).length = 0 := by
      have : ¬ 0 < (D.wr i).length := fun h => hm (List.mem_filter.2 ⟨by simpa using hi, by simpa using h⟩)
      omega
    rw [if_neg (by rw [h0]; omega)]
def AD.flush (D : AD) : AD := { D.settle (fun _ => 9223372036854775807) with fl := D.fl + 1 }
theorem AD.flush_at (D : AD) {i : Nat} (hi : i < D.la.length) (hw : (D.wr i).length < 9223372036854775807) : D.flush.la.getD i zsec = D.now i := by
  have := D.settle_at (fun _ => 9223372036854775807) hi
  show (D.settle _).la.getD i zsec = _
  rw [this]
  unfold AD.now
  by_cases h0 : 0 < (D.wr i).length
  · rw [if_pos (by omega), List.getLast?_eq_getElem?]
    unfold pickW
    rw [show (min (9223372036854775807 : Int) ((D.wr i).length : Int)).toNat = (D.wr i).length by omega, List.getD_eq_getElem?_getD, List.getElem?_eq_getElem (by omega)]
    rfl
  · have : D.wr i = [] := List.eq_nil_of_length_eq_zero (by omega)
    rw [if_neg (by omega), this]
    rfl
theorem AD.Ok.flush {D : AD} (h : D.Ok) : D.flush.Ok := by
  have := h.settle (fun _ => 9223372036854775807)
  exact ⟨this.lo, this.hi, this.las, this.wrs, this.out⟩
theorem Rel.flush {D : AD} {R : RD} (h : Rel D R) (hw : ∀ i, (D.wr i).length < 9223372036854775807) : Rel D.flush R.flush := by
  have hl : D.flush.la.length = D.la.length := AD.laAfter_len D _ _
  refine ⟨by rw [hl]; exact h.n, fun i hi => ?_, fun i hi => rfl, flushL_ok h.lok h.wok, fun a ha => by simp [RD.flush] at ha, h.rd, h.wt, by simp [RD.flush, AD.flush, h.fl]⟩
  rw [hl] at hi
  rw [AD.flush_at D hi (hw i), ← h.now hi]
  exact (flushL_last R.la R.wr i).symm
end Go.Proofs.YthhjlopgpmaokabDoor

namespace Go.Proofs.YthhjlopgpmaokabDoor
open Go.RowKit

/-- A sector is that number's record. -/
def recAt (N : Nat → List Int) (fr n s : Nat) : Option JR := (decO (N (fr + s % n))).bind fun r => if r.n = (s : Int) then some r else none
/-- The records from a number on, k of them at most. -/
def repL (N : Nat → List Int) (fr n : Nat) : Nat → Nat → List JR
  | 0, _ => []
  | k + 1, s => match recAt N fr n s with
    | some r => r :: repL N fr n k (s + 1)
    | none => []
theorem repL_none {N : Nat → List Int} {fr n k s : Nat} (h : recAt N fr n s = none) : repL N fr n k s = [] := by
  cases k with
  | zero => rfl
  | succ k => simp [repL, h]
theorem repL_some {N : Nat → List Int} {fr n k s : Nat} {r : JR} (h : recAt N fr n s = some r) : repL N fr n (k + 1) s = r :: repL N fr n k (s + 1) := by simp [repL, h]
theorem repL_len (N : Nat → List Int) (fr n : Nat) : ∀ k s, (repL N fr n k s).length ≤ k
  | 0, _ => by simp [repL]
  | k + 1, s => by
    cases h : recAt N fr n s with
    | none => rw [repL_none h]; simp
    | some r => rw [repL_some h, List.length_cons]; have := repL_len N fr n k (s + 1); omega
theorem recAt_some {N : Nat → List Int} {fr n s : Nat} {r : JR} (h : recAt N fr n s = some r) : decO (N (fr + s % n)) = some r ∧ r.n = (s : Int) := by
  unfold recAt at h
  cases hd : decO (N (fr + s % n)) with
  | none => rw [hd] at h; simp at h
  | some r2 =>
    rw [hd] at h
    by_cases e : r2.n = (s : Int)
    · simp only [Option.bind_some, e, if_true, Option.some.injEq] at h
      subst h
      exact ⟨rfl, e⟩
    · simp [e] at h
theorem recAt_of {N : Nat → List Int} {fr n s : Nat} {r : JR} (h : decO (N (fr + s % n)) = some r) (e : r.n = (s : Int)) : recAt N fr n s = some r := by
  unfold recAt; rw [h]; simp [e]
theorem recAt_no {N : Nat → List Int} {fr n s : Nat} (h : decO (N (fr + s % n)) = none) : recAt N fr n s = none := by
  unfold recAt; rw [h]; rfl
theorem recAt_ne {N : Nat → List Int} {fr n s : Nat} {r : JR} (h : decO (N (fr + s % n)) = some r) (e : r.n ≠ (s : Int)) : recAt N fr n s = none := by
  unfold recAt; rw [h]; simp [e]
/-- So many stand there, and the next does not. -/
theorem repL_is {N : Nat → List Int} {fr n : Nat} : ∀ (l : List JR) (k s : Nat), l.length ≤ k → (∀ j, j < l.length → recAt N fr n (s + j) = some (l.getD j .nul)) → (l.length < k → recAt N fr n (s + l.length) = none) → repL N fr n k s = l
  | [], k, s, _, _, h2 => by
    cases k with
    | zero => rfl
    | succ k => exact repL_none (h2 (by simp))
  | r :: l, k, s, hk, h1, h2 => by
    cases k with
    | zero => simp at hk
    | succ k =>
      have h0 := h1 0 (by simp)
      rw [Nat.add_zero] at h0
      rw [repL_some h0, repL_is l k (s + 1) (by simpa using hk) (fun j hj => by
        have := h1 (j + 1) (by simpa using hj)
        rw [show s + 1 + j = s + (j + 1) by omega, this]
        rfl) (fun hl => by
        have := h2 (by simpa using hl)
        rw [List.length_cons] at this
        rw [show s + 1 + l.length = s + (l.length + 1) by omega]
        exact this)]
      rfl
theorem zsec_none : decO zsec = none := by
  refine dec_cnt zsec_is.2 zsec_is.1 (Or.inl ?_)
  have h : zsec[44]? = some 0 := by
    unfold zsec
    rw [List.getElem?_replicate, if_pos (by decide)]
  rw [List.getD_eq_getElem?_getD, h]
  decide
theorem short_none {b : List Int} (h : b.length ≠ 512) : decO b = none := dec_no fun hc => h hc.1
/-- A disk that was read so often. -/
def AD.rds (D : AD) (m : Nat) : AD := { D with rd := D.rd + m }
theorem AD.rds_zero (D : AD) : D.rds 0 = D := by
  unfold AD.rds
  simp
theorem AD.rds_one (D : AD) (m : Nat) : (D.rds m).read = D.rds (m + 1) := by
  unfold AD.rds AD.read
  simp [Int.add_assoc]
theorem AD.rds_now (D : AD) (m i : Nat) : (D.rds m).now i = D.now i := rfl
end Go.Proofs.YthhjlopgpmaokabDoor

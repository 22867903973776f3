/- The document's lists in memory; lasts and Now. -/
import Derived.Test.YtfgjhlnaaopdeabDkC
namespace Go.Proofs.Ytfgjhlnaaopdeab
open Go.RowKit Go.Maps

def atV (es : List (Int × Value)) : List Value := (es.map fun e => [Value.int .i64 e.1, e.2]).flatten
def dE : Int × Value := (0, .slice none 0 0)
def dA : Int × List Int := (0, [])
theorem atV_get {es : List (Int × Value)} {j : Nat} (hj : j < es.length) : (atV es)[j * 2]? = some (.int .i64 (es.getD j dE).1) ∧ (atV es)[j * 2 + 1]? = some (es.getD j dE).2 := by
  have hl : ∀ s ∈ es.map (fun e => [Value.int .i64 e.1, e.2]), s.length = 2 := fun s hs => by
    obtain ⟨e, _, rfl⟩ := List.mem_map.1 hs; rfl
  have h0 := flat_get 2 _ hl j 0 (by omega)
  have h1 := flat_get 2 _ hl j 1 (by omega)
  rw [Nat.mul_comm] at h0 h1
  have e : (es.map (fun e => [Value.int .i64 e.1, e.2])).getD j [] = [Value.int .i64 (es.getD j dE).1, (es.getD j dE).2] := by
    rw [List.getD_eq_getElem?_getD, List.getElem?_map, List.getElem?_eq_getElem hj, List.getD_eq_getElem?_getD, List.getElem?_eq_getElem hj]; rfl
  rw [e] at h0 h1
  exact ⟨h0, h1⟩
theorem atV_len (es : List (Int × Value)) : (atV es).length = es.length * 2 := by
  unfold atV
  rw [flat_len 2 _ (fun s hs => by obtain ⟨e, _, rfl⟩ := List.mem_map.1 hs; rfl), List.length_map, Nat.mul_comm]
theorem atV_snoc (es : List (Int × Value)) (e : Int × Value) : atV (es ++ [e]) = atV es ++ [.int .i64 e.1, e.2] := by simp [atV]
/-- A slice of numbers and bytes, in memory that nobody writes to. -/
structure IsAts (w : World) (v : Value) (l : Ats) : Prop where
  rd : ∃ es : List (Int × Value), w.ownsRow 0 104 2 v l.length (atV es) ∧ es.length = l.length ∧ ∀ j, j < l.length → (es.getD j dE).1 = (l.getD j dA).1 ∧ Own8 w 0 (es.getD j dE).2 (l.getD j dA).2
theorem IsAts.below {w w' : World} {v : Value} {l : Ats} (h : IsAts w v l) (hb : Below w.heap.size w w') : IsAts w' v l := by
  obtain ⟨es, h1, h2, h3⟩ := h.rd
  exact ⟨es, owns_below h1 hb, h2, fun j hj => ⟨(h3 j hj).1, (h3 j hj).2.below hb⟩⟩
/-- The blocks of F are none of the document's. -/
def Tm (w : World) (F : Nat → Prop) : Prop := ∀ b, F b → ∀ cs t m, w.heap[b]? = some (.cells cs t m) → t = 77 ∨ t = 75
theorem owns_tm {F : Nat → Prop} {w w' : World} {base : Nat} {t : TypeId} {size : Nat} {v : Value} {n : Nat} {cs : List Value} (h : w.ownsRow base t size v n cs) (hu : Up F w w') (hT : Tm w F) (h1 : t ≠ 77) (h2 : t ≠ 75) : w'.ownsRow base t size v n cs :=
  owns_up h hu (fun g hg hF => by
    rcases h.2 with ⟨rfl, _⟩ | ⟨g', cap, cur, rfl, _, hgg, _⟩
    · cases hg
    · simp only [Value.ownBlock, Option.some.injEq] at hg
      subst hg
      exact (hT _ hF _ _ _ hgg).elim h1 h2)
theorem Own8.tm {F : Nat → Prop} {w w' : World} {B : Nat} {v : Value} {xs : List Int} (h : Own8 w B v xs) (hu : Up F w w') (hT : Tm w F) : Own8 w' B v xs := ⟨owns_tm h.1 hu hT (by decide) (by decide), h.2⟩
theorem IsAts.tm {F : Nat → Prop} {w w' : World} {v : Value} {l : Ats} (h : IsAts w v l) (hu : Up F w w') (hT : Tm w F) : IsAts w' v l := by
  obtain ⟨es, h1, h2, h3⟩ := h.rd
  exact ⟨es, owns_tm h1 hu hT (by decide) (by decide), h2, fun j hj => ⟨(h3 j hj).1, (h3 j hj).2.tm hu hT⟩⟩
theorem Dk.tm {w : World} {p gl gm : Nat} {V : Nat → Value} {D : AD} (h : Dk w p gl gm V D) : Tm w (Ft p gl gm V) := by
  have key : ∀ (v : Value) (n : Nat) (cs : List Value) (b : Nat), w.ownsRow 0 77 512 v n cs → v.ownBlock = some b → ∀ c t m, w.heap[b]? = some (.cells c t m) → t = 77 := fun v n cs b hr hb c t m hc => by
    rcases hr.2 with ⟨rfl, _⟩ | ⟨g', cap, cur, rfl, _, hgg, _⟩
    · cases hb
    · simp only [Value.ownBlock, Option.some.injEq] at hb
      subst hb
      rw [hgg] at hc
      simp only [Option.some.injEq, Obj.cells.injEq] at hc
      exact hc.2.1.symm
  intro b hb c t m hc
  rcases hb with rfl | rfl | rfl | ⟨i, hi⟩
  · have := h.blk
    unfold Arr at this
    rw [this] at hc
    simp only [Option.some.injEq, Obj.cells.injEq] at hc
    exact Or.inr hc.2.1.symm
  · exact Or.inl (key _ _ _ b h.las rfl c t m hc)
  · obtain ⟨M, ⟨es, clock, hb, _⟩, _⟩ := h.map
    rw [hb] at hc
    cases hc
  · exact Or.inl (key _ _ _ b (h.row i) hi c t m hc)
theorem IsAts.nil (w : World) : IsAts w (.slice none 0 0) [] := ⟨[], World.ownsRow_nil _ _ _ _, rfl, fun j hj => by simp at hj⟩
theorem IsAts.shape {w : World} {v : Value} {l : Ats} (h : IsAts w v l) : ∃ a c, v = .slice a l.length c ∧ (0 < l.length → ∃ g, a = some ⟨g, 0, none⟩ ∧ l.length ≤ c ∧ c ≤ 9223372036854775807) := by
  obtain ⟨es, h1, _⟩ := h.rd
  rcases h1.2 with ⟨rfl, h0⟩ | ⟨g, cap, cur, rfl, _, _, hle, hm, _⟩
  · exact ⟨none, 0, by rw [h0], fun hp => by omega⟩
  · exact ⟨_, cap, rfl, fun _ => ⟨g, rfl, hle, by simpa [maxLen] using hm⟩⟩
theorem IsAts.elem {w : World} {g n c : Nat} {l : Ats} (h : IsAts w (.slice (some ⟨g, 0, none⟩) n c) l) {j : Nat} (hj : j < l.length) : ∃ u, w.cell? ⟨g, j * 2, none⟩ = some (.int .i64 (l.getD j dA).1) ∧ w.cell? ⟨g, j * 2 + 1, none⟩ = some u ∧ Own8 w 0 u (l.getD j dA).2 := by
  obtain ⟨es, h1, h2, h3⟩ := h.rd
  obtain ⟨a1, a2⟩ := atV_get (es := es) (j := j) (by omega)
  have c1 := h1.cells (g := g) rfl _ _ a1
  have c2 := h1.cells (g := g) rfl _ _ a2
  rw [Addr.add_lit, Nat.zero_add] at c1 c2
  rw [(h3 j hj).1] at c1
  exact ⟨_, c1, c2, (h3 j hj).2⟩
theorem getD_eq {α : Type} {l : List α} {j : Nat} (h : j < l.length) (d : α) : l.getD j d = l[j] := by rw [List.getD_eq_getElem?_getD, List.getElem?_eq_getElem h]; rfl
/-- The last one of that number. -/
theorem ofN_last {l : Ats} {n : Int} {j : Nat} (hj : j < l.length) (h1 : (l.getD j dA).1 = n) (h2 : ∀ q, j < q → q < l.length → (l.getD q dA).1 ≠ n) : (ofN l n).getLast? = some (l.getD j dA).2 := by
  have e : ofN l n = ofN (l.take (j + 1)) n ++ ofN (l.drop (j + 1)) n := by rw [← ofN_append, List.take_append_drop]
  have hd : ofN (l.drop (j + 1)) n = [] := by
    unfold ofN
    rw [List.map_eq_nil_iff, List.filter_eq_nil_iff]
    intro a ha
    obtain ⟨q, hq, rfl⟩ := List.getElem_of_mem ha
    rw [List.length_drop] at hq
    have := h2 (j + 1 + q) (by omega) (by omega)
    rw [getD_eq (by omega)] at this
    rw [List.getElem_drop]
    simpa using this
  rw [getD_eq hj] at h1 ⊢
  rw [e, hd, List.append_nil, List.take_succ_eq_append_getElem hj, ofN_append]
  have : ofN [l[j]] n = [l[j].2] := by simp [ofN, h1]
  rw [this]
  simp
theorem ofN_none {l : Ats} {n : Int} (h : ∀ q, q < l.length → (l.getD q dA).1 ≠ n) : ofN l n = [] := by
  unfold ofN
  rw [List.map_eq_nil_iff, List.filter_eq_nil_iff]
  intro a ha
  obtain ⟨q, hq, rfl⟩ := List.getElem_of_mem ha
  have := h q hq
  rw [getD_eq hq] at this
  simpa using this
set_option maxRecDepth 100000 in
set_option maxHeartbeats 2000000 in
theorem lasts_calls {w : World} {vb : Value} {n x rd wt fl : Int} {va : Value} {l : Ats} (h : IsAts w va l) :
    Calls Try.prog 55 #[.agg #[.int .i64 n, va, vb, .int .i64 rd, .int .i64 wt, .int .i64 fl], .int .i64 x] w fun e w' => ∃ u, e = .returned u ∧ Own8 w' 0 u (lastOf l x) ∧ Below w.heap.size w w' := by
  obtain ⟨a, c, rfl, hp⟩ := h.shape
  have hb1 := (Below.refl w.heap.size w).alloc (Nat.le_refl _) (.cells #[.int .i64 n, .slice a l.length c, vb, .int .i64 rd, .int .i64 wt, .int .i64 fl] 85)
  have HA := hide (h.below hb1)
  have HZ : Hid (∀ W, Calls Try.prog 56 #[] W fun e w' => ∃ u, e = .returned u ∧ Own8 w' W.heap.size u zsec ∧ Below W.heap.size W w') := fun W => zeros_calls
  have hlen : l.length ≤ 9223372036854775807 := by
    by_cases h0 : 0 < l.length
    · obtain ⟨g, _, h1, h2⟩ := hp h0; omega
    · omega
  clear h
  generalize hm : l.length = m at *
  have HM := hide hm
  clear hm
  go_enter Try.func55, Try.ntmps55
  go_wp2
  go_loop [5] (fun iv => ∃ k : Nat, k ≤ m ∧ iv = .int .i64 ((k : Int) - 1) ∧ ∀ q, k ≤ q → q < m → (l.getD q dA).1 ≠ x) (fun iv => (intOf iv + 1).toNat)
  case atStart => exact ⟨m, Nat.le_refl _, by go_num, fun q h1 h2 => by omega⟩
  case round =>
    obtain ⟨k, hk, rfl, hno⟩ := hrel
    by_cases h0 : k = 0
    · have HN : Hid (ofN l x = []) := ofN_none (fun q hq => hno q (by omega) (by rw [HM.out] at hq; exact hq))
      subst h0
      clear hno
      go_wp2_with (go_at_call 56; refine (unhide HZ _).mono ?_; rintro e w2 ⟨u, rfl, hu, hb2⟩)
      go_ret
      refine ⟨u, rfl, ?_, below_then hb1 hb2⟩
      have : lastOf l x = zsec := by unfold lastOf; rw [HN.out]; rfl
      rw [this]
      exact hu.mono (Nat.zero_le _)
    · obtain ⟨j, rfl⟩ : ∃ j, k = j + 1 := ⟨k - 1, by omega⟩
      obtain ⟨g, rfl, hle, hcm⟩ := hp (by omega)
      obtain ⟨u, hc1, hc2, hu⟩ := HA.out.elem (j := j) (by rw [HM.out]; omega)
      have hj1 : ((j + 1 : Nat) : Int) - 1 = (j : Int) := by omega
      rw [hj1]
      generalize hy : (l.getD j dA).1 = y at *
      by_cases he : y = x
      · have HL : Hid (lastOf l x = (l.getD j dA).2) := by
          unfold lastOf
          rw [ofN_last (j := j) (by rw [HM.out]; omega) (by rw [hy]; exact he) (fun q h1 h2 => hno q (by omega) (by rw [HM.out] at h2; exact h2))]
          rfl
        have HU := hide hu
        clear hu hno hy
        subst he
        go_wp2
        go_ret
        exact ⟨u, rfl, by rw [HL.out]; exact HU.out, hb1⟩
      · have HNO : Hid (∀ q, j ≤ q → q < m → (l.getD q dA).1 ≠ x) := fun q h1 h2 => by
          by_cases e : q = j
          · rw [e, hy]; exact he
          · exact hno q (by omega) h2
        clear hno hy hu
        go_wp2
        go_round
        case rel => exact ⟨j, by omega, by go_num, HNO.out⟩
        case measure => simp [intOf]
end Go.Proofs.Ytfgjhlnaaopdeab

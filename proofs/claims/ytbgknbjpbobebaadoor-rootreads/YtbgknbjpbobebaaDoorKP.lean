/- The document's lists in memory; lasts and Now. The document's New and Now. The document's Read. Numbers and bytes appended to a list of the document's; put. The document's SameImage and Image. -/
import Derived.Test.YtbgknbjpbobebaaDoorDkC
import Derived.Test.YtbgknbjpbobebaaDoorKA
namespace Go.Proofs.YtbgknbjpbobebaaDoor
open Go.RowKit Go.Maps

def atV (es : List (Int × Value)) : List Value := (es.map fun e => [Value.int .i64 e.1, e.2]).flatten
def dE : Int × Value := (0, .slice none 0 0)
def dA : Int × List Int := (0, [])
theorem atV_get {es : List (Int × Value)} {j : Nat} (hj : j < es.length) : (atV es)[j * 2]? = some (.int .i64 (es.getD j dE).1) ∧ (atV es)[j * 2 + 1]? = some (es.getD j dE).2 := by
  have hl : ∀ s ∈ es.map (fun e => [Value.int .i64 e.1, e.2]), s.length = 2 := fun s hs => by
    obtain ⟨e, _, rfl⟩ := List.mem_map.1 hs; rfl
  have h0 := flat_get 2 _ hl j 0 (by omega)
  have h1 := flat_get 2 _ hl j 1 (by omega)
  rw [Nat.mul_comm] at h0 h1
  have e : (es.map (fun e => [Value.int .i64 e.1, e.2])).getD j [] = [Value.int .i64 (es.getD j dE).1, (es.getD j dE).2] := by
    rw [List.getD_eq_getElem?_getD, List.getElem?_map, List.getElem?_eq_getElem hj, List.getD_eq_getElem?_getD, List.getElem?_eq_getElem hj]; rfl
  rw [e] at h0 h1
  exact ⟨h0, h1⟩
theorem atV_len (es : List (Int × Value)) : (atV es).length = es.length * 2 := by
  unfold atV
  rw [flat_len 2 _ (fun s hs => by obtain ⟨e, _, rfl⟩ := List.mem_map.1 hs; rfl), List.length_map, Nat.mul_comm]
theorem atV_snoc (es : List (Int × Value)) (e : Int × Value) : atV (es ++ [e]) = atV es ++ [.int .i64 e.1, e.2] := by simp [atV]
/-- A slice of numbers and bytes, in memory that nobody writes to. -/
structure IsAts (w : World) (v : Value) (l : Ats) : Prop where
  rd : ∃ es : List (Int × Value), w.ownsRow 0 94 2 v l.length (atV es) ∧ es.length = l.length ∧ ∀ j, j < l.length → (es.getD j dE).1 = (l.getD j dA).1 ∧ Own8 w 0 (es.getD j dE).2 (l.getD j dA).2
theorem IsAts.below {w w' : World} {v : Value} {l : Ats} (h : IsAts w v l) (hb : Below w.heap.size w w') : IsAts w' v l := by
  obtain ⟨es, h1, h2, h3⟩ := h.rd
  exact ⟨es, owns_below h1 hb, h2, fun j hj => ⟨(h3 j hj).1, (h3 j hj).2.below hb⟩⟩
/-- The blocks of F are none of the document's. -/
def Tm (w : World) (F : Nat → Prop) : Prop := ∀ b, F b → ∀ cs t m, w.heap[b]? = some (.cells cs t m) → t = 92 ∨ t = 89
theorem owns_tm {F : Nat → Prop} {w w' : World} {base : Nat} {t : TypeId} {size : Nat} {v : Value} {n : Nat} {cs : List Value} (h : w.ownsRow base t size v n cs) (hu : Up F w w') (hT : Tm w F) (h1 : t ≠ 92) (h2 : t ≠ 89) : w'.ownsRow base t size v n cs :=
  owns_up h hu (fun g hg hF => by
    rcases h.2 with ⟨rfl, _⟩ | ⟨g', cap, cur, rfl, _, hgg, _⟩
    · cases hg
    · simp only [Value.ownBlock, Option.some.injEq] at hg
      subst hg
      exact (hT _ hF _ _ _ hgg).elim h1 h2)
theorem Own8.tm {F : Nat → Prop} {w w' : World} {B : Nat} {v : Value} {xs : List Int} (h : Own8 w B v xs) (hu : Up F w w') (hT : Tm w F) : Own8 w' B v xs := ⟨owns_tm h.1 hu hT (by decide) (by decide), h.2⟩
theorem IsAts.tm {F : Nat → Prop} {w w' : World} {v : Value} {l : Ats} (h : IsAts w v l) (hu : Up F w w') (hT : Tm w F) : IsAts w' v l := by
  obtain ⟨es, h1, h2, h3⟩ := h.rd
  exact ⟨es, owns_tm h1 hu hT (by decide) (by decide), h2, fun j hj => ⟨(h3 j hj).1, (h3 j hj).2.tm hu hT⟩⟩
theorem Dk.tm {w : World} {p gl gm : Nat} {V : Nat → Value} {D : AD} (h : Dk w p gl gm V D) : Tm w (Ft p gl gm V) := by
  have key : ∀ (v : Value) (n : Nat) (cs : List Value) (b : Nat), w.ownsRow 0 92 512 v n cs → v.ownBlock = some b → ∀ c t m, w.heap[b]? = some (.cells c t m) → t = 92 := fun v n cs b hr hb c t m hc => by
    rcases hr.2 with ⟨rfl, _⟩ | ⟨g', cap, cur, rfl, _, hgg, _⟩
    · cases hb
    · simp only [Value.ownBlock, Option.some.injEq] at hb
      subst hb
      rw [hgg] at hc
      simp only [Option.some.injEq, Obj.cells.injEq] at hc
      exact hc.2.1.symm
  intro b hb c t m hc
  rcases hb with rfl | rfl | rfl | ⟨i, hi⟩
  · have := h.blk
    unfold Arr at this
    rw [this] at hc
    simp only [Option.some.injEq, Obj.cells.injEq] at hc
    exact Or.inr hc.2.1.symm
  · exact Or.inl (key _ _ _ b h.las rfl c t m hc)
  · obtain ⟨M, ⟨es, clock, hb, _⟩, _⟩ := h.map
    rw [hb] at hc
    cases hc
  · exact Or.inl (key _ _ _ b (h.row i) hi c t m hc)
theorem IsAts.nil (w : World) : IsAts w (.slice none 0 0) [] := ⟨[], World.ownsRow_nil _ _ _ _, rfl, fun j hj => by simp at hj⟩
theorem IsAts.shape {w : World} {v : Value} {l : Ats} (h : IsAts w v l) : ∃ a c, v = .slice a l.length c ∧ (0 < l.length → ∃ g, a = some ⟨g, 0, none⟩ ∧ l.length ≤ c ∧ c ≤ 9223372036854775807) := by
  obtain ⟨es, h1, _⟩ := h.rd
  rcases h1.2 with ⟨rfl, h0⟩ | ⟨g, cap, cur, rfl, _, _, hle, hm, _⟩
  · exact ⟨none, 0, by rw [h0], fun hp => by omega⟩
  · exact ⟨_, cap, rfl, fun _ => ⟨g, rfl, hle, by simpa [maxLen] using hm⟩⟩
theorem IsAts.elem {w : World} {g n c : Nat} {l : Ats} (h : IsAts w (.slice (some ⟨g, 0, none⟩) n c) l) {j : Nat} (hj : j < l.length) : ∃ u, w.cell? ⟨g, j * 2, none⟩ = some (.int .i64 (l.getD j dA).1) ∧ w.cell? ⟨g, j * 2 + 1, none⟩ = some u ∧ Own8 w 0 u (l.getD j dA).2 := by
  obtain ⟨es, h1, h2, h3⟩ := h.rd
  obtain ⟨a1, a2⟩ := atV_get (es := es) (j := j) (by omega)
  have c1 := h1.cells (g := g) rfl _ _ a1
  have c2 := h1.cells (g := g) rfl _ _ a2
  rw [Addr.add_lit, Nat.zero_add] at c1 c2
  rw [(h3 j hj).1] at c1
  exact ⟨_, c1, c2, (h3 j hj).2⟩
theorem getD_eq {α : Type} {l : List α} {j : Nat} (h : j < l.length) (d : α) : l.getD j d = l[j] := by rw [List.getD_eq_getElem?_getD, List.getElem?_eq_getElem h]; rfl
/-- The last one of that number. -/
theorem ofN_last {l : Ats} {n : Int} {j : Nat} (hj : j < l.length) (h1 : (l.getD j dA).1 = n) (h2 : ∀ q, j < q → q < l.length → (l.getD q dA).1 ≠ n) : (ofN l n).getLast? = some (l.getD j dA).2 := by
  have e : ofN l n = ofN (l.take (j + 1)) n ++ ofN (l.drop (j + 1)) n := by rw [← ofN_append, List.take_append_drop]
  have hd : ofN (l.drop (j + 1)) n = [] := by
    unfold ofN
    rw [List.map_eq_nil_iff, List.filter_eq_nil_iff]
    intro a ha
    obtain ⟨q, hq, rfl⟩ := List.getElem_of_mem ha
    rw [List.length_drop] at hq
    have := h2 (j + 1 + q) (by omega) (by omega)
    rw [getD_eq (by omega)] at this
    rw [List.getElem_drop]
    simpa using this
  rw [getD_eq hj] at h1 ⊢
  rw [e, hd, List.append_nil, List.take_succ_eq_append_getElem hj, ofN_append]
  have : ofN [l[j]] n = [l[j].2] := by simp [ofN, h1]
  rw [this]
  simp
theorem ofN_none {l : Ats} {n : Int} (h : ∀ q, q < l.length → (l.getD q dA).1 ≠ n) : ofN l n = [] := by
  unfold ofN
  rw [List.map_eq_nil_iff, List.filter_eq_nil_iff]
  intro a ha
  obtain ⟨q, hq, rfl⟩ := List.getElem_of_mem ha
  have := h q hq
  rw [getD_eq hq] at this
  simpa using this
set_option maxRecDepth 100000 in
set_option maxHeartbeats 2000000 in
theorem lasts_calls {w : World} {vb : Value} {n x rd wt fl : Int} {va : Value} {l : Ats} (h : IsAts w va l) :
    Calls Tryd.prog 76 #[.agg #[.int .i64 n, va, vb, .int .i64 rd, .int .i64 wt, .int .i64 fl], .int .i64 x] w fun e w' => ∃ u, e = .returned u ∧ Own8 w' 0 u (lastOf l x) ∧ Below w.heap.size w w' := by
  obtain ⟨a, c, rfl, hp⟩ := h.shape
  have hb1 := (Below.refl w.heap.size w).alloc (Nat.le_refl _) (.cells #[.int .i64 n, .slice a l.length c, vb, .int .i64 rd, .int .i64 wt, .int .i64 fl] 44)
  have HA := hide (h.below hb1)
  have HZ : Hid (∀ W, Calls Tryd.prog 53 #[] W fun e w' => ∃ u, e = .returned u ∧ Own8 w' W.heap.size u zsec ∧ Below W.heap.size W w') := fun W => zeros_calls
  have hlen : l.length ≤ 9223372036854775807 := by
    by_cases h0 : 0 < l.length
    · obtain ⟨g, _, h1, h2⟩ := hp h0; omega
    · omega
  clear h
  generalize hm : l.length = m at *
  have HM := hide hm
  clear hm
  go_enter Tryd.func76, Tryd.ntmps76
  go_wp2
  go_loop [5] (fun iv => ∃ k : Nat, k ≤ m ∧ iv = .int .i64 ((k : Int) - 1) ∧ ∀ q, k ≤ q → q < m → (l.getD q dA).1 ≠ x) (fun iv => (intOf iv + 1).toNat)
  case atStart => exact ⟨m, Nat.le_refl _, by go_num, fun q h1 h2 => by omega⟩
  case round =>
    obtain ⟨k, hk, rfl, hno⟩ := hrel
    by_cases h0 : k = 0
    · have HN : Hid (ofN l x = []) := ofN_none (fun q hq => hno q (by omega) (by rw [HM.out] at hq; exact hq))
      subst h0
      clear hno
      go_wp2_with (go_at_call 53; refine (unhide HZ _).mono ?_; rintro e w2 ⟨u, rfl, hu, hb2⟩)
      go_ret
      refine ⟨u, rfl, ?_, below_then hb1 hb2⟩
      have : lastOf l x = zsec := by unfold lastOf; rw [HN.out]; rfl
      rw [this]
      exact hu.mono (Nat.zero_le _)
    · obtain ⟨j, rfl⟩ : ∃ j, k = j + 1 := ⟨k - 1, by omega⟩
      obtain ⟨g, rfl, hle, hcm⟩ := hp (by omega)
      obtain ⟨u, hc1, hc2, hu⟩ := HA.out.elem (j := j) (by rw [HM.out]; omega)
      have hj1 : ((j + 1 : Nat) : Int) - 1 = (j : Int) := by omega
      rw [hj1]
      generalize hy : (l.getD j dA).1 = y at *
      by_cases he : y = x
      · have HL : Hid (lastOf l x = (l.getD j dA).2) := by
          unfold lastOf
          rw [ofN_last (j := j) (by rw [HM.out]; omega) (by rw [hy]; exact he) (fun q h1 h2 => hno q (by omega) (by rw [HM.out] at h2; exact h2))]
          rfl
        have HU := hide hu
        clear hu hno hy
        subst he
        go_wp2
        go_ret
        exact ⟨u, rfl, by rw [HL.out]; exact HU.out, hb1⟩
      · have HNO : Hid (∀ q, j ≤ q → q < m → (l.getD q dA).1 ≠ x) := fun q h1 h2 => by
          by_cases e : q = j
          · rw [e, hy]; exact he
          · exact hno q (by omega) h2
        clear hno hy hu
        go_wp2
        go_round
        case rel => exact ⟨j, by omega, by go_num, HNO.out⟩
        case measure => simp [intOf]
end Go.Proofs.YtbgknbjpbobebaaDoor

namespace Go.Proofs.YtbgknbjpbobebaaDoor
open Go.RowKit Go.Maps

set_option maxRecDepth 100000 in
set_option maxHeartbeats 2000000 in
theorem now_calls {w : World} {va vb : Value} {n x rd wt fl : Int} {l la : Ats} {N : Nat} (h : IsAts w vb l) (ha : IsAts w va la) (hok : AtsOk N l) (hoa : AtsOk N la) :
    Calls Tryd.prog 70 #[.agg #[.int .i64 n, va, vb, .int .i64 rd, .int .i64 wt, .int .i64 fl], .int .i64 x] w fun e w' => ∃ u, e = .returned u ∧ Own8 w' 0 u ((ofN l x).getLast?.getD (lastOf la x)) ∧ Below w.heap.size w w' := by
  obtain ⟨a, c, rfl, hp⟩ := h.shape
  have hb1 := (Below.refl w.heap.size w).alloc (Nat.le_refl _) (.cells #[.int .i64 n, va, .slice a l.length c, .int .i64 rd, .int .i64 wt, .int .i64 fl] 44)
  have HA := hide (h.below hb1)
  have HAA := hide (ha.below hb1)
  have HC : Hid (∀ (W : World) (v : Value) (xs : List Int), IsB W v xs → xs.length ≤ 140737488355328 → Calls Tryd.prog 42 #[v] W fun e w' => ∃ u, e = .returned u ∧ Own8 w' W.heap.size u xs ∧ Below W.heap.size W w') := fun W v xs h1 h2 => copy_calls h1 h2
  have HS : Hid (∀ j, j < l.length → IsSec (l.getD j dA).2) := fun j hj => by rw [getD_eq hj]; exact (hok _ (List.getElem_mem hj)).2.2
  have HSA := hide (lastOf_is hoa x)
  have hlen : l.length ≤ 9223372036854775807 := by
    by_cases h0 : 0 < l.length
    · obtain ⟨g, _, h1, h2⟩ := hp h0; omega
    · omega
  clear h ha hok hoa
  generalize hm : l.length = m at *
  have HM := hide hm
  clear hm
  go_enter Tryd.func70, Tryd.ntmps70
  go_wp2
  go_loop [5] (fun iv => ∃ k : Nat, k ≤ m ∧ iv = .int .i64 ((k : Int) - 1) ∧ ∀ q, k ≤ q → q < m → (l.getD q dA).1 ≠ x) (fun iv => (intOf iv + 1).toNat)
  case atStart => exact ⟨m, Nat.le_refl _, by go_num, fun q h1 h2 => by omega⟩
  case round =>
    obtain ⟨k, hk, rfl, hno⟩ := hrel
    by_cases h0 : k = 0
    · have HN : Hid (ofN l x = []) := ofN_none (fun q hq => hno q (by omega) (by rw [HM.out] at hq; exact hq))
      subst h0
      clear hno
      have HLC := hide (lasts_calls (n := n) (x := x) (rd := rd) (wt := wt) (fl := fl) (vb := .slice a m c) HAA.out)
      go_wp2_with (first
        | (go_at_call 76; refine (unhide HLC).mono ?_; rintro e w2 ⟨u, rfl, hu, hb2⟩; have hI2 := hu.isB; have hl2 : (lastOf la x).length ≤ 140737488355328 := (by rw [HSA.out.1]; decide))
        | (go_at_call 42; refine (unhide HC _ _ _ hI2 hl2).mono ?_; rintro e w3 ⟨u3, rfl, hu3, hb3⟩))
      go_ret
      refine ⟨u3, rfl, ?_, below_then (below_then hb1 hb2) hb3⟩
      rw [HN.out]
      exact hu3.mono (Nat.zero_le _)
    · obtain ⟨j, rfl⟩ : ∃ j, k = j + 1 := ⟨k - 1, by omega⟩
      obtain ⟨g, rfl, hle, hcm⟩ := hp (by omega)
      obtain ⟨u, hc1, hc2, hu⟩ := HA.out.elem (j := j) (by rw [HM.out]; omega)
      have hj1 : ((j + 1 : Nat) : Int) - 1 = (j : Int) := by omega
      rw [hj1]
      generalize hy : (l.getD j dA).1 = y at *
      by_cases he : y = x
      · have HL : Hid ((ofN l x).getLast?.getD (lastOf la x) = (l.getD j dA).2) := by
          rw [ofN_last (j := j) (by rw [HM.out]; omega) (by rw [hy]; exact he) (fun q h1 h2 => hno q (by omega) (by rw [HM.out] at h2; exact h2))]
          rfl
        have HCU := hide (unhide HC _ _ _ hu.isB (by rw [(unhide HS j (by omega)).1]; decide))
        clear hu hno hy
        subst he
        go_wp2_with (go_at_call 42; refine (unhide HCU).mono ?_; rintro e w3 ⟨u3, rfl, hu3, hb3⟩)
        go_ret
        exact ⟨u3, rfl, by rw [HL.out]; exact hu3.mono (Nat.zero_le _), below_then hb1 hb3⟩
      · have HNO : Hid (∀ q, j ≤ q → q < m → (l.getD q dA).1 ≠ x) := fun q h1 h2 => by
          by_cases e : q = j
          · rw [e, hy]; exact he
          · exact hno q (by omega) h2
        clear hno hy hu
        go_wp2
        go_round
        case rel => exact ⟨j, by omega, by go_num, HNO.out⟩
        case measure => simp [intOf]
set_option maxRecDepth 100000 in
set_option maxHeartbeats 1000000 in
theorem rnew_calls {w : World} {n : Int} :
    Calls Tryd.prog 13 #[.int .i64 n] w fun e w' => Below w.heap.size w w' ∧ e = .returned (.tuple #[.agg #[.int .i64 (if n < 2 ∨ 65536 < n then 0 else n), .slice none 0 0, .slice none 0 0, .int .i64 0, .int .i64 0, .int .i64 0], .int .i64 (if n < 2 ∨ 65536 < n then 30 else 0)]) := by
  by_cases h1 : n < 2
  · rw [if_pos (Or.inl h1), if_pos (Or.inl h1)]
    go_enter Tryd.func13, Tryd.ntmps13
    go_wp2
    exact bodyPost_ret (v := .tuple #[.agg #[.int .i64 0, .slice none 0 0, .slice none 0 0, .int .i64 0, .int .i64 0, .int .i64 0], .int .i64 30]) (by simp [results, Tryd.results13, go_sem]) rfl ⟨(Below.refl _ _).alloc (Nat.le_refl _) _, rfl⟩
  · by_cases h2 : 65536 < n
    · rw [if_pos (Or.inr h2), if_pos (Or.inr h2)]
      have h1' : decide (n < 2) = false := by simpa using h1
      clear h1
      go_enter Tryd.func13, Tryd.ntmps13
      go_wp2
      exact bodyPost_ret (v := .tuple #[.agg #[.int .i64 0, .slice none 0 0, .slice none 0 0, .int .i64 0, .int .i64 0, .int .i64 0], .int .i64 30]) (by simp [results, Tryd.results13, go_sem]) rfl ⟨(Below.refl _ _).alloc (Nat.le_refl _) _, rfl⟩
    · have hno : ¬ (n < 2 ∨ 65536 < n) := by omega
      rw [if_neg hno, if_neg hno]
      have h1' : decide (n < 2) = false := by simpa using h1
      have h2' : decide (65536 < n) = false := by simpa using h2
      clear h1 h2 hno
      go_enter Tryd.func13, Tryd.ntmps13
      go_wp2
      exact bodyPost_ret (v := .tuple #[.agg #[.int .i64 n, .slice none 0 0, .slice none 0 0, .int .i64 0, .int .i64 0, .int .i64 0], .int .i64 0]) (by simp [results, Tryd.results13, go_sem]) rfl ⟨(Below.refl _ _).alloc (Nat.le_refl _) _, rfl⟩
end Go.Proofs.YtbgknbjpbobebaaDoor

namespace Go.Proofs.YtbgknbjpbobebaaDoor
open Go.RowKit Go.Maps

/-- Six cells of a block. -/
theorem six_cells {w W : World} {g : Nat} {t : TypeId} {a b c d e f : Value} (h : Arr w g t [a, b, c, d, e, f]) (hb : W.heap[g]? = w.heap[g]?) : W.cell? ⟨g, 0, none⟩ = some a ∧ W.cell? ⟨g, 1, none⟩ = some b ∧ W.cell? ⟨g, 2, none⟩ = some c ∧ W.cell? ⟨g, 3, none⟩ = some d ∧ W.cell? ⟨g, 4, none⟩ = some e ∧ W.cell? ⟨g, 5, none⟩ = some f :=
  have h' : Arr W g t [a, b, c, d, e, f] := h.keep hb
  ⟨h'.cell_of rfl, h'.cell_of rfl, h'.cell_of rfl, h'.cell_of rfl, h'.cell_of rfl, h'.cell_of rfl⟩
section
variable {ops : Array Oper} {o : Oper} {a : Act} {w : World} {K : Act → World → Prop} {Q : Exit → Act → World → Prop} {E : Prop}
theorem step_storeRow (hgd : o.guard = none) (x y : Operand) (t : TypeId) (ho : o.op = .store t x y) {b of : Nat} {cs : List Value} (hx : a.eval x = .pointer (some ⟨b, of, none⟩)) (hy : a.eval y = .agg cs.toArray) (ht : w.there b of cs.length) (hi : (Tryd.prog.info? t).map (·.size) = some cs.length) (h1 : ∀ u ∈ cs, u.oneCell' = true)
    (hk : K (a.put o.dst undef) (w.setCells b of cs)) : if Region.wanted o (yielded ops a.tmps) = true then Oper.wp Tryd.prog o a w K Q else E := by
  rw [if_pos (by simp [Region.wanted, hgd])]
  exact wp_store_mid _ x y ho b of cs.toArray hx hy (by rw [List.size_toArray]; exact ht) (by rw [List.size_toArray]; exact hi) (all_oneCell_toArray h1) hk
end
theorem Arr.range {w : World} {g : Nat} {t : TypeId} {cs : List Value} (h : Arr w g t cs) : w.rangeAt g 0 cs := fun j v hv => by rw [h.cell, Nat.zero_add]; exact hv
theorem Arr.there {w : World} {g : Nat} {t : TypeId} {cs : List Value} (h : Arr w g t cs) : w.there g 0 cs.length := fun j hj => ⟨by rw [h.cell, Nat.zero_add, List.getElem?_eq_getElem hj]; rfl, h.frozen _⟩
theorem Arr.setAll {w : World} {g : Nat} {t : TypeId} {cs : List Value} (h : Arr w g t cs) {ds : List Value} (hl : ds.length = cs.length) : Arr (w.setCells g 0 ds) g t ds := by
  obtain ⟨c2, h1, h2, h3⟩ := setCells_row ds 0 w cs.toArray h (by simp; omega)
  unfold Arr
  rw [h1]
  congr 2
  apply Array.ext_getElem?
  intro q
  rw [h3 q]
  by_cases hq : q < ds.length
  · rw [if_pos (by omega)]; simp
  · rw [if_neg (by omega), Array.getElem?_eq_none (by simp; omega), Array.getElem?_eq_none (by simp; omega)]
def rdC (n : Int) (a1 : Option Addr) (n1 c1 : Nat) (a2 : Option Addr) (n2 c2 : Nat) (rd wt fl : Int) : List Value := [.int .i64 n, .slice a1 n1 c1, .slice a2 n2 c2, .int .i64 rd, .int .i64 wt, .int .i64 fl]
theorem rdC_one (n : Int) (a1 : Option Addr) (n1 c1 : Nat) (a2 : Option Addr) (n2 c2 : Nat) (rd wt fl : Int) : ∀ u ∈ rdC n a1 n1 c1 a2 n2 c2 rd wt fl, u.oneCell' = true := by
  intro u hu
  simp only [rdC, List.mem_cons, List.not_mem_nil, or_false] at hu
  rcases hu with rfl | rfl | rfl | rfl | rfl | rfl <;> rfl
theorem now_enter (v u : Value) (W : World) : (callFunc 70 #[v, u]).run Tryd.prog W = .ok (.enter 70 #[v, u]) W := by kernel_rfl
theorem info36 : (Tryd.prog.info? 44).map (·.size) = some 6 := by kernel_rfl
end Go.Proofs.YtbgknbjpbobebaaDoor

namespace Go.Proofs.YtbgknbjpbobebaaDoor
open Go.RowKit Go.Maps

structure OwnAts (w : World) (B : Nat) (v : Value) (l : Ats) : Prop where
  rd : ∃ es : List (Int × Value), w.ownsRow B 94 2 v l.length (atV es) ∧ es.length = l.length ∧ ∀ j, j < l.length → (es.getD j dE).1 = (l.getD j dA).1 ∧ Own8 w 0 (es.getD j dE).2 (l.getD j dA).2
theorem OwnAts.isAts {w : World} {B : Nat} {v : Value} {l : Ats} (h : OwnAts w B v l) : IsAts w v l := by
  obtain ⟨es, h1, h2, h3⟩ := h.rd
  exact ⟨es, owns_mono h1 (Nat.zero_le _), h2, h3⟩
theorem OwnAts.nil (w : World) (B : Nat) : OwnAts w B (.slice none 0 0) [] := ⟨[], World.ownsRow_nil _ _ _ _, rfl, fun j hj => by simp at hj⟩
theorem OwnAts.below {w w' : World} {B : Nat} {v : Value} {l : Ats} (h : OwnAts w B v l) (hb : Below w.heap.size w w') : OwnAts w' B v l := by
  obtain ⟨es, h1, h2, h3⟩ := h.rd
  exact ⟨es, owns_below h1 hb, h2, fun j hj => ⟨(h3 j hj).1, (h3 j hj).2.below hb⟩⟩
theorem OwnAts.shape {w : World} {B : Nat} {v : Value} {l : Ats} (h : OwnAts w B v l) : ∃ a c, v = .slice a l.length c := by
  obtain ⟨a, c, h1, _⟩ := h.isAts.shape
  exact ⟨a, c, h1⟩
/-- A block of another type is written. -/
theorem Own8.other {w w' : World} {B g : Nat} {v : Value} {xs : List Int} {cs : Array Value} {t : TypeId} {m : Nat × Nat} (h : Own8 w B v xs) (hg : w.grownBy w' (some g)) (hc : w.heap[g]? = some (.cells cs t m)) (ht : t ≠ 5) : Own8 w' B v xs := by
  refine ⟨h.1.kept hg ?_, h.2⟩
  rcases h.1.2 with ⟨rfl, _⟩ | ⟨g', cap, cur, rfl, _, hgg, _⟩
  · exact Or.inl rfl
  · refine Or.inr fun e => ?_
    simp only [Value.ownBlock, Option.some.injEq] at e
    subst e
    rw [hgg] at hc
    simp only [Option.some.injEq, Obj.cells.injEq] at hc
    exact ht hc.2.1.symm
theorem IsAts.other {w w' : World} {g : Nat} {v : Value} {l : Ats} {cs : Array Value} {t : TypeId} {m : Nat × Nat} (h : IsAts w v l) (hg : w.grownBy w' (some g)) (hc : w.heap[g]? = some (.cells cs t m)) (h1 : t ≠ 5) (h2 : t ≠ 94) : IsAts w' v l := by
  obtain ⟨es, k1, k2, k3⟩ := h.rd
  refine ⟨es, k1.kept hg ?_, k2, fun j hj => ⟨(k3 j hj).1, (k3 j hj).2.other hg hc h1⟩⟩
  rcases k1.2 with ⟨rfl, _⟩ | ⟨g', cap, cur, rfl, _, hgg, _⟩
  · exact Or.inl rfl
  · refine Or.inr fun e => ?_
    simp only [Value.ownBlock, Option.some.injEq] at e
    subst e
    rw [hgg] at hc
    simp only [Option.some.injEq, Obj.cells.injEq] at hc
    exact h2 hc.2.1.symm
theorem infoA : (Tryd.prog.info? 94).map (fun i => (i.zero, i.size, i.bytes)) = some (some (.agg #[.int .i64 0, .slice none 0 0]), 2, 32) := by kernel_rfl
theorem snoc_getD {α : Type} (l : List α) (a d : α) (j : Nat) : (l ++ [a]).getD j d = if j < l.length then l.getD j d else if j = l.length then a else d := by
  rw [List.getD_eq_getElem?_getD, List.getD_eq_getElem?_getD]
  by_cases h1 : j < l.length
  · rw [if_pos h1, List.getElem?_append_left h1]
  · rw [if_neg h1, List.getElem?_append_right (by omega)]
    by_cases h2 : j = l.length
    · subst h2; rw [if_pos rfl, Nat.sub_self]; rfl
    · rw [if_neg h2, List.getElem?_eq_none (by simp; omega)]; rfl
section
variable {ops : Array Oper} {rest : List Oper} {o : Oper} {a : Act} {Q : Exit → Act → World → Prop} {w : World} {K : Act → World → Prop} {E : Prop}
theorem wp_appAt (x y : Operand) (ho : o.op = .call { callee := .builtin .append, args := #[x, y], argTypes := #[40, 40] }) {B g : Nat} {v u : Value} {l : Ats} {i : Int} {s : List Int} (hx : a.eval x = v) (hown : OwnAts w B v l) (hy : a.eval y = .slice (some ⟨g, 0, none⟩) 1 1)
    (hA : Arr w g 94 [.int .i64 i, u]) (hu : Own8 w 0 u s) (hl : l.length ≤ 1099511627776) (hB : B ≤ w.heap.size)
    (hk : ∀ v' w', OwnAts w' B v' (l ++ [(i, s)]) → w.grownBy w' v.ownBlock → (v.ownBlock = none ∨ ∃ b, v.ownBlock = some b ∧ B ≤ b) → K (a.put o.dst v') w') : o.wp Tryd.prog a w K Q := by
  obtain ⟨i0, hi, hz0, hz1, hz2⟩ := info_parts infoA
  obtain ⟨es, h1, h2, h3⟩ := hown.rd
  have hone : ∀ z ∈ [Value.int .i64 i, u], z.oneCell' = true := by
    obtain ⟨ua, un, uc, rfl⟩ := (Own8.isB hu).shape
    intro z hz
    simp only [List.mem_cons, List.not_mem_nil, or_false] at hz
    rcases hz with rfl | rfl <;> rfl
  refine wp_append_lies w x y 40 ho B 94 i0 _ 2 32 Tryd.underlying40 hi hz0 hz1 hz2 rfl (by decide) v l.length (atV es) hx h1 ⟨g, 0, none⟩ 1 1 [.int .i64 i, u] hy rfl (fun j z hz => by rw [Addr.add_lit, Nat.zero_add]; exact hA.cell_of hz) hone (by decide) (by unfold maxLen; omega) (by omega) hB _ rfl ?_
  intro g6 c6 w6 hr6 hg6 hat6 hlt6
  have keep8 : ∀ (z : Value) (xs : List Int), Own8 w 0 z xs → Own8 w6 0 z xs := fun z xs hz => ⟨hz.1.kept hg6 (owns_apart hz.1 h1 (by decide)), hz.2⟩
  refine hk _ w6 ⟨es ++ [(i, u)], ?_, by simp [h2], fun j hj => ?_⟩ hg6 ?_
  · rw [atV_snoc, List.length_append, List.length_singleton]
    exact hr6
  · rw [List.length_append, List.length_singleton] at hj
    rw [snoc_getD, snoc_getD, h2]
    by_cases hj1 : j < l.length
    · rw [if_pos hj1, if_pos hj1]; exact ⟨(h3 j hj1).1, keep8 _ _ (h3 j hj1).2⟩
    · have : j = l.length := by omega
      rw [if_neg hj1, if_neg hj1, if_pos this, if_pos this]
      exact ⟨rfl, keep8 _ _ hu⟩
  · cases hv : v.ownBlock with
    | none => exact Or.inl rfl
    | some b => exact Or.inr ⟨b, rfl, (h1.lt b hv).1⟩
theorem wpList_appAt (hgd : o.guard = none) (x y : Operand) (ho : o.op = .call { callee := .builtin .append, args := #[x, y], argTypes := #[40, 40] }) {B g : Nat} {v u : Value} {l : Ats} {i : Int} {s : List Int} (hx : a.eval x = v) (hown : OwnAts w B v l) (hy : a.eval y = .slice (some ⟨g, 0, none⟩) 1 1)
    (hA : Arr w g 94 [.int .i64 i, u]) (hu : Own8 w 0 u s) (hl : l.length ≤ 1099511627776) (hB : B ≤ w.heap.size)
    (hk : ∀ v' w', OwnAts w' B v' (l ++ [(i, s)]) → w.grownBy w' v.ownBlock → (v.ownBlock = none ∨ ∃ b, v.ownBlock = some b ∧ B ≤ b) → wpList Tryd.prog ops Q rest (a.put o.dst v') w') : wpList Tryd.prog ops Q (o :: rest) a w :=
  wpList_plain hgd fun _ hK => wp_appAt x y ho hx hown hy hA hu hl hB fun v' w' h1 h2 h3 => hK _ _ (hk v' w' h1 h2 h3)
theorem step_appAt (hgd : o.guard = none) (x y : Operand) (ho : o.op = .call { callee := .builtin .append, args := #[x, y], argTypes := #[40, 40] }) {B g : Nat} {v u : Value} {l : Ats} {i : Int} {s : List Int} (hx : a.eval x = v) (hown : OwnAts w B v l) (hy : a.eval y = .slice (some ⟨g, 0, none⟩) 1 1)
    (hA : Arr w g 94 [.int .i64 i, u]) (hu : Own8 w 0 u s) (hl : l.length ≤ 1099511627776) (hB : B ≤ w.heap.size)
    (hk : ∀ v' w', OwnAts w' B v' (l ++ [(i, s)]) → w.grownBy w' v.ownBlock → (v.ownBlock = none ∨ ∃ b, v.ownBlock = some b ∧ B ≤ b) → K (a.put o.dst v') w') : if Region.wanted o (yielded ops a.tmps) = true then Oper.wp Tryd.prog o a w K Q else E := by
  rw [if_pos (by simp [Region.wanted, hgd])]
  exact wp_appAt x y ho hx hown hy hA hu hl hB hk
end
theorem below_app {B : Nat} {a w w' : World} {v : Value} (h : Below B a w) (hg : w.grownBy w' v.ownBlock) (hB : B ≤ w.heap.size) (hv : v.ownBlock = none ∨ ∃ b, v.ownBlock = some b ∧ B ≤ b) : Below B a w' :=
  h.grown hg hB (fun j hj => by
    rcases hv with hv | ⟨b, hv, hb⟩
    · rw [hv] at hj; cases hj
    · rw [hv] at hj; injection hj with hj; omega)
theorem fil_take (l : Ats) (x : Int) {k : Nat} (hk : k < l.length) : (l.take (k + 1)).filter (fun a => a.1 != x) = (l.take k).filter (fun a => a.1 != x) ++ (if (l.getD k dA).1 = x then [] else [l.getD k dA]) := by
  rw [List.take_succ_eq_append_getElem hk, List.filter_append, getD_eq hk]
  congr 1
  by_cases h : l[k].1 = x <;> simp [h]
set_option maxRecDepth 100000 in
set_option maxHeartbeats 2000000 in
theorem put_calls {w : World} {va u : Value} {l : Ats} {x : Int} {s : List Int} (h : IsAts w va l) (hu : Own8 w 0 u s) (hl : l.length ≤ 549755813888) :
    Calls Tryd.prog 47 #[va, .int .i64 x, u] w fun e w' => ∃ v, e = .returned v ∧ IsAts w' v (putL l x s) ∧ Below w.heap.size w w' := by
  obtain ⟨a, c, rfl, hp⟩ := h.shape
  obtain ⟨ua, un, uc, rfl⟩ := (Own8.isB hu).shape
  have HA := hide h
  have HU := hide hu
  have HF : Hid (∀ k, ((l.take k).filter fun a => a.1 != x).length ≤ 549755813888) := fun k => Nat.le_trans (List.length_filter_le _ _) (Nat.le_trans (List.length_take_le' _ _) hl)
  have HT := hide (fun k (hk : k < l.length) => fil_take l x hk)
  clear h hu
  generalize hm : l.length = m at *
  have HM := hide hm
  clear hm
  go_enter Tryd.func47, Tryd.ntmps47
  go_wp2
  go_loopw [7, 8] (fun vv iv wr => ∃ k : Nat, k ≤ m ∧ iv = .int .i64 (k : Int) ∧ OwnAts wr w.heap.size vv ((l.take k).filter fun a => a.1 != x) ∧ Below w.heap.size w wr) (fun _ iv _ => m - (intOf iv).toNat)
  case atStart => exact ⟨0, by omega, rfl, by simpa using OwnAts.nil w w.heap.size, Below.refl _ _⟩
  case round =>
    obtain ⟨k, hk, rfl, hown, hnx⟩ := hrel
    have hsz := hnx.size
    obtain ⟨pa, pc, rfl⟩ := hown.shape
    by_cases hlt : k < m
    · obtain ⟨g, rfl, hle, hcm⟩ := hp (by omega)
      obtain ⟨z, hc1, hc2, hz⟩ := (HA.out.below hnx).elem (j := k) (by rw [HM.out]; exact hlt)
      have hft := unhide HT k hlt
      have HFT := hide hft
      have hfl := unhide HF k
      obtain ⟨za, zn, zc, rfl⟩ := (Own8.isB hz).shape
      have HOWN := hide hown
      have HZ := hide hz
      have HNX := hide hnx
      generalize hy : (l.getD k dA).1 = y at *
      generalize hys : (l.getD k dA).2 = ys at *
      have HYS : Hid (l.getD k dA = (y, ys)) := hide (by rw [← hy, ← hys])
      generalize hn2 : ((l.take k).filter fun a => a.1 != x).length = n2 at *
      have HN2 := hide hn2
      clear hft hown hz hnx hy hys hn2
      by_cases he : y = x
      · have HE := hide he
        have HNE : Hid (((l.take (k + 1)).filter fun a => a.1 != x) = (l.take k).filter fun a => a.1 != x) := hide (by rw [HFT.out, if_pos HE.out, List.append_nil])
        subst he
        go_wp2
        go_roundw
        case rel => exact ⟨k + 1, by omega, by go_num, by rw [HNE.out]; exact HOWN.out, HNX.out⟩
        case measure => simp [intOf]; omega
      · have HNE : Hid (((l.take (k + 1)).filter fun a => a.1 != x) = ((l.take k).filter fun a => a.1 != x) ++ [(y, ys)]) := hide (by rw [HFT.out, if_neg he, HYS.out])
        have hAn := Arr.new wr [.int .i64 y, .slice za zn zc] 94
        have hbn := (Below.refl wr.heap.size wr).alloc (Nat.le_refl _) (.cells [.int .i64 y, .slice za zn zc].toArray 94)
        have HO2 := hide (HOWN.out.below hbn)
        have HZ2 := hide (HZ.out.below hbn)
        have hsz2 : w.heap.size ≤ (wr.alloc (.cells [.int .i64 y, .slice za zn zc].toArray 94)).heap.size := by simp; omega
        go_wp2_with (first
          | (at_builtin; refine wpList_appAt rfl (.tmp 22) (.tmp 27) rfl rfl (unhide HO2) rfl hAn (unhide HZ2) (by rw [HN2.out]; omega) hsz2 ?_; intro v6 w6 hO6 hg6 hv6))
        go_roundw
        case rel => exact ⟨k + 1, by omega, by go_num, by rw [HNE.out]; exact hO6, below_app (HNX.out.trans (hbn.mono hsz)) hg6 hsz2 hv6⟩
        case measure => simp [intOf]; omega
    · have hkm : k = m := by omega
      have HP : Hid (putL l x s = ((l.take k).filter fun a => a.1 != x) ++ [(x, s)]) := hide (by unfold putL; rw [List.take_of_length_le (by rw [HM.out]; omega)])
      have hfl := unhide HF k
      have hAn := Arr.new wr [.int .i64 x, .slice ua un uc] 94
      have hbn := (Below.refl wr.heap.size wr).alloc (Nat.le_refl _) (.cells [.int .i64 x, .slice ua un uc].toArray 94)
      have HO2 := hide (hown.below hbn)
      have HU2 := hide ((HU.out.below hnx).below hbn)
      have hsz2 : w.heap.size ≤ (wr.alloc (.cells [.int .i64 x, .slice ua un uc].toArray 94)).heap.size := by simp; omega
      have HNX := hide hnx
      generalize hn2 : ((l.take k).filter fun a => a.1 != x).length = n2 at *
      have HN2 := hide hn2
      clear hn2 hkm hown hnx
      go_wp2_with (first
        | (at_builtin; refine wpList_appAt rfl (.tmp 29) (.tmp 33) rfl rfl (unhide HO2) rfl hAn (unhide HU2) (by rw [HN2.out]; omega) hsz2 ?_; intro v6 w6 hO6 hg6 hv6))
      go_ret
      exact ⟨v6, rfl, by rw [HP.out]; exact hO6.isAts, below_app (HNX.out.trans (hbn.mono hsz)) hg6 hsz2 hv6⟩
end Go.Proofs.YtbgknbjpbobebaaDoor

namespace Go.Proofs.YtbgknbjpbobebaaDoor
open Go.RowKit Go.Maps

set_option maxRecDepth 100000 in
set_option maxHeartbeats 2000000 in
theorem sameImg_some {w : World} {ga oa gb ob n ca cb : Nat} {xss : List (List Int)} (ha : ∀ j, j < n → ∃ u, w.cell? ⟨ga, oa + j, none⟩ = some u ∧ IsB w u (xss.getD j [])) (hb : ∀ j, j < n → ∃ u, w.cell? ⟨gb, ob + j, none⟩ = some u ∧ IsB w u (xss.getD j [])) (hca : n ≤ ca) (hc1 : ca ≤ 9223372036854775807) :
    Calls Tryd.prog 24 #[.slice (some ⟨ga, oa, none⟩) n ca, .slice (some ⟨gb, ob, none⟩) n cb] w fun e w' => e = .returned (.bool true) ∧ Below w.heap.size w w' := by
  have HA := hide ha
  have HB := hide hb
  clear ha hb
  go_enter Tryd.func24, Tryd.ntmps24
  go_wp2
  go_loopw [5] (fun iv wr => ∃ i : Nat, i ≤ n ∧ iv = .int .i64 (i : Int) ∧ Below w.heap.size w wr) (fun i _ => n - (intOf i).toNat)
  case atStart => exact ⟨0, by omega, rfl, Below.refl _ _⟩
  case round =>
    obtain ⟨i, hin, rfl, hnx⟩ := hrel
    by_cases hlt : i < n
    · obtain ⟨u1, h1, hI1⟩ := unhide HA i hlt
      obtain ⟨u2, h2, hI2⟩ := unhide HB i hlt
      obtain ⟨a1, m1, c1, rfl⟩ := hI1.shape
      obtain ⟨a2, m2, c2, rfl⟩ := hI2.shape
      have HSS : Hid (∀ W, Below w.heap.size w W → (W.cell? ⟨ga, oa + i, none⟩ = some (.slice a1 m1 c1) ∧ W.cell? ⟨gb, ob + i, none⟩ = some (.slice a2 m2 c2) ∧ (convert 28 9 (.slice a1 m1 c1)).run Tryd.prog W = .ok (.string (mkS (xss.getD i []))) W ∧ (convert 28 9 (.slice a2 m2 c2)).run Tryd.prog W = .ok (.string (mkS (xss.getD i []))) W)) := fun W hW =>
        ⟨(hW.cell (p := ⟨ga, oa + i, none⟩) (World.block_lt_of_cell? _ _ h1)).trans h1, (hW.cell (p := ⟨gb, ob + i, none⟩) (World.block_lt_of_cell? _ _ h2)).trans h2, conv_isB (hI1.below hW), conv_isB (hI2.below hW)⟩
      have HNX := hide hnx
      clear hI1 hI2 h1 h2 hnx
      generalize mkS (xss.getD i []) = st at *
      go_wp2_with fail
      focus (go_region_held3 (fun W => W.cell? ⟨ga, oa + i, none⟩ = some (.slice a1 m1 c1) ∧ W.cell? ⟨gb, ob + i, none⟩ = some (.slice a2 m2 c2) ∧ (convert 28 9 (.slice a1 m1 c1)).run Tryd.prog W = .ok (.string st) W ∧ (convert 28 9 (.slice a2 m2 c2)).run Tryd.prog W = .ok (.string st) W)
        ((exact unhide HSS _ (unhide HNX).drew)) (fail))
      go_wp2
      go_roundw
      case rel => exact ⟨i + 1, by omega, by go_num, HNX.out.drew⟩
      case measure => simp [intOf]; omega
    · go_wp2
      go_ret
      exact ⟨rfl, hnx⟩
theorem sameImg_calls {w : World} {va vb : Value} {xss : List (List Int)} (ha : IsBB w va xss) (hb : IsBB w vb xss) (hn : 0 < xss.length) :
    Calls Tryd.prog 24 #[va, vb] w fun e w' => e = .returned (.bool true) ∧ Below w.heap.size w w' := by
  obtain ⟨a1, c1, rfl, hl1, hm1, hc1⟩ := ha
  obtain ⟨a2, c2, rfl, _, _, hc2⟩ := hb
  obtain ⟨g1, o1, rfl, h1⟩ := hc1 hn
  obtain ⟨g2, o2, rfl, h2⟩ := hc2 hn
  exact sameImg_some h1 h2 hl1 hm1
theorem lastOf_take {l : Ats} {k : Nat} (hk : k < l.length) (i : Int) : lastOf (l.take (k + 1)) i = if i = (l.getD k dA).1 then (l.getD k dA).2 else lastOf (l.take k) i := by
  rw [List.take_succ_eq_append_getElem hk, lastOf_snoc, getD_eq hk]
/-- Slices of bytes of the document's, side by side. -/
structure Pile (w : World) (g n k : Nat) (f : Nat → List Int) : Prop where
  rd : ∃ us, Arr w g 28 us ∧ us.length = n ∧ ∀ j, j < k → Own8 w 0 (us.getD j undef) (f j)
theorem Pile.cell {w : World} {g n : Nat} {f : Nat → List Int} (h : Pile w g n n f) {j : Nat} (hj : j < n) : ∃ u, w.cell? ⟨g, j, none⟩ = some u ∧ Own8 w 0 u (f j) := by
  obtain ⟨us, h1, h2, h3⟩ := h.rd
  exact ⟨us.getD j undef, by rw [h1.cell, List.getD_eq_getElem?_getD, List.getElem?_eq_getElem (by omega)]; rfl, h3 j hj⟩
theorem Pile.below {w w' : World} {g n k : Nat} {f : Nat → List Int} (h : Pile w g n k f) (hb : Below w.heap.size w w') : Pile w' g n k f := by
  obtain ⟨us, h1, h2, h3⟩ := h.rd
  exact ⟨us, h1.below hb, h2, fun j hj => (h3 j hj).below hb⟩
theorem Pile.set {w : World} {g n k k1 k2 : Nat} {f : Nat → List Int} {u : Value} {s : List Int} (h : Pile w g n k1 f) (hk : k < n) (hu : Own8 w 0 u s) (h12 : ∀ j, j < k2 → j = k ∨ j < k1) : Pile (w.setCell ⟨g, k, none⟩ u) g n k2 (updF f k s) := by
  obtain ⟨us, h1, h2, h3⟩ := h.rd
  have hg := grown_cell w g k u
  refine ⟨us.set k u, h1.set k u, by rw [List.length_set]; exact h2, fun j hj => ?_⟩
  by_cases e : j = k
  · subst e
    rw [updF_same, List.getD_eq_getElem?_getD, List.getElem?_set_self (by omega)]
    exact hu.other hg h1 (by decide)
  · rw [updF_other _ _ e, List.getD_eq_getElem?_getD, List.getElem?_set_ne (by omega), ← List.getD_eq_getElem?_getD]
    exact (h3 j ((h12 j hj).resolve_left e)).other hg h1 (by decide)
theorem Pile.frozen {w : World} {g n k : Nat} {f : Nat → List Int} (h : Pile w g n k f) (j : Nat) : w.frozen? ⟨g, j, none⟩ = false := by
  obtain ⟨us, h1, _⟩ := h.rd
  exact h1.frozen j
theorem Pile.isBB {w : World} {g n : Nat} {f : Nat → List Int} (h : Pile w g n n f) (hn : n ≤ 65536) : IsBB w (.slice (some ⟨g, 0, none⟩) n n) ((List.range n).map f) := by
  have hl : ((List.range n).map f).length = n := by simp
  refine ⟨some ⟨g, 0, none⟩, n, by rw [hl], by omega, by omega, fun _ => ⟨g, 0, rfl, fun j hj => ?_⟩⟩
  rw [hl] at hj
  obtain ⟨u, h1, h2⟩ := h.cell hj
  refine ⟨u, by rw [Nat.zero_add]; exact h1, ?_⟩
  have e : ((List.range n).map f).getD j [] = f j := by rw [List.getD_eq_getElem?_getD, List.getElem?_map, List.getElem?_range hj]; rfl
  rw [e]
  exact Own8.isB h2
theorem Pile.some {w : World} {g n k : Nat} {f : Nat → List Int} (h : Pile w g n k f) {j : Nat} (hj : j < n) : ∃ u, w.cell? ⟨g, j, none⟩ = Option.some u := by
  obtain ⟨us, h1, h2, _⟩ := h.rd
  exact ⟨_, by rw [h1.cell, List.getElem?_eq_getElem (by omega)]⟩
theorem Pile.lt {w : World} {g n k : Nat} {f : Nat → List Int} (h : Pile w g n k f) : g < w.heap.size := by
  obtain ⟨us, h1, _⟩ := h.rd
  exact h1.lt
theorem Pile.ext {w : World} {g n k : Nat} {f f' : Nat → List Int} (h : Pile w g n k f) (he : ∀ j, j < k → f' j = f j) : Pile w g n k f' := by
  obtain ⟨us, h1, h2, h3⟩ := h.rd
  exact ⟨us, h1, h2, fun j hj => by rw [he j hj]; exact h3 j hj⟩
set_option maxRecDepth 100000 in
set_option maxHeartbeats 4000000 in
theorem rimage_calls {w : World} {va vb : Value} {n : Nat} {rd wt fl : Int} {l : Ats} (h : IsAts w va l) (hok : AtsOk n l) (hn : n ≤ 65536) :
    Calls Tryd.prog 26 #[.agg #[.int .i64 (n : Int), va, vb, .int .i64 rd, .int .i64 wt, .int .i64 fl]] w fun e w' => ∃ v, e = .returned v ∧ IsBB w' v ((List.range n).map fun i : Nat => lastOf l (i : Int)) ∧ Below w.heap.size w w' := by
  obtain ⟨a, c, rfl, hp⟩ := h.shape
  have hb1 := (Below.refl w.heap.size w).alloc (Nat.le_refl _) (.cells #[.int .i64 (n : Int), .slice a l.length c, vb, .int .i64 rd, .int .i64 wt, .int .i64 fl] 44)
  have hX0 := Arr.new w [.int .i64 (n : Int), .slice a l.length c, vb, .int .i64 rd, .int .i64 wt, .int .i64 fl] 44
  have HA := hide h
  have HZ : Hid (∀ W, Calls Tryd.prog 53 #[] W fun e w' => ∃ u, e = .returned u ∧ Own8 w' W.heap.size u zsec ∧ Below W.heap.size W w') := fun W => zeros_calls
  have HC : Hid (∀ (W : World) (v : Value) (xs : List Int), IsB W v xs → xs.length ≤ 140737488355328 → Calls Tryd.prog 42 #[v] W fun e w' => ∃ u, e = .returned u ∧ Own8 w' W.heap.size u xs ∧ Below W.heap.size W w') := fun W v xs h1 h2 => copy_calls h1 h2
  have HOK : Hid (∀ j, j < l.length → ∃ q : Nat, (l.getD j dA).1 = (q : Int) ∧ q < n ∧ IsSec (l.getD j dA).2) := fun j hj => by
    have := hok _ (List.getElem_mem hj)
    rw [getD_eq hj]
    exact ⟨l[j].1.toNat, by omega, by omega, this.2.2⟩
  have HLT : Hid (∀ k, k < l.length → ∀ i, lastOf (l.take (k + 1)) i = if i = (l.getD k dA).1 then (l.getD k dA).2 else lastOf (l.take k) i) := fun k hk i => lastOf_take hk i
  have hlen : l.length ≤ 9223372036854775807 := by
    by_cases h0 : 0 < l.length
    · obtain ⟨g, _, h1, h2⟩ := hp h0; omega
    · omega
  clear h hok
  generalize hm : l.length = m at *
  have HM := hide hm
  clear hm
  obtain ⟨i1, hi1, hy0, hy1, hy2⟩ := info_parts infoBy
  have hX0' : (w.alloc (.cells #[.int .i64 (n : Int), .slice a m c, vb, .int .i64 rd, .int .i64 wt, .int .i64 fl] 44)).heap[w.heap.size]? = some (.cells #[.int .i64 (n : Int), .slice a m c, vb, .int .i64 rd, .int .i64 wt, .int .i64 fl] 44 (0, 0)) := hX0
  have hs1 : (w.alloc (.cells #[.int .i64 (n : Int), .slice a m c, vb, .int .i64 rd, .int .i64 wt, .int .i64 fl] 44)).heap.size = w.heap.size + 1 := by simp
  go_enter Tryd.func26, Tryd.ntmps26
  go_wp2_with (at_make; refine wpList_make_full _ rfl _ _ 65 rfl (w.heap.size + 1) 28 i1 (.slice none 0 0) 1 Tryd.underlying65 hi1 hy0 hy1 _ _ _ _ n rfl rfl rfl rfl (by rw [hy2]; omega) (by unfold maxLen; omega) (by simp) ?_; intro w1 hr1 hg1)
  obtain ⟨hI1, _⟩ := arr_full hr1
  have hml : (madeCells (Value.slice none 0 0).cells (n * 1)).toList.length = n := by simp [madeCells]
  have hP1 : Pile w1 (w.heap.size + 1) n 0 (fun _ => zsec) := ⟨_, by rw [← hs1]; exact hI1, hml, fun j hj => by omega⟩
  have hbb : Below (w.alloc (.cells #[.int .i64 (n : Int), .slice a m c, vb, .int .i64 rd, .int .i64 wt, .int .i64 fl] 44)).heap.size (w.alloc (.cells #[.int .i64 (n : Int), .slice a m c, vb, .int .i64 rd, .int .i64 wt, .int .i64 fl] 44)) w1 := below_none hg1
  have hB1 : Below w.heap.size w w1 := hb1.trans (hbb.mono (by simp))
  have hX1 : Arr w1 w.heap.size 44 [.int .i64 (n : Int), .slice a m c, vb, .int .i64 rd, .int .i64 wt, .int .i64 fl] := Arr.below hX0 hbb
  clear hI1 hr1 hg1 hbb hml hX0 hX0' hb1 hs1 hy0
  go_loopw [4] (fun iv wr => ∃ k : Nat, k ≤ n ∧ iv = .int .i64 (k : Int) ∧ Pile wr (w.heap.size + 1) n k (fun _ => zsec) ∧ Arr wr w.heap.size 44 [.int .i64 (n : Int), .slice a m c, vb, .int .i64 rd, .int .i64 wt, .int .i64 fl] ∧ Below w.heap.size w wr) (fun iv _ => n - (intOf iv).toNat)
  case atStart => exact ⟨0, by omega, rfl, hP1, hX1, hB1⟩
  case round =>
    clear hP1 hX1 hB1
    obtain ⟨k, hk, rfl, hP, hX, hnx⟩ := hrel
    have hx0 := hX.cell_of (j := 0) rfl
    have hsz := hnx.size
    by_cases hlt : k < n
    · have HP := hide hP
      have HX := hide hX
      have HNX := hide hnx
      clear hP hX hnx
      go_wp2_with (go_at_call 53; refine (unhide HZ _).mono ?_; rintro e w2 ⟨u, rfl, hu, hb2⟩; have hP2 := HP.out.below hb2; obtain ⟨z, hz⟩ := hP2.some hlt; have hfz := hP2.frozen k; obtain ⟨ua, un, uc, rfl⟩ := (Own8.isB hu).shape)
      have hset := hP2.set (k2 := k + 1) hlt (hu.mono (Nat.zero_le _)) (fun j hj => by omega)
      have hX2 := (HX.out.below hb2).other ⟨w.heap.size + 1, k, none⟩ (.slice ua un uc) (by simp)
      have hbn : Below w.heap.size w (w2.setCell ⟨w.heap.size + 1, k, none⟩ (.slice ua un uc)) := (below_then HNX.out hb2).setCell (by simp) _
      go_roundw
      case rel => exact ⟨k + 1, by omega, by go_num, hset.ext (fun j _ => by unfold updF; split <;> rfl), hX2, hbn⟩
      case measure => simp [intOf]; omega
    · have hkn : k = n := by omega
      have hP0 : Pile wr (w.heap.size + 1) n n (fun j => lastOf (l.take 0) (j : Int)) := by rw [hkn] at hP; exact hP.ext (fun j _ => rfl)
      have HP := hide hP0
      have HX := hide hX
      have HNX := hide hnx
      clear hkn hP hX hnx hP0
      go_wp2
      go_loopw [5] (fun iv wq => ∃ k : Nat, k ≤ m ∧ iv = .int .i64 (k : Int) ∧ Pile wq (w.heap.size + 1) n n (fun j => lastOf (l.take k) (j : Int)) ∧ Arr wq w.heap.size 44 [.int .i64 (n : Int), .slice a m c, vb, .int .i64 rd, .int .i64 wt, .int .i64 fl] ∧ Below w.heap.size w wq) (fun iv _ => m - (intOf iv).toNat)
      case atStart => exact ⟨0, by omega, rfl, HP.out, HX.out, HNX.out⟩
      case round =>
        clear HP HX HNX hx0 hsz
        obtain ⟨k, hk, rfl, hP, hX, hnx⟩ := hrel
        have hx1 := hX.cell_of (j := 1) rfl
        have hsz := hnx.size
        by_cases hlt : k < m
        · obtain ⟨g, rfl, hle, hcm⟩ := hp (by omega)
          obtain ⟨u, hc1, hc2, hu⟩ := (HA.out.below hnx).elem (j := k) (by rw [HM.out]; exact hlt)
          obtain ⟨q, hq, hqn, hsec⟩ := unhide HOK k hlt
          have HLK := hide (unhide HLT k hlt)
          obtain ⟨ua, un, uc, rfl⟩ := (Own8.isB hu).shape
          have hglt : g < wr.heap.size := World.block_lt_of_cell? _ _ hc1
          have hxlt := hX.lt
          rw [hq] at hc1 HLK
          have HCU : Hid (∀ W, Below wr.heap.size wr W → Calls Tryd.prog 42 #[.slice ua un uc] W fun e w' => ∃ u, e = .returned u ∧ Own8 w' W.heap.size u (l.getD k dA).2 ∧ Below W.heap.size W w') := fun W hW => unhide HC _ _ _ ((Own8.isB hu).below hW) (by rw [hsec.1]; decide)
          have HS : Hid (∀ W : World, W.heap[w.heap.size]? = wr.heap[w.heap.size]? → W.heap[g]? = wr.heap[g]? → (W.cell? ⟨w.heap.size, 1, none⟩ = some (.slice (some ⟨g, 0, none⟩) m c) ∧ W.cell? ⟨g, k * 2, none⟩ = some (.int .i64 (q : Int)) ∧ W.cell? ⟨g, k * 2 + 1, none⟩ = some (.slice ua un uc))) := fun W h1 h2 =>
            ⟨(World.cell?_of_block (a := ⟨w.heap.size, 1, none⟩) h1).trans hx1, (World.cell?_of_block (a := ⟨g, k * 2, none⟩) h2).trans hc1, (World.cell?_of_block (a := ⟨g, k * 2 + 1, none⟩) h2).trans hc2⟩
          have hgne : g ≠ w.heap.size + 1 := fun e => by
            obtain ⟨us, h1, _⟩ := hP.rd
            obtain ⟨es, k1, _⟩ := (HA.out.below hnx).rd
            rcases k1.2 with ⟨hv, _⟩ | ⟨g', cap, cur, hv, _, hgg, _⟩
            · cases hv
            · injection hv with e1
              injection e1 with e1
              injection e1 with e1
              subst e1
              unfold Arr at h1
              rw [← e, hgg] at h1
              simp only [Option.some.injEq, Obj.cells.injEq] at h1
              exact absurd h1.2.1 (by decide)
          have HP := hide hP
          have HX := hide hX
          have HNX := hide hnx
          clear hP hX hnx hu hq hsec hc1 hc2
          generalize (l.getD k dA).2 = bs at *
          go_wp2_with fail
          focus (go_region_held3 (fun W => W.cell? ⟨w.heap.size, 1, none⟩ = some (.slice (some ⟨g, 0, none⟩) m c) ∧ W.cell? ⟨g, k * 2, none⟩ = some (.int .i64 (q : Int)) ∧ W.cell? ⟨g, k * 2 + 1, none⟩ = some (.slice ua un uc))
            ((first | exact unhide HS _ rfl rfl | exact unhide HS _ hs2 hs3 | exact unhide HS _ hs4 hs5))
            (first
              | (go_at_call 42; refine (unhide HCU _ (Below.refl _ _).drew).mono ?_; rintro e w2 ⟨u2, rfl, hu2, hb2'⟩; have hb2 := below_drew hb2'; have hs2 := hb2.block w.heap.size hxlt; have hs3 := hb2.block g hglt; have hP2 := HP.out.below hb2; obtain ⟨z, hz⟩ := hP2.some hqn; have hfz := hP2.frozen q; obtain ⟨va, vn, vc, rfl⟩ := (Own8.isB hu2).shape; have hs4 := (Below.heap_setCell w2 ⟨w.heap.size + 1, q, none⟩ (.slice va vn vc) w.heap.size (by simp)).trans hs2; have hs5 := (Below.heap_setCell w2 ⟨w.heap.size + 1, q, none⟩ (.slice va vn vc) g hgne).trans hs3)))
          have hset := hP2.set (k2 := n) hqn (hu2.mono (Nat.zero_le _)) (fun j hj => Or.inr hj)
          have hX2 := (HX.out.below hb2).other ⟨w.heap.size + 1, q, none⟩ (.slice va vn vc) (by simp)
          have hbn : Below w.heap.size w (w2.setCell ⟨w.heap.size + 1, q, none⟩ (.slice va vn vc)) := (below_then HNX.out hb2).setCell (by simp) _
          go_wp2
          go_roundw
          case rel => exact ⟨k + 1, by omega, by go_num, hset.ext (fun j _ => by
              rw [unhide HLK]
              by_cases e : j = q
              · subst e; rw [if_pos rfl, updF_same]
              · rw [if_neg (by omega), updF_other _ _ e]), hX2, hbn⟩
          case measure => simp [intOf]; omega
        · have hkm : k = m := by omega
          have HF : Hid (∀ j : Nat, lastOf (l.take k) (j : Int) = lastOf l (j : Int)) := fun j => by rw [List.take_of_length_le (by rw [HM.out]; omega)]
          clear hkm
          go_wp2
          go_ret
          exact ⟨_, rfl, (hP.ext (fun j _ => (unhide HF j).symm)).isBB hn, hnx⟩
end Go.Proofs.YtbgknbjpbobebaaDoor

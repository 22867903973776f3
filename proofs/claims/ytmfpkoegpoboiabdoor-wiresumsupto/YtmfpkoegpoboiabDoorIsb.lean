/- The writers' answers as slices that read lists; same of like and of unlike bytes. -/
import Derived.Test.YtmfpkoegpoboiabDoorStart
import Derived.Test.YtmfpkoegpoboiabDoorBytes
import Derived.Test.YtmfpkoegpoboiabDoorCodes
namespace Go.Proofs.YtmfpkoegpoboiabDoor
open Go.RowKit

theorem uint_isB {V : Int} (w : World) (h0 : 0 ≤ V) (h1 : V < 2 * 128 ^ 9) : Calls Tryd.prog 30 #[.int .u64 V] w fun e w' => ∃ v, e = .returned v ∧ IsB w' v (uBytes V) ∧ Below w.heap.size w w' := by
  refine (uint_calls V w h0 h1).mono ?_
  rintro e w' ⟨v, rfl, hown, hb⟩
  exact ⟨v, rfl, isB_owns hown (uBytes_bytes h0 h1), hb⟩
theorem bytes_isB {w : World} {v : Value} {xs : List Int} (h : IsB w v xs) (hl : xs.length ≤ 140737488351232) :
    Calls Tryd.prog 32 #[v] w fun e w' => ∃ v, e = .returned v ∧ IsB w' v (bB xs) ∧ Below w.heap.size w w' := by
  refine (bytes_calls h hl).mono ?_
  rintro e w' ⟨v, rfl, hown, hb⟩
  exact ⟨v, rfl, isB_owns hown (bB_bytes (by omega) h.mem), hb⟩
theorem same_no {w : World} {va vb : Value} {xs ys : List Int} (ha : IsB w va xs) (hb : IsB w vb ys) (h : xs ≠ ys) :
    Calls Tryd.prog 23 #[va, vb] w fun e w' => e = .returned (.bool false) ∧ w' = w := by
  have := same_calls ha hb
  rwa [decide_eq_false h] at this
/-- The first bytes of a slice. -/
theorem IsB.first {w : World} {b off n cap k : Nat} {ys : List Int} (h : IsB w (.slice (some ⟨b, off, none⟩) n cap) ys) (hk : k ≤ n) (hn : 0 < n) : IsB w (.slice (some ⟨b, off, none⟩) k cap) (ys.take k) := by
  obtain ⟨hb, a, cp, hv, hl, hm, hz, hc⟩ := h
  injection hv with e1 e2 e3
  subst e1 e2 e3
  obtain ⟨b', off', ha, hcell⟩ := hc hn
  injection ha with ha
  injection ha with hb1 ho1
  subst hb1 ho1
  have hlen : (ys.take k).length = k := by simp; omega
  refine ⟨fun j => ?_, some ⟨b, off, none⟩, cap, by rw [hlen], by omega, hm, (fun h => by cases h), fun _ => ⟨b, off, rfl, fun j hj => ?_⟩⟩
  · by_cases hj : j < k
    · rw [List.getElem?_take_of_lt hj]; exact hb j
    · rw [List.getElem?_eq_none (by omega)]; simp
  · rw [hcell j (by omega), List.getD_eq_getElem?_getD, List.getD_eq_getElem?_getD, List.getElem?_take_of_lt (by omega)]

/-- The same answers, with the slice's shape in sight. -/
theorem IsB.shape {w : World} {v : Value} {xs : List Int} (h : IsB w v xs) : ∃ a n c, v = .slice a n c := by
  obtain ⟨_, a, cap, rfl, _⟩ := h
  exact ⟨a, _, cap, rfl⟩
theorem IsB.lenEq {w : World} {a : Option Addr} {n c : Nat} {xs : List Int} (h : IsB w (.slice a n c) xs) : n = xs.length := by
  obtain ⟨_, a', cap, hv, _⟩ := h
  injection hv
theorem uint_sl {V : Int} (w : World) (h0 : 0 ≤ V) (h1 : V < 2 * 128 ^ 9) : Calls Tryd.prog 30 #[.int .u64 V] w fun e w' => ∃ a n c, e = .returned (.slice a n c) ∧ IsB w' (.slice a n c) (uBytes V) ∧ Below w.heap.size w w' := by
  refine (uint_isB w h0 h1).mono ?_
  rintro e w' ⟨v, rfl, hi, hb⟩
  obtain ⟨a, n, c, rfl⟩ := hi.shape
  exact ⟨a, n, c, rfl, hi, hb⟩
theorem bytes_sl {w : World} {v : Value} {xs : List Int} (h : IsB w v xs) (hl : xs.length ≤ 140737488351232) :
    Calls Tryd.prog 32 #[v] w fun e w' => ∃ a n c, e = .returned (.slice a n c) ∧ IsB w' (.slice a n c) (bB xs) ∧ Below w.heap.size w w' := by
  refine (bytes_isB h hl).mono ?_
  rintro e w' ⟨v, rfl, hi, hb⟩
  obtain ⟨a, n, c, rfl⟩ := hi.shape
  exact ⟨a, n, c, rfl, hi, hb⟩
theorem fixed_sl {V : Int} {n : Nat} (w : World) (h0 : 0 ≤ V) (h1 : 1 ≤ n) (h2 : n ≤ 8) (hv : (V / 2 ^ (8 * n) != 0) = false) :
    Calls Tryd.prog 31 #[.int .u64 V, .int .i64 n] w fun e w' => ∃ a m c, e = .returned (.tuple #[.slice a m c, .int .i64 0]) ∧ IsB w' (.slice a m c) (fB V n) ∧ Below w.heap.size w w' := by
  refine (fixed_in V n w h0 h1 h2 hv).mono ?_
  rintro e w' ⟨v, rfl, hown, hb⟩
  have hi := isB_owns hown (fB_bytes V n)
  obtain ⟨a, m, c, rfl⟩ := hi.shape
  exact ⟨a, m, c, rfl, hi, hb⟩
theorem fixed_slI {V N : Int} (n : Nat) (hN : N = (n : Int)) (w : World) (h0 : 0 ≤ V) (h1 : 1 ≤ n) (h2 : n ≤ 8) (hv : (V / 2 ^ (8 * n) != 0) = false) :
    Calls Tryd.prog 31 #[.int .u64 V, .int .i64 N] w fun e w' => ∃ a m c, e = .returned (.tuple #[.slice a m c, .int .i64 0]) ∧ IsB w' (.slice a m c) (fB V n) ∧ Below w.heap.size w w' := by
  subst hN
  exact fixed_sl w h0 h1 h2 hv

/-- A slice of bytes of the call's own. -/
def Own8 (w : World) (B : Nat) (v : Value) (xs : List Int) : Prop := w.ownsRow B 5 1 v xs.length (xs.map (Value.int .u8)) ∧ ∀ x ∈ xs, 0 ≤ x ∧ x ≤ 255
theorem Own8.isB {w : World} {B : Nat} {v : Value} {xs : List Int} (h : Own8 w B v xs) : IsB w v xs := isB_owns h.1 h.2
theorem owns_below {w w' : World} {base : Nat} {t : TypeId} {size : Nat} {v : Value} {n : Nat} {cs : List Value} (h : w.ownsRow base t size v n cs) (hb : Below w.heap.size w w') : w'.ownsRow base t size v n cs :=
  h.kept (row := none) (show w.grownBy w' none from ⟨hb.os, hb.tape, hb.output, hb.size, fun k hk _ => hb.block k hk⟩) (by cases v.ownBlock <;> simp)
theorem owns_mono {w : World} {base base' : Nat} {t : TypeId} {size : Nat} {v : Value} {n : Nat} {cs : List Value} (h : w.ownsRow base t size v n cs) (hb : base' ≤ base) : w.ownsRow base' t size v n cs := by
  obtain ⟨h1, h2⟩ := h
  refine ⟨h1, ?_⟩
  rcases h2 with h2 | ⟨g, cap, cur, hv, hg, rest⟩
  · exact Or.inl h2
  · exact Or.inr ⟨g, cap, cur, hv, by omega, rest⟩
/-- Rows of unlike element types are unlike rows. -/
theorem owns_apart {w : World} {b1 b2 : Nat} {t1 t2 : TypeId} {s1 s2 : Nat} {v1 v2 : Value} {n1 n2 : Nat} {c1 c2 : List Value} (h1 : w.ownsRow b1 t1 s1 v1 n1 c1) (h2 : w.ownsRow b2 t2 s2 v2 n2 c2) (ht : t1 ≠ t2) :
    v1.ownBlock = none ∨ v1.ownBlock ≠ v2.ownBlock := by
  rcases h1.2 with ⟨rfl, _⟩ | ⟨g, cap, cur, rfl, _, hg, _⟩
  · exact Or.inl rfl
  · rcases h2.2 with ⟨rfl, _⟩ | ⟨g', cap', cur', rfl, _, hg', _⟩
    · exact Or.inr (by simp [Value.ownBlock])
    · refine Or.inr fun e => ht ?_
      simp only [Value.ownBlock, Option.some.injEq] at e
      subst e
      rw [hg] at hg'
      simp only [Option.some.injEq, Obj.cells.injEq] at hg'
      exact hg'.2.1
theorem Own8.below {w w' : World} {B : Nat} {v : Value} {xs : List Int} (h : Own8 w B v xs) (hb : Below w.heap.size w w') : Own8 w' B v xs := ⟨owns_below h.1 hb, h.2⟩
theorem Own8.mono {w : World} {B B' : Nat} {v : Value} {xs : List Int} (h : Own8 w B v xs) (hb : B' ≤ B) : Own8 w B' v xs := ⟨owns_mono h.1 hb, h.2⟩
theorem uint_own {V : Int} (w : World) (h0 : 0 ≤ V) (h1 : V < 2 * 128 ^ 9) : Calls Tryd.prog 30 #[.int .u64 V] w fun e w' => ∃ a n c, e = .returned (.slice a n c) ∧ Own8 w' w.heap.size (.slice a n c) (uBytes V) ∧ Below w.heap.size w w' := by
  refine (uint_calls V w h0 h1).mono ?_
  rintro e w' ⟨v, rfl, hown, hb⟩
  have hi := isB_owns hown (uBytes_bytes h0 h1)
  obtain ⟨a, n, c, rfl⟩ := hi.shape
  exact ⟨a, n, c, rfl, ⟨hown, uBytes_bytes h0 h1⟩, hb⟩
theorem bytes_own {w : World} {v : Value} {xs : List Int} (h : IsB w v xs) (hl : xs.length ≤ 140737488351232) :
    Calls Tryd.prog 32 #[v] w fun e w' => ∃ a n c, e = .returned (.slice a n c) ∧ Own8 w' w.heap.size (.slice a n c) (bB xs) ∧ Below w.heap.size w w' := by
  refine (bytes_calls h hl).mono ?_
  rintro e w' ⟨v, rfl, hown, hb⟩
  have hbb := bB_bytes (xs := xs) (by omega) h.mem
  have hi := isB_owns hown hbb
  obtain ⟨a, n, c, rfl⟩ := hi.shape
  exact ⟨a, n, c, rfl, ⟨hown, hbb⟩, hb⟩
theorem fixed_own {V N : Int} (n : Nat) (hN : N = (n : Int)) (w : World) (h0 : 0 ≤ V) (h1 : 1 ≤ n) (h2 : n ≤ 8) (hv : (V / 2 ^ (8 * n) != 0) = false) :
    Calls Tryd.prog 31 #[.int .u64 V, .int .i64 N] w fun e w' => ∃ a m c, e = .returned (.tuple #[.slice a m c, .int .i64 0]) ∧ Own8 w' w.heap.size (.slice a m c) (fB V n) ∧ Below w.heap.size w w' := by
  subst hN
  refine (fixed_in V n w h0 h1 h2 hv).mono ?_
  rintro e w' ⟨v, rfl, hown, hb⟩
  have hi := isB_owns hown (fB_bytes V n)
  obtain ⟨a, m, c, rfl⟩ := hi.shape
  exact ⟨a, m, c, rfl, ⟨by rw [fB_len]; exact hown, fB_bytes V n⟩, hb⟩

/-- A new slice that is not empty lies at the head of its block. -/
theorem Own8.head {w : World} {B : Nat} {v : Value} {xs : List Int} (h : Own8 w B v xs) (hp : 0 < xs.length) : ∃ g c, v = .slice (some ⟨g, 0, none⟩) xs.length c ∧ B ≤ g ∧ ∀ j u, (xs.map (Value.int .u8))[j]? = some u → w.cell? ((⟨g, 0, none⟩ : Addr).add j) = some u := by
  rcases h.1.2 with ⟨rfl, h0⟩ | ⟨g, cap, cur, rfl, hb, _⟩
  · omega
  · exact ⟨g, cap, rfl, hb, fun j u hu => h.1.cells rfl j u hu⟩
theorem uint_head {V : Int} (w : World) (h0 : 0 ≤ V) (h1 : V < 2 * 128 ^ 9) : Calls Tryd.prog 30 #[.int .u64 V] w fun e w' => ∃ g n c, e = .returned (.slice (some ⟨g, 0, none⟩) n c) ∧ n = (uBytes V).length ∧ Own8 w' w.heap.size (.slice (some ⟨g, 0, none⟩) n c) (uBytes V) ∧
    (∀ j u, ((uBytes V).map (Value.int .u8))[j]? = some u → w'.cell? ((⟨g, 0, none⟩ : Addr).add j) = some u) ∧ Below w.heap.size w w' := by
  refine (uint_own w h0 h1).mono ?_
  rintro e w' ⟨a, n, c, rfl, ho, hb⟩
  obtain ⟨g, cp, hv, _, hc⟩ := ho.head (uBytes_pos V)
  injection hv with e1 e2 e3
  subst e1 e2 e3
  exact ⟨g, _, c, rfl, rfl, ho, hc, hb⟩
theorem bytes_head {w : World} {v : Value} {xs : List Int} (h : IsB w v xs) (hl : xs.length ≤ 140737488351232) :
    Calls Tryd.prog 32 #[v] w fun e w' => ∃ g n c, e = .returned (.slice (some ⟨g, 0, none⟩) n c) ∧ n = (bB xs).length ∧ Own8 w' w.heap.size (.slice (some ⟨g, 0, none⟩) n c) (bB xs) ∧
    (∀ j u, ((bB xs).map (Value.int .u8))[j]? = some u → w'.cell? ((⟨g, 0, none⟩ : Addr).add j) = some u) ∧ Below w.heap.size w w' := by
  refine (bytes_own h hl).mono ?_
  rintro e w' ⟨a, n, c, rfl, ho, hb⟩
  obtain ⟨g, cp, hv, _, hc⟩ := ho.head (bB_pos xs)
  clear hl
  injection hv with e1 e2 e3
  subst e1
  exact ⟨g, n, c, rfl, e2, ho, hc, hb⟩
theorem owns_shape {w : World} {B : Nat} {t : TypeId} {s : Nat} {v : Value} {n : Nat} {cs : List Value} (h : w.ownsRow B t s v n cs) (hn : 0 < n) : ∃ g cap, v = .slice (some ⟨g, 0, none⟩) n cap ∧ n ≤ cap ∧ cap ≤ 9223372036854775807 ∧ B ≤ g ∧ ∀ j, j < n * s → w.cell? ⟨g, j, none⟩ = cs[j]? := by
  have h' := h
  rcases h.2 with ⟨rfl, h0⟩ | ⟨g, cap, cur, rfl, hb, hg, hc, hm, _⟩
  · omega
  · exact ⟨g, cap, rfl, hc, by simpa [maxLen] using hm, hb, fun j hj => h'.cellAt j hj⟩
/-- Bytes in the midst of a slice. -/
theorem IsB.mid {w : World} {b off n cap l h : Nat} {ys : List Int} (hi : IsB w (.slice (some ⟨b, off, none⟩) n cap) ys) (hlh : l ≤ h) (hn : h ≤ n) (h0 : 0 < n) : IsB w (.slice (some ⟨b, off + l, none⟩) (h - l) (cap - l)) ((ys.drop l).take (h - l)) := by
  obtain ⟨hb, a, cp, hv, hl, hm, hz, hc⟩ := hi
  injection hv with e1 e2 e3
  subst e1 e2 e3
  obtain ⟨b', off', ha, hcell⟩ := hc h0
  injection ha with ha
  injection ha with hb1 ho1
  subst hb1 ho1
  have hlen : ((ys.drop l).take (h - l)).length = h - l := by simp; omega
  have hg : ∀ j, j < h - l → ((ys.drop l).take (h - l))[j]? = ys[l + j]? := fun j hj => by rw [List.getElem?_take_of_lt hj, List.getElem?_drop]
  refine ⟨fun j => ?_, some ⟨b, off + l, none⟩, cap - l, by rw [hlen], by omega, by omega, (fun h => by cases h), fun _ => ⟨b, off + l, rfl, fun j hj => ?_⟩⟩
  · by_cases hj : j < h - l
    · rw [hg j hj]; exact hb (l + j)
    · rw [List.getElem?_eq_none (by omega)]; simp
  · rw [Nat.add_assoc, hcell (l + j) (by omega), List.getD_eq_getElem?_getD, List.getD_eq_getElem?_getD, hg j (by omega)]
theorem below_drew {w w' : World} (h : Below w.drew.heap.size w.drew w') : Below w.heap.size w w' := ⟨h.os, h.tape, h.output, h.size, h.block⟩
end Go.Proofs.YtmfpkoegpoboiabDoor

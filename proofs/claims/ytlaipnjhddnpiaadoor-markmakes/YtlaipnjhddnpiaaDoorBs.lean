/- What it means that a value is a slice of bytes that reads a list; what is handed on; a slice's bytes as a string. -/
import Derived.Test.YtlaipnjhddnpiaaDoorProg
import Derived.Test.YtlaipnjhddnpiaaDoorPlain
import Derived.WalkKit
import Derived.WalkSpells
namespace Go.Proofs.YtlaipnjhddnpiaaDoor
open Go.RowKit

/-- The value is a slice of bytes; in this world it reads the list. -/
structure IsB (w : World) (v : Value) (xs : List Int) : Prop where
  bytes : ∀ j : Nat, 0 ≤ xs[j]?.getD 0 ∧ xs[j]?.getD 0 ≤ 255
  val : ∃ a cap, v = .slice a xs.length cap ∧ xs.length ≤ cap ∧ cap ≤ 9223372036854775807 ∧ (a = none → cap = 0) ∧
    (0 < xs.length → ∃ b off, a = some ⟨b, off, none⟩ ∧ ∀ j, j < xs.length → w.cell? ⟨b, off + j, none⟩ = some (.int .u8 (xs.getD j 0)))

theorem IsB.below {w w' : World} {v : Value} {xs : List Int} (h : IsB w v xs) (hb : Below w.heap.size w w') : IsB w' v xs := by
  obtain ⟨h1, a, cap, hv, hl, hm, hz, hc⟩ := h
  refine ⟨h1, a, cap, hv, hl, hm, hz, fun hp => ?_⟩
  obtain ⟨b, off, ha, hcell⟩ := hc hp
  exact ⟨b, off, ha, fun j hj => (hb.cell (p := ⟨b, off + j, none⟩) (World.block_lt_of_cell? w _ (hcell j hj))).trans (hcell j hj)⟩

theorem bytes_mem {xs : List Int} (h : ∀ x ∈ xs, 0 ≤ x ∧ x ≤ 255) : ∀ j : Nat, 0 ≤ xs[j]?.getD 0 ∧ xs[j]?.getD 0 ≤ 255 := by
  intro j
  by_cases hj : j < xs.length
  · simp only [List.getElem?_eq_getElem hj, Option.getD_some]
    exact h _ (List.getElem_mem hj)
  · rw [List.getElem?_eq_none (by omega)]
    simp
theorem IsB.mem {w : World} {v : Value} {xs : List Int} (h : IsB w v xs) : ∀ x ∈ xs, 0 ≤ x ∧ x ≤ 255 := by
  intro x hx
  obtain ⟨j, hj, rfl⟩ := List.getElem_of_mem hx
  have := h.bytes j
  simpa [List.getElem?_eq_getElem hj] using this
theorem IsB.len {w : World} {v : Value} {xs : List Int} (h : IsB w v xs) : xs.length ≤ 9223372036854775807 := by
  obtain ⟨_, a, cap, hv, hl, hm, _, hc⟩ := h
  omega

theorem isB_owns {w : World} {base : Nat} {v : Value} {n : Nat} {xs : List Int} (h : w.ownsRow base 5 1 v n (xs.map (Value.int .u8))) (hb : ∀ x ∈ xs, 0 ≤ x ∧ x ≤ 255) : IsB w v xs := by
  obtain ⟨hn, h⟩ := h
  have hn' : n = xs.length := by simp at hn; exact hn.symm
  subst hn'
  refine ⟨bytes_mem hb, ?_⟩
  rcases h with ⟨rfl, h0⟩ | ⟨g, cap, cur, rfl, _, hg, hle, hm, hs, ht⟩
  · exact ⟨none, 0, by rw [h0], by omega, by omega, fun _ => rfl, fun hp => by omega⟩
  · refine ⟨_, cap, rfl, hle, by simpa [maxLen] using hm, (fun h => by cases h), fun _ => ⟨g, 0, rfl, fun j hj => ?_⟩⟩
    rw [cell_of_row w g (0 + j) cur 5 (0, 0) hg]
    have h2 : (cur.toList.take (xs.length * 1))[j]? = (xs.map (Value.int .u8))[j]? := by rw [ht]
    rw [List.getElem?_take_of_lt (by omega)] at h2
    simp only [Nat.zero_add]
    rw [Array.getElem?_toList] at h2
    rw [h2]
    simp [hj]

/-- A list of bytes as a string's. -/
def mkS (xs : List Int) : ByteArray := xs.foldl (fun r n => r.push (UInt8.ofNat n.toNat)) ByteArray.empty
theorem mkS_list (xs : List Int) (r : ByteArray) : (xs.foldl (fun r n => r.push (UInt8.ofNat n.toNat)) r).data.toList = r.data.toList ++ xs.map (fun n => UInt8.ofNat n.toNat) := by
  induction xs generalizing r with
  | nil => simp
  | cons x t ih => rw [List.foldl_cons, ih]; simp [ByteArray.push]
theorem mkS_inj {xs ys : List Int} (hx : ∀ x ∈ xs, 0 ≤ x ∧ x ≤ 255) (hy : ∀ x ∈ ys, 0 ≤ x ∧ x ≤ 255) (h : mkS xs = mkS ys) : xs = ys := by
  have h2 : xs.map (fun n => UInt8.ofNat n.toNat) = ys.map (fun n => UInt8.ofNat n.toNat) := by
    have a := mkS_list xs ByteArray.empty
    have b := mkS_list ys ByteArray.empty
    unfold mkS at h
    rw [h, b] at a
    simpa using a.symm
  clear h
  induction xs generalizing ys with
  | nil => cases ys with
    | nil => rfl
    | cons y t => simp at h2
  | cons x s ih => cases ys with
    | nil => simp at h2
    | cons y t =>
      simp only [List.map_cons, List.cons.injEq] at h2
      have e : x = y := by
        have hx0 := hx x (by simp)
        have hy0 := hy y (by simp)
        have e1 := congrArg UInt8.toNat h2.1
        simp only [UInt8.toNat_ofNat'] at e1
        omega
      rw [e, ih (fun z hz => hx z (by simp [hz])) (fun z hz => hy z (by simp [hz])) h2.2]

theorem conv_isB {w : World} {v : Value} {xs : List Int} (h : IsB w v xs) : (convert 33 9 v).run Tryd.prog w = .ok (.string (mkS xs)) w := by
  obtain ⟨_, a, cap, rfl, hl, hm, _, hc⟩ := h
  rw [run_convert_bytes_string w 33 9 5 a _ cap Tryd.underlying33 Tryd.underlying5 Tryd.underlying9]
  by_cases hp : 0 < xs.length
  · obtain ⟨b, off, rfl, hcell⟩ := hc hp
    rw [run_bytesToString w ⟨b, off, none⟩ xs.length cap xs]
    · rfl
    · have := run_loadCells_list (P := Tryd.prog) (w := w) ⟨b, off, none⟩ (xs.map (Value.int .u8)) (fun j v hj => by
        simp only [List.getElem?_map, Option.map_eq_some_iff] at hj
        obtain ⟨x, hx, rfl⟩ := hj
        have hjl := (List.getElem?_eq_some_iff.1 hx).1
        rw [Addr.add_lit, hcell j hjl, List.getD_eq_getElem?_getD, hx]
        rfl)
      simpa using this
  · have h0 : xs = [] := List.eq_nil_of_length_eq_zero (by omega)
    subst h0
    cases a with
    | none => simp [Conv.bytesToString, mkS]
    | some ad =>
      rw [run_bytesToString w ad _ cap []]
      · rfl
      · have := run_loadCells_list (P := Tryd.prog) (w := w) ad [] (fun j v hj => by simp at hj)
        simpa using this

/-- The cells of a slice that lies somewhere. -/
theorem IsB.cells {w : World} {ad : Addr} {cap : Nat} {xs : List Int} (h : IsB w (.slice (some ad) xs.length cap) xs) : ∀ j u, (xs.map (Value.int .u8))[j]? = some u → w.cell? (ad.add j) = some u := by
  intro j u hu
  simp only [List.getElem?_map, Option.map_eq_some_iff] at hu
  obtain ⟨x, hx, rfl⟩ := hu
  have hjl := (List.getElem?_eq_some_iff.1 hx).1
  obtain ⟨_, a, cp, hv, _, _, _, hc⟩ := h
  obtain ⟨b, off, ha, hcell⟩ := hc (by omega)
  injection hv with e1 _ _
  rw [ha] at e1
  injection e1 with e1
  rw [e1, Addr.add_lit, hcell j hjl, List.getD_eq_getElem?_getD, hx]
  rfl
end Go.Proofs.YtlaipnjhddnpiaaDoor

/- The document's Text. -/
import Derived.Test.YtmogbkgchhplkabDoorPaL4
namespace Go.Proofs.YtmogbkgchhplkabDoor
open Go.RowKit

def emp : ByteArray := ⟨#[]⟩
/-- What Text tells, and whether there is one. -/
def textS (l : List ByteArray) : ByteArray := if textB l = true then joinS l else emp
theorem mem_getD {l : List ByteArray} {i : Nat} (h : i < l.length) : l.getD i default ∈ l := by
  rw [List.getD_eq_getElem?_getD, List.getElem?_eq_getElem h]
  exact List.getElem_mem h
theorem textB_bad {l : List ByteArray} {x : ByteArray} (h : x ∈ l) (hx : nameB x = false) : textB l = false := by
  unfold textB
  cases hc : l.all nameB with
  | false => rw [Bool.and_false]
  | true =>
    have := List.all_eq_true.1 hc x h
    rw [hx] at this
    cases this
theorem textB_num {l : List ByteArray} (h : ¬ (1 ≤ l.length ∧ l.length ≤ 16)) : textB l = false := by
  unfold textB
  rw [decide_eq_false (fun e => h ⟨e.1, e.2.1⟩), Bool.false_and]
theorem textB_all {l : List ByteArray} (h : 1 ≤ l.length ∧ l.length ≤ 16) (ha : ∀ k, k < l.length → nameB (l.getD k default) = true) : textB l = decide ((joinS l).size ≤ 255) := by
  unfold textB
  have : l.all nameB = true := List.all_eq_true.2 fun x hx => by
    obtain ⟨j, hj, rfl⟩ := List.mem_iff_getElem.1 hx
    have := ha j hj
    rwa [List.getD_eq_getElem?_getD, List.getElem?_eq_getElem hj] at this
  rw [this, Bool.and_true]
  exact decide_eq_decide.2 ⟨fun e => e.2.2, fun e => ⟨h.1, h.2, e⟩⟩
set_option maxRecDepth 100000 in
set_option maxHeartbeats 4000000 in
theorem rtext_calls {v : Value} {l : List ByteArray} {w : World} (hv : IsS w v l) (hm : ∀ x ∈ l, x.size ≤ 2000) (hl1 : l.length ≤ 1000000) : Calls Tryd.prog 15 #[v] w fun e w' => e = .returned (.tuple #[.string (textS l), .bool (textB l)]) ∧ Below w.heap.size w w' := by
  obtain ⟨aa, ca, rfl, hla, hma, _, hca⟩ := hv
  have HC := hide hca
  clear hca
  have HN : Hid (∀ x : ByteArray, x ∈ l → ∀ W, Calls Tryd.prog 29 #[.string x] W fun e w' => e = .returned (.bool (nameB x)) ∧ w' = W) := fun x hx W => rname_calls x (by have := hm x hx; omega) (nameB x) (name_iff x) W
  have HM := hide hm
  clear hm
  have HT : Hid (textS l = if textB l = true then joinS l else emp) := rfl
  generalize textS l = ts at *
  obtain ⟨n, hn⟩ : ∃ n, n = l.length := ⟨_, rfl⟩
  rw [← hn] at hla hl1 ⊢
  have HE := hide hn
  clear hn
  by_cases hnum : 1 ≤ n ∧ n ≤ 16
  · obtain ⟨hn1, hn2⟩ := hnum
    have i1 : (1 : Int) ≤ (n : Int) := by omega
    have i2 : (n : Int) ≤ 16 := by omega
    obtain ⟨b, o, rfl, hcell⟩ := unhide HC (by rw [← HE.out]; omega)
    have HCL := hide hcell
    clear hcell HC
    go_enter Tryd.func15, Tryd.ntmps15
    go_wp2_with fail
    go_loopw [4, 5] (fun sv iv wr => ∃ (i : Nat), i ≤ n ∧ sv = .string (joinS (l.take i)) ∧ iv = .int .i64 (i : Int) ∧ Hid (∀ k, k < i → nameB (l.getD k default) = true) ∧ Below w.heap.size w wr) (fun _ i _ => n - (intOf i).toNat)
    case atStart => exact ⟨0, by omega, rfl, rfl, fun k hk => absurd hk (by omega), Below.refl _ _⟩
    case round =>
      obtain ⟨i, hin, rfl, rfl, HA, hb⟩ := hrel
      by_cases hlt : i < n
      · have hil : i < l.length := by rw [← HE.out]; exact hlt
        have hx0 := unhide HCL i hil
        have hx := (hb.cell (p := ⟨b, o + i, none⟩) (World.block_lt_of_cell? w _ hx0)).trans hx0
        have hmem := mem_getD hil
        have HX := hide (unhide HN (l.getD i default) hmem)
        have hsz := unhide HM (l.getD i default) hmem
        have hiI : (i : Int) < (n : Int) := by omega
        have hjl : (joinS (l.take i)).size ≤ 100000 := by
          have h1 := join_len (l := l.take i) (M := 2000) (fun p hp => unhide HM p (List.mem_of_mem_take hp))
          have h2 : (l.take i).length ≤ 16 := by simp; omega
          have h3 : (l.take i).length * (2000 + 1) ≤ 16 * (2000 + 1) := Nat.mul_le_mul_right _ h2
          omega
        cases hnm : nameB (l.getD i default) with
        | false =>
          have HB := hide (textB_bad hmem hnm)
          have HV : Hid (ts = emp) := by show _ = _; rw [HT.out, HB.out, if_neg (by decide)]
          rw [hnm] at HX
          generalize l.getD i default = x at *
          generalize joinS (l.take i) = js at *
          clear hx0 hmem hnm hil
          go_wp2_with fail
          refine (unhide HX _).mono ?_
          rintro e w1 ⟨rfl, hw1⟩
          obtain rfl := hw1.symm
          clear hw1
          go_wp2
          go_ret2
          exact ⟨by rw [HV.out, HB.out]; rfl, hb⟩
        | true =>
          have HA2 : Hid (∀ k, k < i + 1 → nameB (l.getD k default) = true) := fun k hk => by
            by_cases e : k = i
            · subst e; exact hnm
            · exact unhide HA k (by omega)
          rw [hnm] at HX
          by_cases hi0 : i = 0
          · have HJ : Hid (joinS (l.take (i + 1)) = joinS (l.take i) ++ l.getD i default) := by
              show _ = _
              subst hi0
              exact join_first hil
            have hip : ¬ (0 : Int) < (i : Int) := by omega
            generalize l.getD i default = x at *
            generalize joinS (l.take i) = js at *
            clear hx0 hmem hnm hil hi0
            go_wp2_with fail
            refine (unhide HX _).mono ?_
            rintro e w1 ⟨rfl, hw1⟩
            obtain rfl := hw1.symm
            clear hw1
            go_wp2
            exact ⟨⟨i + 1, by omega, by rw [HJ.out], by go_num, HA2, hb⟩, by simp [intOf]; omega⟩
          · have HJ : Hid (joinS (l.take (i + 1)) = (joinS (l.take i) ++ ⟨#[47]⟩) ++ l.getD i default) := join_more (by omega) hil
            have hip : (0 : Int) < (i : Int) := by omega
            generalize l.getD i default = x at *
            generalize joinS (l.take i) = js at *
            clear hx0 hmem hnm hil hi0
            go_wp2_with fail
            refine (unhide HX _).mono ?_
            rintro e w1 ⟨rfl, hw1⟩
            obtain rfl := hw1.symm
            clear hw1
            go_wp2
            exact ⟨⟨i + 1, by omega, by rw [HJ.out], by go_num, HA2, hb⟩, by simp [intOf]; omega⟩
      · have hie : i = n := by omega
        subst hie
        have HL : Hid (l.take i = l) := by
          show _ = _
          rw [HE.out, List.take_length]
        rw [HL.out]
        have HB : Hid (textB l = decide ((joinS l).size ≤ 255)) := textB_all (by rw [← HE.out]; exact ⟨hn1, hn2⟩) fun k hk => unhide HA k (by rw [HE.out]; exact hk)
        by_cases hbig : (joinS l).size ≤ 255
        · have HB2 : Hid (textB l = true) := by show _ = _; rw [HB.out, decide_eq_true hbig]
          have HV : Hid (ts = joinS l) := by show _ = _; rw [HT.out, HB2.out, if_pos rfl]
          have hbI : ((joinS l).size : Int) ≤ 255 := by omega
          generalize joinS l = js at *
          clear HB HL
          go_wp2
          go_ret2
          exact ⟨by rw [HV.out, HB2.out]; rfl, hb⟩
        · have HB2 : Hid (textB l = false) := by show _ = _; rw [HB.out, decide_eq_false hbig]
          have HV : Hid (ts = emp) := by show _ = _; rw [HT.out, HB2.out, if_neg (by decide)]
          have hbI : (255 : Int) < ((joinS l).size : Int) := by omega
          generalize joinS l = js at *
          clear HB HL
          go_wp2
          go_ret2
          exact ⟨by rw [HV.out, HB2.out]; rfl, hb⟩
  · have HB := hide (textB_num (l := l) (by rw [← HE.out]; exact hnum))
    have HV : Hid (ts = emp) := by show _ = _; rw [HT.out, HB.out, if_neg (by decide)]
    by_cases h1 : n < 1
    · have i1 : (n : Int) < 1 := by omega
      go_enter Tryd.func15, Tryd.ntmps15
      go_wp2
      go_ret2
      exact ⟨by rw [HV.out, HB.out]; rfl, Below.refl _ _⟩
    · have i1 : (1 : Int) ≤ (n : Int) := by omega
      have i2 : (16 : Int) < (n : Int) := by omega
      go_enter Tryd.func15, Tryd.ntmps15
      go_wp2
      go_ret2
      exact ⟨by rw [HV.out, HB.out]; rfl, Below.refl _ _⟩
end Go.Proofs.YtmogbkgchhplkabDoor

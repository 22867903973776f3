/- strings.Join by the library's own contract; path.Text. -/
import Derived.Test.YtmogbkgchhplkaaDoorPaRText
import Derived.Test.YtmogbkgchhplkaaDoorPaClone
import Derived.Shelf.Strings.OnBuilder
namespace Go.Proofs.YtmogbkgchhplkaaDoor
open Go.RowKit Go.Shelf

def renJ : Ren := ⟨fun n => if n = 156 then 35 else if n = 165 then 44 else if n = 166 then 45 else if n = 169 then 46 else if n = 240 then 50 else if n = 241 then 51 else if n = 276 then 58 else if n = 277 then 59 else 0,
  fun n => if n = 0 then 0 else if n = 3 then 3 else if n = 4 then 4 else if n = 5 then 5 else if n = 9 then 9 else if n = 20 then 20 else if n = 31 then 25 else if n = 37 then 54 else if n = 70 then 53 else if n = 72 then 56 else if n = 75 then 59 else if n = 76 then 60 else if n = 80 then 62 else if n = 127 then 64 else if n = 164 then 69 else 0,
  fun n => n⟩
theorem laysJ : Lays.n156 Tryd.prog renJ := by
  constructor
  all_goals first | kernel_rfl | (intro w; kernel_rfl)
theorem extraJ : Builder.Extra Tryd.prog renJ := by
  refine { sizeBuilder := ?_, liesBuilder := ?_, t5 := ?_, a5 := ?_, z5 := ?_, v5 := ?_, infoByte := ?_, cellsByte := ?_, sizeByte := ?_, neB5 := ?_ }
  all_goals first | kernel_rfl | (intro w; kernel_rfl) | decide
theorem join_calls (bk o c : Nat) (l : List ByteArray) (w : World) (hcells : ∀ (j : Nat) x, l[j]? = some x → w.cell? ⟨bk, o + j, none⟩ = some (.string x)) (hbk : bk < w.heap.size) (hN : l.length ≤ 1000000) (hcap : l.length ≤ c) (hlen : (joinS l).size ≤ 100000000) : Calls Tryd.prog 35 #[.slice (some ⟨bk, o, none⟩) l.length c, .string ⟨#[47]⟩] w fun e w' => e = .returned (.string (joinS l)) ∧ Below w.heap.size w w' := by
  have e : (Lib.join (l.map (·.data.toList)) [47]) = jn (l.map toL) := jn_join (l.map toL)
  have h := Any.strings_Join laysJ extraJ bk o c l ⟨#[47]⟩ w hcells hbk (by omega) hcap (by
    show (Lib.join (l.map (·.data.toList)) [47]).length ≤ _
    rw [e, ← toL_join, toL_len]
    omega)
  have e2 : (⟨(Lib.join (l.map (·.data.toList)) [47]).toArray⟩ : ByteArray) = joinS l := by rw [e]; rfl
  rw [← e2]
  exact h
set_option maxRecDepth 100000 in
set_option maxHeartbeats 4000000 in
theorem text_calls {v : Value} {l : List ByteArray} {w : World} (hv : IsS w v l) (hm : ∀ x ∈ l, x.size ≤ 2000) (hl1 : l.length ≤ 1000000) : Calls Tryd.prog 20 #[v] w fun e w' => e = .returned (.tuple #[.string (textS l), .int .i64 (if textB l = true then 0 else 50)]) ∧ Below w.heap.size w w' := by
  obtain ⟨aa, ca, rfl, hla, hma, _, hca⟩ := hv
  have HC := hide hca
  clear hca
  have HN : Hid (∀ x : ByteArray, x ∈ l → ∀ W, Calls Tryd.prog 12 #[.string x] W fun e w' => e = .returned (.bool (nameB x)) ∧ Below W.heap.size W w') := fun x hx W => name_calls x (by have := hm x hx; omega) W
  have HM := hide hm
  clear hm
  have HT : Hid (textS l = if textB l = true then joinS l else emp) := rfl
  generalize textS l = ts at *
  obtain ⟨ev, hev⟩ : ∃ ev : Int, ev = if textB l = true then 0 else 50 := ⟨_, rfl⟩
  rw [← hev]
  have HEV := hide hev
  clear hev
  obtain ⟨n, hn⟩ : ∃ n, n = l.length := ⟨_, rfl⟩
  rw [← hn] at hla hl1 ⊢
  have HE := hide hn
  clear hn
  by_cases hnum : 1 ≤ n ∧ n ≤ 16
  · obtain ⟨hn1, hn2⟩ := hnum
    have i1 : (1 : Int) ≤ (n : Int) := by omega
    have i2 : (n : Int) ≤ 16 := by omega
    obtain ⟨b, o, rfl, hcell⟩ := unhide HC (by rw [← HE.out]; omega)
    have HCL := hide hcell
    clear hcell HC
    go_enter Tryd.func20, Tryd.ntmps20
    go_wp2_with fail
    go_loopw [17] (fun iv wr => ∃ (i : Nat), i ≤ n ∧ iv = .int .i64 (i : Int) ∧ Hid (∀ k, k < i → nameB (l.getD k default) = true) ∧ Below w.heap.size w wr) (fun i _ => n - (intOf i).toNat)
    case atStart => exact ⟨0, by omega, rfl, fun k hk => absurd hk (by omega), Below.refl _ _⟩
    case round =>
      obtain ⟨i, hin, rfl, HA, hb⟩ := hrel
      by_cases hlt : i < n
      · have hil : i < l.length := by rw [← HE.out]; exact hlt
        have hx0 := unhide HCL i hil
        have hx := (hb.cell (p := ⟨b, o + i, none⟩) (World.block_lt_of_cell? w _ hx0)).trans hx0
        have hmem := mem_getD hil
        have HX := hide (unhide HN (l.getD i default) hmem wr)
        have hiI : (i : Int) < (n : Int) := by omega
        cases hnm : nameB (l.getD i default) with
        | false =>
          have HB := hide (textB_bad hmem hnm)
          have HV : Hid (ts = emp) := by show _ = _; rw [HT.out, HB.out, if_neg (by decide)]
          have HV2 : Hid (ev = 50) := by show _ = _; rw [HEV.out, HB.out, if_neg (by decide)]
          rw [hnm] at HX
          generalize l.getD i default = x at *
          clear hx0 hmem hnm hil
          go_wp2_with fail
          refine (unhide HX).mono ?_
          rintro e w1 ⟨rfl, hb1⟩
          go_wp2
          go_ret2
          exact ⟨by rw [HV.out, HV2.out]; rfl, hb.trans (hb1.mono hb.size)⟩
        | true =>
          have HA2 : Hid (∀ k, k < i + 1 → nameB (l.getD k default) = true) := fun k hk => by
            by_cases e : k = i
            · subst e; exact hnm
            · exact unhide HA k (by omega)
          rw [hnm] at HX
          generalize l.getD i default = x at *
          clear hx0 hmem hnm hil
          go_wp2_with fail
          refine (unhide HX).mono ?_
          rintro e w1 ⟨rfl, hb1⟩
          go_wp2
          go_roundw
          case rel => exact ⟨i + 1, by omega, by go_num, HA2, hb.trans (hb1.mono hb.size)⟩
          case measure => simp [intOf]; omega
      · have hie : i = n := by omega
        have HB : Hid (textB l = decide ((joinS l).size ≤ 255)) := textB_all (by rw [← HE.out]; exact ⟨hn1, hn2⟩) fun k hk => unhide HA k (by rw [hie, HE.out]; exact hk)
        have hjl : (joinS l).size ≤ 100000 := by
          have h1 := join_len (l := l) (M := 2000) (fun p hp => unhide HM p hp)
          have h2 : l.length ≤ 16 := by rw [← HE.out]; exact hn2
          have h3 : l.length * (2000 + 1) ≤ 16 * (2000 + 1) := Nat.mul_le_mul_right _ h2
          omega
        have HJ : Hid (Calls Tryd.prog 35 #[.slice (some ⟨b, o, none⟩) n ca, .string ⟨#[47]⟩] wr fun e w' => e = .returned (.string (joinS l)) ∧ Below wr.heap.size wr w') := by
          have h0 := unhide HCL 0 (by rw [← HE.out]; omega)
          have hbk : b < w.heap.size := World.block_lt_of_cell? w _ h0
          have := join_calls b o ca l wr (fun j x hj => by
            have hjl : j < l.length := (List.getElem?_eq_some_iff.1 hj).1
            have hc := unhide HCL j hjl
            rw [List.getD_eq_getElem?_getD, hj] at hc
            exact (hb.cell (p := ⟨b, o + j, none⟩) (World.block_lt_of_cell? w _ hc)).trans hc) (Nat.lt_of_lt_of_le hbk hb.size) (by rw [← HE.out]; omega) (by rw [← HE.out]; exact hla) (by omega)
          rw [← HE.out] at this
          exact this
        clear hie
        by_cases hbig : (joinS l).size ≤ 255
        · have HB2 : Hid (textB l = true) := by show _ = _; rw [HB.out, decide_eq_true hbig]
          have HV : Hid (ts = joinS l) := by show _ = _; rw [HT.out, HB2.out, if_pos rfl]
          have HV2 : Hid (ev = 0) := by show _ = _; rw [HEV.out, HB2.out, if_pos rfl]
          have hbI : ((joinS l).size : Int) ≤ 255 := by omega
          have HCLO : Hid (∀ W, Calls Tryd.prog 36 #[.string (joinS l)] W fun e w' => e = .returned (.string (joinS l)) ∧ Below W.heap.size W w') := fun W => clone_calls (joinS l) (by omega) W
          generalize joinS l = js at *
          clear HB
          go_wp2_with fail
          refine (unhide HJ).mono ?_
          rintro e w1 ⟨rfl, hb1⟩
          go_wp2_with fail
          refine (unhide HCLO w1).mono ?_
          rintro e w2 ⟨rfl, hb2⟩
          go_wp2
          go_ret2
          have hb01 := hb.trans (hb1.mono hb.size)
          exact ⟨by rw [HV.out, HV2.out]; rfl, hb01.trans (hb2.mono hb01.size)⟩
        · have HB2 : Hid (textB l = false) := by show _ = _; rw [HB.out, decide_eq_false hbig]
          have HV : Hid (ts = emp) := by show _ = _; rw [HT.out, HB2.out, if_neg (by decide)]
          have HV2 : Hid (ev = 50) := by show _ = _; rw [HEV.out, HB2.out, if_neg (by decide)]
          have hbI : (255 : Int) < ((joinS l).size : Int) := by omega
          generalize joinS l = js at *
          clear HB
          go_wp2_with fail
          refine (unhide HJ).mono ?_
          rintro e w1 ⟨rfl, hb1⟩
          go_wp2
          go_ret2
          exact ⟨by rw [HV.out, HV2.out]; rfl, hb.trans (hb1.mono hb.size)⟩
  · have HB := hide (textB_num (l := l) (by rw [← HE.out]; exact hnum))
    have HV : Hid (ts = emp) := by show _ = _; rw [HT.out, HB.out, if_neg (by decide)]
    have HV2 : Hid (ev = 50) := by show _ = _; rw [HEV.out, HB.out, if_neg (by decide)]
    by_cases h1 : n < 1
    · have i1 : (n : Int) < 1 := by omega
      go_enter Tryd.func20, Tryd.ntmps20
      go_wp2
      go_ret2
      exact ⟨by rw [HV.out, HV2.out]; rfl, Below.refl _ _⟩
    · have i1 : (1 : Int) ≤ (n : Int) := by omega
      have i2 : (16 : Int) < (n : Int) := by omega
      go_enter Tryd.func20, Tryd.ntmps20
      go_wp2
      go_ret2
      exact ⟨by rw [HV.out, HV2.out]; rfl, Below.refl _ _⟩
end Go.Proofs.YtmogbkgchhplkaaDoor

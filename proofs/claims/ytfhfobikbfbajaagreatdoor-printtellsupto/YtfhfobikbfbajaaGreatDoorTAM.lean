/- literal: the walk. The document's hex, escape, literal. The document's literal. token.Quote. -/
import Derived.Test.YtfhfobikbfbajaaGreatDoorTAL
import Derived.Test.YtfhfobikbfbajaaGreatDoorTAJ
namespace Go.Proofs.YtfhfobikbfbajaaGreatDoor
open Go.RowKit Go.Maps

def iL (l : List UInt8) : List Int := l.map fun c => (c.toNat : Int)
theorem iL_app (l m : List UInt8) : iL (l ++ m) = iL l ++ iL m := by unfold iL; rw [List.map_append]
theorem iL_len (l : List UInt8) : (iL l).length = l.length := by simp [iL]
theorem mkS_iL (l : List UInt8) : mkS (iL l) = bs l := by
  apply Go.WideShapes.bytes_inj
  unfold mkS
  rw [mkS_list]
  unfold iL bs
  rw [List.map_map]
  show [] ++ _ = _
  rw [List.nil_append]
  show _ = l
  conv => rhs; rw [← List.map_id l]
  apply List.map_congr_left
  intro c _
  simp
theorem isB_one (w : World) (c : UInt8) : IsB (w.alloc (.cells #[.int .u8 (c.toNat : Int)] 5)) (.slice (some ⟨w.heap.size, 0, none⟩) 1 1) (iL [c]) :=
  isB_lit w (iL [c]) (by intro x hx; simp [iL] at hx; have := u8_lt c; omega) (by simp [iL])
section
variable {w0 w w' : World} {g : Nat} {s : ByteArray} {a st bh ln : Nat} {out : List Tok} {wr : Int} {v v8 : Value} {xs : List Int}
theorem Own8.blk {B : Nat} (h : Own8 w B v8 xs) {g : Nat} {cs : Array Value} {t : TypeId} {m : Nat × Nat} (hc : w.heap[g]? = some (.cells cs t m)) (ht : t ≠ 5) : v8.ownBlock = none ∨ v8.ownBlock ≠ some g := by
  rcases h.1.2 with ⟨rfl, _⟩ | ⟨g', cap, cur, rfl, _, hgg, _⟩
  · exact Or.inl rfl
  · refine Or.inr fun e => ?_
    simp only [Value.ownBlock, Option.some.injEq] at e
    subst e
    rw [hgg] at hc
    simp only [Option.some.injEq, Obj.cells.injEq] at hc
    exact ht hc.2.1.symm
end
end Go.Proofs.YtfhfobikbfbajaaGreatDoor

namespace Go.Proofs.YtfhfobikbfbajaaGreatDoor
open Go.RowKit Go.Maps

def digS : ByteArray := ⟨#[48, 49, 50, 51, 52, 53, 54, 55, 56, 57, 97, 98, 99, 100, 101, 102]⟩
theorem digS_at : ∀ i : Fin 16, (lk digS i.val).toNat = (hexd i.val).toNat := by decide
end Go.Proofs.YtfhfobikbfbajaaGreatDoor

namespace Go.Proofs.YtfhfobikbfbajaaGreatDoor
open Go.RowKit Go.Maps

theorem below8 {w0 w w' : World} {v : Value} {xs : List Int} (h : Below w0.heap.size w0 w) (h8 : Own8 w w0.heap.size v xs) (hg : w.grownBy w' v.ownBlock) : Below w0.heap.size w0 w' :=
  below_app h hg h.size (by
    cases hv : v.ownBlock with
    | none => exact Or.inl rfl
    | some b => exact Or.inr ⟨b, rfl, (World.ownsRow.lt h8.1 b hv).1⟩)
end Go.Proofs.YtfhfobikbfbajaaGreatDoor

namespace Go.Proofs.YtfhfobikbfbajaaGreatDoor
open Go.RowKit Go.Maps

theorem digE : ∀ (i : Nat) (h : i < (⟨#[48, 49, 50, 51, 52, 53, 54, 55, 56, 57, 97, 98, 99, 100, 101, 102]⟩ : ByteArray).size), (⟨#[48, 49, 50, 51, 52, 53, 54, 55, 56, 57, 97, 98, 99, 100, 101, 102]⟩ : ByteArray)[i]'h = hexd i := by
  intro i h
  have hi : i < 16 := h
  have e := digS_at ⟨i, hi⟩
  unfold lk digS at e
  rw [List.getD_eq_getElem?_getD, List.getElem?_eq_getElem (by exact hi)] at e
  exact UInt8.toNat_inj.1 e
theorem take_step {s : ByteArray} {i : Nat} (hi : i < s.size) : (s.data.toList.take (i + 1)).flatMap escB = (s.data.toList.take i).flatMap escB ++ escB (lk s i) := by
  have := take_more (s := s) (a := 0) (b := i) (Nat.zero_le _) hi
  rw [List.drop_zero, Nat.sub_zero, Nat.sub_zero] at this
  rw [this, List.flatMap_append]
  simp
def qAcc (s : ByteArray) (i : Nat) : List UInt8 := 34 :: (s.data.toList.take i).flatMap escB
theorem qAcc_len (s : ByteArray) (i : Nat) : (qAcc s i).length ≤ 4 * i + 1 := by
  unfold qAcc
  rw [List.length_cons]
  have : ((s.data.toList.take i).flatMap escB).length ≤ 4 * (s.data.toList.take i).length := by
    generalize s.data.toList.take i = l
    induction l with
    | nil => simp
    | cons c l ih => rw [List.flatMap_cons, List.length_append, List.length_cons]; have := (escB_len c).2; omega
  have h2 : (s.data.toList.take i).length ≤ i := List.length_take_le _ _
  omega
theorem qAcc_step {s : ByteArray} {i : Nat} (hi : i < s.size) : qAcc s (i + 1) = qAcc s i ++ escB (lk s i) := by
  unfold qAcc; rw [take_step hi]; rfl
theorem qAcc_end (s : ByteArray) : qAcc s s.size ++ [34] = quoteL s.data.toList := by
  unfold qAcc quoteL
  rw [List.take_of_length_le (by rw [len_data]; omega)]
  rfl
set_option maxRecDepth 100000 in
set_option maxHeartbeats 4000000 in
theorem quote_calls (s : ByteArray) (hs : s.size ≤ 100000000) (w : World) : Calls Tryz.prog 100 #[.string s] w fun e w' => e = .returned (.string (bs (quoteL s.data.toList))) ∧ Below w.heap.size w w' := by
  have HG := hide (bd_grow (s.size + 2) (by omega) w)
  rw [show ((s.size + 2 : Nat) : Int) = (s.size : Int) + 2 from rfl] at HG
  have HWB : Hid (∀ (W : World) (l : List UInt8) (c : UInt8), Bd W w.heap.size w.heap.size l → w.heap.size ≤ W.heap.size → l.length ≤ 1000000000000 → Calls Tryz.prog 60 #[.pointer (some ⟨w.heap.size, 0, none⟩), .int .u8 (c.toNat : Int)] W fun e w' => e = .returned .nilIface ∧ Bd w' w.heap.size w.heap.size (l ++ [c]) ∧ Below w.heap.size W w' ∧ Oth w.heap.size W w') := fun W l c h1 h2 h3 => bd_byte h1 h2 h3 c
  have HWS : Hid (∀ (W : World) (l : List UInt8) (t : ByteArray), Bd W w.heap.size w.heap.size l → w.heap.size ≤ W.heap.size → l.length + t.size ≤ 1000000000000 → Calls Tryz.prog 58 #[.pointer (some ⟨w.heap.size, 0, none⟩), .string t] W fun e w' => e = .returned (.tuple #[.int .i64 t.size, .nilIface]) ∧ Bd w' w.heap.size w.heap.size (l ++ t.data.toList) ∧ Below w.heap.size W w' ∧ Oth w.heap.size W w') := fun W l t h1 h2 h3 => bd_str h1 h2 t h3
  have HST : Hid (∀ (W : World) (l : List UInt8), Bd W w.heap.size w.heap.size l → w.heap.size ≤ W.heap.size → Calls Tryz.prog 35 #[.pointer (some ⟨w.heap.size, 0, none⟩)] W fun e w' => e = .returned (.string (bs l)) ∧ Below w.heap.size W w') := fun W l h1 h2 => bd_string h1 h2
  have HSS : Hid (∀ (W : World) (c : UInt8), Calls Tryz.prog 115 #[.int .u8 (c.toNat : Int)] W fun e w' => e = .returned (.bool (stI (c.toNat : Int))) ∧ w' = W) := fun W c => stands_calls (c.toNat : Int) (by omega) (by have := u8_lt c; omega) W
  have HQE := hide (qAcc_end s)
  generalize quoteL s.data.toList = QL at *
  go_enter Tryz.func100, Tryz.ntmps100
  go_wp2_with fail
  refine (unhide HG).mono ?_
  rintro e w1 ⟨rfl, hB1, hb1⟩
  have HW1 := hide (unhide HWB w1 [] 34 hB1 hb1.size (by simp))
  clear HG hB1
  go_wp2_with fail
  refine (unhide HW1).mono ?_
  rintro e w2 ⟨rfl, hB2, hb2, _⟩
  have HB2 := hide hB2
  have hb12 := hb1.trans hb2
  clear hB2 HW1 hb1 hb2
  go_wp2_with fail
  go_loopw [13] (fun iv wq => ∃ i : Nat, i ≤ s.size ∧ iv = .int .i64 (i : Int) ∧ Hid (Bd wq w.heap.size w.heap.size (qAcc s i)) ∧ Below w.heap.size w wq) (fun iv _ => s.size - (intOf iv).toNat)
  case atStart => exact ⟨0, by omega, rfl, HB2.out, hb12⟩
  case round =>
    rename World => w3
    obtain ⟨i, hin, rfl, HB, hbw⟩ := hrel
    clear HB2 hb12
    have hlq := qAcc_len s i
    by_cases hlt : i < s.size
    · have hI : (i : Int) < (s.size : Int) := by omega
      have hidx := kindex_str s i hlt
      have HSTP := hide (qAcc_step hlt)
      have hc256 := u8_lt (lk s i)
      have HSC := hide (fun W => unhide HSS W (lk s i))
      by_cases h1 : (lk s i).toNat = 34 ∨ (lk s i).toNat = 92
      · have HE : Hid (qAcc s (i + 1) = (qAcc s i ++ [92]) ++ [lk s i]) := by
          show _ = _
          rw [HSTP.out]; unfold escB; rw [if_pos h1, List.append_assoc]; rfl
        have HWC := hide (fun W l => unhide HWB W l (lk s i))
        have HW1 := hide (unhide HWB w3 (qAcc s i) 92 HB.out hbw.size (by omega))
        generalize hcc : lk s i = c at *
        clear hcc HSC HSTP
        rcases h1 with h1 | h1
        all_goals (
          have b1 : ((c.toNat : Int) == 34) = decide (c.toNat = 34) := u8_eq c 34
          have b2 : ((c.toNat : Int) == 92) = decide (c.toNat = 92) := u8_eq c 92
          first | rw [decide_eq_true h1] at b1 | rw [decide_eq_true h1] at b2
          first | rw [decide_eq_true h1] at b2 | rw [decide_eq_false (by omega)] at b1 | skip
          clear h1
          go_wp2_with fail
          refine (unhide HW1).mono ?_
          rintro e w4 ⟨rfl, hB4, hb4, _⟩
          have HW2 := hide (unhide HWC w4 (qAcc s i ++ [92]) hB4 (hbw.trans hb4).size (by simp; omega))
          clear hB4
          go_wp2_with fail
          refine (unhide HW2).mono ?_
          rintro e w5 ⟨rfl, hB5, hb5, _⟩
          have HB5 : Hid (Bd w5 w.heap.size w.heap.size (qAcc s (i + 1))) := by show Bd _ _ _ _; rw [HE.out]; exact hB5
          have hb05 := (hbw.trans hb4).trans hb5
          clear hB5 hb4 hb5 HW1 HW2
          go_wp2
          go_roundw
          case rel => exact ⟨i + 1, by omega, by go_num, HB5, hb05⟩
          case measure => simp [intOf]; omega)
      · have b1 : (((lk s i).toNat : Int) == 34) = false := by simp; omega
        have b2 : (((lk s i).toNat : Int) == 92) = false := by simp; omega
        by_cases h10 : (lk s i).toNat = 10
        · have b10 : (((lk s i).toNat : Int) == 10) = true := by rw [h10]; rfl
          have HE : Hid (qAcc s (i + 1) = qAcc s i ++ [92, 110]) := by
            show _ = _
            rw [HSTP.out]; unfold escB; rw [if_neg h1, if_pos h10]
          have HW1 := hide (unhide HWS w3 (qAcc s i) ⟨#[92, 110]⟩ HB.out hbw.size (by show _ + 2 ≤ _; omega))
          generalize lk s i = c at *
          clear h1 h10 HSC HSTP
          go_wp2_with fail
          refine (unhide HW1).mono ?_
          rintro e w5 ⟨rfl, hB5, hb5, _⟩
          have HB5 : Hid (Bd w5 w.heap.size w.heap.size (qAcc s (i + 1))) := by show Bd _ _ _ _; rw [HE.out]; exact hB5
          have hb05 := hbw.trans hb5
          clear hB5 hb5 HW1
          go_wp2
          go_roundw
          case rel => exact ⟨i + 1, by omega, by go_num, HB5, hb05⟩
          case measure => simp [intOf]; omega
        · have b10 : (((lk s i).toNat : Int) == 10) = false := by simp; omega
          cases hst : stI ((lk s i).toNat : Int) with
          | true =>
            have h3 := of_decide_eq_true hst
            have HE : Hid (qAcc s (i + 1) = qAcc s i ++ [lk s i]) := by
              show _ = _
              rw [HSTP.out]; unfold escB; rw [if_neg h1, if_neg h10, if_neg (by omega)]
            rw [hst] at HSC
            have HW1 := hide (unhide HWB w3 (qAcc s i) (lk s i) HB.out hbw.size (by omega))
            generalize lk s i = c at *
            clear h1 h10 HSTP h3 hst
            go_wp2_with fail
            refine (unhide HSC w3).mono ?_
            rintro e w4 ⟨rfl, hw4⟩
            obtain rfl := hw4.symm
            clear hw4
            go_wp2_with fail
            refine (unhide HW1).mono ?_
            rintro e w5 ⟨rfl, hB5, hb5, _⟩
            have HB5 : Hid (Bd w5 w.heap.size w.heap.size (qAcc s (i + 1))) := by show Bd _ _ _ _; rw [HE.out]; exact hB5
            have hb05 := hbw.trans hb5
            clear hB5 hb5 HW1
            go_wp2
            go_roundw
            case rel => exact ⟨i + 1, by omega, by go_num, HB5, hb05⟩
            case measure => simp [intOf]; omega
          | false =>
            have h3 := of_decide_eq_false hst
            have HE : Hid (qAcc s (i + 1) = ((qAcc s i ++ [92, 120]) ++ [hexd ((lk s i).toNat / 16)]) ++ [hexd ((lk s i).toNat % 16)]) := by
              show _ = _
              rw [HSTP.out]; unfold escB; rw [if_neg h1, if_neg h10, if_pos (by omega), List.append_assoc, List.append_assoc]; rfl
            rw [hst] at HSC
            have HW1 := hide (unhide HWS w3 (qAcc s i) ⟨#[92, 120]⟩ HB.out hbw.size (by show _ + 2 ≤ _; omega))
            generalize lk s i = c at *
            clear h1 h10 HSTP h3 hst
            go_wp2_with fail
            refine (unhide HSC w3).mono ?_
            rintro e w4 ⟨rfl, hw4⟩
            obtain rfl := hw4.symm
            clear hw4
            go_wp2_with fail
            refine (unhide HW1).mono ?_
            rintro e w5 ⟨rfl, hB5, hb5, _⟩
            have hb05 := hbw.trans hb5
            have HB5 := hide hB5
            clear hB5 hb5 HW1
            go_wp2_with fail
            refine (unhide HWB w5 _ _ HB5.out hb05.size (by rw [List.length_append]; show _ + 2 ≤ _; omega)).mono ?_
            rintro e w6 ⟨rfl, hB6, hb6, _⟩
            rw [digE] at hB6
            have HB6 := hide hB6
            have hb06 := hb05.trans hb6
            clear hB6 hb6
            go_wp2_with fail
            refine (unhide HWB w6 _ _ HB6.out hb06.size (by rw [List.length_append, List.length_append]; show _ + 2 + 1 ≤ _; omega)).mono ?_
            rintro e w7 ⟨rfl, hB7, hb7, _⟩
            rw [digE] at hB7
            have HB7 : Hid (Bd w7 w.heap.size w.heap.size (qAcc s (i + 1))) := by show Bd _ _ _ _; rw [HE.out]; exact hB7
            have hb07 := hb06.trans hb7
            clear hB7 hb7
            go_wp2
            go_roundw
            case rel => exact ⟨i + 1, by omega, by go_num, HB7, hb07⟩
            case measure => simp [intOf]; omega
    · have hI : ¬ (i : Int) < (s.size : Int) := by omega
      have hie : i = s.size := by omega
      have HE : Hid (qAcc s i ++ [34] = QL) := by show _ = _; rw [hie]; exact HQE.out
      have HW1 := hide (unhide HWB w3 (qAcc s i) 34 HB.out hbw.size (by omega))
      clear hie
      go_wp2_with fail
      refine (unhide HW1).mono ?_
      rintro e w4 ⟨rfl, hB4, hb4, _⟩
      rw [HE.out] at hB4
      have hb04 := hbw.trans hb4
      have HS4 := hide (unhide HST w4 QL hB4 hb04.size)
      clear hB4 hb4
      go_wp2_with fail
      refine (unhide HS4).mono ?_
      rintro e w5 ⟨rfl, hb5⟩
      go_wp2
      go_ret
      exact ⟨rfl, hb04.trans hb5⟩
end Go.Proofs.YtfhfobikbfbajaaGreatDoor

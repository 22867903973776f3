/- pass. -/
import Derived.Test.YtcdilcjgmcamcabTkE
namespace Go.Proofs.Ytcdilcjgmcamcab
open Go.RowKit Go.Maps

/-- From a to b nothing is told. -/
def To (s : ByteArray) (a b : Nat) : Prop := ∀ (o : List Tok) (n p q : Nat), fin (run ⟨o, n, p, q, .gap⟩ (s.data.toList.drop a)) = fin (run ⟨o, n, p + (b - a), q, .gap⟩ (s.data.toList.drop b))
theorem To.blank {s : ByteArray} {a b : Nat} (h : To s a b) (hab : a ≤ b) (hb : b < s.size) (hc : (lk s b).toNat = 32) : To s a (b + 1) := by
  intro o n p q
  rw [h, lk_drop hb, run_cons]
  have : stp ⟨o, n, p + (b - a), q, .gap⟩ (lk s b) = ⟨o, n, p + (b - a) + 1, q, .gap⟩ := by
    show gapS _ _ = _
    unfold gapS
    rw [if_pos hc]
  rw [this, show p + (b - a) + 1 = p + (b + 1 - a) by omega]
/-- In a remark. -/
def Rem (s : ByteArray) (a b : Nat) : Prop := a < b ∧ ∀ (o : List Tok) (n p q : Nat), fin (run ⟨o, n, p, q, .gap⟩ (s.data.toList.drop a)) = fin (run ⟨o, n, p + (b - a), q, .rem⟩ (s.data.toList.drop b))
theorem To.rem {s : ByteArray} {a b : Nat} (h : To s a b) (hab : a ≤ b) (hb : b < s.size) (hc : (lk s b).toNat = 35) : Rem s a (b + 1) := by
  refine ⟨by omega, fun o n p q => ?_⟩
  rw [h, lk_drop hb, run_cons]
  have : stp ⟨o, n, p + (b - a), q, .gap⟩ (lk s b) = ⟨o, n, p + (b - a) + 1, q, .rem⟩ := by
    show gapS _ _ = _
    unfold gapS
    rw [if_neg (by omega), if_pos hc]
  rw [this, show p + (b - a) + 1 = p + (b + 1 - a) by omega]
theorem Rem.more {s : ByteArray} {a b : Nat} (h : Rem s a b) (hb : b < s.size) (hc : (lk s b).toNat ≠ 10) : Rem s a (b + 1) := by
  obtain ⟨hab, h⟩ := h
  refine ⟨by omega, fun o n p q => ?_⟩
  rw [h, lk_drop hb, run_cons]
  have : stp ⟨o, n, p + (b - a), q, .rem⟩ (lk s b) = ⟨o, n, p + (b - a) + 1, q, .rem⟩ := by
    show (if (lk s b).toNat = 10 then _ else _) = _
    rw [if_neg hc]
  rw [this, show p + (b - a) + 1 = p + (b + 1 - a) by omega]
theorem Rem.stop {s : ByteArray} {a b : Nat} (h : Rem s a b) (hc : (lk s b).toNat = 10) : To s a b := by
  obtain ⟨hab, h⟩ := h
  intro o n p q
  rw [h]
  refine rem_end o n q _ _ (by omega) ?_
  by_cases hb : b < s.size
  · exact Or.inr ⟨_, _, lk_drop hb, hc⟩
  · exact Or.inl (drop_out (by omega))
theorem lk_in {s : ByteArray} {i : Nat} (h : (lk s i).toNat ≠ 10) : i < s.size := by
  rcases Nat.lt_or_ge i s.size with h1 | h1
  · exact h1
  · rw [lk_out h1] at h; exact absurd rfl h
theorem u8_eq (c : UInt8) (k : Nat) : ((c.toNat : Int) == (k : Int)) = decide (c.toNat = k) := by
  by_cases h : c.toNat = k
  · rw [h]; simp
  · rw [decide_eq_false h]; simp; omega
section
variable {w0 w w' : World} {g : Nat} {s : ByteArray} {a st bh ln : Nat} {out : List Tok} {wr : Int} {v : Value}
set_option maxRecDepth 100000 in
set_option maxHeartbeats 2000000 in
theorem pass_calls (h : Rd w0 w g s a st bh ln out wr v) (hs : s.size ≤ 1000000) (ha : a ≤ s.size) : Calls Try.prog 40 #[.pointer (some ⟨g, 0, none⟩)] w fun e w' => e = .returned (.tuple #[]) ∧ ∃ b, a ≤ b ∧ b ≤ s.size ∧ Rd w0 w' g s b st bh ln out wr v ∧ To s a b ∧ (lk s b).toNat ≠ 32 ∧ (lk s b).toNat ≠ 35 := by
  have HL : Hid (∀ (W : World) (b : Nat), b ≤ s.size → Rd w0 W g s b st bh ln out wr v → Calls Try.prog 42 #[.pointer (some ⟨g, 0, none⟩), .int .i64 0] W fun e w' => e = .returned (.int .u8 ((lk s b).toNat : Int)) ∧ Below W.heap.size W w') := fun W b hb hr => by
    have := look_calls hr 0 (by omega) hs (by omega)
    simpa using this
  have H0 := hide h
  clear h
  have hT0 : To s a a := fun o n p q => by rw [Nat.sub_self, Nat.add_zero]
  have HT0 := hide hT0
  clear hT0
  go_enter Try.func40, Try.ntmps40
  go_wp2_with fail
  go_loopw [] (fun wq => ∃ (b : Nat), a ≤ b ∧ b ≤ s.size ∧ Hid (Rd w0 wq g s b st bh ln out wr v ∧ To s a b)) (fun wq => s.size - cellN wq ⟨g, 1, none⟩)
  case atStart => exact ⟨a, by omega, ha, ⟨H0.out, HT0.out⟩⟩
  case round =>
    rename World => w1
    obtain ⟨b, hab, hbs, HB⟩ := hrel
    have HN := hide HB.out.1.cellN
    by_cases h32 : (lk s b).toNat = 32
    · have hbl := lk_in (s := s) (i := b) (by omega)
      have HTN := hide (HB.out.2.blank hab hbl h32)
      have b32 : (((lk s b).toNat : Int) == 32) = true := by rw [h32]; rfl
      have HLK := hide (unhide HL w1 b hbs HB.out.1)
      generalize (lk s b).toNat = c at *
      clear h32
      go_wp2_with fail
      refine (unhide HLK).mono ?_
      rintro e w2 ⟨rfl, hb2⟩
      have HR2 := hide (HB.out.1.keep hb2)
      obtain ⟨_, c1, _⟩ := HR2.out.cells
      have f1 := HR2.out.frozen 1
      go_wp2
      have HR3 := hide (HR2.out.setAt (b + 1))
      go_roundw
      case rel => exact ⟨b + 1, by omega, by omega, ⟨HR3.out, HTN.out⟩⟩
      case measure => have e3 := HR3.out.cellN; rw [HN.out]; simp only [Int.natCast_add, Int.natCast_one] at e3; rw [e3]; omega
    · have b32 : (((lk s b).toNat : Int) == 32) = false := by simp; omega
      have HLK := hide (unhide HL w1 b hbs HB.out.1)
      have hN32 : Hid ((lk s b).toNat ≠ 32) := h32
      by_cases h35 : (lk s b).toNat = 35
      · have hbl := lk_in (s := s) (i := b) (by omega)
        have HRM := hide (HB.out.2.rem hab hbl h35)
        have b35 : (((lk s b).toNat : Int) != 35) = false := by rw [h35]; rfl
        have n10 : (lk s b).toNat ≠ 10 := by omega
        have HF : Hid (a < b + 1 ∧ ∀ hh : (lk s b).toNat ≠ 10, Rem s a (b + 1)) := ⟨by omega, fun _ => HRM.out⟩
        generalize hcc : (lk s b).toNat = c at *
        have HCC := hide hcc
        have HC35 := hide h35
        clear h32 h35 hcc n10
        go_wp2_with fail
        refine (unhide HLK).mono ?_
        rintro e w2 ⟨rfl, hb2⟩
        have HR2 := hide (HB.out.1.keep hb2)
        have HLK2 := hide (unhide HL w2 b hbs HR2.out)
        rw [HCC.out] at HLK2
        go_wp2_with fail
        refine (unhide HLK2).mono ?_
        rintro e w3 ⟨rfl, hb3⟩
        have HR3 := hide (HR2.out.keep hb3)
        go_wp2_with fail
        go_loopw [] (fun wq => ∃ (d : Nat), b ≤ d ∧ d ≤ s.size ∧ Hid (Rd w0 wq g s d st bh ln out wr v ∧ ((d = b ∧ d < s.size) ∨ Rem s a d))) (fun wq => s.size - cellN wq ⟨g, 1, none⟩)
        case atStart => exact ⟨b, by omega, hbs, ⟨HR3.out, Or.inl ⟨rfl, hbl⟩⟩⟩
        case round =>
          rename World => w4
          obtain ⟨d, hbd, hds, HD⟩ := hrel
          have HN4 := hide HD.out.1.cellN
          have HLD := hide (unhide HL w4 d hds HD.out.1)
          by_cases h10 : (lk s d).toNat = 10
          · have HEND : Hid (To s a d ∧ (lk s d).toNat ≠ 32 ∧ (lk s d).toNat ≠ 35) := by
              rcases HD.out.2 with ⟨e1, _⟩ | hr
              · exfalso; rw [e1, HCC.out, HC35.out] at h10; omega
              · exact ⟨hr.stop h10, by omega, by omega⟩
            have c10 : (((lk s d).toNat : Int) != 10) = false := by rw [h10]; rfl
            generalize hc2 : (lk s d).toNat = c2 at *
            have HC2 := hide hc2
            clear h10 hc2
            go_wp2_with fail
            refine (unhide HLD).mono ?_
            rintro e w5 ⟨rfl, hb5⟩
            have HR5 := hide (HD.out.1.keep hb5)
            go_wp2
            go_end0
            exact ⟨rfl, d, by omega, hds, HR5.out, by rw [HC2.out]; exact HEND.out⟩
          · have hdl := lk_in h10
            have HRN : Hid (Rem s a (d + 1)) := by
              rcases HD.out.2 with ⟨e1, _⟩ | hr
              · rw [e1]; exact HRM.out
              · exact hr.more hdl h10
            have c10 : (((lk s d).toNat : Int) != 10) = true := by simp; omega
            generalize (lk s d).toNat = c2 at *
            clear h10
            go_wp2_with fail
            refine (unhide HLD).mono ?_
            rintro e w5 ⟨rfl, hb5⟩
            have HR5 := hide (HD.out.1.keep hb5)
            obtain ⟨_, c1, _⟩ := HR5.out.cells
            have f1 := HR5.out.frozen 1
            go_wp2
            have HR6 := hide (HR5.out.setAt (d + 1))
            go_roundw
            case rel => exact ⟨d + 1, by omega, by omega, ⟨HR6.out, Or.inr HRN.out⟩⟩
            case measure => have e3 := HR6.out.cellN; rw [HN4.out]; simp only [Int.natCast_add, Int.natCast_one] at e3; rw [e3]; omega
      · have b35 : (((lk s b).toNat : Int) != 35) = true := by simp; omega
        have HE : Hid ((lk s b).toNat ≠ 32 ∧ (lk s b).toNat ≠ 35) := ⟨h32, h35⟩
        generalize hcc : (lk s b).toNat = c at *
        have HCC := hide hcc
        clear h32 h35 hcc
        go_wp2_with fail
        refine (unhide HLK).mono ?_
        rintro e w2 ⟨rfl, hb2⟩
        have HR2 := hide (HB.out.1.keep hb2)
        have HLK2 := hide (unhide HL w2 b hbs HR2.out)
        rw [HCC.out] at HLK2
        go_wp2_with fail
        refine (unhide HLK2).mono ?_
        rintro e w3 ⟨rfl, hb3⟩
        have HR3 := hide (HR2.out.keep hb3)
        go_wp2
        (try simp only [Exit.inBlock, Exit.then])
        refine bodyPost_ret (results_none rfl _ _ _) rfl ?_
        exact ⟨rfl, b, hab, hbs, HR3.out, HB.out.2, by rw [HCC.out]; exact HE.out⟩
end
end Go.Proofs.Ytcdilcjgmcamcab

/- word. -/
import Derived.Test.YtcdilcjgmcamcabTkS
namespace Go.Proofs.Ytcdilcjgmcamcab
open Go.RowKit Go.Maps

theorem extract_L (s : ByteArray) (a b : Nat) : (s.extract a b).data.toList = (s.data.toList.drop a).take (b - a) := by
  rw [ByteArray.data_extract, Array.toList_extract, List.extract_eq_take_drop]
theorem bs_ext (s : ByteArray) (a b : Nat) : bs ((s.data.toList.drop a).take (b - a)) = s.extract a b := by
  rw [← extract_L, bs_toList]
theorem take_more {s : ByteArray} {a b : Nat} (hab : a ≤ b) (hb : b < s.size) : (s.data.toList.drop a).take (b + 1 - a) = (s.data.toList.drop a).take (b - a) ++ [lk s b] := by
  have hl : b - a < (s.data.toList.drop a).length := by rw [List.length_drop, len_data]; omega
  rw [show b + 1 - a = (b - a) + 1 by omega, List.take_succ_eq_append_getElem hl]
  congr 2
  rw [List.getElem_drop]
  unfold lk
  rw [List.getD_eq_getElem?_getD]
  have : b < s.data.toList.length := by rw [len_data]; exact hb
  rw [List.getElem?_eq_getElem this]
  simp only [Option.getD_some]
  congr 1
  omega
/-- In a word that began at a. -/
def Wd (s : ByteArray) (a b : Nat) : Prop := a < b ∧ ∀ (o : List Tok) (n p q : Nat), fin (run ⟨o, n, p, q, .gap⟩ (s.data.toList.drop a)) = fin (run ⟨o, n, p + (b - a), q, .word p ((s.data.toList.drop a).take (b - a))⟩ (s.data.toList.drop b))
theorem Wd.first {s : ByteArray} {a : Nat} (ha : a < s.size) (hk : kd (lk s a) = 1) : Wd s a (a + 1) := by
  refine ⟨by omega, fun o n p q => ?_⟩
  rw [take_more (Nat.le_refl _) ha, Nat.sub_self, List.take_zero, List.nil_append, lk_drop ha, run_cons]
  have hw := kd_word.1 hk
  have : stp ⟨o, n, p, q, .gap⟩ (lk s a) = ⟨o, n, p + 1, q, .word p [lk s a]⟩ := by
    show gapS _ _ = _
    unfold gapS
    rw [if_neg (fun e => by rw [inW_not (by omega)] at hw; cases hw), if_neg (fun e => by rw [inW_not (by omega)] at hw; cases hw), if_pos hk]
  rw [this, show p + (a + 1 - a) = p + 1 by omega]
theorem wd_len {s : ByteArray} {a b : Nat} (hb : b ≤ s.size) : ((s.data.toList.drop a).take (b - a)).length = b - a := by
  rw [List.length_take, List.length_drop, len_data]; omega
theorem Wd.more {s : ByteArray} {a b : Nat} (h : Wd s a b) (hb : b < s.size) (hk : kd (lk s b) = 1) (hn : b - a ≠ 255) : Wd s a (b + 1) := by
  obtain ⟨hab, h⟩ := h
  refine ⟨by omega, fun o n p q => ?_⟩
  rw [h, take_more (by omega) hb, lk_drop hb, run_cons]
  have : stp ⟨o, n, p + (b - a), q, .word p ((s.data.toList.drop a).take (b - a))⟩ (lk s b) = ⟨o, n, p + (b - a) + 1, q, .word p ((s.data.toList.drop a).take (b - a) ++ [lk s b])⟩ := by
    show wordS _ _ _ _ = _
    unfold wordS
    rw [if_pos hk, if_neg (by rw [wd_len (by omega)]; exact hn)]
  rw [this, show p + (b - a) + 1 = p + (b + 1 - a) by omega]
theorem Wd.bad {s : ByteArray} {a b : Nat} (h : Wd s a b) (hb : b < s.size) (hk : kd (lk s b) = 1) (hn : b - a = 255) (o : List Tok) (n p q : Nat) : fin (run ⟨o, n, p, q, .gap⟩ (s.data.toList.drop a)) = ⟨o, n, p + (b - a), q, .bad 2⟩ := by
  obtain ⟨hab, h⟩ := h
  rw [h, lk_drop hb, run_cons]
  have : stp ⟨o, n, p + (b - a), q, .word p ((s.data.toList.drop a).take (b - a))⟩ (lk s b) = ⟨o, n, p + (b - a), q, .bad 2⟩ := by
    show wordS _ _ _ _ = _
    unfold wordS
    rw [if_pos hk, if_pos (by rw [wd_len (by omega)]; exact hn)]
  rw [this, bad_run (e := 2) rfl, bad_fin (e := 2) rfl]
theorem Wd.stop {s : ByteArray} {a b : Nat} (h : Wd s a b) (hk : kd (lk s b) ≠ 1) (o : List Tok) (n p q : Nat) : fin (run ⟨o, n, p, q, .gap⟩ (s.data.toList.drop a)) = fin (run ⟨o ++ [⟨1, s.extract a b, n, p⟩], n, p + (b - a), p + (b - a), .gap⟩ (s.data.toList.drop b)) := by
  obtain ⟨hab, h⟩ := h
  rw [h, word_end o n q _ p _ _ (by omega)]
  · unfold addS
    rw [bs_ext]
    rfl
  · intro c r' e
    by_cases hb : b < s.size
    · rw [lk_drop hb] at e
      injection e with e1 _
      rw [← e1]; exact hk
    · rw [drop_out (by omega)] at e
      cases e
section
variable {w0 w w' : World} {g : Nat} {s : ByteArray} {a st bh ln : Nat} {out : List Tok} {wr : Int} {v : Value}
theorem callClone (v : Value) (W : World) : (callFunc 54 #[v]).run Try.prog W = .ok (.enter 54 #[v]) W := by kernel_rfl
theorem callAdd (v u z q : Value) (W : World) : (callFunc 53 #[v, u, z, q]).run Try.prog W = .ok (.enter 53 #[v, u, z, q]) W := by kernel_rfl
/-- What the reading of one token comes to: it is told, or it can't be. -/
def Read1 (w0 w' : World) (g : Nat) (s : ByteArray) (a st bh ln : Nat) (out : List Tok) (e : Ending) : Prop :=
  (e = .returned (.bool true) ∧ ∃ (b : Nat) (t : Tok) (v' : Value), a < b ∧ b ≤ s.size ∧ Rd w0 w' g s b st b ln (out ++ [t]) 0 v' ∧ fin (run ⟨out, ln, a - st, bh - st, .gap⟩ (s.data.toList.drop a)) = fin (run ⟨out ++ [t], ln, b - st, b - st, .gap⟩ (s.data.toList.drop b))) ∨
  (e = .returned (.bool false) ∧ ∃ (b : Nat) (er : Int) (v' : Value), st ≤ b ∧ b ≤ s.size ∧ er ≠ 0 ∧ Rd w0 w' g s b st bh ln out er v' ∧ fin (run ⟨out, ln, a - st, bh - st, .gap⟩ (s.data.toList.drop a)) = ⟨out, ln, b - st, bh - st, .bad er⟩)
set_option maxRecDepth 100000 in
set_option maxHeartbeats 4000000 in
theorem word_calls (h : Rd w0 w g s a st bh ln out 0 v) (hst : st ≤ a) (ha : a < s.size) (hk : kd (lk s a) = 1) (hs : s.size ≤ 1000000) (ho : out.length ≤ 1000000) : Calls Try.prog 43 #[.pointer (some ⟨g, 0, none⟩)] w fun e w' => Read1 w0 w' g s a st bh ln out e := by
  have HL : Hid (∀ (W : World) (b : Nat), b ≤ s.size → Rd w0 W g s b st bh ln out 0 v → Calls Try.prog 42 #[.pointer (some ⟨g, 0, none⟩), .int .i64 0] W fun e w' => e = .returned (.int .u8 ((lk s b).toNat : Int)) ∧ Below W.heap.size W w') := fun W b hb hr => by
    have := look_calls hr 0 (by omega) hs (by omega)
    simpa using this
  have HK : Hid (∀ (W : World) (b : Nat), Calls Try.prog 41 #[.int .u8 ((lk s b).toNat : Int)] W fun e w' => e = .returned (.int .i64 ((kd (lk s b) : Nat) : Int)) ∧ w' = W) := fun W b => by
    have := kindOf_calls ((lk s b).toNat : Int) (by omega) (by have := u8_lt (lk s b); omega) W
    rw [kdI_eq] at this
    exact this
  have c1 := h.cells.2.1
  have H0 := hide h
  have HFI := hide (Wd.first ha hk)
  have HK0 := hide hk
  clear h hk
  go_enter Try.func43, Try.ntmps43
  go_wp2_with fail
  go_loopw [] (fun wq => ∃ (b : Nat), a ≤ b ∧ b ≤ s.size ∧ b ≤ a + 255 ∧ Hid (Rd w0 wq g s b st bh ln out 0 v ∧ (b = a ∨ Wd s a b))) (fun wq => s.size - cellN wq ⟨g, 1, none⟩)
  case atStart => exact ⟨a, by omega, by omega, by omega, ⟨H0.out, Or.inl rfl⟩⟩
  case round =>
    rename World => w1
    obtain ⟨b, hab, hbs, hb255, HB⟩ := hrel
    clear c1
    have HN := hide HB.out.1.cellN
    have HLK := hide (unhide HL w1 b hbs HB.out.1)
    by_cases hkb : kd (lk s b) = 1
    · have hbl : b < s.size := lk_in (fun e => by have := kd10 e; omega)
      have bk : (((kd (lk s b) : Nat) : Int) == 1) = true := by rw [hkb]; rfl
      by_cases h255 : b - a = 255
      · have HW : Hid (∀ (o : List Tok) (n p q : Nat), fin (run ⟨o, n, p, q, .gap⟩ (s.data.toList.drop a)) = ⟨o, n, p + (b - a), q, .bad 2⟩) := by
          rcases HB.out.2 with e | hw
          · omega
          · exact fun o n p q => hw.bad hbl hkb h255 o n p q
        have e255 : ((b : Int) - (a : Int) == 255) = true := by simp; omega
        have HKB := hide (fun W => unhide HK W b)
        generalize kd (lk s b) = kb at *
        generalize lk s b = c at *
        clear hkb
        go_wp2_with fail
        refine (unhide HLK).mono ?_
        rintro e w2 ⟨rfl, hb2⟩
        have HR2 := hide (HB.out.1.keep hb2)
        go_wp2_with fail
        refine (unhide HKB w2).mono ?_
        rintro e w3 ⟨rfl, hw3⟩
        obtain rfl := hw3.symm
        have c1 := HR2.out.cells.2.1
        have c6 := HR2.out.cells.2.2.2.2.2.2
        have f6 := HR2.out.frozen 6
        go_wp2
        try rw [Exit.noGoto_ret]
        go_ret
        refine Or.inr ⟨rfl, b, 2, v, by omega, hbs, by decide, HR2.out.setWrong 2, ?_⟩
        rw [HW.out, show a - st + (b - a) = b - st by omega]
      · have HW : Hid (Wd s a (b + 1)) := by
          rcases HB.out.2 with e | hw
          · rw [e]; exact HFI.out
          · exact hw.more hbl hkb h255
        have e255 : ((b : Int) - (a : Int) == 255) = false := by simp; omega
        have HKB := hide (fun W => unhide HK W b)
        generalize kd (lk s b) = kb at *
        generalize lk s b = c at *
        clear hkb
        go_wp2_with fail
        refine (unhide HLK).mono ?_
        rintro e w2 ⟨rfl, hb2⟩
        have HR2 := hide (HB.out.1.keep hb2)
        go_wp2_with fail
        refine (unhide HKB w2).mono ?_
        rintro e w3 ⟨rfl, hw3⟩
        obtain rfl := hw3.symm
        have c1 := HR2.out.cells.2.1
        have f1 := HR2.out.frozen 1
        go_wp2
        have HR4 := hide (HR2.out.setAt (b + 1))
        go_roundw
        case rel => exact ⟨b + 1, by omega, by omega, by omega, ⟨HR4.out, Or.inr HW.out⟩⟩
        case measure => have e3 := HR4.out.cellN; rw [HN.out]; simp only [Int.natCast_add, Int.natCast_one] at e3; rw [e3]; omega
    · have hne : b ≠ a := fun e => hkb (by rw [e]; exact HK0.out)
      have HW : Hid (∀ (o : List Tok) (n p q : Nat), fin (run ⟨o, n, p, q, .gap⟩ (s.data.toList.drop a)) = fin (run ⟨o ++ [⟨1, s.extract a b, n, p⟩], n, p + (b - a), p + (b - a), .gap⟩ (s.data.toList.drop b))) := by
        rcases HB.out.2 with e | hw
        · exact absurd e hne
        · exact fun o n p q => hw.stop hkb o n p q
      have bk : (((kd (lk s b) : Nat) : Int) == 1) = false := by simp; omega
      have HKB := hide (fun W => unhide HK W b)
      generalize kd (lk s b) = kb at *
      generalize lk s b = c at *
      clear hkb
      go_wp2_with fail
      refine (unhide HLK).mono ?_
      rintro e w2 ⟨rfl, hb2⟩
      have HR2 := hide (HB.out.1.keep hb2)
      go_wp2_with fail
      refine (unhide HKB w2).mono ?_
      rintro e w3 ⟨rfl, hw3⟩
      obtain rfl := hw3.symm
      have hR2 := HR2.out.keep (w' := w2.drew) ((Below.refl _ _).drew)
      obtain ⟨c0, c1, _⟩ := hR2.cells
      have habI : (a : Int) ≤ (b : Int) := by omega
      have hbsI : (b : Int) ≤ (s.size : Int) := by omega
      have hsub : (s.extract a b).size ≤ 1000000 := by rw [ByteArray.size_extract]; omega
      have HCL := hide (clone_calls (s.extract a b) hsub w2.drew)
      have HAD := hide (fun (W : World) (hR : Rd w0 W g s b st bh ln out 0 v) => add_calls hR 1 (s.extract a b) a hst (by omega) ho)
      have HR3 := hide hR2
      clear hR2 hsub HB HL HK HLK HKB HN HR2
      go_wp2_with fail
      refine wp_region_held_drew (S := fun W => W.cell? ⟨g, 0, none⟩ = some (.string s) ∧ W.cell? ⟨g, 1, none⟩ = some (.int .i64 (b : Int))) (by kernel_rfl) (⟨c0, c1⟩) (fun hHeld => ?_)
      refine wpAnyH_take (i := 0) (v := .pointer (some ⟨g, 0, none⟩)) rfl (by kernel_rfl) (by kernel_rfl) (by kernel_rfl) (fun _ _ _ h => h) (Or.inl ⟨by rfl, fun w hSw => by obtain ⟨e0, e1⟩ := hSw; go_simp⟩) (by assumption) ?_
      simp only [List.getElem_toArray, List.getElem_cons_zero, Act.put, List.setIfInBounds_toArray, List.set_cons_zero, List.set_cons_succ]
      refine wpAnyH_take (i := 1) (v := .pointer (some ⟨g, 0, none⟩)) rfl (by kernel_rfl) (by kernel_rfl) (by kernel_rfl) (fun _ _ _ h => h) (Or.inl ⟨by rfl, fun w hSw => by obtain ⟨e0, e1⟩ := hSw; go_simp⟩) (by assumption) ?_
      simp only [List.getElem_toArray, List.getElem_cons_succ, List.getElem_cons_zero, Act.put, List.setIfInBounds_toArray, List.set_cons_zero, List.set_cons_succ]
      refine wpAnyH_take (i := 2) (v := .pointer (some ⟨g, 0, none⟩)) rfl (by kernel_rfl) (by kernel_rfl) (by kernel_rfl) (fun _ _ _ h => h) (Or.inl ⟨by rfl, fun w hSw => by obtain ⟨e0, e1⟩ := hSw; go_simp⟩) (by assumption) ?_
      simp only [List.getElem_toArray, List.getElem_cons_succ, List.getElem_cons_zero, Act.put, List.setIfInBounds_toArray, List.set_cons_zero, List.set_cons_succ]
      refine wpAnyH_take (i := 3) (v := .pointer (some ⟨g, 0, none⟩)) rfl (by kernel_rfl) (by kernel_rfl) (by kernel_rfl) (fun _ _ _ h => h) (Or.inl ⟨by rfl, fun w hSw => by obtain ⟨e0, e1⟩ := hSw; go_simp⟩) (by assumption) ?_
      simp only [List.getElem_toArray, List.getElem_cons_succ, List.getElem_cons_zero, Act.put, List.setIfInBounds_toArray, List.set_cons_zero, List.set_cons_succ]
      refine wpAnyH_take (i := 4) (v := .string s) rfl (by kernel_rfl) (by kernel_rfl) (by kernel_rfl) (fun _ _ _ h => h) (Or.inl ⟨by rfl, fun w hSw => by obtain ⟨e0, e1⟩ := hSw; go_simp⟩) (by assumption) ?_
      simp only [List.getElem_toArray, List.getElem_cons_succ, List.getElem_cons_zero, Act.put, List.setIfInBounds_toArray, List.set_cons_zero, List.set_cons_succ]
      refine wpAnyH_take (i := 5) (v := .int .i64 (a : Int)) rfl (by kernel_rfl) (by kernel_rfl) (by kernel_rfl) (fun _ _ _ h => h) (Or.inl ⟨by rfl, fun w hSw => by obtain ⟨e0, e1⟩ := hSw; go_simp⟩) (by assumption) ?_
      simp only [List.getElem_toArray, List.getElem_cons_succ, List.getElem_cons_zero, Act.put, List.setIfInBounds_toArray, List.set_cons_zero, List.set_cons_succ]
      refine wpAnyH_take (i := 6) (v := .pointer (some ⟨g, 0, none⟩)) rfl (by kernel_rfl) (by kernel_rfl) (by kernel_rfl) (fun _ _ _ h => h) (Or.inl ⟨by rfl, fun w hSw => by obtain ⟨e0, e1⟩ := hSw; go_simp⟩) (by assumption) ?_
      simp only [List.getElem_toArray, List.getElem_cons_succ, List.getElem_cons_zero, Act.put, List.setIfInBounds_toArray, List.set_cons_zero, List.set_cons_succ]
      refine wpAnyH_take (i := 7) (v := .pointer (some ⟨g, 0, none⟩)) rfl (by kernel_rfl) (by kernel_rfl) (by kernel_rfl) (fun _ _ _ h => h) (Or.inl ⟨by rfl, fun w hSw => by obtain ⟨e0, e1⟩ := hSw; go_simp⟩) (by assumption) ?_
      simp only [List.getElem_toArray, List.getElem_cons_succ, List.getElem_cons_zero, Act.put, List.setIfInBounds_toArray, List.set_cons_zero, List.set_cons_succ]
      refine wpAnyH_take (i := 8) (v := .pointer (some ⟨g, 1, none⟩)) rfl (by kernel_rfl) (by kernel_rfl) (by kernel_rfl) (fun _ _ _ h => h) (Or.inl ⟨by rfl, fun w hSw => by obtain ⟨e0, e1⟩ := hSw; go_simp⟩) (by assumption) ?_
      simp only [List.getElem_toArray, List.getElem_cons_succ, List.getElem_cons_zero, Act.put, List.setIfInBounds_toArray, List.set_cons_zero, List.set_cons_succ]
      refine wpAnyH_take (i := 9) (v := .int .i64 (b : Int)) rfl (by kernel_rfl) (by kernel_rfl) (by kernel_rfl) (fun _ _ _ h => h) (Or.inl ⟨by rfl, fun w hSw => by obtain ⟨e0, e1⟩ := hSw; go_simp⟩) (by assumption) ?_
      simp only [List.getElem_toArray, List.getElem_cons_succ, List.getElem_cons_zero, Act.put, List.setIfInBounds_toArray, List.set_cons_zero, List.set_cons_succ]
      refine wpAnyH_take (i := 10) (v := .string (s.extract a b)) rfl (by kernel_rfl) (by kernel_rfl) (by kernel_rfl) (fun _ _ _ h => h) (Or.inl ⟨by rfl, fun w hSw => by obtain ⟨e0, e1⟩ := hSw; go_simp⟩) (by assumption) ?_
      simp only [List.getElem_toArray, List.getElem_cons_succ, List.getElem_cons_zero, Act.put, List.setIfInBounds_toArray, List.set_cons_zero, List.set_cons_succ]
      refine wpAnyH_take (i := 12) (v := .int .i64 (a : Int)) rfl (by kernel_rfl) (by kernel_rfl) (by kernel_rfl) (fun _ _ _ h => h) (Or.inl ⟨by rfl, fun w hSw => by obtain ⟨e0, e1⟩ := hSw; go_simp⟩) (by assumption) ?_
      simp only [List.getElem_toArray, List.getElem_cons_succ, List.getElem_cons_zero, Act.put, List.setIfInBounds_toArray, List.set_cons_zero, List.set_cons_succ]
      refine wpAnyH_ready (rs := [11]) (by kernel_rfl) (by simp) (AllReadyH.cons rfl (fun K hK => ?_) AllReadyH.nil)
      refine step_call1C (by rfl) 54 callClone (.tmp 39) _ rfl (v := .string (s.extract a b)) rfl HCL.out ?_
      rintro e w4 ⟨rfl, hb4⟩
      have HR4 := hide (HR3.out.keep hb4)
      refine ⟨_, rfl, ?_⟩
      refine hK.out _ _ (⟨HR4.out.cells.1, HR4.out.cells.2.1⟩) (fun hHeld2 => ?_)
      clear hK K
      simp only [List.getElem_toArray, List.getElem_cons_succ, List.getElem_cons_zero, Act.put, List.setIfInBounds_toArray, List.set_cons_zero, List.set_cons_succ]
      refine wpAnyH_ready (rs := [13]) (by kernel_rfl) (by simp) (AllReadyH.cons rfl (fun K hK => ?_) AllReadyH.nil)
      refine step_call4C (by rfl) 53 callAdd (.tmp 29) (.const (.int .i64 1)) (.tmp 40) (.tmp 41) _ rfl (v := .pointer (some ⟨g, 0, none⟩)) (u := .int .i64 1) (z := .string (s.extract a b)) (q := .int .i64 (a : Int)) rfl rfl rfl rfl (HAD.out w4 HR4.out) ?_
      rintro e w5 ⟨rfl, v5, hr5⟩
      have HR5 := hide hr5
      refine ⟨_, rfl, ?_⟩
      refine hK.out _ _ (⟨HR5.out.cells.1, HR5.out.cells.2.1⟩) (fun hHeld3 => ?_)
      clear hK K
      simp only [List.getElem_toArray, List.getElem_cons_succ, List.getElem_cons_zero, Act.put, List.setIfInBounds_toArray, List.set_cons_zero, List.set_cons_succ]
      refine wpAnyH_done (by kernel_rfl) ?_ _
      clear hHeld hHeld2 hHeld3 hr5 HAD HCL c0 c1
      go_wp2
      go_ret
      refine Or.inl ⟨rfl, b, _, v5, by omega, hbs, HR5.out, ?_⟩
      have e := HW.out out ln (a - st) (bh - st)
      rw [show a - st + (b - a) = b - st by omega] at e
      exact e
end
end Go.Proofs.Ytcdilcjgmcamcab

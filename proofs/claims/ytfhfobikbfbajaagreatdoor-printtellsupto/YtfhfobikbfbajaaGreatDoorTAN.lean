/- Texts appended to bytes; the document's Quote. What is changed, by the blocks' types. Bytes that are written behind one another in a row of the call's own. The document's laid: a length ahead of bytes. -/
import Derived.Test.YtfhfobikbfbajaaGreatDoorTAM
import Derived.Lib.AppendStr
import Derived.Test.YtfhfobikbfbajaaGreatDoorTAB
import Derived.Test.YtfhfobikbfbajaaGreatDoorTAJ
import Derived.Test.YtfhfobikbfbajaaGreatDoorTAG
namespace Go.Proofs.YtfhfobikbfbajaaGreatDoor
open Go.RowKit Go.Maps

section
variable {ops : Array Oper} {rest : List Oper} {o : Oper} {a : Act} {Q : Exit → Act → World → Prop} {w : World} {K : Act → World → Prop} {E : Prop}
theorem iL_mem (l : List UInt8) : ∀ x ∈ iL l, 0 ≤ x ∧ x ≤ 255 := by
  intro x hx
  unfold iL at hx
  obtain ⟨c, _, rfl⟩ := List.mem_map.1 hx
  have := u8_lt c
  omega
theorem strCells_iL (s : ByteArray) : Lib.strCells s = (iL s.data.toList).map (Value.int .u8) := by
  unfold Lib.strCells iL; rw [List.map_map]; rfl
theorem wp_appSt (x y : Operand) (ho : o.op = .call { callee := .builtin .append, args := #[x, y], argTypes := #[65, 9] }) {B : Nat} {v : Value} {l : List UInt8} {s : ByteArray} (hx : a.eval x = v) (hown : Own8 w B v (iL l)) (hy : a.eval y = .string s)
    (hl : l.length + s.size ≤ 140737488355328) (hB : B ≤ w.heap.size) (hk : ∀ v' w', Own8 w' B v' (iL (l ++ s.data.toList)) → w.grownBy w' v.ownBlock → K (a.put o.dst v') w') : o.wp Tryz.prog a w K Q := by
  obtain ⟨i0, hi, hz0, hz1, hz2⟩ := info_parts info8
  obtain ⟨v', w', hr, h2, h3, h4⟩ := Lib.run_append_own_string (P := Tryz.prog) w B 65 9 o.type 5 i0 Tryz.underlying65 Tryz.underlying9 hi hz0 hz1 hz2 v (iL l).length ((iL l).map (Value.int .u8)) hown.1 s (by rw [iL_len]; unfold maxLen; omega) (by rw [iL_len]; exact hl) hB
  unfold Oper.wp execOp
  simp only [ho, resolve, invoke, builtin, Sem.run_bind, Sem.run_pure, Result.andThen_ok, List.map_toArray, List.map_cons, List.map_nil, hx, hy, hr]
  refine hk v' w' ⟨?_, iL_mem _⟩ h3
  rw [iL_app, List.length_append, List.map_append, ← strCells_iL]
  rw [show (iL s.data.toList).length = s.size by rw [iL_len, len_data]]
  exact h2
theorem wpList_appSt (hw : Region.wanted o (yielded ops a.tmps) = true) (x y : Operand) (ho : o.op = .call { callee := .builtin .append, args := #[x, y], argTypes := #[65, 9] }) {B : Nat} {v : Value} {l : List UInt8} {s : ByteArray} (hx : a.eval x = v) (hown : Own8 w B v (iL l)) (hy : a.eval y = .string s)
    (hl : l.length + s.size ≤ 140737488355328) (hB : B ≤ w.heap.size) (hk : ∀ v' w', Own8 w' B v' (iL (l ++ s.data.toList)) → w.grownBy w' v.ownBlock → wpList Tryz.prog ops Q rest (a.put o.dst v') w') : wpList Tryz.prog ops Q (o :: rest) a w :=
  wpList_on hw fun _ hK => wp_appSt x y ho hx hown hy hl hB fun v' w' h1 h2 => hK _ _ (hk v' w' h1 h2)
theorem step_appB (hw : Region.wanted o (yielded ops a.tmps) = true) (x y : Operand) (ho : o.op = .call { callee := .builtin .append, args := #[x, y], argTypes := #[65, 65] }) {B : Nat} {v u : Value} {xs ys : List Int} (hx : a.eval x = v) (hown : Own8 w B v xs) (hy : a.eval y = u) (hys : IsB w u ys)
    (hl : xs.length + ys.length ≤ 140737488355328) (hB : B ≤ w.heap.size) (hk : ∀ v' w', Own8 w' B v' (xs ++ ys) → w.grownBy w' v.ownBlock → K (a.put o.dst v') w') : if Region.wanted o (yielded ops a.tmps) = true then Oper.wp Tryz.prog o a w K Q else E := by
  rw [if_pos hw]
  exact wp_appB x y ho hx hown hy hys hl hB hk
end
theorem isB_two (w : World) (c d : UInt8) : IsB (w.alloc (.cells #[.int .u8 (c.toNat : Int), .int .u8 (d.toNat : Int)] 5)) (.slice (some ⟨w.heap.size, 0, none⟩) 2 2) (iL [c, d]) :=
  isB_lit w (iL [c, d]) (iL_mem _) (by simp [iL])
theorem isB_four (w : World) (c d e f : UInt8) : IsB (w.alloc (.cells #[.int .u8 (c.toNat : Int), .int .u8 (d.toNat : Int), .int .u8 (e.toNat : Int), .int .u8 (f.toNat : Int)] 5)) (.slice (some ⟨w.heap.size, 0, none⟩) 4 4) (iL [c, d, e, f]) :=
  isB_lit w (iL [c, d, e, f]) (iL_mem _) (by simp [iL])
theorem own8_one (w : World) (c : UInt8) : Own8 (w.alloc (.cells #[.int .u8 (c.toNat : Int)] 5)) w.heap.size (.slice (some ⟨w.heap.size, 0, none⟩) 1 1) (iL [c]) := by
  refine ⟨⟨by simp [iL], Or.inr ⟨w.heap.size, 1, #[.int .u8 (c.toNat : Int)], rfl, Nat.le_refl _, heap_alloc_last w _, by simp [iL], by decide, rfl, rfl⟩⟩, iL_mem _⟩
set_option maxRecDepth 100000 in
set_option maxHeartbeats 4000000 in
theorem rquote_calls (s : ByteArray) (hs : s.size ≤ 100000000000) (w : World) : Calls Tryz.prog 110 #[.string s] w fun e w' => e = .returned (.string (bs (quoteL s.data.toList))) ∧ Below w.heap.size w w' := by
  have HQE := hide (qAcc_end s)
  generalize quoteL s.data.toList = QL at *
  go_enter Tryz.func110, Tryz.ntmps110
  go_wp2_with fail
  go_loopw [3, 4] (fun v8 iv wq => ∃ i : Nat, i ≤ s.size ∧ iv = .int .i64 (i : Int) ∧ Hid (Own8 wq w.heap.size v8 (iL (qAcc s i))) ∧ Below w.heap.size w wq) (fun _ iv _ => s.size - (intOf iv).toNat)
  case atStart => exact ⟨0, by omega, rfl, own8_one w 34, (Below.refl w.heap.size w).alloc (Nat.le_refl _) _⟩
  case round =>
    rename World => w3
    obtain ⟨i, hin, rfl, HB, hbw⟩ := hrel
    obtain ⟨a8, n8, c8, hv8⟩ := HB.out.shape
    subst hv8
    have hlq := qAcc_len s i
    have HLQ := hide hlq
    by_cases hlt : i < s.size
    · have hI : (i : Int) < (s.size : Int) := by omega
      have hidx := kindex_str s i hlt
      have HSTP := hide (qAcc_step hlt)
      have hc256 := u8_lt (lk s i)
      by_cases h1 : (lk s i).toNat = 34 ∨ (lk s i).toNat = 92
      · have HE : Hid (qAcc s (i + 1) = qAcc s i ++ [92, lk s i]) := by
          show _ = _
          rw [HSTP.out]; unfold escB; rw [if_pos h1]
        generalize hcc : lk s i = c at *
        clear hcc HSTP hlq
        have HO3 := hide (HB.out.below ((Below.refl w3.heap.size w3).alloc (Nat.le_refl _) (.cells #[.int .u8 ((92 : UInt8).toNat : Int), .int .u8 (c.toNat : Int)] 5)))
        have hb3 := hbw.trans (((Below.refl w3.heap.size w3).alloc (Nat.le_refl _) (.cells #[.int .u8 ((92 : UInt8).toNat : Int), .int .u8 (c.toNat : Int)] 5)).mono hbw.size)
        have hI3 := isB_two w3 92 c
        have hsz3 := hb3.size
        have hln3 : (iL (qAcc s i)).length + (iL [92, c]).length ≤ 140737488355328 := by have := HLQ.out; rw [iL_len, iL_len]; simp; omega
        rcases h1 with h1 | h1
        all_goals (
          have b1 : ((c.toNat : Int) == 34) = decide (c.toNat = 34) := u8_eq c 34
          have b2 : ((c.toNat : Int) == 92) = decide (c.toNat = 92) := u8_eq c 92
          first | rw [decide_eq_true h1] at b1 | rw [decide_eq_true h1] at b2
          first | rw [decide_eq_true h1] at b2 | rw [decide_eq_false (by omega)] at b1 | skip
          clear h1
          go_wp2_with (first | (at_builtin; refine wpList_appB rfl (.tmp 27) (.tmp 29) rfl rfl HO3.out rfl hI3 hln3 hsz3 ?_; intro v6 w6 hO6 hg6; (have hb6 := below8 hb3 HO3.out hg6); (have HO6 := hide hO6); (obtain ⟨a6, n6, c6, hv6⟩ := hO6.shape); subst hv6; clear hO6 hg6 hI3 hln3 hsz3 hb3))
          rw [← iL_app, ← HE.out] at HO6
          go_roundw
          case rel => exact ⟨i + 1, by omega, by go_num, HO6, hb6⟩
          case measure => simp [intOf]; omega)
      · have b1 : (((lk s i).toNat : Int) == 34) = false := by simp; omega
        have b2 : (((lk s i).toNat : Int) == 92) = false := by simp; omega
        by_cases h10 : (lk s i).toNat = 10
        · have b10 : (((lk s i).toNat : Int) == 10) = true := by rw [h10]; rfl
          have HE : Hid (qAcc s (i + 1) = qAcc s i ++ [92, 110]) := by
            show _ = _
            rw [HSTP.out]; unfold escB; rw [if_neg h1, if_pos h10]
          generalize lk s i = c at *
          clear h1 h10 HSTP hlq
          have HO3 := hide (HB.out.below ((Below.refl w3.heap.size w3).alloc (Nat.le_refl _) (.cells #[.int .u8 ((92 : UInt8).toNat : Int), .int .u8 ((110 : UInt8).toNat : Int)] 5)))
          have hb3 := hbw.trans (((Below.refl w3.heap.size w3).alloc (Nat.le_refl _) (.cells #[.int .u8 ((92 : UInt8).toNat : Int), .int .u8 ((110 : UInt8).toNat : Int)] 5)).mono hbw.size)
          have hI3 := isB_two w3 92 110
          have hsz3 := hb3.size
          have hln3 : (iL (qAcc s i)).length + (iL [92, 110]).length ≤ 140737488355328 := by have := HLQ.out; rw [iL_len, iL_len]; simp; omega
          go_wp2_with (first | (at_builtin; refine wpList_appB rfl (.tmp 34) (.tmp 35) rfl rfl HO3.out rfl hI3 hln3 hsz3 ?_; intro v6 w6 hO6 hg6; (have hb6 := below8 hb3 HO3.out hg6); (have HO6 := hide hO6); (obtain ⟨a6, n6, c6, hv6⟩ := hO6.shape); subst hv6; clear hO6 hg6 hI3 hln3 hsz3 hb3))
          rw [← iL_app, ← HE.out] at HO6
          go_roundw
          case rel => exact ⟨i + 1, by omega, by go_num, HO6, hb6⟩
          case measure => simp [intOf]; omega
        · have b10 : (((lk s i).toNat : Int) == 10) = false := by simp; omega
          by_cases h3 : (lk s i).toNat < 32 ∨ 126 < (lk s i).toNat
          · have HE : Hid (qAcc s (i + 1) = qAcc s i ++ [92, 120, hexd ((lk s i).toNat / 16), hexd ((lk s i).toNat % 16)]) := by
              show _ = _
              rw [HSTP.out]; unfold escB; rw [if_neg h1, if_neg h10, if_pos h3]
            generalize lk s i = c at *
            clear h1 h10 HSTP hlq
            obtain ⟨x, hx⟩ : ∃ x, x = c.toNat / 16 := ⟨_, rfl⟩
            obtain ⟨y, hy⟩ : ∃ y, y = c.toNat % 16 := ⟨_, rfl⟩
            rw [← hx, ← hy] at HE
            have h16 : x < 16 := by omega
            have h17 : y < 16 := by omega
            have j16 : (x : Int) < 16 := by omega
            have j17 : (y : Int) < 16 := by omega
            have hquo : IntKind.u8.wrap ((c.toNat : Int) / 16) = (x : Int) := by rw [IntKind.wrap_u8]; omega
            have hrem : (c.toNat : Int).tmod 16 = (y : Int) := by rw [Int.tmod_eq_emod_of_nonneg (by omega)]; omega
            have e1 := digE x h16
            have e2 := digE y h17
            clear hx hy
            have HO3 := hide (HB.out.below ((Below.refl w3.heap.size w3).drew.alloc (Nat.le_refl _) (.cells #[.int .u8 ((92 : UInt8).toNat : Int), .int .u8 ((120 : UInt8).toNat : Int), .int .u8 ((hexd x).toNat : Int), .int .u8 ((hexd y).toNat : Int)] 5)))
            have hb3 := hbw.trans (((Below.refl w3.heap.size w3).drew.alloc (Nat.le_refl _) (.cells #[.int .u8 ((92 : UInt8).toNat : Int), .int .u8 ((120 : UInt8).toNat : Int), .int .u8 ((hexd x).toNat : Int), .int .u8 ((hexd y).toNat : Int)] 5)).mono hbw.size)
            have hI3 := isB_four w3.drew 92 120 (hexd x) (hexd y)
            have hsz3 := hb3.size
            have hln3 : (iL (qAcc s i)).length + (iL [92, 120, hexd x, hexd y]).length ≤ 140737488355328 := by have := HLQ.out; rw [iL_len, iL_len]; simp; omega
            by_cases h32 : c.toNat < 32
            · have i32 : (c.toNat : Int) < 32 := by omega
              clear h3 h32
              go_wp2_with fail
              refine wp_region_held_drew (S := fun _ => True) (by kernel_rfl) (trivial) (fun hHeld => ?_)
              refine wpAnyH_take (i := 0) (v := .slice (a8) n8 c8) rfl (by kernel_rfl) (by kernel_rfl) (by kernel_rfl) (fun _ _ _ h => h) (Or.inl ⟨by rfl, fun w hSw => by go_simp⟩) (by assumption) ?_
              simp only [List.getElem_toArray, List.getElem_cons_zero, Act.put, List.setIfInBounds_toArray, List.set_cons_zero, List.set_cons_succ]
              refine wpAnyH_take (i := 1) (v := .int .u8 (c.toNat : Int)) rfl (by kernel_rfl) (by kernel_rfl) (by kernel_rfl) (fun _ _ _ h => h) (Or.inl ⟨by rfl, fun w hSw => by go_simp⟩) (by assumption) ?_
              simp only [List.getElem_toArray, List.getElem_cons_succ, List.getElem_cons_zero, Act.put, List.setIfInBounds_toArray, List.set_cons_zero, List.set_cons_succ]
              refine wpAnyH_take (i := 2) (v := .int .u8 (x : Int)) rfl (by kernel_rfl) (by kernel_rfl) (by kernel_rfl) (fun _ _ _ h => h) (Or.inl ⟨by rfl, fun w hSw => by go_simp⟩) (by assumption) ?_
              simp only [List.getElem_toArray, List.getElem_cons_succ, List.getElem_cons_zero, Act.put, List.setIfInBounds_toArray, List.set_cons_zero, List.set_cons_succ]
              refine wpAnyH_take (i := 3) (v := .int .u8 ((hexd x).toNat : Int)) rfl (by kernel_rfl) (by kernel_rfl) (by kernel_rfl) (fun _ _ _ h => h) (Or.inl ⟨by rfl, fun w hSw => by go_simp⟩) (by assumption) ?_
              simp only [List.getElem_toArray, List.getElem_cons_succ, List.getElem_cons_zero, Act.put, List.setIfInBounds_toArray, List.set_cons_zero, List.set_cons_succ]
              refine wpAnyH_take (i := 4) (v := .int .u8 (c.toNat : Int)) rfl (by kernel_rfl) (by kernel_rfl) (by kernel_rfl) (fun _ _ _ h => h) (Or.inl ⟨by rfl, fun w hSw => by go_simp⟩) (by assumption) ?_
              simp only [List.getElem_toArray, List.getElem_cons_succ, List.getElem_cons_zero, Act.put, List.setIfInBounds_toArray, List.set_cons_zero, List.set_cons_succ]
              refine wpAnyH_take (i := 5) (v := .int .u8 (y : Int)) rfl (by kernel_rfl) (by kernel_rfl) (by kernel_rfl) (fun _ _ _ h => h) (Or.inl ⟨by rfl, fun w hSw => by go_simp⟩) (by assumption) ?_
              simp only [List.getElem_toArray, List.getElem_cons_succ, List.getElem_cons_zero, Act.put, List.setIfInBounds_toArray, List.set_cons_zero, List.set_cons_succ]
              refine wpAnyH_take (i := 6) (v := .int .u8 ((hexd y).toNat : Int)) rfl (by kernel_rfl) (by kernel_rfl) (by kernel_rfl) (fun _ _ _ h => h) (Or.inl ⟨by rfl, fun w hSw => by go_simp⟩) (by assumption) ?_
              simp only [List.getElem_toArray, List.getElem_cons_succ, List.getElem_cons_zero, Act.put, List.setIfInBounds_toArray, List.set_cons_zero, List.set_cons_succ]
              refine wpAnyH_ready (rs := [7]) (by kernel_rfl) (by simp) (AllReadyH.cons rfl (fun K hK => ?_) AllReadyH.nil)
              refine step_run (by rfl) (v := .slice (some ⟨w3.drew.heap.size, 0, none⟩) 4 4) (w' := w3.drew.alloc (.cells #[.int .u8 ((92 : UInt8).toNat : Int), .int .u8 ((120 : UInt8).toNat : Int), .int .u8 ((hexd x).toNat : Int), .int .u8 ((hexd y).toNat : Int)] 5)) (by kernel_rfl) ?_
              refine hK.out _ _ trivial (fun hHeld2 => ?_)
              clear hK K
              simp only [List.getElem_toArray, List.getElem_cons_succ, List.getElem_cons_zero, Act.put, List.setIfInBounds_toArray, List.set_cons_zero, List.set_cons_succ]
              refine wpAnyH_ready (rs := [8]) (by kernel_rfl) (by simp) (AllReadyH.cons rfl (fun K hK => ?_) AllReadyH.nil)
              refine step_appB (by rfl) (.tmp 44) (.tmp 51) rfl rfl HO3.out rfl hI3 hln3 hsz3 ?_
              intro v6 w6 hO6 hg6
              have hb6 := below8 hb3 HO3.out hg6
              have HO6 := hide hO6
              obtain ⟨a6, n6, c6, hv6⟩ := hO6.shape
              subst hv6
              clear hO6 hg6 hI3 hln3 hsz3 hb3
              refine hK.out _ _ trivial (fun hHeld3 => ?_)
              clear hK K
              simp only [List.getElem_toArray, List.getElem_cons_succ, List.getElem_cons_zero, Act.put, List.setIfInBounds_toArray, List.set_cons_zero, List.set_cons_succ]
              refine wpAnyH_take (i := 9) (v := .slice (a6) n6 c6) rfl (by kernel_rfl) (by kernel_rfl) (by kernel_rfl) (fun _ _ _ h => h) (Or.inl ⟨by rfl, fun w hSw => by go_simp⟩) (by assumption) ?_
              simp only [List.getElem_toArray, List.getElem_cons_succ, List.getElem_cons_zero, Act.put, List.setIfInBounds_toArray, List.set_cons_zero, List.set_cons_succ]
              refine wpAnyH_done (by kernel_rfl) ?_ _
              rw [← iL_app, ← HE.out] at HO6
              clear hHeld hHeld2 hHeld3 e1 e2
              go_wp2
              go_roundw
              case rel => exact ⟨i + 1, by omega, by go_num, HO6, hb6⟩
              case measure => simp [intOf]; omega
            · have i32 : ¬ (c.toNat : Int) < 32 := by omega
              have i126 : (126 : Int) < (c.toNat : Int) := by omega
              clear h3 h32
              go_wp2_with fail
              refine wp_region_held_drew (S := fun _ => True) (by kernel_rfl) (trivial) (fun hHeld => ?_)
              refine wpAnyH_take (i := 0) (v := .slice (a8) n8 c8) rfl (by kernel_rfl) (by kernel_rfl) (by kernel_rfl) (fun _ _ _ h => h) (Or.inl ⟨by rfl, fun w hSw => by go_simp⟩) (by assumption) ?_
              simp only [List.getElem_toArray, List.getElem_cons_zero, Act.put, List.setIfInBounds_toArray, List.set_cons_zero, List.set_cons_succ]
              refine wpAnyH_take (i := 1) (v := .int .u8 (c.toNat : Int)) rfl (by kernel_rfl) (by kernel_rfl) (by kernel_rfl) (fun _ _ _ h => h) (Or.inl ⟨by rfl, fun w hSw => by go_simp⟩) (by assumption) ?_
              simp only [List.getElem_toArray, List.getElem_cons_succ, List.getElem_cons_zero, Act.put, List.setIfInBounds_toArray, List.set_cons_zero, List.set_cons_succ]
              refine wpAnyH_take (i := 2) (v := .int .u8 (x : Int)) rfl (by kernel_rfl) (by kernel_rfl) (by kernel_rfl) (fun _ _ _ h => h) (Or.inl ⟨by rfl, fun w hSw => by go_simp⟩) (by assumption) ?_
              simp only [List.getElem_toArray, List.getElem_cons_succ, List.getElem_cons_zero, Act.put, List.setIfInBounds_toArray, List.set_cons_zero, List.set_cons_succ]
              refine wpAnyH_take (i := 3) (v := .int .u8 ((hexd x).toNat : Int)) rfl (by kernel_rfl) (by kernel_rfl) (by kernel_rfl) (fun _ _ _ h => h) (Or.inl ⟨by rfl, fun w hSw => by go_simp⟩) (by assumption) ?_
              simp only [List.getElem_toArray, List.getElem_cons_succ, List.getElem_cons_zero, Act.put, List.setIfInBounds_toArray, List.set_cons_zero, List.set_cons_succ]
              refine wpAnyH_take (i := 4) (v := .int .u8 (c.toNat : Int)) rfl (by kernel_rfl) (by kernel_rfl) (by kernel_rfl) (fun _ _ _ h => h) (Or.inl ⟨by rfl, fun w hSw => by go_simp⟩) (by assumption) ?_
              simp only [List.getElem_toArray, List.getElem_cons_succ, List.getElem_cons_zero, Act.put, List.setIfInBounds_toArray, List.set_cons_zero, List.set_cons_succ]
              refine wpAnyH_take (i := 5) (v := .int .u8 (y : Int)) rfl (by kernel_rfl) (by kernel_rfl) (by kernel_rfl) (fun _ _ _ h => h) (Or.inl ⟨by rfl, fun w hSw => by go_simp⟩) (by assumption) ?_
              simp only [List.getElem_toArray, List.getElem_cons_succ, List.getElem_cons_zero, Act.put, List.setIfInBounds_toArray, List.set_cons_zero, List.set_cons_succ]
              refine wpAnyH_take (i := 6) (v := .int .u8 ((hexd y).toNat : Int)) rfl (by kernel_rfl) (by kernel_rfl) (by kernel_rfl) (fun _ _ _ h => h) (Or.inl ⟨by rfl, fun w hSw => by go_simp⟩) (by assumption) ?_
              simp only [List.getElem_toArray, List.getElem_cons_succ, List.getElem_cons_zero, Act.put, List.setIfInBounds_toArray, List.set_cons_zero, List.set_cons_succ]
              refine wpAnyH_ready (rs := [7]) (by kernel_rfl) (by simp) (AllReadyH.cons rfl (fun K hK => ?_) AllReadyH.nil)
              refine step_run (by rfl) (v := .slice (some ⟨w3.drew.heap.size, 0, none⟩) 4 4) (w' := w3.drew.alloc (.cells #[.int .u8 ((92 : UInt8).toNat : Int), .int .u8 ((120 : UInt8).toNat : Int), .int .u8 ((hexd x).toNat : Int), .int .u8 ((hexd y).toNat : Int)] 5)) (by kernel_rfl) ?_
              refine hK.out _ _ trivial (fun hHeld2 => ?_)
              clear hK K
              simp only [List.getElem_toArray, List.getElem_cons_succ, List.getElem_cons_zero, Act.put, List.setIfInBounds_toArray, List.set_cons_zero, List.set_cons_succ]
              refine wpAnyH_ready (rs := [8]) (by kernel_rfl) (by simp) (AllReadyH.cons rfl (fun K hK => ?_) AllReadyH.nil)
              refine step_appB (by rfl) (.tmp 44) (.tmp 51) rfl rfl HO3.out rfl hI3 hln3 hsz3 ?_
              intro v6 w6 hO6 hg6
              have hb6 := below8 hb3 HO3.out hg6
              have HO6 := hide hO6
              obtain ⟨a6, n6, c6, hv6⟩ := hO6.shape
              subst hv6
              clear hO6 hg6 hI3 hln3 hsz3 hb3
              refine hK.out _ _ trivial (fun hHeld3 => ?_)
              clear hK K
              simp only [List.getElem_toArray, List.getElem_cons_succ, List.getElem_cons_zero, Act.put, List.setIfInBounds_toArray, List.set_cons_zero, List.set_cons_succ]
              refine wpAnyH_take (i := 9) (v := .slice (a6) n6 c6) rfl (by kernel_rfl) (by kernel_rfl) (by kernel_rfl) (fun _ _ _ h => h) (Or.inl ⟨by rfl, fun w hSw => by go_simp⟩) (by assumption) ?_
              simp only [List.getElem_toArray, List.getElem_cons_succ, List.getElem_cons_zero, Act.put, List.setIfInBounds_toArray, List.set_cons_zero, List.set_cons_succ]
              refine wpAnyH_done (by kernel_rfl) ?_ _
              rw [← iL_app, ← HE.out] at HO6
              clear hHeld hHeld2 hHeld3 e1 e2
              go_wp2
              go_roundw
              case rel => exact ⟨i + 1, by omega, by go_num, HO6, hb6⟩
              case measure => simp [intOf]; omega
          · have HE : Hid (qAcc s (i + 1) = qAcc s i ++ [lk s i]) := by
              show _ = _
              rw [HSTP.out]; unfold escB; rw [if_neg h1, if_neg h10, if_neg h3]
            have i32 : ¬ ((lk s i).toNat : Int) < 32 := by omega
            have i126 : ¬ (126 : Int) < ((lk s i).toNat : Int) := by omega
            generalize lk s i = c at *
            clear h1 h10 HSTP h3 hlq
            have HO3 := hide (HB.out.below ((Below.refl w3.heap.size w3).alloc (Nat.le_refl _) (.cells #[.int .u8 (c.toNat : Int)] 5)))
            have hb3 := hbw.trans (((Below.refl w3.heap.size w3).alloc (Nat.le_refl _) (.cells #[.int .u8 (c.toNat : Int)] 5)).mono hbw.size)
            have hI3 := isB_one w3 c
            have hsz3 := hb3.size
            have hln3 : (iL (qAcc s i)).length + (iL [c]).length ≤ 140737488355328 := by have := HLQ.out; rw [iL_len, iL_len]; simp; omega
            go_wp2_with (first | (at_builtin; refine wpList_appB rfl (.tmp 16) (.tmp 18) rfl rfl HO3.out rfl hI3 hln3 hsz3 ?_; intro v6 w6 hO6 hg6; (have hb6 := below8 hb3 HO3.out hg6); (have HO6 := hide hO6); (obtain ⟨a6, n6, c6, hv6⟩ := hO6.shape); subst hv6; clear hO6 hg6 hI3 hln3 hsz3 hb3))
            rw [← iL_app, ← HE.out] at HO6
            go_roundw
            case rel => exact ⟨i + 1, by omega, by go_num, HO6, hb6⟩
            case measure => simp [intOf]; omega
    · have hI : ¬ (i : Int) < (s.size : Int) := by omega
      have hie : i = s.size := by omega
      have HE : Hid (qAcc s i ++ [34] = QL) := by show _ = _; rw [hie]; exact HQE.out
      clear hie
      have HO3 := hide (HB.out.below ((Below.refl w3.heap.size w3).alloc (Nat.le_refl _) (.cells #[.int .u8 ((34 : UInt8).toNat : Int)] 5)))
      have hb3 := hbw.trans (((Below.refl w3.heap.size w3).alloc (Nat.le_refl _) (.cells #[.int .u8 ((34 : UInt8).toNat : Int)] 5)).mono hbw.size)
      have hI3 := isB_one w3 34
      have hsz3 := hb3.size
      have hln3 : (iL (qAcc s i)).length + (iL [34]).length ≤ 140737488355328 := by have := HLQ.out; rw [iL_len, iL_len]; simp; omega
      clear hlq
      go_wp2_with (first | (at_builtin; refine wpList_appB rfl (.tmp 53) (.tmp 54) rfl rfl HO3.out rfl hI3 hln3 hsz3 ?_; intro v6 w6 hO6 hg6; (have hb6 := below8 hb3 HO3.out hg6); (have hcv := conv_isB hO6.isB); rw [← iL_app, HE.out, mkS_iL] at hcv; (obtain ⟨a6, n6, c6, hv6⟩ := hO6.shape); subst hv6; clear hO6 hg6 hI3 hln3 hsz3 hb3))
      go_ret
      exact ⟨rfl, hb6⟩
end Go.Proofs.YtfhfobikbfbajaaGreatDoor

namespace Go.Proofs.YtfhfobikbfbajaaGreatDoor
open Go.RowKit Go.Maps

/-- Nothing is changed but blocks from B on of the types T, and new ones. -/
structure Ch (B : Nat) (T : TypeId → Prop) (w w' : World) : Prop where
  os : w'.os = w.os
  tape : w'.tape = w.tape
  output : w'.output = w.output
  size : w.heap.size ≤ w'.heap.size
  block : ∀ k, k < w.heap.size → (k < B ∨ ∀ cs t m, w.heap[k]? = some (.cells cs t m) → ¬ T t) → w'.heap[k]? = w.heap[k]?
theorem Ch.refl (B : Nat) (T : TypeId → Prop) (w : World) : Ch B T w w := ⟨rfl, rfl, rfl, Nat.le_refl _, fun _ _ _ => rfl⟩
theorem Ch.trans {B : Nat} {T : TypeId → Prop} {a b c : World} (h : Ch B T a b) (k : Ch B T b c) : Ch B T a c :=
  ⟨k.os.trans h.os, k.tape.trans h.tape, k.output.trans h.output, Nat.le_trans h.size k.size, fun i hi ho => (k.block i (Nat.lt_of_lt_of_le hi h.size) (by rw [h.block i hi ho]; exact ho)).trans (h.block i hi ho)⟩
theorem Ch.of_below {B : Nat} {T : TypeId → Prop} {w w' : World} (h : Below w.heap.size w w') : Ch B T w w' := ⟨h.os, h.tape, h.output, h.size, fun k hk _ => h.block k hk⟩
theorem Ch.below {B : Nat} {T : TypeId → Prop} {w w' : World} (h : Ch B T w w') (hB : B ≤ w.heap.size) : Below B w w' := ⟨h.os, h.tape, h.output, h.size, fun k hk => h.block k (by omega) (Or.inl hk)⟩
theorem Ch.of_grown {B g : Nat} {T : TypeId → Prop} {w w' : World} {cs : Array Value} {t : TypeId} {m : Nat × Nat} (hg : w.grownBy w' (some g)) (hb : B ≤ g) (h : w.heap[g]? = some (.cells cs t m)) (ht : T t) : Ch B T w w' :=
  ⟨hg.os, hg.tape, hg.output, hg.size, fun k hk ho => hg.block k hk (fun e => by
    injection e with e
    subst e
    rcases ho with ho | ho
    · omega
    · exact ho _ _ _ h ht)⟩
theorem Ch.of_owns {B b : Nat} {T : TypeId → Prop} {w w' : World} {t : TypeId} {s n : Nat} {v : Value} {cs : List Value} (h : w.ownsRow b t s v n cs) (hb : B ≤ b) (hg : w.grownBy w' v.ownBlock) (ht : T t) : Ch B T w w' := by
  rcases h.2 with ⟨rfl, _⟩ | ⟨g, cap, cur, rfl, hb2, hgg, _⟩
  · exact Ch.of_below ⟨hg.os, hg.tape, hg.output, hg.size, fun k hk => hg.block k hk (fun e => by cases e)⟩
  · exact Ch.of_grown hg (Nat.le_trans hb hb2) hgg ht
theorem Ch.mono {B B' : Nat} {T T' : TypeId → Prop} {w w' : World} (h : Ch B T w w') (hb : B' ≤ B) (ht : ∀ t, T t → T' t) : Ch B' T' w w' :=
  ⟨h.os, h.tape, h.output, h.size, fun k hk ho => h.block k hk (ho.imp (fun h => Nat.lt_of_lt_of_le h hb) fun h cs t m e hT => h cs t m e (ht t hT))⟩
theorem Ch.cells {B g : Nat} {T : TypeId → Prop} {w w' : World} {cs : Array Value} {t : TypeId} {m : Nat × Nat} (hc : Ch B T w w') (h : w.heap[g]? = some (.cells cs t m)) (ht : ¬ T t) : w'.heap[g]? = some (.cells cs t m) := by
  rw [hc.block g (Array.getElem?_eq_some_iff.1 h).1 (Or.inr fun cs' t' m' e => by
    rw [h] at e
    simp only [Option.some.injEq, Obj.cells.injEq] at e
    exact e.2.1 ▸ ht)]
  exact h
theorem Ch.owns {B b : Nat} {T : TypeId → Prop} {w w' : World} {t : TypeId} {s n : Nat} {v : Value} {cs : List Value} (hc : Ch B T w w') (h : w.ownsRow b t s v n cs) (ht : ¬ T t) : w'.ownsRow b t s v n cs := by
  refine ⟨h.1, ?_⟩
  rcases h.2 with hn | ⟨g, cap, cur, rfl, hb, hgg, rest⟩
  · exact .inl hn
  · exact .inr ⟨g, cap, cur, rfl, hb, hc.cells hgg ht, rest⟩
theorem Arr.ch {w w' : World} {g B : Nat} {t : TypeId} {T : TypeId → Prop} {cs : List Value} (h : Arr w g t cs) (hc : Ch B T w w') (ht : ¬ T t) : Arr w' g t cs := hc.cells h ht
/-- Bytes alone. -/
def U8 (t : TypeId) : Prop := t = 5
theorem Own8.ch {w w' : World} {B : Nat} {v : Value} {xs : List Int} (h : Own8 w B v xs) (hg : w.grownBy w' v.ownBlock) : Ch B U8 w w' := Ch.of_owns h.1 (Nat.le_refl _) hg rfl
theorem belowCh {B : Nat} {T : TypeId → Prop} {a w w' : World} (h : Below B a w) (hc : Ch B T w w') (hB : B ≤ w.heap.size) : Below B a w' := h.trans (hc.below hB)
end Go.Proofs.YtfhfobikbfbajaaGreatDoor

namespace Go.Proofs.YtfhfobikbfbajaaGreatDoor
open Go.RowKit Go.Maps

/-- So much is written by now; nothing but bytes from w's end on was changed. -/
structure Bw (w W0 W : World) (v : Value) (l : List UInt8) : Prop where
  own : Own8 W w.heap.size v (iL l)
  ch : Ch w.heap.size U8 W0 W
  old : Below w.heap.size w W0
section
variable {w W0 W W' : World} {v v' : Value} {l l' : List UInt8}
theorem Bw.base (h : Bw w W0 W v l) : Below w.heap.size w W := belowCh h.old h.ch h.old.size
theorem Bw.below (h : Bw w W0 W v l) (hb : Below W.heap.size W W') : Bw w W0 W' v l := ⟨h.own.below hb, h.ch.trans (Ch.of_below hb), h.old⟩
theorem Bw.step (h : Bw w W0 W v l) (ho : Own8 W' w.heap.size v' (iL l')) (hc : Ch w.heap.size U8 W W') : Bw w W0 W' v' l' := ⟨ho, h.ch.trans hc, h.old⟩
theorem Bw.join {W1 : World} (h : Bw w W0 W1 v l) (k : Bw w W1 W v' l') : Bw w W0 W v' l' := ⟨k.own, h.ch.trans k.ch, h.old⟩
theorem Bw.start (h : Below w.heap.size w W) (ho : Own8 W w.heap.size v (iL l)) : Bw w W W v l := ⟨ho, Ch.refl _ _ _, h⟩
end
section
variable {ops : Array Oper} {rest : List Oper} {o : Oper} {a : Act} {Q : Exit → Act → World → Prop} {w W0 W : World} {K : Act → World → Prop} {E : Prop}
theorem wpList_apS (hg : Region.wanted o (yielded ops a.tmps) = true) (x y : Operand) (ho : o.op = .call { callee := .builtin .append, args := #[x, y], argTypes := #[65, 9] }) {v : Value} {l : List UInt8} {s : ByteArray} (hx : a.eval x = v) (h : Bw w W0 W v l) (hy : a.eval y = .string s)
    (hl : l.length + s.size ≤ 100000000000) (hk : ∀ v' W', Bw w W0 W' v' (l ++ byL s) → wpList Tryz.prog ops Q rest (a.put o.dst v') W') : wpList Tryz.prog ops Q (o :: rest) a W :=
  wpList_appSt hg x y ho hx h.own hy (by omega) h.base.size fun v' W' h1 h2 => hk v' W' (h.step h1 (h.own.ch h2))
theorem wpList_apC (c : UInt8) (hg : Region.wanted o (yielded ops a.tmps) = true) (x y : Operand) (ho : o.op = .call { callee := .builtin .append, args := #[x, y], argTypes := #[65, 65] }) {v : Value} {l : List UInt8} {z : Int} (hz : z = (c.toNat : Int)) (hx : a.eval x = v) (h : Bw w W0 W v l) (hy : a.eval y = .slice (some ⟨W.heap.size, 0, none⟩) 1 1)
    (hl : l.length ≤ 100000000000) (hk : ∀ v' W', Bw w W0 W' v' (l ++ [c]) → wpList Tryz.prog ops Q rest (a.put o.dst v') W') : wpList Tryz.prog ops Q (o :: rest) a (W.alloc (.cells #[.int .u8 z] 5)) := by
  subst hz
  have h2 := h.below (jalloc_below W (.cells #[.int .u8 (c.toNat : Int)] 5))
  exact wpList_appB hg x y ho hx h2.own hy (own8_one W c).isB (by rw [iL_len, iL_len]; show l.length + 1 ≤ _; omega) h2.base.size fun v' W' h3 h4 => hk v' W' (h2.step (by rw [iL_app]; exact h3) (h2.own.ch h4))
end
end Go.Proofs.YtfhfobikbfbajaaGreatDoor

namespace Go.Proofs.YtfhfobikbfbajaaGreatDoor
open Go.RowKit Go.Maps

def uvF : Nat → Nat → List UInt8
  | 0, x => [UInt8.ofNat x]
  | f + 1, x => if x < 128 then [UInt8.ofNat x] else UInt8.ofNat (x % 128 + 128) :: uvF f (x / 128)
def uvL (n : Nat) : List UInt8 := uvF 9 n
theorem ofNat_of {x : Nat} (h : x < 256) : (UInt8.ofNat x).toNat = x := by
  rw [UInt8.toNat_ofNat']; omega
theorem iL_uvF : ∀ (f x : Nat), x < 128 ^ (f + 1) → iL (uvF f x) = uB f (x : Int)
  | 0, x, h => by
    simp [uvF, uB, iL, UInt8.toNat_ofNat']
    have : x < 128 := by simpa using h
    omega
  | f + 1, x, h => by
    unfold uvF uB
    by_cases hx : x < 128
    · rw [if_pos hx, if_pos (by omega)]
      simp [iL, UInt8.toNat_ofNat']
      omega
    · rw [if_neg hx, if_neg (by omega)]
      have ih := iL_uvF f (x / 128) (by rw [Nat.pow_succ] at h; exact Nat.div_lt_of_lt_mul (by rw [Nat.mul_comm]; exact h))
      have e : iL (UInt8.ofNat (x % 128 + 128) :: uvF f (x / 128)) = ((UInt8.ofNat (x % 128 + 128)).toNat : Int) :: iL (uvF f (x / 128)) := rfl
      rw [e, ih, ofNat_of (by omega)]
      congr 1
theorem uvF_len : ∀ (f x : Nat), (uvF f x).length ≤ f + 1
  | 0, _ => by simp [uvF]
  | f + 1, x => by
    unfold uvF
    split
    · simp
    · have := uvF_len f (x / 128); simp; omega
theorem uvF_small {f x : Nat} (h : x < 128) : uvF f x = [UInt8.ofNat x] := by
  cases f with
  | zero => rfl
  | succ f => unfold uvF; rw [if_pos h]
/-- So much is written in a row of one's own, and what it was changed by: that row, or a new one. -/
structure Bx (w W0 W : World) (v : Value) (l : List UInt8) (v0 : Value) : Prop where
  own : Own8 W w.heap.size v (iL l)
  sb : Sb W0 W (fun k => v0.ownBlock = some k)
  nw : v.ownBlock = v0.ownBlock ∨ ∃ k, v.ownBlock = some k ∧ W0.heap.size ≤ k
  old : Below w.heap.size w W0
  bo : ∀ k, v0.ownBlock = some k → w.heap.size ≤ k
theorem own8_bo {W : World} {B : Nat} {v : Value} {xs : List Int} (h : Own8 W B v xs) : ∀ k, v.ownBlock = some k → B ≤ k := fun k e => (World.ownsRow.lt h.1 k e).1
theorem infoU8 : (Tryz.prog.info? 5).map (fun i => (i.zero, i.size, i.bytes)) = some (some (.int .u8 0), 1, 1) := by kernel_rfl
section
variable {w W0 W W' : World} {v v' v0 : Value} {l l' ys : List UInt8}
theorem Bx.base (h : Bx w W0 W v l v0) : Below w.heap.size w W := h.sb.old h.old h.bo
theorem Bx.start (h : Below w.heap.size w W) (ho : Own8 W w.heap.size v (iL l)) : Bx w W W v l v := ⟨ho, Sb.below (Below.refl _ _) _, Or.inl rfl, h, own8_bo ho⟩
theorem Bx.below (h : Bx w W0 W v l v0) (hb : Below W.heap.size W W') : Bx w W0 W' v l v0 :=
  ⟨h.own.below hb, h.sb.then (Sb.below hb (fun _ => False)) (fun _ e => e.elim), h.nw, h.old, h.bo⟩
theorem Bx.join {W1 : World} {v1 : Value} {l1 : List UInt8} (h : Bx w W0 W1 v1 l1 v0) (k : Bx w W1 W v l v1) : Bx w W0 W v l v0 :=
  ⟨k.own, h.sb.then k.sb (fun b e => h.nw.imp (fun q => q.symm.trans e) (fun ⟨c, q, hc⟩ => by rw [q] at e; injection e with e; omega)), k.nw.elim (fun q => h.nw.imp (fun z => q.trans z) (fun ⟨c, z, hc⟩ => ⟨c, q.trans z, hc⟩)) (fun ⟨c, q, hc⟩ => Or.inr ⟨c, q, Nat.le_trans h.sb.size hc⟩), h.old, h.bo⟩
theorem Bx.step (h : Bx w W0 W v l v0) (ho : Own8 W' w.heap.size v' (iL l')) (hg : W.grownBy W' v.ownBlock) (hn : v'.ownBlock = v.ownBlock ∨ v'.ownBlock = some W.heap.size) : Bx w W0 W' v' l' v0 :=
  h.join ⟨ho, Sb.of hg (fun _ e => Or.inl e), hn.imp id (fun q => ⟨_, q, Nat.le_refl _⟩), h.base, own8_bo h.own⟩
end
section
variable {ops : Array Oper} {rest : List Oper} {o : Oper} {a : Act} {Q : Exit → Act → World → Prop} {w W0 W : World} {v v0 : Value} {l ys : List UInt8}
theorem wpList_bxA (hgd : o.guard = none) (x y : Operand) (ho : o.op = .call { callee := .builtin .append, args := #[x, y], argTypes := #[65, 65] }) (hx : a.eval x = v) (h : Bx w W0 W v l v0) {ad : Addr} {n c : Nat} (hy : a.eval y = .slice (some ad) n c) (hn : n = ys.length)
    (hm : ∀ j u, ((iL ys).map (Value.int .u8))[j]? = some u → W.cell? (ad.add j) = some u) (hl : l.length + ys.length ≤ 1000000000)
    (hk : ∀ v' W', Bx w W0 W' v' (l ++ ys) v0 → wpList Tryz.prog ops Q rest (a.put o.dst v') W') : wpList Tryz.prog ops Q (o :: rest) a W := by
  refine wpList_appRow (t := 5) (s := 1) Tryz.underlying65 infoU8 (by simp [Value.cells]) (by decide) (by decide) hgd x y ho hx h.own.1 hy hn (ds := (iL ys).map (Value.int .u8)) (by rw [List.length_map, iL_len, Nat.mul_one]) hm (fun u hu => ?_) (by rw [iL_len]; omega) h.base.size (fun v' W' q1 q2 q3 => hk v' W' (h.step ⟨?_, fun z hz => ?_⟩ q2 q3))
  · obtain ⟨z, _, rfl⟩ := List.mem_map.1 hu; rfl
  · rw [iL_app, List.map_append, List.length_append, iL_len ys]; exact q1
  · rw [iL_app] at hz
    rcases List.mem_append.1 hz with hz | hz
    · exact h.own.2 z hz
    · obtain ⟨q, _, rfl⟩ := List.mem_map.1 hz
      have := q.toNat_lt
      exact ⟨by omega, by omega⟩
theorem wpList_bxC (c : UInt8) (hgd : o.guard = none) (x y : Operand) (ho : o.op = .call { callee := .builtin .append, args := #[x, y], argTypes := #[65, 65] }) {z : Int} (hz : z = (c.toNat : Int)) (hx : a.eval x = v) (h : Bx w W0 W v l v0) (hy : a.eval y = .slice (some ⟨W.heap.size, 0, none⟩) 1 1)
    (hl : l.length + 1 ≤ 1000000000) (hk : ∀ v' W', Bx w W0 W' v' (l ++ [c]) v0 → wpList Tryz.prog ops Q rest (a.put o.dst v') W') : wpList Tryz.prog ops Q (o :: rest) a (W.alloc (.cells #[.int .u8 z] 5)) := by
  subst hz
  refine wpList_bxA hgd x y ho hx (h.below (jalloc_below W (.cells #[.int .u8 (c.toNat : Int)] 5))) hy (ys := [c]) rfl (fun j u hu => ?_) hl hk
  exact cells_lit W [.int .u8 (c.toNat : Int)] 5 j u hu
end
section
variable {w W : World} {v : Value} {l b : List UInt8}
set_option maxRecDepth 100000 in
set_option maxHeartbeats 4000000 in
theorem dlaid_calls {g o uc : Nat} (h : Bx w W W v l v) (hu : ∀ j x, ((iL b).map (Value.int .u8))[j]? = some x → W.cell? ((⟨g, o, none⟩ : Addr).add j) = some x) (hub : v.ownBlock ≠ some g) (hb0 : g < W.heap.size) (hl : l.length + b.length ≤ 900000000) : Calls Tryz.prog 44 #[v, .slice (some ⟨g, o, none⟩) b.length uc] W fun e W' => ∃ v', e = .returned v' ∧ Hid (Bx w W W' v' (l ++ (uvL b.length ++ b)) v) := by
  have HB := hide h
  have HUX : Hid (∀ (w6 : World) (v6 : Value) (l6 : List UInt8), Bx w W w6 v6 l6 v → ∀ j x, ((iL b).map (Value.int .u8))[j]? = some x → w6.cell? ((⟨g, o, none⟩ : Addr).add j) = some x) := hide (fun w6 v6 l6 hb j x hx => by
    rw [← hu j x hx]
    have h1 := hb.sb.block g hb0 hub
    unfold World.cell?
    rw [Addr.add_lit]
    show _ = (match W.heap[g]? with | _ => _)
    simp only [h1])
  have HL := hide hl
  obtain ⟨a0, n0, c0, hv⟩ := h.own.shape
  subst hv
  have HUL : Hid (b.length ≤ 900000000) := hide (by omega)
  have HUB := hide hub
  have HB0 := hide hb0
  clear h hu hl hub hb0
  go_enter Tryz.func44, Tryz.ntmps44
  go_wp2_with fail
  go_loopw [0, 5] (fun vv nv wr => ∃ (f m : Nat) (ls : List UInt8), nv = .int .i64 (m : Int) ∧ Hid (Bx w W wr vv (l ++ ls) (.slice a0 n0 c0) ∧ ls ++ uvF f m = uvL b.length ∧ m < 128 ^ (f + 1) ∧ m ≤ b.length)) (fun _ nv _ => (intOf nv).toNat)
  case atStart => exact ⟨9, b.length, [], rfl, hide ⟨by simpa using HB.out, rfl, Nat.lt_of_le_of_lt HUL.out (by decide), Nat.le_refl _⟩⟩
  case round =>
    obtain ⟨f, m, ls, rfl, HJ⟩ := hrel
    obtain ⟨aj, nj, cj, hvj⟩ := HJ.out.1.own.shape
    subst hvj
    have HLL : Hid (ls.length + (uvF f m).length ≤ 10) := hide (by have h1 := congrArg List.length HJ.out.2.1; have h2 := uvF_len 9 b.length; unfold uvL at h1; simp only [List.length_append] at h1; omega)
    have HMB := hide HJ.out.2.2.2
    have HMU : Hid (m ≤ 900000000) := hide (Nat.le_trans HJ.out.2.2.2 HUL.out)
    by_cases hlt : 128 ≤ m
    · have hi : (128 : Int) ≤ (m : Int) := by omega
      obtain ⟨f, rfl⟩ : ∃ f', f = f' + 1 := by
        cases f with
        | zero => have := HJ.out.2.2.1; simp at this; omega
        | succ f => exact ⟨f, rfl⟩
      have HST : Hid (uvF (f + 1) m = UInt8.ofNat (m % 128 + 128) :: uvF f (m / 128)) := hide (by rw [uvF, if_neg (by omega)])
      have HDV : Hid (m / 128 < 128 ^ (f + 1)) := hide (by have h := HJ.out.2.2.1; rw [Nat.pow_succ] at h; exact Nat.div_lt_of_lt_mul (by rw [Nat.mul_comm]; exact h))
      have hq : (m : Int).tdiv 128 = ((m / 128 : Nat) : Int) := by rw [Int.tdiv_eq_ediv_of_nonneg (by omega)]; omega
      have hr : (m : Int).tmod 128 = ((m % 128 : Nat) : Int) := by rw [Int.tmod_eq_emod_of_nonneg (by omega)]; omega
      have HLT : Hid (m / 128 < m) := hide (by omega)
      have hm2 : ((m % 128 : Nat) : Int) < 128 := by omega
      have hwx : IntKind.i64.wrap ((m / 128 : Nat) : Int) = ((m / 128 : Nat) : Int) := by rw [IntKind.wrap_i64]; have h3 : m / 128 ≤ 900000000 := Nat.le_trans (Nat.div_le_self _ _) HMU.out; omega
      have hwy : IntKind.i64.wrap (((m % 128 : Nat) : Int) + 128) = ((m % 128 : Nat) : Int) + 128 := by rw [IntKind.wrap_i64]; omega
      have hwz : IntKind.u8.wrap (((m % 128 : Nat) : Int) + 128) = ((m % 128 : Nat) : Int) + 128 := by rw [IntKind.wrap_u8]; omega
      have hwv : (((m % 128 : Nat) : Int) + 128) % 256 = ((m % 128 : Nat) : Int) + 128 := by omega
      have HZ : Hid (((m % 128 : Nat) : Int) + 128 = ((UInt8.ofNat (m % 128 + 128)).toNat : Int)) := hide (by rw [ofNat_of (by omega)]; omega)
      obtain ⟨c8, hc8⟩ : ∃ x, x = UInt8.ofNat (m % 128 + 128) := ⟨_, rfl⟩
      rw [← hc8] at HST HZ
      obtain ⟨x, hx⟩ : ∃ x, x = m / 128 := ⟨_, rfl⟩
      obtain ⟨y, hy⟩ : ∃ y, y = m % 128 := ⟨_, rfl⟩
      rw [← hx] at HST HDV hq hwx HLT
      rw [← hy] at hr hm2 hwy hwz hwv HZ
      clear hc8 hx hy
      go_wp2_with (first
        | (at_builtin; refine wpList_bxC c8 rfl (.tmp 10) (.tmp 15) rfl HZ.out rfl HJ.out.1 rfl (by have h1 := HL.out; have h2 := HLL.out; simp only [List.length_append]; omega) ?_; intro v6 w6 hB6; have HB6 := hide hB6; clear hB6)
        | fail)
      go_roundw
      case rel => exact ⟨f, x, ls ++ [c8], rfl, hide ⟨by have := HB6.out; rw [List.append_assoc] at this; exact this, by rw [← HJ.out.2.1, HST.out]; simp, HDV.out, by have := HMB.out; have := HLT.out; omega⟩⟩
      case measure => have := HLT.out; simp [intOf]; omega
    · have hi : ¬ (128 : Int) ≤ (m : Int) := by omega
      have hid : decide ((128 : Int) ≤ (m : Int)) = false := decide_eq_false hi
      have HST : Hid (uvF f m = [UInt8.ofNat m]) := hide (uvF_small (by omega))
      have hwz : IntKind.u8.wrap (m : Int) = (m : Int) := by rw [IntKind.wrap_u8]; omega
      have hwv : (m : Int) % 256 = (m : Int) := by omega
      have HZ : Hid ((m : Int) = ((UInt8.ofNat m).toNat : Int)) := hide (by rw [ofNat_of (by omega)])
      have HE : Hid (ls ++ [UInt8.ofNat m] = uvL b.length) := hide (by rw [← HST.out]; exact HJ.out.2.1)
      obtain ⟨c8, hc8⟩ : ∃ x, x = UInt8.ofNat m := ⟨_, rfl⟩
      rw [← hc8] at HST HZ HE
      have HLS : Hid (ls.length + 1 ≤ 10) := hide (by have := HLL.out; rw [HST.out] at this; simpa using this)
      clear hc8
      go_wp2_with (first
        | (at_builtin; refine wpList_bxC c8 rfl (.tmp 19) (.tmp 22) rfl (z := (m : Int)) (v := .slice aj nj cj) HZ.out rfl HJ.out.1 rfl (by have h1 := HL.out; have h2 := HLL.out; simp only [List.length_append]; omega) ?_; intro v6 w6 hB6; have HB6 := hide hB6; have HU6 := hide (HUX.out _ _ _ hB6); clear hB6)
        | (at_builtin; refine wpList_bxA rfl (.tmp 24) (.tmp 25) rfl rfl HB6.out rfl rfl HU6.out (by have h1 := HL.out; have h2 := HLS.out; simp only [List.length_append, List.length_cons, List.length_nil]; omega) ?_; intro v7 w7 hB7; have HB7 := hide hB7; clear hB7)
        | fail)
      go_ret
      exact ⟨_, rfl, hide (by rw [← HE.out, show l ++ (ls ++ [c8] ++ b) = l ++ ls ++ [c8] ++ b by simp]; exact HB7.out)⟩
end
end Go.Proofs.YtfhfobikbfbajaaGreatDoor

/- Texts appended to bytes; the document's Quote. -/
import Derived.Test.YtcdilcjgmcamcaaTkQu
import Derived.Lib.AppendStr
namespace Go.Proofs.Ytcdilcjgmcamcaa
open Go.RowKit Go.Maps

section
variable {ops : Array Oper} {rest : List Oper} {o : Oper} {a : Act} {Q : Exit → Act → World → Prop} {w : World} {K : Act → World → Prop} {E : Prop}
theorem iL_mem (l : List UInt8) : ∀ x ∈ iL l, 0 ≤ x ∧ x ≤ 255 := by
  intro x hx
  unfold iL at hx
  obtain ⟨c, _, rfl⟩ := List.mem_map.1 hx
  have := u8_lt c
  omega
theorem strCells_iL (s : ByteArray) : Lib.strCells s = (iL s.data.toList).map (Value.int .u8) := by
  unfold Lib.strCells iL; rw [List.map_map]; rfl
theorem wp_appSt (x y : Operand) (ho : o.op = .call { callee := .builtin .append, args := #[x, y], argTypes := #[37, 9] }) {B : Nat} {v : Value} {l : List UInt8} {s : ByteArray} (hx : a.eval x = v) (hown : Own8 w B v (iL l)) (hy : a.eval y = .string s)
    (hl : l.length + s.size ≤ 140737488355328) (hB : B ≤ w.heap.size) (hk : ∀ v' w', Own8 w' B v' (iL (l ++ s.data.toList)) → w.grownBy w' v.ownBlock → K (a.put o.dst v') w') : o.wp Try.prog a w K Q := by
  obtain ⟨i0, hi, hz0, hz1, hz2⟩ := info_parts info8
  obtain ⟨v', w', hr, h2, h3, h4⟩ := Lib.run_append_own_string (P := Try.prog) w B 37 9 o.type 5 i0 Try.underlying37 Try.underlying9 hi hz0 hz1 hz2 v (iL l).length ((iL l).map (Value.int .u8)) hown.1 s (by rw [iL_len]; unfold maxLen; omega) (by rw [iL_len]; exact hl) hB
  unfold Oper.wp execOp
  simp only [ho, resolve, invoke, builtin, Sem.run_bind, Sem.run_pure, Result.andThen_ok, List.map_toArray, List.map_cons, List.map_nil, hx, hy, hr]
  refine hk v' w' ⟨?_, iL_mem _⟩ h3
  rw [iL_app, List.length_append, List.map_append, ← strCells_iL]
  rw [show (iL s.data.toList).length = s.size by rw [iL_len, len_data]]
  exact h2
theorem wpList_appSt (hw : Region.wanted o (yielded ops a.tmps) = true) (x y : Operand) (ho : o.op = .call { callee := .builtin .append, args := #[x, y], argTypes := #[37, 9] }) {B : Nat} {v : Value} {l : List UInt8} {s : ByteArray} (hx : a.eval x = v) (hown : Own8 w B v (iL l)) (hy : a.eval y = .string s)
    (hl : l.length + s.size ≤ 140737488355328) (hB : B ≤ w.heap.size) (hk : ∀ v' w', Own8 w' B v' (iL (l ++ s.data.toList)) → w.grownBy w' v.ownBlock → wpList Try.prog ops Q rest (a.put o.dst v') w') : wpList Try.prog ops Q (o :: rest) a w :=
  wpList_on hw fun _ hK => wp_appSt x y ho hx hown hy hl hB fun v' w' h1 h2 => hK _ _ (hk v' w' h1 h2)
theorem step_appB (hw : Region.wanted o (yielded ops a.tmps) = true) (x y : Operand) (ho : o.op = .call { callee := .builtin .append, args := #[x, y], argTypes := #[37, 37] }) {B : Nat} {v u : Value} {xs ys : List Int} (hx : a.eval x = v) (hown : Own8 w B v xs) (hy : a.eval y = u) (hys : IsB w u ys)
    (hl : xs.length + ys.length ≤ 140737488355328) (hB : B ≤ w.heap.size) (hk : ∀ v' w', Own8 w' B v' (xs ++ ys) → w.grownBy w' v.ownBlock → K (a.put o.dst v') w') : if Region.wanted o (yielded ops a.tmps) = true then Oper.wp Try.prog o a w K Q else E := by
  rw [if_pos hw]
  exact wp_appB x y ho hx hown hy hys hl hB hk
end
theorem isB_two (w : World) (c d : UInt8) : IsB (w.alloc (.cells #[.int .u8 (c.toNat : Int), .int .u8 (d.toNat : Int)] 5)) (.slice (some ⟨w.heap.size, 0, none⟩) 2 2) (iL [c, d]) :=
  isB_lit w (iL [c, d]) (iL_mem _) (by simp [iL])
theorem isB_four (w : World) (c d e f : UInt8) : IsB (w.alloc (.cells #[.int .u8 (c.toNat : Int), .int .u8 (d.toNat : Int), .int .u8 (e.toNat : Int), .int .u8 (f.toNat : Int)] 5)) (.slice (some ⟨w.heap.size, 0, none⟩) 4 4) (iL [c, d, e, f]) :=
  isB_lit w (iL [c, d, e, f]) (iL_mem _) (by simp [iL])
theorem own8_one (w : World) (c : UInt8) : Own8 (w.alloc (.cells #[.int .u8 (c.toNat : Int)] 5)) w.heap.size (.slice (some ⟨w.heap.size, 0, none⟩) 1 1) (iL [c]) := by
  refine ⟨⟨by simp [iL], Or.inr ⟨w.heap.size, 1, #[.int .u8 (c.toNat : Int)], rfl, Nat.le_refl _, heap_alloc_last w _, by simp [iL], by decide, rfl, rfl⟩⟩, iL_mem _⟩
set_option maxRecDepth 100000 in
set_option maxHeartbeats 4000000 in
theorem rquote_calls (s : ByteArray) (hs : s.size ≤ 100000000000) (w : World) : Calls Try.prog 13 #[.string s] w fun e w' => e = .returned (.string (bs (quoteL s.data.toList))) ∧ Below w.heap.size w w' := by
  have HQE := hide (qAcc_end s)
  generalize quoteL s.data.toList = QL at *
  go_enter Try.func13, Try.ntmps13
  go_wp2_with fail
  go_loopw [3, 4] (fun v8 iv wq => ∃ i : Nat, i ≤ s.size ∧ iv = .int .i64 (i : Int) ∧ Hid (Own8 wq w.heap.size v8 (iL (qAcc s i))) ∧ Below w.heap.size w wq) (fun _ iv _ => s.size - (intOf iv).toNat)
  case atStart => exact ⟨0, by omega, rfl, own8_one w 34, (Below.refl w.heap.size w).alloc (Nat.le_refl _) _⟩
  case round =>
    rename World => w3
    obtain ⟨i, hin, rfl, HB, hbw⟩ := hrel
    obtain ⟨a8, n8, c8, hv8⟩ := HB.out.shape
    subst hv8
    have hlq := qAcc_len s i
    have HLQ := hide hlq
    by_cases hlt : i < s.size
    · have hI : (i : Int) < (s.size : Int) := by omega
      have hidx := index_str s i hlt
      have HSTP := hide (qAcc_step hlt)
      have hc256 := u8_lt (lk s i)
      by_cases h1 : (lk s i).toNat = 34 ∨ (lk s i).toNat = 92
      · have HE : Hid (qAcc s (i + 1) = qAcc s i ++ [92, lk s i]) := by
          show _ = _
          rw [HSTP.out]; unfold escB; rw [if_pos h1]
        generalize hcc : lk s i = c at *
        clear hcc HSTP hlq
        have HO3 := hide (HB.out.below ((Below.refl w3.heap.size w3).alloc (Nat.le_refl _) (.cells #[.int .u8 ((92 : UInt8).toNat : Int), .int .u8 (c.toNat : Int)] 5)))
        have hb3 := hbw.trans (((Below.refl w3.heap.size w3).alloc (Nat.le_refl _) (.cells #[.int .u8 ((92 : UInt8).toNat : Int), .int .u8 (c.toNat : Int)] 5)).mono hbw.size)
        have hI3 := isB_two w3 92 c
        have hsz3 := hb3.size
        have hln3 : (iL (qAcc s i)).length + (iL [92, c]).length ≤ 140737488355328 := by have := HLQ.out; rw [iL_len, iL_len]; simp; omega
        rcases h1 with h1 | h1
        all_goals (
          have b1 : ((c.toNat : Int) == 34) = decide (c.toNat = 34) := u8_eq c 34
          have b2 : ((c.toNat : Int) == 92) = decide (c.toNat = 92) := u8_eq c 92
          first | rw [decide_eq_true h1] at b1 | rw [decide_eq_true h1] at b2
          first | rw [decide_eq_true h1] at b2 | rw [decide_eq_false (by omega)] at b1 | skip
          clear h1
          go_wp2_with (first | (at_builtin; refine wpList_appB rfl (.tmp 27) (.tmp 29) rfl rfl HO3.out rfl hI3 hln3 hsz3 ?_; intro v6 w6 hO6 hg6; (have hb6 := below8 hb3 HO3.out hg6); (have HO6 := hide hO6); (obtain ⟨a6, n6, c6, hv6⟩ := hO6.shape); subst hv6; clear hO6 hg6 hI3 hln3 hsz3 hb3))
          rw [← iL_app, ← HE.out] at HO6
          go_roundw
          case rel => exact ⟨i + 1, by omega, by go_num, HO6, hb6⟩
          case measure => simp [intOf]; omega)
      · have b1 : (((lk s i).toNat : Int) == 34) = false := by simp; omega
        have b2 : (((lk s i).toNat : Int) == 92) = false := by simp; omega
        by_cases h10 : (lk s i).toNat = 10
        · have b10 : (((lk s i).toNat : Int) == 10) = true := by rw [h10]; rfl
          have HE : Hid (qAcc s (i + 1) = qAcc s i ++ [92, 110]) := by
            show _ = _
            rw [HSTP.out]; unfold escB; rw [if_neg h1, if_pos h10]
          generalize lk s i = c at *
          clear h1 h10 HSTP hlq
          have HO3 := hide (HB.out.below ((Below.refl w3.heap.size w3).alloc (Nat.le_refl _) (.cells #[.int .u8 ((92 : UInt8).toNat : Int), .int .u8 ((110 : UInt8).toNat : Int)] 5)))
          have hb3 := hbw.trans (((Below.refl w3.heap.size w3).alloc (Nat.le_refl _) (.cells #[.int .u8 ((92 : UInt8).toNat : Int), .int .u8 ((110 : UInt8).toNat : Int)] 5)).mono hbw.size)
          have hI3 := isB_two w3 92 110
          have hsz3 := hb3.size
          have hln3 : (iL (qAcc s i)).length + (iL [92, 110]).length ≤ 140737488355328 := by have := HLQ.out; rw [iL_len, iL_len]; simp; omega
          go_wp2_with (first | (at_builtin; refine wpList_appB rfl (.tmp 34) (.tmp 35) rfl rfl HO3.out rfl hI3 hln3 hsz3 ?_; intro v6 w6 hO6 hg6; (have hb6 := below8 hb3 HO3.out hg6); (have HO6 := hide hO6); (obtain ⟨a6, n6, c6, hv6⟩ := hO6.shape); subst hv6; clear hO6 hg6 hI3 hln3 hsz3 hb3))
          rw [← iL_app, ← HE.out] at HO6
          go_roundw
          case rel => exact ⟨i + 1, by omega, by go_num, HO6, hb6⟩
          case measure => simp [intOf]; omega
        · have b10 : (((lk s i).toNat : Int) == 10) = false := by simp; omega
          by_cases h3 : (lk s i).toNat < 32 ∨ 126 < (lk s i).toNat
          · have HE : Hid (qAcc s (i + 1) = qAcc s i ++ [92, 120, hexd ((lk s i).toNat / 16), hexd ((lk s i).toNat % 16)]) := by
              show _ = _
              rw [HSTP.out]; unfold escB; rw [if_neg h1, if_neg h10, if_pos h3]
            generalize lk s i = c at *
            clear h1 h10 HSTP hlq
            obtain ⟨x, hx⟩ : ∃ x, x = c.toNat / 16 := ⟨_, rfl⟩
            obtain ⟨y, hy⟩ : ∃ y, y = c.toNat % 16 := ⟨_, rfl⟩
            rw [← hx, ← hy] at HE
            have h16 : x < 16 := by omega
            have h17 : y < 16 := by omega
            have j16 : (x : Int) < 16 := by omega
            have j17 : (y : Int) < 16 := by omega
            have hquo : IntKind.u8.wrap ((c.toNat : Int) / 16) = (x : Int) := by rw [IntKind.wrap_u8]; omega
            have hrem : (c.toNat : Int).tmod 16 = (y : Int) := by rw [Int.tmod_eq_emod_of_nonneg (by omega)]; omega
            have e1 := digE x h16
            have e2 := digE y h17
            clear hx hy
            have HO3 := hide (HB.out.below ((Below.refl w3.heap.size w3).drew.alloc (Nat.le_refl _) (.cells #[.int .u8 ((92 : UInt8).toNat : Int), .int .u8 ((120 : UInt8).toNat : Int), .int .u8 ((hexd x).toNat : Int), .int .u8 ((hexd y).toNat : Int)] 5)))
            have hb3 := hbw.trans (((Below.refl w3.heap.size w3).drew.alloc (Nat.le_refl _) (.cells #[.int .u8 ((92 : UInt8).toNat : Int), .int .u8 ((120 : UInt8).toNat : Int), .int .u8 ((hexd x).toNat : Int), .int .u8 ((hexd y).toNat : Int)] 5)).mono hbw.size)
            have hI3 := isB_four w3.drew 92 120 (hexd x) (hexd y)
            have hsz3 := hb3.size
            have hln3 : (iL (qAcc s i)).length + (iL [92, 120, hexd x, hexd y]).length ≤ 140737488355328 := by have := HLQ.out; rw [iL_len, iL_len]; simp; omega
            by_cases h32 : c.toNat < 32
            · have i32 : (c.toNat : Int) < 32 := by omega
              clear h3 h32
              go_wp2_with fail
              refine wp_region_held_drew (S := fun _ => True) (by kernel_rfl) (trivial) (fun hHeld => ?_)
              refine wpAnyH_take (i := 0) (v := .slice (a8) n8 c8) rfl (by kernel_rfl) (by kernel_rfl) (by kernel_rfl) (fun _ _ _ h => h) (Or.inl ⟨by rfl, fun w hSw => by go_simp⟩) (by assumption) ?_
              simp only [List.getElem_toArray, List.getElem_cons_zero, Act.put, List.setIfInBounds_toArray, List.set_cons_zero, List.set_cons_succ]
              refine wpAnyH_take (i := 1) (v := .int .u8 (c.toNat : Int)) rfl (by kernel_rfl) (by kernel_rfl) (by kernel_rfl) (fun _ _ _ h => h) (Or.inl ⟨by rfl, fun w hSw => by go_simp⟩) (by assumption) ?_
              simp only [List.getElem_toArray, List.getElem_cons_succ, List.getElem_cons_zero, Act.put, List.setIfInBounds_toArray, List.set_cons_zero, List.set_cons_succ]
              refine wpAnyH_take (i := 2) (v := .int .u8 (x : Int)) rfl (by kernel_rfl) (by kernel_rfl) (by kernel_rfl) (fun _ _ _ h => h) (Or.inl ⟨by rfl, fun w hSw => by go_simp⟩) (by assumption) ?_
              simp only [List.getElem_toArray, List.getElem_cons_succ, List.getElem_cons_zero, Act.put, List.setIfInBounds_toArray, List.set_cons_zero, List.set_cons_succ]
              refine wpAnyH_take (i := 3) (v := .int .u8 ((hexd x).toNat : Int)) rfl (by kernel_rfl) (by kernel_rfl) (by kernel_rfl) (fun _ _ _ h => h) (Or.inl ⟨by rfl, fun w hSw => by go_simp⟩) (by assumption) ?_
              simp only [List.getElem_toArray, List.getElem_cons_succ, List.getElem_cons_zero, Act.put, List.setIfInBounds_toArray, List.set_cons_zero, List.set_cons_succ]
              refine wpAnyH_take (i := 4) (v := .int .u8 (c.toNat : Int)) rfl (by kernel_rfl) (by kernel_rfl) (by kernel_rfl) (fun _ _ _ h => h) (Or.inl ⟨by rfl, fun w hSw => by go_simp⟩) (by assumption) ?_
              simp only [List.getElem_toArray, List.getElem_cons_succ, List.getElem_cons_zero, Act.put, List.setIfInBounds_toArray, List.set_cons_zero, List.set_cons_succ]
              refine wpAnyH_take (i := 5) (v := .int .u8 (y : Int)) rfl (by kernel_rfl) (by kernel_rfl) (by kernel_rfl) (fun _ _ _ h => h) (Or.inl ⟨by rfl, fun w hSw => by go_simp⟩) (by assumption) ?_
              simp only [List.getElem_toArray, List.getElem_cons_succ, List.getElem_cons_zero, Act.put, List.setIfInBounds_toArray, List.set_cons_zero, List.set_cons_succ]
              refine wpAnyH_take (i := 6) (v := .int .u8 ((hexd y).toNat : Int)) rfl (by kernel_rfl) (by kernel_rfl) (by kernel_rfl) (fun _ _ _ h => h) (Or.inl ⟨by rfl, fun w hSw => by go_simp⟩) (by assumption) ?_
              simp only [List.getElem_toArray, List.getElem_cons_succ, List.getElem_cons_zero, Act.put, List.setIfInBounds_toArray, List.set_cons_zero, List.set_cons_succ]
              refine wpAnyH_ready (rs := [7]) (by kernel_rfl) (by simp) (AllReadyH.cons rfl (fun K hK => ?_) AllReadyH.nil)
              refine step_run (by rfl) (v := .slice (some ⟨w3.drew.heap.size, 0, none⟩) 4 4) (w' := w3.drew.alloc (.cells #[.int .u8 ((92 : UInt8).toNat : Int), .int .u8 ((120 : UInt8).toNat : Int), .int .u8 ((hexd x).toNat : Int), .int .u8 ((hexd y).toNat : Int)] 5)) (by kernel_rfl) ?_
              refine hK.out _ _ trivial (fun hHeld2 => ?_)
              clear hK K
              simp only [List.getElem_toArray, List.getElem_cons_succ, List.getElem_cons_zero, Act.put, List.setIfInBounds_toArray, List.set_cons_zero, List.set_cons_succ]
              refine wpAnyH_ready (rs := [8]) (by kernel_rfl) (by simp) (AllReadyH.cons rfl (fun K hK => ?_) AllReadyH.nil)
              refine step_appB (by rfl) (.tmp 44) (.tmp 51) rfl rfl HO3.out rfl hI3 hln3 hsz3 ?_
              intro v6 w6 hO6 hg6
              have hb6 := below8 hb3 HO3.out hg6
              have HO6 := hide hO6
              obtain ⟨a6, n6, c6, hv6⟩ := hO6.shape
              subst hv6
              clear hO6 hg6 hI3 hln3 hsz3 hb3
              refine hK.out _ _ trivial (fun hHeld3 => ?_)
              clear hK K
              simp only [List.getElem_toArray, List.getElem_cons_succ, List.getElem_cons_zero, Act.put, List.setIfInBounds_toArray, List.set_cons_zero, List.set_cons_succ]
              refine wpAnyH_take (i := 9) (v := .slice (a6) n6 c6) rfl (by kernel_rfl) (by kernel_rfl) (by kernel_rfl) (fun _ _ _ h => h) (Or.inl ⟨by rfl, fun w hSw => by go_simp⟩) (by assumption) ?_
              simp only [List.getElem_toArray, List.getElem_cons_succ, List.getElem_cons_zero, Act.put, List.setIfInBounds_toArray, List.set_cons_zero, List.set_cons_succ]
              refine wpAnyH_done (by kernel_rfl) ?_ _
              rw [← iL_app, ← HE.out] at HO6
              clear hHeld hHeld2 hHeld3 e1 e2
              go_wp2
              go_roundw
              case rel => exact ⟨i + 1, by omega, by go_num, HO6, hb6⟩
              case measure => simp [intOf]; omega
            · have i32 : ¬ (c.toNat : Int) < 32 := by omega
              have i126 : (126 : Int) < (c.toNat : Int) := by omega
              clear h3 h32
              go_wp2_with fail
              refine wp_region_held_drew (S := fun _ => True) (by kernel_rfl) (trivial) (fun hHeld => ?_)
              refine wpAnyH_take (i := 0) (v := .slice (a8) n8 c8) rfl (by kernel_rfl) (by kernel_rfl) (by kernel_rfl) (fun _ _ _ h => h) (Or.inl ⟨by rfl, fun w hSw => by go_simp⟩) (by assumption) ?_
              simp only [List.getElem_toArray, List.getElem_cons_zero, Act.put, List.setIfInBounds_toArray, List.set_cons_zero, List.set_cons_succ]
              refine wpAnyH_take (i := 1) (v := .int .u8 (c.toNat : Int)) rfl (by kernel_rfl) (by kernel_rfl) (by kernel_rfl) (fun _ _ _ h => h) (Or.inl ⟨by rfl, fun w hSw => by go_simp⟩) (by assumption) ?_
              simp only [List.getElem_toArray, List.getElem_cons_succ, List.getElem_cons_zero, Act.put, List.setIfInBounds_toArray, List.set_cons_zero, List.set_cons_succ]
              refine wpAnyH_take (i := 2) (v := .int .u8 (x : Int)) rfl (by kernel_rfl) (by kernel_rfl) (by kernel_rfl) (fun _ _ _ h => h) (Or.inl ⟨by rfl, fun w hSw => by go_simp⟩) (by assumption) ?_
              simp only [List.getElem_toArray, List.getElem_cons_succ, List.getElem_cons_zero, Act.put, List.setIfInBounds_toArray, List.set_cons_zero, List.set_cons_succ]
              refine wpAnyH_take (i := 3) (v := .int .u8 ((hexd x).toNat : Int)) rfl (by kernel_rfl) (by kernel_rfl) (by kernel_rfl) (fun _ _ _ h => h) (Or.inl ⟨by rfl, fun w hSw => by go_simp⟩) (by assumption) ?_
              simp only [List.getElem_toArray, List.getElem_cons_succ, List.getElem_cons_zero, Act.put, List.setIfInBounds_toArray, List.set_cons_zero, List.set_cons_succ]
              refine wpAnyH_take (i := 4) (v := .int .u8 (c.toNat : Int)) rfl (by kernel_rfl) (by kernel_rfl) (by kernel_rfl) (fun _ _ _ h => h) (Or.inl ⟨by rfl, fun w hSw => by go_simp⟩) (by assumption) ?_
              simp only [List.getElem_toArray, List.getElem_cons_succ, List.getElem_cons_zero, Act.put, List.setIfInBounds_toArray, List.set_cons_zero, List.set_cons_succ]
              refine wpAnyH_take (i := 5) (v := .int .u8 (y : Int)) rfl (by kernel_rfl) (by kernel_rfl) (by kernel_rfl) (fun _ _ _ h => h) (Or.inl ⟨by rfl, fun w hSw => by go_simp⟩) (by assumption) ?_
              simp only [List.getElem_toArray, List.getElem_cons_succ, List.getElem_cons_zero, Act.put, List.setIfInBounds_toArray, List.set_cons_zero, List.set_cons_succ]
              refine wpAnyH_take (i := 6) (v := .int .u8 ((hexd y).toNat : Int)) rfl (by kernel_rfl) (by kernel_rfl) (by kernel_rfl) (fun _ _ _ h => h) (Or.inl ⟨by rfl, fun w hSw => by go_simp⟩) (by assumption) ?_
              simp only [List.getElem_toArray, List.getElem_cons_succ, List.getElem_cons_zero, Act.put, List.setIfInBounds_toArray, List.set_cons_zero, List.set_cons_succ]
              refine wpAnyH_ready (rs := [7]) (by kernel_rfl) (by simp) (AllReadyH.cons rfl (fun K hK => ?_) AllReadyH.nil)
              refine step_run (by rfl) (v := .slice (some ⟨w3.drew.heap.size, 0, none⟩) 4 4) (w' := w3.drew.alloc (.cells #[.int .u8 ((92 : UInt8).toNat : Int), .int .u8 ((120 : UInt8).toNat : Int), .int .u8 ((hexd x).toNat : Int), .int .u8 ((hexd y).toNat : Int)] 5)) (by kernel_rfl) ?_
              refine hK.out _ _ trivial (fun hHeld2 => ?_)
              clear hK K
              simp only [List.getElem_toArray, List.getElem_cons_succ, List.getElem_cons_zero, Act.put, List.setIfInBounds_toArray, List.set_cons_zero, List.set_cons_succ]
              refine wpAnyH_ready (rs := [8]) (by kernel_rfl) (by simp) (AllReadyH.cons rfl (fun K hK => ?_) AllReadyH.nil)
              refine step_appB (by rfl) (.tmp 44) (.tmp 51) rfl rfl HO3.out rfl hI3 hln3 hsz3 ?_
              intro v6 w6 hO6 hg6
              have hb6 := below8 hb3 HO3.out hg6
              have HO6 := hide hO6
              obtain ⟨a6, n6, c6, hv6⟩ := hO6.shape
              subst hv6
              clear hO6 hg6 hI3 hln3 hsz3 hb3
              refine hK.out _ _ trivial (fun hHeld3 => ?_)
              clear hK K
              simp only [List.getElem_toArray, List.getElem_cons_succ, List.getElem_cons_zero, Act.put, List.setIfInBounds_toArray, List.set_cons_zero, List.set_cons_succ]
              refine wpAnyH_take (i := 9) (v := .slice (a6) n6 c6) rfl (by kernel_rfl) (by kernel_rfl) (by kernel_rfl) (fun _ _ _ h => h) (Or.inl ⟨by rfl, fun w hSw => by go_simp⟩) (by assumption) ?_
              simp only [List.getElem_toArray, List.getElem_cons_succ, List.getElem_cons_zero, Act.put, List.setIfInBounds_toArray, List.set_cons_zero, List.set_cons_succ]
              refine wpAnyH_done (by kernel_rfl) ?_ _
              rw [← iL_app, ← HE.out] at HO6
              clear hHeld hHeld2 hHeld3 e1 e2
              go_wp2
              go_roundw
              case rel => exact ⟨i + 1, by omega, by go_num, HO6, hb6⟩
              case measure => simp [intOf]; omega
          · have HE : Hid (qAcc s (i + 1) = qAcc s i ++ [lk s i]) := by
              show _ = _
              rw [HSTP.out]; unfold escB; rw [if_neg h1, if_neg h10, if_neg h3]
            have i32 : ¬ ((lk s i).toNat : Int) < 32 := by omega
            have i126 : ¬ (126 : Int) < ((lk s i).toNat : Int) := by omega
            generalize lk s i = c at *
            clear h1 h10 HSTP h3 hlq
            have HO3 := hide (HB.out.below ((Below.refl w3.heap.size w3).alloc (Nat.le_refl _) (.cells #[.int .u8 (c.toNat : Int)] 5)))
            have hb3 := hbw.trans (((Below.refl w3.heap.size w3).alloc (Nat.le_refl _) (.cells #[.int .u8 (c.toNat : Int)] 5)).mono hbw.size)
            have hI3 := isB_one w3 c
            have hsz3 := hb3.size
            have hln3 : (iL (qAcc s i)).length + (iL [c]).length ≤ 140737488355328 := by have := HLQ.out; rw [iL_len, iL_len]; simp; omega
            go_wp2_with (first | (at_builtin; refine wpList_appB rfl (.tmp 16) (.tmp 18) rfl rfl HO3.out rfl hI3 hln3 hsz3 ?_; intro v6 w6 hO6 hg6; (have hb6 := below8 hb3 HO3.out hg6); (have HO6 := hide hO6); (obtain ⟨a6, n6, c6, hv6⟩ := hO6.shape); subst hv6; clear hO6 hg6 hI3 hln3 hsz3 hb3))
            rw [← iL_app, ← HE.out] at HO6
            go_roundw
            case rel => exact ⟨i + 1, by omega, by go_num, HO6, hb6⟩
            case measure => simp [intOf]; omega
    · have hI : ¬ (i : Int) < (s.size : Int) := by omega
      have hie : i = s.size := by omega
      have HE : Hid (qAcc s i ++ [34] = QL) := by show _ = _; rw [hie]; exact HQE.out
      clear hie
      have HO3 := hide (HB.out.below ((Below.refl w3.heap.size w3).alloc (Nat.le_refl _) (.cells #[.int .u8 ((34 : UInt8).toNat : Int)] 5)))
      have hb3 := hbw.trans (((Below.refl w3.heap.size w3).alloc (Nat.le_refl _) (.cells #[.int .u8 ((34 : UInt8).toNat : Int)] 5)).mono hbw.size)
      have hI3 := isB_one w3 34
      have hsz3 := hb3.size
      have hln3 : (iL (qAcc s i)).length + (iL [34]).length ≤ 140737488355328 := by have := HLQ.out; rw [iL_len, iL_len]; simp; omega
      clear hlq
      go_wp2_with (first | (at_builtin; refine wpList_appB rfl (.tmp 53) (.tmp 54) rfl rfl HO3.out rfl hI3 hln3 hsz3 ?_; intro v6 w6 hO6 hg6; (have hb6 := below8 hb3 HO3.out hg6); (have hcv := conv_isB hO6.isB); rw [← iL_app, HE.out, mkS_iL] at hcv; (obtain ⟨a6, n6, c6, hv6⟩ := hO6.shape); subst hv6; clear hO6 hg6 hI3 hln3 hsz3 hb3))
      go_ret
      exact ⟨rfl, hb6⟩
end Go.Proofs.Ytcdilcjgmcamcaa

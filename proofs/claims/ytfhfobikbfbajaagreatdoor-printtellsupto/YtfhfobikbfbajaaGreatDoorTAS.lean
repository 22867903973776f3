/- The document's decimal. The document's wordOf. The document's KindOf at its words; fits. -/
import Derived.Test.YtfhfobikbfbajaaGreatDoorTAJ
import Derived.Test.YtfhfobikbfbajaaGreatDoorTAN
import Derived.Test.YtfhfobikbfbajaaGreatDoorTAR
namespace Go.Proofs.YtfhfobikbfbajaaGreatDoor
open Go.RowKit Go.Maps

theorem decW_small {n : Nat} (h : n < 10) : decW (n : Int) = ⟨#[UInt8.ofNat (48 + n)]⟩ := by
  unfold decW bs
  rw [Int.toNat_natCast, digs_eq, if_pos h]
theorem decW_step {n : Nat} (h : ¬ n < 10) : decW (n : Int) = decW ((n / 10 : Nat) : Int) ++ ⟨#[UInt8.ofNat (48 + n % 10)]⟩ := by
  unfold decW bs
  rw [Int.toNat_natCast, Int.toNat_natCast, digs_eq, if_neg h]
  apply ByteArray.ext
  simp
theorem conv_one (c : Int) (h0 : 0 ≤ c) (h1 : c ≤ 255) (W : World) (g : Nat) (hc : W.cell? ⟨g, 0, none⟩ = some (.int .u8 c)) : (convert 65 9 (.slice (some ⟨g, 0, none⟩) 1 1)).run Tryz.prog W = .ok (.string ⟨#[UInt8.ofNat c.toNat]⟩) W := by
  have h : IsB W (.slice (some ⟨g, 0, none⟩) 1 1) [c] := ⟨bytes_mem (by intro x hx; simp at hx; subst hx; exact ⟨h0, h1⟩), some ⟨g, 0, none⟩, 1, rfl, Nat.le_refl _, by decide, fun e => (by cases e), fun _ => ⟨g, 0, rfl, fun j hj => by
    have : j = 0 := by simpa using hj
    subst this
    exact hc⟩⟩
  have := conv_isB h
  rw [this]
  rfl
section
variable {ops : Array Oper} {rest : List Oper} {o : Oper} {a : Act} {Q : Exit → Act → World → Prop} {w : World} {K : Act → World → Prop} {E : Prop}
theorem step_bs1 (hw : Region.wanted o (yielded ops a.tmps) = true) (x : Operand) (ho : o.op = .buildSlice 65 1 #[(0, x)]) {c : Int} (hx : a.eval x = .int .u8 c)
    (hk : K (a.put o.dst (.slice (some ⟨w.heap.size, 0, none⟩) 1 1)) (w.alloc (.cells #[.int .u8 c] 5))) : if Region.wanted o (yielded ops a.tmps) = true then Oper.wp Tryz.prog o a w K Q else E := by
  rw [if_pos hw]
  have hrun : ∀ W, (Instr.buildSlice 65 1 #[(0, .int .u8 c)]).run Tryz.prog W = .ok (.slice (some ⟨W.heap.size, 0, none⟩) 1 1) (W.alloc (.cells #[.int .u8 c] 5)) := fun W => by kernel_rfl
  unfold Oper.wp execOp
  simp only [ho, List.map_toArray, List.map_cons, List.map_nil, hx, Sem.run_bind, hrun, Result.andThen_ok, Sem.run_pure]
  exact hk
theorem step_cv1 (hw : Region.wanted o (yielded ops a.tmps) = true) (x : Operand) (ho : o.op = .convert 65 9 x) {v : Value} (hx : a.eval x = v) {s : ByteArray} (hrun : (convert 65 9 v).run Tryz.prog w = .ok (.string s) w)
    (hk : K (a.put o.dst (.string s)) w) : if Region.wanted o (yielded ops a.tmps) = true then Oper.wp Tryz.prog o a w K Q else E := by
  rw [if_pos hw]
  unfold Oper.wp execOp
  simp only [ho, hx, Sem.run_bind, hrun, Result.andThen_ok, Sem.run_pure]
  exact hk
end
set_option maxRecDepth 100000 in
set_option maxHeartbeats 4000000 in
theorem ddecimal_calls : ∀ (k n : Nat), n < 10 ^ k → 1 ≤ k → k ≤ 18 → ∀ w : World, Calls Tryz.prog 66 #[.int .i64 (n : Int)] w fun e w' => e = .returned (.string (decW (n : Int))) ∧ Below w.heap.size w w' := by
  intro k
  induction k with
  | zero => intro n _ h; omega
  | succ k ih =>
    intro n hn _ hk w
    have hbig : (n : Int) < 1000000000000000000 := by
      have h1 : 10 ^ (k + 1) ≤ 10 ^ 18 := Nat.pow_le_pow_right (by decide) hk
      have h2 : (10 : Nat) ^ 18 = 1000000000000000000 := by decide
      omega
    by_cases h : n < 10
    · have hi : (n : Int) < 10 := by omega
      have hcv : ∀ W : World, (convert 65 9 (.slice (some ⟨W.heap.size, 0, none⟩) 1 1)).run Tryz.prog (W.alloc (Obj.cells #[.int .u8 (48 + (n : Int))] 5)) = .ok (.string ⟨#[UInt8.ofNat (48 + n)]⟩) (W.alloc (Obj.cells #[.int .u8 (48 + (n : Int))] 5)) := fun W => by
        have := conv_one (48 + (n : Int)) (by omega) (by omega) (W.alloc (Obj.cells #[.int .u8 (48 + (n : Int))] 5)) W.heap.size ((Arr.new W [.int .u8 (48 + (n : Int))] 5).cell 0)
        rw [show (48 + (n : Int)).toNat = 48 + n by omega] at this
        exact this
      rw [decW_small h]
      generalize UInt8.ofNat (48 + n) = bd at *
      have hm : (48 + (n : Int)) % 256 = 48 + (n : Int) := by omega
      clear ih hn h
      go_enter Tryz.func66, Tryz.ntmps66
      go_wp2
      go_ret
      exact ⟨rfl, jalloc_below _ _⟩
    · have HI := hide (ih (n / 10) (by rw [Nat.pow_succ] at hn; omega) (by
        rcases Nat.eq_zero_or_pos k with rfl | q
        · exfalso; omega
        · exact q) (by omega))
      have hcv : ∀ (W : World) (g : Nat), W.cell? ⟨g, 0, none⟩ = some (.int .u8 (48 + ((n % 10 : Nat) : Int))) → (convert 65 9 (.slice (some ⟨g, 0, none⟩) 1 1)).run Tryz.prog W = .ok (.string ⟨#[UInt8.ofNat (48 + n % 10)]⟩) W := fun W g hc => by
        have := conv_one (48 + ((n % 10 : Nat) : Int)) (by omega) (by omega) W g hc
        rw [show (48 + ((n % 10 : Nat) : Int)).toNat = 48 + n % 10 by omega] at this
        exact this
      have hcv1 : ∀ W : World, (convert 65 9 (.slice (some ⟨W.heap.size, 0, none⟩) 1 1)).run Tryz.prog (W.alloc (Obj.cells #[.int .u8 (48 + ((n % 10 : Nat) : Int))] 5)) = .ok (.string ⟨#[UInt8.ofNat (48 + n % 10)]⟩) (W.alloc (Obj.cells #[.int .u8 (48 + ((n % 10 : Nat) : Int))] 5)) := fun W => hcv _ _ ((Arr.new W [.int .u8 (48 + ((n % 10 : Nat) : Int))] 5).cell 0)
      rw [decW_step h]
      have HCV := hide hcv
      have hq : (n : Int).tdiv 10 = ((n / 10 : Nat) : Int) := by rw [Int.tdiv_eq_ediv_of_nonneg (by omega)]; omega
      have hr : (n : Int).tmod 10 = ((n % 10 : Nat) : Int) := by rw [Int.tmod_eq_emod_of_nonneg (by omega)]; omega
      have hi : ¬ (n : Int) < 10 := by omega
      have hm : (48 + ((n % 10 : Nat) : Int)) % 256 = 48 + ((n % 10 : Nat) : Int) := by omega
      have hm2 : ((n % 10 : Nat) : Int) < 10 := by omega
      have hsz : (decW ((n / 10 : Nat) : Int)).size ≤ 9223372036854775806 := by
        have h1 := (digs_read 18 (n / 10) (by have : (10 : Nat) ^ 19 = 10000000000000000000 := by decide
                                              omega)).2.2.1
        have h2 : (decW ((n / 10 : Nat) : Int)).size = (digs (n / 10)).length := by unfold decW bs; rw [Int.toNat_natCast]; simp [ByteArray.size]
        omega
      have hwx : IntKind.i64.wrap ((n / 10 : Nat) : Int) = ((n / 10 : Nat) : Int) := by rw [IntKind.wrap_i64]; omega
      have hwy : IntKind.i64.wrap (48 + ((n % 10 : Nat) : Int)) = 48 + ((n % 10 : Nat) : Int) := by rw [IntKind.wrap_i64]; omega
      have hwz : IntKind.u8.wrap (48 + ((n % 10 : Nat) : Int)) = 48 + ((n % 10 : Nat) : Int) := by rw [IntKind.wrap_u8]; omega
      obtain ⟨x, hx⟩ : ∃ x, x = n / 10 := ⟨_, rfl⟩
      obtain ⟨y, hy⟩ : ∃ y, y = n % 10 := ⟨_, rfl⟩
      rw [← hx] at HI hq hsz hwx
      rw [← hy] at hcv1 HCV hr hm hm2 hwy hwz
      rw [← hx, ← hy]
      generalize UInt8.ofNat (48 + y) = bd at *
      clear ih hn h hcv hx hy
      go_enter Tryz.func66, Tryz.ntmps66
      go_wp2_with fail
      --REG
      refine wp_region_held_drew (S := fun _ => True) (by kernel_rfl) (trivial) (fun hHeld => ?_)
      refine wpAnyH_take (i := 0) (v := .int .i64 (n : Int)) rfl (by kernel_rfl) (by kernel_rfl) (by kernel_rfl) (fun _ _ _ h => h) (Or.inl ⟨by rfl, fun w hSw => by go_simp⟩) (by assumption) ?_
      simp only [List.getElem_toArray, List.getElem_cons_zero, Act.put, List.setIfInBounds_toArray, List.set_cons_zero, List.set_cons_succ]
      refine wpAnyH_take (i := 1) (v := .int .i64 (x : Int)) rfl (by kernel_rfl) (by kernel_rfl) (by kernel_rfl) (fun _ _ _ h => h) (Or.inl ⟨by rfl, fun w hSw => by go_simp⟩) (by assumption) ?_
      simp only [List.getElem_toArray, List.getElem_cons_succ, List.getElem_cons_zero, Act.put, List.setIfInBounds_toArray, List.set_cons_zero, List.set_cons_succ]
      refine wpAnyH_take (i := 3) (v := .int .i64 (n : Int)) rfl (by kernel_rfl) (by kernel_rfl) (by kernel_rfl) (fun _ _ _ h => h) (Or.inl ⟨by rfl, fun w hSw => by go_simp⟩) (by assumption) ?_
      simp only [List.getElem_toArray, List.getElem_cons_succ, List.getElem_cons_zero, Act.put, List.setIfInBounds_toArray, List.set_cons_zero, List.set_cons_succ]
      refine wpAnyH_take (i := 4) (v := .int .i64 (y : Int)) rfl (by kernel_rfl) (by kernel_rfl) (by kernel_rfl) (fun _ _ _ h => h) (Or.inl ⟨by rfl, fun w hSw => by go_simp⟩) (by assumption) ?_
      simp only [List.getElem_toArray, List.getElem_cons_succ, List.getElem_cons_zero, Act.put, List.setIfInBounds_toArray, List.set_cons_zero, List.set_cons_succ]
      refine wpAnyH_take (i := 5) (v := .int .i64 (48 + (y : Int))) rfl (by kernel_rfl) (by kernel_rfl) (by kernel_rfl) (fun _ _ _ h => h) (Or.inl ⟨by rfl, fun w hSw => by go_simp⟩) (by assumption) ?_
      simp only [List.getElem_toArray, List.getElem_cons_succ, List.getElem_cons_zero, Act.put, List.setIfInBounds_toArray, List.set_cons_zero, List.set_cons_succ]
      refine wpAnyH_take (i := 6) (v := .int .u8 (48 + (y : Int))) rfl (by kernel_rfl) (by kernel_rfl) (by kernel_rfl) (fun _ _ _ h => h) (Or.inl ⟨by rfl, fun w hSw => by go_simp⟩) (by assumption) ?_
      simp only [List.getElem_toArray, List.getElem_cons_succ, List.getElem_cons_zero, Act.put, List.setIfInBounds_toArray, List.set_cons_zero, List.set_cons_succ]
      refine wpAnyH_ready (rs := [2, 7]) (by kernel_rfl) (by simp) (AllReadyH.cons rfl (fun K hK => ?_) (AllReadyH.cons rfl (fun K hK => ?_) AllReadyH.nil))
      · refine step_call1J (by rfl) 66 (fun v W => by kernel_rfl) (.tmp 11) _ rfl rfl (unhide HI _) ?_
        rintro e w1 ⟨rfl, hb1⟩
        refine ⟨_, rfl, ?_⟩
        refine hK.out _ _ (trivial) (fun h1 => ?_)
        clear hK K
        simp only [List.getElem_toArray, List.getElem_cons_succ, List.getElem_cons_zero, Act.put, List.setIfInBounds_toArray, List.set_cons_zero, List.set_cons_succ]
        refine wpAnyH_ready (rs := [7]) (by kernel_rfl) (by simp) (AllReadyH.cons rfl (fun K hK => ?_) AllReadyH.nil)
        refine step_bs1 (by rfl) (.tmp 16) rfl rfl ?_
        refine hK.out _ _ (trivial) (fun h2 => ?_)
        clear hK K
        simp only [List.getElem_toArray, List.getElem_cons_succ, List.getElem_cons_zero, Act.put, List.setIfInBounds_toArray, List.set_cons_zero, List.set_cons_succ]
        refine wpAnyH_ready (rs := [8]) (by kernel_rfl) (by simp) (AllReadyH.cons rfl (fun K hK => ?_) AllReadyH.nil)
        refine step_cv1 (by rfl) (.tmp 17) rfl rfl (HCV.out _ _ ((Arr.new w1 [.int .u8 (48 + (y : Int))] 5).cell 0)) ?_
        refine hK.out _ _ (trivial) (fun h3 => ?_)
        clear hK K
        simp only [List.getElem_toArray, List.getElem_cons_succ, List.getElem_cons_zero, Act.put, List.setIfInBounds_toArray, List.set_cons_zero, List.set_cons_succ]
        refine wpAnyH_take (i := 9) (v := .string (decW (x : Int) ++ ⟨#[bd]⟩)) rfl (by kernel_rfl) (by kernel_rfl) (by kernel_rfl) (fun _ _ _ h => h) (Or.inl ⟨by rfl, fun w hSw => by go_simp⟩) (by assumption) ?_
        simp only [List.getElem_toArray, List.getElem_cons_succ, List.getElem_cons_zero, Act.put, List.setIfInBounds_toArray, List.set_cons_zero, List.set_cons_succ]
        refine wpAnyH_take (i := 10) (v := .string (decW (x : Int) ++ ⟨#[bd]⟩)) rfl (by kernel_rfl) (by kernel_rfl) (by kernel_rfl) (fun _ _ _ h => h) (Or.inl ⟨by rfl, fun w hSw => by go_simp⟩) (by assumption) ?_
        simp only [List.getElem_toArray, List.getElem_cons_succ, List.getElem_cons_zero, Act.put, List.setIfInBounds_toArray, List.set_cons_zero, List.set_cons_succ]
        refine wpAnyH_done (by kernel_rfl) ?_ _
        go_wp2
        go_ret
        exact ⟨rfl, below_then (below_drew hb1) (jalloc_below _ _)⟩
      · refine step_bs1 (by rfl) (.tmp 16) rfl rfl ?_
        refine hK.out _ _ (trivial) (fun h1 => ?_)
        clear hK K
        simp only [List.getElem_toArray, List.getElem_cons_succ, List.getElem_cons_zero, Act.put, List.setIfInBounds_toArray, List.set_cons_zero, List.set_cons_succ]
        refine wpAnyH_ready (rs := [2, 8]) (by kernel_rfl) (by simp) (AllReadyH.cons rfl (fun K hK => ?_) (AllReadyH.cons rfl (fun K hK => ?_) AllReadyH.nil))
        · refine step_call1J (by rfl) 66 (fun v W => by kernel_rfl) (.tmp 11) _ rfl rfl (unhide HI _) ?_
          rintro e w1 ⟨rfl, hb1⟩
          refine ⟨_, rfl, ?_⟩
          refine hK.out _ _ (trivial) (fun h2 => ?_)
          clear hK K
          simp only [List.getElem_toArray, List.getElem_cons_succ, List.getElem_cons_zero, Act.put, List.setIfInBounds_toArray, List.set_cons_zero, List.set_cons_succ]
          refine wpAnyH_ready (rs := [8]) (by kernel_rfl) (by simp) (AllReadyH.cons rfl (fun K hK => ?_) AllReadyH.nil)
          refine step_cv1 (by rfl) (.tmp 17) rfl rfl (HCV.out _ _ ((hb1.cell (p := ⟨w.drew.heap.size, 0, none⟩) (by simp)).trans ((Arr.new w.drew [.int .u8 (48 + (y : Int))] 5).cell 0))) ?_
          refine hK.out _ _ (trivial) (fun h3 => ?_)
          clear hK K
          simp only [List.getElem_toArray, List.getElem_cons_succ, List.getElem_cons_zero, Act.put, List.setIfInBounds_toArray, List.set_cons_zero, List.set_cons_succ]
          refine wpAnyH_take (i := 9) (v := .string (decW (x : Int) ++ ⟨#[bd]⟩)) rfl (by kernel_rfl) (by kernel_rfl) (by kernel_rfl) (fun _ _ _ h => h) (Or.inl ⟨by rfl, fun w hSw => by go_simp⟩) (by assumption) ?_
          simp only [List.getElem_toArray, List.getElem_cons_succ, List.getElem_cons_zero, Act.put, List.setIfInBounds_toArray, List.set_cons_zero, List.set_cons_succ]
          refine wpAnyH_take (i := 10) (v := .string (decW (x : Int) ++ ⟨#[bd]⟩)) rfl (by kernel_rfl) (by kernel_rfl) (by kernel_rfl) (fun _ _ _ h => h) (Or.inl ⟨by rfl, fun w hSw => by go_simp⟩) (by assumption) ?_
          simp only [List.getElem_toArray, List.getElem_cons_succ, List.getElem_cons_zero, Act.put, List.setIfInBounds_toArray, List.set_cons_zero, List.set_cons_succ]
          refine wpAnyH_done (by kernel_rfl) ?_ _
          go_wp2
          go_ret
          exact ⟨rfl, below_then (below_drew (jalloc_below w.drew _)) hb1⟩
        · refine step_cv1 (by rfl) (.tmp 17) rfl rfl (HCV.out _ _ ((Arr.new w.drew [.int .u8 (48 + (y : Int))] 5).cell 0)) ?_
          refine hK.out _ _ (trivial) (fun h2 => ?_)
          clear hK K
          simp only [List.getElem_toArray, List.getElem_cons_succ, List.getElem_cons_zero, Act.put, List.setIfInBounds_toArray, List.set_cons_zero, List.set_cons_succ]
          refine wpAnyH_ready (rs := [2]) (by kernel_rfl) (by simp) (AllReadyH.cons rfl (fun K hK => ?_) AllReadyH.nil)
          refine step_call1J (by rfl) 66 (fun v W => by kernel_rfl) (.tmp 11) _ rfl rfl (unhide HI _) ?_
          rintro e w1 ⟨rfl, hb1⟩
          refine ⟨_, rfl, ?_⟩
          refine hK.out _ _ (trivial) (fun h3 => ?_)
          clear hK K
          simp only [List.getElem_toArray, List.getElem_cons_succ, List.getElem_cons_zero, Act.put, List.setIfInBounds_toArray, List.set_cons_zero, List.set_cons_succ]
          refine wpAnyH_take (i := 9) (v := .string (decW (x : Int) ++ ⟨#[bd]⟩)) rfl (by kernel_rfl) (by kernel_rfl) (by kernel_rfl) (fun _ _ _ h => h) (Or.inl ⟨by rfl, fun w hSw => by go_simp⟩) (by assumption) ?_
          simp only [List.getElem_toArray, List.getElem_cons_succ, List.getElem_cons_zero, Act.put, List.setIfInBounds_toArray, List.set_cons_zero, List.set_cons_succ]
          refine wpAnyH_take (i := 10) (v := .string (decW (x : Int) ++ ⟨#[bd]⟩)) rfl (by kernel_rfl) (by kernel_rfl) (by kernel_rfl) (fun _ _ _ h => h) (Or.inl ⟨by rfl, fun w hSw => by go_simp⟩) (by assumption) ?_
          simp only [List.getElem_toArray, List.getElem_cons_succ, List.getElem_cons_zero, Act.put, List.setIfInBounds_toArray, List.set_cons_zero, List.set_cons_succ]
          refine wpAnyH_done (by kernel_rfl) ?_ _
          go_wp2
          go_ret
          exact ⟨rfl, below_then (below_drew (jalloc_below w.drew _)) hb1⟩
      --GER
end Go.Proofs.YtfhfobikbfbajaaGreatDoor

namespace Go.Proofs.YtfhfobikbfbajaaGreatDoor
open Go.RowKit Go.Maps

def wdK (k : Int) : ByteArray := if 0 ≤ k ∧ k ≤ 15 then wds.getD k.toNat noText else noText
def wdV : List Value := wds.map Value.string
def wdZ : List Value := List.replicate 16 (Value.string ByteArray.empty)
theorem infoWd : (Tryz.prog.info? 181).map (fun i => (i.zero, i.size, i.bytes)) = some (some (.agg wdZ.toArray), 16, 256) := by kernel_rfl
theorem infoWs : (Tryz.prog.info? 181).map (·.size) = some wdV.length := by kernel_rfl
theorem wdV_one : ∀ u ∈ wdV, u.oneCell' = true := by
  intro u hu
  obtain ⟨x, _, rfl⟩ := List.mem_map.1 hu
  rfl
section
variable {ops : Array Oper} {rest : List Oper} {o : Oper} {a : Act} {Q : Exit → Act → World → Prop} {w : World}
/-- An operation whose run is known, and makes nothing. -/
theorem wpList_runQ (hgd : o.guard = none) {T : TypeId} (_ho : ∃ fs, o.op = .build T fs) {v : Value} (hrun : (execOp a.eval o).run Tryz.prog w = .ok (.value v) w) (hk : wpList Tryz.prog ops Q rest (a.put o.dst v) w) : wpList Tryz.prog ops Q (o :: rest) a w :=
  wpList_plain hgd fun K hK => by
    unfold Oper.wp
    rw [hrun]
    exact hK _ _ hk
end
theorem wdV_at {k : Nat} (h : k < 16) : wdV[k]? = some (.string (wds.getD k noText)) := by
  unfold wdV
  rw [List.getElem?_map, List.getD_eq_getElem?_getD, List.getElem?_eq_getElem (show k < wds.length from h)]
  rfl
set_option maxRecDepth 100000 in
set_option maxHeartbeats 4000000 in
theorem dwordOf_calls (k : Int) (w : World) : Calls Tryz.prog 111 #[.int .i64 k] w fun e w' => e = .returned (.string (wdK k)) ∧ Below w.heap.size w w' := by
  obtain ⟨r, hr⟩ : ∃ r, r = wdK k := ⟨_, rfl⟩
  rw [← hr]
  have hcell : Hid (0 ≤ k ∧ k ≤ 15 → wdV[k.toNat]? = some (.string r)) := hide (fun h => by
    rw [hr, wdK, if_pos h]
    exact wdV_at (by omega))
  have hout : Hid (¬ (0 ≤ k ∧ k ≤ 15) → r = ByteArray.empty) := hide (fun h => by rw [hr, wdK, if_neg h]; rfl)
  clear hr
  by_cases h : 0 ≤ k ∧ k ≤ 15
  · have HC := hide (hcell.out h)
    obtain ⟨q, rfl⟩ : ∃ q : Nat, k = (q : Int) := ⟨k.toNat, by omega⟩
    have h1 : ¬ (q : Int) < 0 := by omega
    have h2 : ¬ (15 : Int) < (q : Int) := by omega
    have h3 : (q : Int) < 16 := by omega
    clear h hcell hout
    go_enter Tryz.func111, Tryz.ntmps111
    go_wp2_with (first
      | (refine wpList_runQ rfl (T := 181) ⟨_, rfl⟩ (v := .agg wdV.toArray) (by kernel_rfl) ?_)
      | (refine wpList_allocJ rfl 181 rfl infoWd ?_)
      | (refine wpList_storeJ rfl (.tmp 3) (.tmp 4) 181 rfl rfl rfl (Arr.new w wdZ 181) infoWs rfl wdV_one ?_; intro w2 hA2 hg2; have HB2 := hide (jbelow_grown (jalloc_below w (.cells wdZ.toArray 181)) hg2 (by simp) (Nat.le_refl _)); have hc2 : w2.cell? ⟨w.heap.size, q, none⟩ = some (.string r) := (hA2.cell q).trans HC.out; clear hA2 hg2)
      | fail)
    go_ret
    exact ⟨rfl, HB2.out⟩
  · have HE := hide (hout.out h)
    have hor : k < 0 ∨ (¬ k < 0 ∧ 15 < k) := by omega
    clear h hcell hout
    rcases hor with h1 | ⟨h1, h2⟩
    · go_enter Tryz.func111, Tryz.ntmps111
      go_wp2_with (first
        | (refine wpList_runQ rfl (T := 181) ⟨_, rfl⟩ (v := .agg wdV.toArray) (by kernel_rfl) ?_)
        | (refine wpList_allocJ rfl 181 rfl infoWd ?_)
        | (refine wpList_storeJ rfl (.tmp 3) (.tmp 4) 181 rfl rfl rfl (Arr.new w wdZ 181) infoWs rfl wdV_one ?_; intro w2 hA2 hg2; have HB2 := hide (jbelow_grown (jalloc_below w (.cells wdZ.toArray 181)) hg2 (by simp) (Nat.le_refl _)); clear hA2 hg2)
        | fail)
      go_ret
      exact ⟨by rw [HE.out]; rfl, HB2.out⟩
    · go_enter Tryz.func111, Tryz.ntmps111
      go_wp2_with (first
        | (refine wpList_runQ rfl (T := 181) ⟨_, rfl⟩ (v := .agg wdV.toArray) (by kernel_rfl) ?_)
        | (refine wpList_allocJ rfl 181 rfl infoWd ?_)
        | (refine wpList_storeJ rfl (.tmp 3) (.tmp 4) 181 rfl rfl rfl (Arr.new w wdZ 181) infoWs rfl wdV_one ?_; intro w2 hA2 hg2; have HB2 := hide (jbelow_grown (jalloc_below w (.cells wdZ.toArray 181)) hg2 (by simp) (Nat.le_refl _)); clear hA2 hg2)
        | fail)
      go_ret
      exact ⟨by rw [HE.out]; rfl, HB2.out⟩
end Go.Proofs.YtfhfobikbfbajaaGreatDoor

namespace Go.Proofs.YtfhfobikbfbajaaGreatDoor
open Go.RowKit Go.Maps

/-- How many arguments a kind has; -1: one or more; 0 for no kind. -/
def kwC (k : Int) : Int := if 2 ≤ k ∧ k ≤ 15 then (if k = 4 then -1 else (argN k.toNat : Int)) else 0
def kwN (k : Int) : Int := if 2 ≤ k ∧ k ≤ 15 then k else 0
theorem kind_cases {k : Int} (h : 2 ≤ k ∧ k ≤ 15) : k = 2 ∨ k = 3 ∨ k = 4 ∨ k = 5 ∨ k = 6 ∨ k = 7 ∨ k = 8 ∨ k = 9 ∨ k = 10 ∨ k = 11 ∨ k = 12 ∨ k = 13 ∨ k = 14 ∨ k = 15 := by omega
theorem wdK_lit {k : Int} (h : ¬ (2 ≤ k ∧ k ≤ 15)) : wdK k = ByteArray.empty := by
  unfold wdK
  split
  · have : k = 0 ∨ k = 1 := by omega
    rcases this with rfl | rfl <;> rfl
  · rfl
theorem pwres2 {fn : Func} {p q : Tmp} {tmps : Array Value} {w : World} (h : fn.results = #[.tmp p, .tmp q]) : (results fn tmps).run Tryz.prog w = .ok (.tuple #[tmps.getD p undef, tmps.getD q undef]) w := by
  simp [results, h]
set_option maxRecDepth 100000 in
set_option maxHeartbeats 4000000 in
theorem dkw_calls (k : Int) (w : World) : Calls Tryz.prog 137 #[.string (wdK k)] w fun e w' => e = .returned (.tuple #[.int .i64 (kwN k), .int .i64 (kwC k)]) ∧ w' = w := by
  by_cases h : 2 ≤ k ∧ k ≤ 15
  · rcases kind_cases h with rfl | rfl | rfl | rfl | rfl | rfl | rfl | rfl | rfl | rfl | rfl | rfl | rfl | rfl
    all_goals clear h
    · show Calls Tryz.prog 137 #[.string ⟨#[105, 110]⟩] w fun e w' => e = .returned (.tuple #[.int .i64 2, .int .i64 0]) ∧ w' = w
      go_enter Tryz.func137, Tryz.ntmps137
      go_wp2
      exact bodyPost_ret (pwres2 (p := 2) (q := 3) rfl) rfl ⟨rfl, rfl⟩
    · show Calls Tryz.prog 137 #[.string ⟨#[118, 97, 114]⟩] w fun e w' => e = .returned (.tuple #[.int .i64 3, .int .i64 0]) ∧ w' = w
      go_enter Tryz.func137, Tryz.ntmps137
      go_wp2
      exact bodyPost_ret (pwres2 (p := 2) (q := 3) rfl) rfl ⟨rfl, rfl⟩
    · show Calls Tryz.prog 137 #[.string ⟨#[99, 97, 116]⟩] w fun e w' => e = .returned (.tuple #[.int .i64 4, .int .i64 (-1)]) ∧ w' = w
      go_enter Tryz.func137, Tryz.ntmps137
      go_wp2
      exact bodyPost_ret (pwres2 (p := 2) (q := 3) rfl) rfl ⟨rfl, rfl⟩
    · show Calls Tryz.prog 137 #[.string ⟨#[117, 112, 112, 101, 114]⟩] w fun e w' => e = .returned (.tuple #[.int .i64 5, .int .i64 1]) ∧ w' = w
      go_enter Tryz.func137, Tryz.ntmps137
      go_wp2
      exact bodyPost_ret (pwres2 (p := 2) (q := 3) rfl) rfl ⟨rfl, rfl⟩
    · show Calls Tryz.prog 137 #[.string ⟨#[108, 111, 119, 101, 114]⟩] w fun e w' => e = .returned (.tuple #[.int .i64 6, .int .i64 1]) ∧ w' = w
      go_enter Tryz.func137, Tryz.ntmps137
      go_wp2
      exact bodyPost_ret (pwres2 (p := 2) (q := 3) rfl) rfl ⟨rfl, rfl⟩
    · show Calls Tryz.prog 137 #[.string ⟨#[108, 105, 110, 101, 115]⟩] w fun e w' => e = .returned (.tuple #[.int .i64 7, .int .i64 1]) ∧ w' = w
      go_enter Tryz.func137, Tryz.ntmps137
      go_wp2
      exact bodyPost_ret (pwres2 (p := 2) (q := 3) rfl) rfl ⟨rfl, rfl⟩
    · show Calls Tryz.prog 137 #[.string ⟨#[115, 111, 114, 116]⟩] w fun e w' => e = .returned (.tuple #[.int .i64 8, .int .i64 1]) ∧ w' = w
      go_enter Tryz.func137, Tryz.ntmps137
      go_wp2
      exact bodyPost_ret (pwres2 (p := 2) (q := 3) rfl) rfl ⟨rfl, rfl⟩
    · show Calls Tryz.prog 137 #[.string ⟨#[117, 110, 105, 113]⟩] w fun e w' => e = .returned (.tuple #[.int .i64 9, .int .i64 1]) ∧ w' = w
      go_enter Tryz.func137, Tryz.ntmps137
      go_wp2
      exact bodyPost_ret (pwres2 (p := 2) (q := 3) rfl) rfl ⟨rfl, rfl⟩
    · show Calls Tryz.prog 137 #[.string ⟨#[114, 101, 112, 108, 97, 99, 101]⟩] w fun e w' => e = .returned (.tuple #[.int .i64 10, .int .i64 3]) ∧ w' = w
      go_enter Tryz.func137, Tryz.ntmps137
      go_wp2
      exact bodyPost_ret (pwres2 (p := 2) (q := 3) rfl) rfl ⟨rfl, rfl⟩
    · show Calls Tryz.prog 137 #[.string ⟨#[99, 111, 117, 110, 116]⟩] w fun e w' => e = .returned (.tuple #[.int .i64 11, .int .i64 2]) ∧ w' = w
      go_enter Tryz.func137, Tryz.ntmps137
      go_wp2
      exact bodyPost_ret (pwres2 (p := 2) (q := 3) rfl) rfl ⟨rfl, rfl⟩
    · show Calls Tryz.prog 137 #[.string ⟨#[105, 102]⟩] w fun e w' => e = .returned (.tuple #[.int .i64 12, .int .i64 3]) ∧ w' = w
      go_enter Tryz.func137, Tryz.ntmps137
      go_wp2
      exact bodyPost_ret (pwres2 (p := 2) (q := 3) rfl) rfl ⟨rfl, rfl⟩
    · show Calls Tryz.prog 137 #[.string ⟨#[101, 97, 99, 104]⟩] w fun e w' => e = .returned (.tuple #[.int .i64 13, .int .i64 2]) ∧ w' = w
      go_enter Tryz.func137, Tryz.ntmps137
      go_wp2
      exact bodyPost_ret (pwres2 (p := 2) (q := 3) rfl) rfl ⟨rfl, rfl⟩
    · show Calls Tryz.prog 137 #[.string ⟨#[107, 101, 121]⟩] w fun e w' => e = .returned (.tuple #[.int .i64 14, .int .i64 1]) ∧ w' = w
      go_enter Tryz.func137, Tryz.ntmps137
      go_wp2
      exact bodyPost_ret (pwres2 (p := 2) (q := 3) rfl) rfl ⟨rfl, rfl⟩
    · show Calls Tryz.prog 137 #[.string ⟨#[102, 97, 105, 108]⟩] w fun e w' => e = .returned (.tuple #[.int .i64 15, .int .i64 1]) ∧ w' = w
      go_enter Tryz.func137, Tryz.ntmps137
      go_wp2
      exact bodyPost_ret (pwres2 (p := 2) (q := 3) rfl) rfl ⟨rfl, rfl⟩
  · rw [wdK_lit h]
    unfold kwN kwC
    rw [if_neg h, if_neg h]
    clear h
    go_enter Tryz.func137, Tryz.ntmps137
    go_wp2
    refine bodyPost_ret (pwres2 (p := 2) (q := 3) rfl) rfl ?_
    exact ⟨rfl, rfl⟩
end Go.Proofs.YtfhfobikbfbajaaGreatDoor

/- The document's new disk. -/
import Derived.Test.YtdmkpfpbhmchpaaDoorJrRz
import Derived.Test.YtdmkpfpbhmchpaaDoorFam
namespace Go.Proofs.YtdmkpfpbhmchpaaDoor
open Go.RowKit Go.Maps

theorem infoSlN : (Tryd.prog.info? 29).map (fun i => (i.zero, i.size, i.bytes)) = some (some (.slice none 0 0), 1, 24) := by kernel_rfl
theorem infoSlM : (Tryd.prog.info? 102).map (fun i => (i.zero, i.size, i.bytes)) = some (some (.slice none 0 0), 1, 24) := by kernel_rfl
section
variable {ops : Array Oper} {rest : List Oper} {o : Oper} {a : Act} {Q : Exit → Act → World → Prop} {w : World} {K : Act → World → Prop} {E : Prop}
set_option maxRecDepth 100000 in
theorem wp_appD {t e : TypeId} (hU : Tryd.prog.underlying t = some (.slice e)) (hI : (Tryd.prog.info? e).map (fun i => (i.zero, i.size, i.bytes)) = some (some (.slice none 0 0), 1, 24)) (x y : Operand) (ho : o.op = .call { callee := .builtin .append, args := #[x, y], argTypes := #[t, t] }) {B g : Nat} {v u : Value} {us : List Value} (hx : a.eval x = v) (hrow : Row w B e v us) (hy : a.eval y = .slice (some ⟨g, 0, none⟩) 1 1)
    (hc : w.cell? ⟨g, 0, none⟩ = some u) (h1 : u.oneCell' = true) (hl : us.length ≤ 1000000) (hB : B ≤ w.heap.size)
    (hk : ∀ v' w', Row w' B e v' (us ++ [u]) → w.grownBy w' v.ownBlock → K (a.put o.dst v') w') : Oper.wp Tryd.prog o a w K Q := by
  obtain ⟨i0, hi, hz0, hz1, hz2⟩ := info_parts hI
  obtain ⟨v', w', hr, h2, h3, h4, h5⟩ := run_append_share (P := Tryd.prog) w B t o.type e i0 (.slice none 0 0) 24 hU hi hz0 hz1 hz2 rfl v us hrow ⟨g, 0, none⟩ 1 1 [u] rfl (fun j z hu => by
    cases j with
    | zero =>
      injection hu with hu
      subst hu
      exact hc
    | succ j => simp at hu) (fun z hz => by rw [List.mem_singleton.1 hz]; exact h1) (by unfold maxLen; omega) (by omega) hB
  unfold Oper.wp execOp
  simp only [ho, resolve, invoke, builtin, Sem.run_bind, Sem.run_pure, Result.andThen_ok, List.map_toArray, List.map_cons, List.map_nil, hx, hy, hr]
  exact hk v' w' h2 h3
theorem wpList_appD {t e : TypeId} (hU : Tryd.prog.underlying t = some (.slice e)) (hI : (Tryd.prog.info? e).map (fun i => (i.zero, i.size, i.bytes)) = some (some (.slice none 0 0), 1, 24)) (hgd : o.guard = none) (x y : Operand) (ho : o.op = .call { callee := .builtin .append, args := #[x, y], argTypes := #[t, t] }) {B g : Nat} {v u : Value} {us : List Value} (hx : a.eval x = v) (hrow : Row w B e v us) (hy : a.eval y = .slice (some ⟨g, 0, none⟩) 1 1)
    (hc : w.cell? ⟨g, 0, none⟩ = some u) (h1 : u.oneCell' = true) (hl : us.length ≤ 1000000) (hB : B ≤ w.heap.size)
    (hk : ∀ v' w', Row w' B e v' (us ++ [u]) → w.grownBy w' v.ownBlock → wpList Tryd.prog ops Q rest (a.put o.dst v') w') : wpList Tryd.prog ops Q (o :: rest) a w :=
  wpList_plain hgd fun _ hK => wp_appD hU hI x y ho hx hrow hy hc h1 hl hB fun v' w' h1 h2 => hK _ _ (hk v' w' h1 h2)
theorem step_appD (hgd : o.guard = none) (x y : Operand) (ho : o.op = .call { callee := .builtin .append, args := #[x, y], argTypes := #[102, 102] }) {B g : Nat} {v u : Value} {us : List Value} (hx : a.eval x = v) (hrow : Row w B 29 v us) (hy : a.eval y = .slice (some ⟨g, 0, none⟩) 1 1)
    (hc : w.cell? ⟨g, 0, none⟩ = some u) (h1 : u.oneCell' = true) (hl : us.length ≤ 1000000) (hB : B ≤ w.heap.size)
    (hk : ∀ v' w', Row w' B 29 v' (us ++ [u]) → w.grownBy w' v.ownBlock → K (a.put o.dst v') w') : if Region.wanted o (yielded ops a.tmps) = true then Oper.wp Tryd.prog o a w K Q else E := by
  rw [if_pos (by simp [Region.wanted, hgd])]
  exact wp_appD Tryd.underlying102 infoSlN x y ho hx hrow hy hc h1 hl hB hk
theorem arrFullD {w : World} {base g n : Nat} {t : TypeId} {xs : List Value} (h : w.ownsRow base t 1 (.slice (some ⟨g, 0, none⟩) n n) n xs) : Arr w g t xs := by
  rcases h.2 with ⟨hv, _⟩ | ⟨g', cap, cur, hv, _, hg, hle, _, hs, ht⟩
  · cases hv
  · injection hv with e1 e2 e3
    injection e1 with e1
    injection e1 with e1
    subst e1 e3
    have : cur.toList = xs := by
      rw [← ht]
      exact (List.take_of_length_le (by simp only [Array.length_toList]; omega)).symm
    unfold Arr
    rw [hg, ← this]
theorem step_makeD (hgd : o.guard = none) (l c : Operand) (ho : o.op = .makeSlice 29 l c) (hl : a.eval l = .int .i64 512) (hc : a.eval c = .int .i64 512) (hk : ∀ w', Arr w' w.heap.size 5 (zsec.map (Value.int .u8)) → Below w.heap.size w w' → K (a.put o.dst (.slice (some ⟨w.heap.size, 0, none⟩) 512 512)) w') : if Region.wanted o (yielded ops a.tmps) = true then Oper.wp Tryd.prog o a w K Q else E := by
  rw [if_pos (by simp [Region.wanted, hgd])]
  obtain ⟨i0, hi, hz0, hz1, hz2⟩ := info_parts info8
  obtain ⟨w', hrun, r1, r2⟩ := run_make_full (P := Tryd.prog) w w.heap.size 29 5 i0 (.int .u8 0) 1 Tryd.underlying29 hi hz0 hz1 .i64 .i64 512 (by rw [hz2]; omega) (by unfold maxLen; omega) (Nat.le_refl _)
  have h512 : ((512 : Nat) : Int) = 512 := rfl
  rw [h512] at hrun
  unfold Oper.wp execOp
  simp only [ho, hl, hc, Sem.run_bind, hrun, Result.andThen_ok, Sem.run_pure]
  rw [made8] at r1
  refine hk w' ?_ ((Below.refl _ _).grown r2 (Nat.le_refl _) (fun b hb => by cases hb))
  unfold zsec
  rw [List.map_replicate]
  exact arrFullD r1
theorem loadD_run {W : World} {ad : Addr} {v : Value} (h : W.cell? ad = some v) : (Instr.loadAt 102 (.pointer (some ad))).run Tryd.prog W = .ok v W := by
  have hu := Tryd.underlying102
  go_simp
theorem step_loadD (hgd : o.guard = none) (x : Operand) (ho : o.op = .load 102 x) {ad : Addr} {v : Value} (hx : a.eval x = .pointer (some ad)) (hc : w.cell? ad = some v) (hk : K (a.put o.dst v) w) : if Region.wanted o (yielded ops a.tmps) = true then Oper.wp Tryd.prog o a w K Q else E := by
  rw [if_pos (by simp [Region.wanted, hgd])]
  unfold Oper.wp execOp
  simp only [ho, hx, Sem.run_bind, loadD_run hc, Result.andThen_ok, Sem.run_pure]
  exact hk
theorem storeD_run {W : World} {ad : Addr} {v u : Value} {aa : Option Addr} {n c : Nat} (hv : v = .slice aa n c) (h : W.cell? ad = some u) (hf : W.frozen? ad = false) : (Instr.storeAt 102 (.pointer (some ad)) v).run Tryd.prog W = .ok () (W.setCell ad v) := by
  subst hv
  obtain ⟨b, o, s⟩ := ad
  have hs : s = none := by
    cases s with
    | none => rfl
    | some x => simp [World.cell?] at h; split at h <;> simp at h
  subst hs
  go_simp
theorem step_storeD (hgd : o.guard = none) (x y : Operand) (ho : o.op = .store 102 x y) {ad : Addr} {v u : Value} {aa : Option Addr} {n c : Nat} (hx : a.eval x = .pointer (some ad)) (hy : a.eval y = v) (hv : v = .slice aa n c) (hc : w.cell? ad = some u) (hf : w.frozen? ad = false) (hk : K (a.put o.dst undef) (w.setCell ad v)) : if Region.wanted o (yielded ops a.tmps) = true then Oper.wp Tryd.prog o a w K Q else E := by
  rw [if_pos (by simp [Region.wanted, hgd])]
  unfold Oper.wp execOp
  simp only [ho, hx, hy, Sem.run_bind, storeD_run hv hc hf, Result.andThen_ok, Sem.run_pure]
  exact hk
theorem bslD_run (W : World) (ua : Option Addr) (un uc : Nat) : (Instr.buildSlice 102 1 #[(0, .slice ua un uc)]).run Tryd.prog W = .ok (.slice (some ⟨W.heap.size, 0, none⟩) 1 1) (W.alloc (.cells #[.slice ua un uc] 29)) := by kernel_rfl
theorem step_bslD (hgd : o.guard = none) (x : Operand) (ho : o.op = .buildSlice 102 1 #[(0, x)]) {ua : Option Addr} {un uc : Nat} (hx : a.eval x = .slice ua un uc)
    (hk : K (a.put o.dst (.slice (some ⟨w.heap.size, 0, none⟩) 1 1)) (w.alloc (.cells #[.slice ua un uc] 29))) : if Region.wanted o (yielded ops a.tmps) = true then Oper.wp Tryd.prog o a w K Q else E := by
  rw [if_pos (by simp [Region.wanted, hgd])]
  unfold Oper.wp execOp
  simp only [ho, List.map_toArray, List.map_cons, List.map_nil, hx, Sem.run_bind, bslD_run w, Result.andThen_ok, Sem.run_pure]
  exact hk
end
/-- The disk while it is made: k sectors that last, m lists of writes. -/
structure Nd (w W : World) (p k m : Nat) (v1 v2 : Value) (us : List Value) : Prop where
  arr : Arr W p 105 [v1, v2, .int .i64 0, .int .i64 0]
  r1 : Row W w.heap.size 29 v1 us
  len : us.length = k
  each : ∀ j, j < k → ∃ g, us[j]? = some (.slice (some ⟨g, 0, none⟩) 512 512) ∧ Arr W g 5 (zsec.map (Value.int .u8))
  r2 : Row W w.heap.size 102 v2 (List.replicate m (.slice none 0 0))
  be : Below w.heap.size w W
  lo : w.heap.size ≤ p
theorem Nd.below {w W W' : World} {p k m : Nat} {v1 v2 : Value} {us : List Value} (h : Nd w W p k m v1 v2 us) (hb : Below W.heap.size W W') : Nd w W' p k m v1 v2 us :=
  ⟨h.arr.below hb, owns_below h.r1 hb, h.len, fun j hj => by obtain ⟨g, q1, q2⟩ := h.each j hj; exact ⟨g, q1, q2.below hb⟩, owns_below h.r2 hb, below_then h.be hb, h.lo⟩
theorem rowD_ne {W : World} {B g : Nat} {t t2 : TypeId} {v : Value} {us cs : List Value} (h : Row W B t v us) (hA : Arr W g t2 cs) (ht : t2 ≠ t) : some g ≠ v.ownBlock := by
  rcases h.2 with ⟨rfl, _⟩ | ⟨g', cap, cur, rfl, _, hg, _⟩
  · exact fun e => by cases e
  · intro e
    simp only [Value.ownBlock, Option.some.injEq] at e
    subst e
    unfold Arr at hA
    rw [hg] at hA
    simp only [Option.some.injEq, Obj.cells.injEq] at hA
    exact ht hA.2.1.symm
theorem rowD_set {W : World} {B p j : Nat} {t : TypeId} {v u : Value} {us cs : List Value} (h : Row W B t v us) (hA : Arr W p 105 cs) (ht : 105 ≠ t) : Row (W.setCell ⟨p, j, none⟩ u) B t v us := by
  have hg : W.grownBy (W.setCell ⟨p, j, none⟩ u) (some p) := ⟨rfl, rfl, rfl, by simp, fun k _ hk => Below.heap_setCell W ⟨p, j, none⟩ u k (fun e => hk (by rw [e]))⟩
  exact h.kept hg (Or.inr fun e => rowD_ne h hA ht e.symm)
theorem belowD_set {w W : World} {p j : Nat} {u : Value} (h : Below w.heap.size w W) (hlo : w.heap.size ≤ p) : Below w.heap.size w (W.setCell ⟨p, j, none⟩ u) :=
  jbelow_grown h ⟨rfl, rfl, rfl, by simp, fun k _ hk => Below.heap_setCell W ⟨p, j, none⟩ u k (fun e => hk (by rw [e]))⟩ h.size hlo
/-- A sector more. -/
theorem Nd.first {w W W1 W2 : World} {p k m g : Nat} {v1 v2 v1' : Value} {us : List Value} {o : Obj} (h : Nd w W p k m v1 v2 us) (hb : Below W.heap.size W W1) (hA : Arr W1 g 5 (zsec.map (Value.int .u8))) (hg : (W1.alloc o).grownBy W2 v1.ownBlock) (hr : Row W2 w.heap.size 29 v1' (us ++ [.slice (some ⟨g, 0, none⟩) 512 512])) : Nd w (W2.setCell ⟨p, 0, none⟩ v1') p (k + 1) m v1' v2 (us ++ [.slice (some ⟨g, 0, none⟩) 512 512]) := by
  have hba := jalloc_below W1 o
  have h2 := (h.below hb).below hba
  have hA2 := hA.below hba
  have hA3 : Arr W2 p 105 [v1, v2, .int .i64 0, .int .i64 0] := arr_grown h2.arr hg (rowD_ne h2.r1 h2.arr (by decide))
  have hz : ∀ g' cs, Arr (W1.alloc o) g' 5 cs → Arr (W2.setCell ⟨p, 0, none⟩ v1') g' 5 cs := fun g' cs q => by
    have q2 := arr_grown q hg (rowD_ne h2.r1 q (by decide))
    refine q2.other _ _ (fun e => ?_)
    simp only at e
    subst e
    unfold Arr at q2 hA3
    rw [hA3] at q2
    simp only [Option.some.injEq, Obj.cells.injEq] at q2
    exact absurd q2.2.1 (by decide)
  refine ⟨hA3.set 0 v1', rowD_set hr hA3 (by decide), by rw [List.length_append, h.len]; rfl, fun j hj => ?_, rowD_set (h2.r2.kept hg ?_) hA3 (by decide), belowD_set (h2.be.grown hg h2.be.size (fun j hj => (h2.r1.lt j hj).1)) h.lo, h.lo⟩
  · by_cases e : j < k
    · obtain ⟨g', q1, q2⟩ := h2.each j e
      exact ⟨g', by rw [List.getElem?_append_left (by rw [h.len]; exact e)]; exact q1, hz _ _ q2⟩
    · refine ⟨g, ?_, hz _ _ hA2⟩
      rw [List.getElem?_append_right (by rw [h.len]; omega), h.len, show j - k = 0 by omega]
      rfl
  · exact h2.r2.apart h2.r1 (by decide)
/-- A list of writes more. -/
theorem Nd.second {w W W2 : World} {p k m : Nat} {v1 v2 v2' : Value} {us : List Value} {o : Obj} (h : Nd w W p k m v1 v2 us) (hg : (W.alloc o).grownBy W2 v2.ownBlock) (hr : Row W2 w.heap.size 102 v2' (List.replicate m (.slice none 0 0) ++ [.slice none 0 0])) : Nd w (W2.setCell ⟨p, 1, none⟩ v2') p k (m + 1) v1 v2' us := by
  have hba := jalloc_below W o
  have h2 := h.below hba
  have hA3 : Arr W2 p 105 [v1, v2, .int .i64 0, .int .i64 0] := arr_grown h2.arr hg (rowD_ne h2.r2 h2.arr (by decide))
  refine ⟨hA3.set 1 v2', rowD_set (h2.r1.kept hg (h2.r1.apart h2.r2 (by decide))) hA3 (by decide), h.len, fun j hj => ?_, rowD_set (by rw [List.replicate_succ']; exact hr) hA3 (by decide), belowD_set (h2.be.grown hg h2.be.size (fun j hj => (h2.r2.lt j hj).1)) h.lo, h.lo⟩
  obtain ⟨g', q1, q⟩ := h2.each j hj
  have q2 := arr_grown q hg (rowD_ne h2.r2 q (by decide))
  refine ⟨g', q1, q2.other _ _ (fun e => ?_)⟩
  simp only at e
  subst e
  unfold Arr at q2 hA3
  rw [hA3] at q2
  simp only [Option.some.injEq, Obj.cells.injEq] at q2
  exact absurd q2.2.1 (by decide)
theorem isB_arrD {w : World} {g : Nat} (h : Arr w g 5 (zsec.map (Value.int .u8))) : IsB w (.slice (some ⟨g, 0, none⟩) 512 512) zsec := by
  have hs := zsec_is
  refine ⟨bytes_mem hs.2, some ⟨g, 0, none⟩, 512, by rw [hs.1], by rw [hs.1]; exact Nat.le_refl _, by decide, (fun h => by cases h), fun _ => ⟨g, 0, rfl, fun j hj => ?_⟩⟩
  rw [h.cell (0 + j), Nat.zero_add, List.getElem?_map, List.getElem?_eq_getElem hj, List.getD_eq_getElem?_getD, List.getElem?_eq_getElem hj]
  rfl
theorem Nd.rz {w W : World} {p k : Nat} {v1 v2 : Value} {us : List Value} (h : Nd w W p k k v1 v2 us) (hk : 0 < k) : RZ W p k := by
  obtain ⟨a, c, e1, c1, c2, _, _⟩ := h.r1.head (by rw [h.len]; exact hk)
  obtain ⟨b, d, e2, d1, d2, _, _⟩ := h.r2.head (by rw [List.length_replicate]; exact hk)
  rw [h.len] at e1 c1
  rw [List.length_replicate] at e2 d1
  have hr1 := h.r1
  have hr2 := h.r2
  have ha := h.arr
  rw [e1] at hr1 ha
  rw [e2] at hr2 ha
  refine ⟨a, b, c, d, _, ha, ⟨c1, c2⟩, ⟨d1, d2⟩, fun i hi => ?_, fun i hi => ?_⟩
  · rw [hr2.cellAt (by rw [List.length_replicate]; exact hi), List.getElem?_replicate, if_pos hi]
  · obtain ⟨g, q1, q2⟩ := h.each i hi
    refine ⟨_, ?_, isB_arrD q2⟩
    rw [hr1.cellAt (by rw [h.len]; exact hi), q1]
theorem row_allocD {W : World} {B : Nat} {t : TypeId} {v : Value} {xs : List Value} (h : Row W B t v xs) (o : Obj) : Row (W.alloc o) B t v xs := h.kept (World.grownBy_alloc W o none) (by cases v.ownBlock <;> simp)
theorem cellD_alloc {W : World} {ad : Addr} {v : Value} {o : Obj} (h : W.cell? ad = some v) : (W.alloc o).cell? ad = some v := ((jalloc_below W o).cell (World.block_lt_of_cell? W _ h)).trans h
theorem infoD17 : (Tryd.prog.info? 105).map (·.size) = some 4 := by kernel_rfl
theorem bldD17 (W : World) : (Instr.build 105 #[]).run Tryd.prog W = .ok (.agg [Value.slice none 0 0, .slice none 0 0, .int .i64 0, .int .i64 0].toArray) W := by kernel_rfl
set_option maxRecDepth 100000 in
set_option maxHeartbeats 2000000 in
theorem newdisk17_calls {w : World} {n : Nat} (hn0 : 0 < n) (hn : n ≤ 1000) : Calls Tryd.prog 26 #[.int .i64 (n : Int)] w fun e w' => ∃ p, e = .returned (.pointer (some ⟨p, 0, none⟩)) ∧ RZ w' p n ∧ Below w.heap.size w w' := by
  have hbl := bldD17
  go_enter Tryd.func26, Tryd.ntmps26
  go_wp2_with (first
    | (refine wpList_bldJ rfl 105 rfl hbl ?_)
    | (refine wpList_boxJ rfl 105 (.tmp 5) rfl rfl ?_; intro w1 hA1 hb1 hs1
       have HN1 : Hid (Nd w w1 w.heap.size 0 0 (.slice none 0 0) (.slice none 0 0) []) := hide ⟨hA1, Row.nil _ _ _, rfl, fun j hj => absurd hj (Nat.not_lt_zero j), Row.nil _ _ _, hb1, Nat.le_refl _⟩
       clear hA1 hb1 hs1)
    | fail)
  generalize hp : w.heap.size = p at *
  have HP := hide hp
  clear hp
  go_loopw [4] (fun iv W => ∃ (k : Nat), k ≤ n ∧ iv = .int .i64 (k : Int) ∧ Hid (∃ v1 v2 us, Nd w W p k k v1 v2 us)) (fun iv _ => n - (intOf iv).toNat)
  case atStart => exact ⟨0, by omega, rfl, hide ⟨_, _, _, HN1.out⟩⟩
  case round =>
    clear HN1
    obtain ⟨k, hk, rfl, HK⟩ := hrel
    by_cases hlt : k < n
    · have hltI : (k : Int) < (n : Int) := by omega
      obtain ⟨v1, v2, us, hN⟩ := HK.out
      have HN := hide hN
      have hc0 := hN.arr.cell 0
      obtain ⟨a1, e1, hsh1⟩ := hN.r1.shape
      have HNX : Hid (∀ W1 W2 g v1' o, Below wr.heap.size wr W1 → Arr W1 g 5 (zsec.map (Value.int .u8)) → (W1.alloc o).grownBy W2 v1.ownBlock → Row W2 w.heap.size 29 v1' (us ++ [.slice (some ⟨g, 0, none⟩) 512 512]) → Nd w (W2.setCell ⟨p, 0, none⟩ v1') p (k + 1) k v1' v2 (us ++ [.slice (some ⟨g, 0, none⟩) 512 512])) := hide (fun W1 W2 g v1' o h1 h2 h3 h4 => HN.out.first h1 h2 h3 h4)
      have HRW : Hid (∀ W1, Below wr.heap.size wr W1 → W1.cell? ⟨p, 0, none⟩ = some v1 ∧ (∀ o, Row (W1.alloc o) w.heap.size 29 v1 us ∧ w.heap.size ≤ (W1.alloc o).heap.size) ∧ (∀ o W2, (W1.alloc o).grownBy W2 v1.ownBlock → W2.cell? ⟨p, 0, none⟩ = some v1 ∧ W2.frozen? ⟨p, 0, none⟩ = false)) := hide (fun W1 h1 => by
        have q := HN.out.below h1
        refine ⟨q.arr.cell 0, fun o => ⟨(q.below (jalloc_below W1 o)).r1, (q.below (jalloc_below W1 o)).be.size⟩, fun o W2 hg => ?_⟩
        have q3 := q.below (jalloc_below W1 o)
        have q4 := arr_grown q3.arr hg (rowD_ne q3.r1 q3.arr (by decide))
        exact ⟨q4.cell 0, q4.frozen 0⟩)
      have HUS : Hid (us.length ≤ 1000000) := hide (by rw [hN.len]; omega)
      have HBD : Hid (Below wr.heap.size wr wr.drew) := hide ((Below.refl _ _).drew)
      have HS1 : Hid (∃ a c, v1 = .slice a us.length c) := hide ⟨a1, e1, hsh1⟩
      clear hN hc0 hsh1 HK
      go_wp2_with fail
      refine wp_region_held_drew (S := fun _ => True) (by kernel_rfl) (trivial) (fun hHeld => ?_)
      refine wpAnyH_take (i := 0) (v := .pointer (some ⟨p, 0, none⟩)) rfl (by kernel_rfl) (by kernel_rfl) (by kernel_rfl) (fun _ _ _ h => h) (Or.inl ⟨by rfl, fun w hSw => by go_simp⟩) (by assumption) ?_
      simp only [List.getElem_toArray, List.getElem_cons_zero, Act.put, List.setIfInBounds_toArray, List.set_cons_zero, List.set_cons_succ]
      refine wpAnyH_take (i := 1) (v := .pointer (some ⟨p, 0, none⟩)) rfl (by kernel_rfl) (by kernel_rfl) (by kernel_rfl) (fun _ _ _ h => h) (Or.inl ⟨by rfl, fun w hSw => by go_simp⟩) (by assumption) ?_
      simp only [List.getElem_toArray, List.getElem_cons_succ, List.getElem_cons_zero, Act.put, List.setIfInBounds_toArray, List.set_cons_zero, List.set_cons_succ]
      refine wpAnyH_take (i := 2) (v := .pointer (some ⟨p, 0, none⟩)) rfl (by kernel_rfl) (by kernel_rfl) (by kernel_rfl) (fun _ _ _ h => h) (Or.inl ⟨by rfl, fun w hSw => by go_simp⟩) (by assumption) ?_
      simp only [List.getElem_toArray, List.getElem_cons_succ, List.getElem_cons_zero, Act.put, List.setIfInBounds_toArray, List.set_cons_zero, List.set_cons_succ]
      refine wpAnyH_take (i := 3) (v := .pointer (some ⟨p, 0, none⟩)) rfl (by kernel_rfl) (by kernel_rfl) (by kernel_rfl) (fun _ _ _ h => h) (Or.inl ⟨by rfl, fun w hSw => by go_simp⟩) (by assumption) ?_
      simp only [List.getElem_toArray, List.getElem_cons_succ, List.getElem_cons_zero, Act.put, List.setIfInBounds_toArray, List.set_cons_zero, List.set_cons_succ]
      refine wpAnyH_ready (rs := [4, 5]) (by kernel_rfl) (by simp) (AllReadyH.cons rfl (fun K hK => ?_) (AllReadyH.cons rfl (fun K hK => ?_) AllReadyH.nil))
      · refine step_loadD (by rfl) (.tmp 15) rfl rfl (unhide HRW _ HBD.out).1 ?_
        refine hK.out _ _ (trivial) (fun hJ4 => ?_)
        clear hK K
        simp only [List.getElem_toArray, List.getElem_cons_succ, List.getElem_cons_zero, Act.put, List.setIfInBounds_toArray, List.set_cons_zero, List.set_cons_succ]
        refine wpAnyH_ready (rs := [5]) (by kernel_rfl) (by simp) (AllReadyH.cons rfl (fun K hK => ?_) AllReadyH.nil)
        refine step_makeD (by rfl) _ _ rfl rfl rfl ?_
        intro w5 hAw5 hbw5
        have HAw5 := hide hAw5
        have HBw5 := hide (below_then HBD.out hbw5)
        clear hAw5 hbw5
        refine hK.out _ _ (trivial) (fun hJ5 => ?_)
        clear hK K
        simp only [List.getElem_toArray, List.getElem_cons_succ, List.getElem_cons_zero, Act.put, List.setIfInBounds_toArray, List.set_cons_zero, List.set_cons_succ]
        refine wpAnyH_ready (rs := [6]) (by kernel_rfl) (by simp) (AllReadyH.cons rfl (fun K hK => ?_) AllReadyH.nil)
        refine step_bslD (by rfl) (.tmp 17) rfl rfl ?_
        refine hK.out _ _ (trivial) (fun hJ6 => ?_)
        clear hK K
        simp only [List.getElem_toArray, List.getElem_cons_succ, List.getElem_cons_zero, Act.put, List.setIfInBounds_toArray, List.set_cons_zero, List.set_cons_succ]
        refine wpAnyH_ready (rs := [7]) (by kernel_rfl) (by simp) (AllReadyH.cons rfl (fun K hK => ?_) AllReadyH.nil)
        refine step_appD (by rfl) (.tmp 16) (.tmp 18) rfl rfl ((unhide HRW _ HBw5.out).2.1 _).1 rfl (u := .slice (some ⟨wr.drew.heap.size, 0, none⟩) 512 512) (by simp) rfl HUS.out ((unhide HRW _ HBw5.out).2.1 _).2 ?_
        intro v7 w7 hr7 hg7
        have HX7 := hide ((unhide HRW _ HBw5.out).2.2 _ _ hg7)
        have HN7 := hide (unhide HNX _ _ _ _ _ HBw5.out HAw5.out hg7 hr7)
        obtain ⟨a7, c7, hs7⟩ := hr7.shape
        clear hr7 hg7
        refine hK.out _ _ (trivial) (fun hJ7 => ?_)
        clear hK K
        simp only [List.getElem_toArray, List.getElem_cons_succ, List.getElem_cons_zero, Act.put, List.setIfInBounds_toArray, List.set_cons_zero, List.set_cons_succ]
        refine wpAnyH_take (i := 8) (v := .pointer (some ⟨p, 0, none⟩)) rfl (by kernel_rfl) (by kernel_rfl) (by kernel_rfl) (fun _ _ _ h => h) (Or.inl ⟨by rfl, fun w hSw => by go_simp⟩) (by assumption) ?_
        simp only [List.getElem_toArray, List.getElem_cons_succ, List.getElem_cons_zero, Act.put, List.setIfInBounds_toArray, List.set_cons_zero, List.set_cons_succ]
        refine wpAnyH_take (i := 9) (v := .pointer (some ⟨p, 0, none⟩)) rfl (by kernel_rfl) (by kernel_rfl) (by kernel_rfl) (fun _ _ _ h => h) (Or.inl ⟨by rfl, fun w hSw => by go_simp⟩) (by assumption) ?_
        simp only [List.getElem_toArray, List.getElem_cons_succ, List.getElem_cons_zero, Act.put, List.setIfInBounds_toArray, List.set_cons_zero, List.set_cons_succ]
        refine wpAnyH_ready (rs := [10]) (by kernel_rfl) (by simp) (AllReadyH.cons rfl (fun K hK => ?_) AllReadyH.nil)
        refine step_storeD (v := v7) (ad := ⟨p, 0, none⟩) (by rfl) (.tmp 21) (.tmp 19) rfl rfl rfl hs7 HX7.out.1 HX7.out.2 ?_
        refine hK.out _ _ (trivial) (fun hJ10 => ?_)
        clear hK K
        simp only [List.getElem_toArray, List.getElem_cons_succ, List.getElem_cons_zero, Act.put]
        refine wpAnyH_done (by kernel_rfl) ?_ _
        generalize hw8 : w7.setCell ⟨p, 0, none⟩ v7 = w8 at *
        clear hw8
        obtain ⟨a2, c2, hs2⟩ := HN7.out.r2.shape
        rw [List.length_replicate] at hs2
        obtain ⟨m7, hm7⟩ : ∃ m7, (us ++ [Value.slice (some ⟨wr.drew.heap.size, 0, none⟩) 512 512]).length = m7 := ⟨_, rfl⟩
        rw [hm7] at hs7
        clear hm7
        subst hs7 hs2
        have hc1 : w8.cell? ⟨p, 1, none⟩ = some (.slice a2 k c2) := HN7.out.arr.cell 1
        have hr2 := row_allocD HN7.out.r2 (.cells #[.slice none 0 0] 102)
        have hB2 : w.heap.size ≤ (w8.alloc (.cells #[.slice none 0 0] 102)).heap.size := Nat.le_trans HN7.out.be.size (jalloc_below w8 _).size
        have hl2 : (List.replicate k (Value.slice none 0 0)).length ≤ 1000000 := by rw [List.length_replicate]; omega
        have HFR : Hid (∀ W2, (w8.alloc (.cells #[.slice none 0 0] 102)).grownBy W2 (Value.slice a2 k c2).ownBlock → (∃ u, W2.cell? ⟨p, 1, none⟩ = some u) ∧ W2.frozen? ⟨p, 1, none⟩ = false) := hide (fun W2 hg => by
          have q3 := HN7.out.below (jalloc_below w8 (.cells #[.slice none 0 0] 102))
          have q4 := arr_grown q3.arr hg (rowD_ne q3.r2 q3.arr (by decide))
          exact ⟨⟨_, q4.cell 1⟩, q4.frozen 1⟩)
        have HN8 : Hid (∀ W2 v2', (w8.alloc (.cells #[.slice none 0 0] 102)).grownBy W2 (Value.slice a2 k c2).ownBlock → Row W2 w.heap.size 102 v2' (List.replicate k (.slice none 0 0) ++ [.slice none 0 0]) → ∃ v1 v2 us, Nd w (W2.setCell ⟨p, 1, none⟩ v2') p (k + 1) (k + 1) v1 v2 us) := hide (fun W2 v2' h1 h2 => ⟨_, _, _, HN7.out.second h1 h2⟩)
        clear HN7 HX7 HS1 HNX HRW
        go_wp2_with (first
          | (at_builtin; refine wpList_appD Tryd.underlying103 infoSlM rfl (.tmp 26) (.tmp 27) rfl rfl hr2 rfl (u := .slice none 0 0) (by simp) rfl hl2 hB2 ?_; intro v9 w9 hr9 hg9
             obtain ⟨⟨u9, hc9⟩, hf9⟩ := unhide HFR w9 hg9
             have HN9 := hide (unhide HN8 w9 v9 hg9 hr9)
             obtain ⟨a9, c9, hs9⟩ := hr9.shape
             rw [List.length_append, List.length_replicate, List.length_singleton] at hs9
             subst hs9
             clear hr9 hg9)
          | fail)
        go_roundw
        case rel => exact ⟨k + 1, by omega, by go_num, HN9⟩
        case measure => simp [intOf]; omega
      · refine step_makeD (by rfl) _ _ rfl rfl rfl ?_
        intro w5 hAw5 hbw5
        have HAw5 := hide hAw5
        have HBw5 := hide (below_then HBD.out hbw5)
        clear hAw5 hbw5
        refine hK.out _ _ (trivial) (fun hJ5 => ?_)
        clear hK K
        simp only [List.getElem_toArray, List.getElem_cons_succ, List.getElem_cons_zero, Act.put, List.setIfInBounds_toArray, List.set_cons_zero, List.set_cons_succ]
        refine wpAnyH_ready (rs := [4, 6]) (by kernel_rfl) (by simp) (AllReadyH.cons rfl (fun K hK => ?_) (AllReadyH.cons rfl (fun K hK => ?_) AllReadyH.nil))
        · refine step_loadD (by rfl) (.tmp 15) rfl rfl (unhide HRW _ HBw5.out).1 ?_
          refine hK.out _ _ (trivial) (fun hJ4 => ?_)
          clear hK K
          simp only [List.getElem_toArray, List.getElem_cons_succ, List.getElem_cons_zero, Act.put, List.setIfInBounds_toArray, List.set_cons_zero, List.set_cons_succ]
          refine wpAnyH_ready (rs := [6]) (by kernel_rfl) (by simp) (AllReadyH.cons rfl (fun K hK => ?_) AllReadyH.nil)
          refine step_bslD (by rfl) (.tmp 17) rfl rfl ?_
          refine hK.out _ _ (trivial) (fun hJ6 => ?_)
          clear hK K
          simp only [List.getElem_toArray, List.getElem_cons_succ, List.getElem_cons_zero, Act.put, List.setIfInBounds_toArray, List.set_cons_zero, List.set_cons_succ]
          refine wpAnyH_ready (rs := [7]) (by kernel_rfl) (by simp) (AllReadyH.cons rfl (fun K hK => ?_) AllReadyH.nil)
          refine step_appD (by rfl) (.tmp 16) (.tmp 18) rfl rfl ((unhide HRW _ HBw5.out).2.1 _).1 rfl (u := .slice (some ⟨wr.drew.heap.size, 0, none⟩) 512 512) (by simp) rfl HUS.out ((unhide HRW _ HBw5.out).2.1 _).2 ?_
          intro v7 w7 hr7 hg7
          have HX7 := hide ((unhide HRW _ HBw5.out).2.2 _ _ hg7)
          have HN7 := hide (unhide HNX _ _ _ _ _ HBw5.out HAw5.out hg7 hr7)
          obtain ⟨a7, c7, hs7⟩ := hr7.shape
          clear hr7 hg7
          refine hK.out _ _ (trivial) (fun hJ7 => ?_)
          clear hK K
          simp only [List.getElem_toArray, List.getElem_cons_succ, List.getElem_cons_zero, Act.put, List.setIfInBounds_toArray, List.set_cons_zero, List.set_cons_succ]
          refine wpAnyH_take (i := 8) (v := .pointer (some ⟨p, 0, none⟩)) rfl (by kernel_rfl) (by kernel_rfl) (by kernel_rfl) (fun _ _ _ h => h) (Or.inl ⟨by rfl, fun w hSw => by go_simp⟩) (by assumption) ?_
          simp only [List.getElem_toArray, List.getElem_cons_succ, List.getElem_cons_zero, Act.put, List.setIfInBounds_toArray, List.set_cons_zero, List.set_cons_succ]
          refine wpAnyH_take (i := 9) (v := .pointer (some ⟨p, 0, none⟩)) rfl (by kernel_rfl) (by kernel_rfl) (by kernel_rfl) (fun _ _ _ h => h) (Or.inl ⟨by rfl, fun w hSw => by go_simp⟩) (by assumption) ?_
          simp only [List.getElem_toArray, List.getElem_cons_succ, List.getElem_cons_zero, Act.put, List.setIfInBounds_toArray, List.set_cons_zero, List.set_cons_succ]
          refine wpAnyH_ready (rs := [10]) (by kernel_rfl) (by simp) (AllReadyH.cons rfl (fun K hK => ?_) AllReadyH.nil)
          refine step_storeD (v := v7) (ad := ⟨p, 0, none⟩) (by rfl) (.tmp 21) (.tmp 19) rfl rfl rfl hs7 HX7.out.1 HX7.out.2 ?_
          refine hK.out _ _ (trivial) (fun hJ10 => ?_)
          clear hK K
          simp only [List.getElem_toArray, List.getElem_cons_succ, List.getElem_cons_zero, Act.put]
          refine wpAnyH_done (by kernel_rfl) ?_ _
          generalize hw8 : w7.setCell ⟨p, 0, none⟩ v7 = w8 at *
          clear hw8
          obtain ⟨a2, c2, hs2⟩ := HN7.out.r2.shape
          rw [List.length_replicate] at hs2
          obtain ⟨m7, hm7⟩ : ∃ m7, (us ++ [Value.slice (some ⟨wr.drew.heap.size, 0, none⟩) 512 512]).length = m7 := ⟨_, rfl⟩
          rw [hm7] at hs7
          clear hm7
          subst hs7 hs2
          have hc1 : w8.cell? ⟨p, 1, none⟩ = some (.slice a2 k c2) := HN7.out.arr.cell 1
          have hr2 := row_allocD HN7.out.r2 (.cells #[.slice none 0 0] 102)
          have hB2 : w.heap.size ≤ (w8.alloc (.cells #[.slice none 0 0] 102)).heap.size := Nat.le_trans HN7.out.be.size (jalloc_below w8 _).size
          have hl2 : (List.replicate k (Value.slice none 0 0)).length ≤ 1000000 := by rw [List.length_replicate]; omega
          have HFR : Hid (∀ W2, (w8.alloc (.cells #[.slice none 0 0] 102)).grownBy W2 (Value.slice a2 k c2).ownBlock → (∃ u, W2.cell? ⟨p, 1, none⟩ = some u) ∧ W2.frozen? ⟨p, 1, none⟩ = false) := hide (fun W2 hg => by
            have q3 := HN7.out.below (jalloc_below w8 (.cells #[.slice none 0 0] 102))
            have q4 := arr_grown q3.arr hg (rowD_ne q3.r2 q3.arr (by decide))
            exact ⟨⟨_, q4.cell 1⟩, q4.frozen 1⟩)
          have HN8 : Hid (∀ W2 v2', (w8.alloc (.cells #[.slice none 0 0] 102)).grownBy W2 (Value.slice a2 k c2).ownBlock → Row W2 w.heap.size 102 v2' (List.replicate k (.slice none 0 0) ++ [.slice none 0 0]) → ∃ v1 v2 us, Nd w (W2.setCell ⟨p, 1, none⟩ v2') p (k + 1) (k + 1) v1 v2 us) := hide (fun W2 v2' h1 h2 => ⟨_, _, _, HN7.out.second h1 h2⟩)
          clear HN7 HX7 HS1 HNX HRW
          go_wp2_with (first
            | (at_builtin; refine wpList_appD Tryd.underlying103 infoSlM rfl (.tmp 26) (.tmp 27) rfl rfl hr2 rfl (u := .slice none 0 0) (by simp) rfl hl2 hB2 ?_; intro v9 w9 hr9 hg9
               obtain ⟨⟨u9, hc9⟩, hf9⟩ := unhide HFR w9 hg9
               have HN9 := hide (unhide HN8 w9 v9 hg9 hr9)
               obtain ⟨a9, c9, hs9⟩ := hr9.shape
               rw [List.length_append, List.length_replicate, List.length_singleton] at hs9
               subst hs9
               clear hr9 hg9)
            | fail)
          go_roundw
          case rel => exact ⟨k + 1, by omega, by go_num, HN9⟩
          case measure => simp [intOf]; omega
        · refine step_bslD (by rfl) (.tmp 17) rfl rfl ?_
          refine hK.out _ _ (trivial) (fun hJ6 => ?_)
          clear hK K
          simp only [List.getElem_toArray, List.getElem_cons_succ, List.getElem_cons_zero, Act.put, List.setIfInBounds_toArray, List.set_cons_zero, List.set_cons_succ]
          refine wpAnyH_ready (rs := [4]) (by kernel_rfl) (by simp) (AllReadyH.cons rfl (fun K hK => ?_) AllReadyH.nil)
          refine step_loadD (by rfl) (.tmp 15) rfl rfl (cellD_alloc (unhide HRW _ HBw5.out).1) ?_
          refine hK.out _ _ (trivial) (fun hJ4 => ?_)
          clear hK K
          simp only [List.getElem_toArray, List.getElem_cons_succ, List.getElem_cons_zero, Act.put, List.setIfInBounds_toArray, List.set_cons_zero, List.set_cons_succ]
          refine wpAnyH_ready (rs := [7]) (by kernel_rfl) (by simp) (AllReadyH.cons rfl (fun K hK => ?_) AllReadyH.nil)
          refine step_appD (by rfl) (.tmp 16) (.tmp 18) rfl rfl ((unhide HRW _ HBw5.out).2.1 _).1 rfl (u := .slice (some ⟨wr.drew.heap.size, 0, none⟩) 512 512) (by simp) rfl HUS.out ((unhide HRW _ HBw5.out).2.1 _).2 ?_
          intro v7 w7 hr7 hg7
          have HX7 := hide ((unhide HRW _ HBw5.out).2.2 _ _ hg7)
          have HN7 := hide (unhide HNX _ _ _ _ _ HBw5.out HAw5.out hg7 hr7)
          obtain ⟨a7, c7, hs7⟩ := hr7.shape
          clear hr7 hg7
          refine hK.out _ _ (trivial) (fun hJ7 => ?_)
          clear hK K
          simp only [List.getElem_toArray, List.getElem_cons_succ, List.getElem_cons_zero, Act.put, List.setIfInBounds_toArray, List.set_cons_zero, List.set_cons_succ]
          refine wpAnyH_take (i := 8) (v := .pointer (some ⟨p, 0, none⟩)) rfl (by kernel_rfl) (by kernel_rfl) (by kernel_rfl) (fun _ _ _ h => h) (Or.inl ⟨by rfl, fun w hSw => by go_simp⟩) (by assumption) ?_
          simp only [List.getElem_toArray, List.getElem_cons_succ, List.getElem_cons_zero, Act.put, List.setIfInBounds_toArray, List.set_cons_zero, List.set_cons_succ]
          refine wpAnyH_take (i := 9) (v := .pointer (some ⟨p, 0, none⟩)) rfl (by kernel_rfl) (by kernel_rfl) (by kernel_rfl) (fun _ _ _ h => h) (Or.inl ⟨by rfl, fun w hSw => by go_simp⟩) (by assumption) ?_
          simp only [List.getElem_toArray, List.getElem_cons_succ, List.getElem_cons_zero, Act.put, List.setIfInBounds_toArray, List.set_cons_zero, List.set_cons_succ]
          refine wpAnyH_ready (rs := [10]) (by kernel_rfl) (by simp) (AllReadyH.cons rfl (fun K hK => ?_) AllReadyH.nil)
          refine step_storeD (v := v7) (ad := ⟨p, 0, none⟩) (by rfl) (.tmp 21) (.tmp 19) rfl rfl rfl hs7 HX7.out.1 HX7.out.2 ?_
          refine hK.out _ _ (trivial) (fun hJ10 => ?_)
          clear hK K
          simp only [List.getElem_toArray, List.getElem_cons_succ, List.getElem_cons_zero, Act.put]
          refine wpAnyH_done (by kernel_rfl) ?_ _
          generalize hw8 : w7.setCell ⟨p, 0, none⟩ v7 = w8 at *
          clear hw8
          obtain ⟨a2, c2, hs2⟩ := HN7.out.r2.shape
          rw [List.length_replicate] at hs2
          obtain ⟨m7, hm7⟩ : ∃ m7, (us ++ [Value.slice (some ⟨wr.drew.heap.size, 0, none⟩) 512 512]).length = m7 := ⟨_, rfl⟩
          rw [hm7] at hs7
          clear hm7
          subst hs7 hs2
          have hc1 : w8.cell? ⟨p, 1, none⟩ = some (.slice a2 k c2) := HN7.out.arr.cell 1
          have hr2 := row_allocD HN7.out.r2 (.cells #[.slice none 0 0] 102)
          have hB2 : w.heap.size ≤ (w8.alloc (.cells #[.slice none 0 0] 102)).heap.size := Nat.le_trans HN7.out.be.size (jalloc_below w8 _).size
          have hl2 : (List.replicate k (Value.slice none 0 0)).length ≤ 1000000 := by rw [List.length_replicate]; omega
          have HFR : Hid (∀ W2, (w8.alloc (.cells #[.slice none 0 0] 102)).grownBy W2 (Value.slice a2 k c2).ownBlock → (∃ u, W2.cell? ⟨p, 1, none⟩ = some u) ∧ W2.frozen? ⟨p, 1, none⟩ = false) := hide (fun W2 hg => by
            have q3 := HN7.out.below (jalloc_below w8 (.cells #[.slice none 0 0] 102))
            have q4 := arr_grown q3.arr hg (rowD_ne q3.r2 q3.arr (by decide))
            exact ⟨⟨_, q4.cell 1⟩, q4.frozen 1⟩)
          have HN8 : Hid (∀ W2 v2', (w8.alloc (.cells #[.slice none 0 0] 102)).grownBy W2 (Value.slice a2 k c2).ownBlock → Row W2 w.heap.size 102 v2' (List.replicate k (.slice none 0 0) ++ [.slice none 0 0]) → ∃ v1 v2 us, Nd w (W2.setCell ⟨p, 1, none⟩ v2') p (k + 1) (k + 1) v1 v2 us) := hide (fun W2 v2' h1 h2 => ⟨_, _, _, HN7.out.second h1 h2⟩)
          clear HN7 HX7 HS1 HNX HRW
          go_wp2_with (first
            | (at_builtin; refine wpList_appD Tryd.underlying103 infoSlM rfl (.tmp 26) (.tmp 27) rfl rfl hr2 rfl (u := .slice none 0 0) (by simp) rfl hl2 hB2 ?_; intro v9 w9 hr9 hg9
               obtain ⟨⟨u9, hc9⟩, hf9⟩ := unhide HFR w9 hg9
               have HN9 := hide (unhide HN8 w9 v9 hg9 hr9)
               obtain ⟨a9, c9, hs9⟩ := hr9.shape
               rw [List.length_append, List.length_replicate, List.length_singleton] at hs9
               subst hs9
               clear hr9 hg9)
            | fail)
          go_roundw
          case rel => exact ⟨k + 1, by omega, by go_num, HN9⟩
          case measure => simp [intOf]; omega
    · have hltI : decide ((k : Int) < (n : Int)) = false := by simp; omega
      have hkn : k = n := by omega
      obtain ⟨v1, v2, us, hN⟩ := HK.out
      rw [hkn] at hN
      have HF := hide (And.intro (hN.rz hn0) hN.be)
      clear hN HK hkn
      go_wp2
      go_ret
      exact ⟨p, rfl, HF.out⟩
end Go.Proofs.YtdmkpfpbhmchpaaDoor

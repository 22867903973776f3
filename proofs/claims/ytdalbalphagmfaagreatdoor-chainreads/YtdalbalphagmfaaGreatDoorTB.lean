/- ChainReads: the document's reading, in memory. ChainReads: one Step of the document's reading. -/
import Derived.Test.YtdalbalphagmfaaGreatDoorTA
import Derived.Deep.DeepCutAuto
namespace Go.Proofs.YtdalbalphagmfaaGreatDoor
open Go.RowKit Go.Maps

section
variable {ops : Array Oper} {o : Oper} {a : Act} {w : World} {K : Act → World → Prop} {Q : Exit → Act → World → Prop} {E : Prop}
theorem buildI1_run (W : World) (x : Int) : (Instr.buildSlice 23 1 #[(0, .int .i64 x)]).run Tryz.prog W = .ok (.slice (some ⟨W.heap.size, 0, none⟩) 1 1) (W.alloc (.cells #[.int .i64 x] 3)) := by kernel_rfl
theorem step_buildI1 (hgd : o.guard = none) (x : Operand) (ho : o.op = .buildSlice 23 1 #[(0, x)]) {n : Int} (hx : a.eval x = .int .i64 n)
 (hk : K (a.put o.dst (.slice (some ⟨w.heap.size, 0, none⟩) 1 1)) (w.alloc (.cells #[.int .i64 n] 3))) : if Region.wanted o (yielded ops a.tmps) = true then Oper.wp Tryz.prog o a w K Q else E := by
 rw [if_pos (by simp [Region.wanted, hgd])]
 unfold Oper.wp execOp
 simp only [ho, List.map_toArray, List.map_cons, List.map_nil, hx, Sem.run_bind, buildI1_run w, Result.andThen_ok, Sem.run_pure]
 exact hk
set_option maxRecDepth 100000 in
theorem step_appI1 (hgd : o.guard = none) (x y : Operand) (ho : o.op = .call { callee := .builtin .append, args := #[x, y], argTypes := #[23, 23] }) {B g : Nat} {v u : Value} {us : List Value} (hx : a.eval x = v) (hrow : Row w B 3 v us) (hy : a.eval y = .slice (some ⟨g, 0, none⟩) 1 1)
 (hc : w.cell? ⟨g, 0, none⟩ = some u) (h1 : u.oneCell' = true) (hl : us.length ≤ 1000000) (hB : B ≤ w.heap.size)
 (hk : ∀ v' w', Row w' B 3 v' (us ++ [u]) → w.grownBy w' v.ownBlock → (v'.ownBlock = v.ownBlock ∨ v'.ownBlock = some w.heap.size) → K (a.put o.dst v') w') : if Region.wanted o (yielded ops a.tmps) = true then Oper.wp Tryz.prog o a w K Q else E := by
 rw [if_pos (by simp [Region.wanted, hgd])]
 obtain ⟨i0, hi, hz0, hz1, hz2⟩ := info_parts infoI6
 obtain ⟨v', w', hr, h2, h3, h4, h5⟩ := run_append_share (P := Tryz.prog) w B 23 o.type 3 i0 (.int .i64 0) 8 Tryz.underlying23 hi hz0 hz1 hz2 rfl v us hrow ⟨g, 0, none⟩ 1 1 [u] rfl (fun j z hu => by
  cases j with
  | zero =>
    injection hu with hu
    subst hu
    exact hc
  | succ j => simp at hu) (fun z hz => by rw [List.mem_singleton.1 hz]; exact h1) (by unfold maxLen; omega) (by omega) hB
 unfold Oper.wp execOp
 simp only [ho, resolve, invoke, builtin, Sem.run_bind, Sem.run_pure, Result.andThen_ok, List.map_toArray, List.map_cons, List.map_nil, hx, hy, hr]
 exact hk v' w' h2 h3 h4
theorem storeI1_run {W : World} {ad : Addr} {v u : Value} {aa : Option Addr} {n c : Nat} (hv : v = .slice aa n c) (h : W.cell? ad = some u) (hf : W.frozen? ad = false) : (Instr.storeAt 23 (.pointer (some ad)) v).run Tryz.prog W = .ok () (W.setCell ad v) := by
 subst hv
 obtain ⟨b, o, s⟩ := ad
 have hs : s = none := by
  cases s with
  | none => rfl
  | some x => simp [World.cell?] at h; split at h <;> simp at h
 subst hs
 go_simp
theorem step_storeI1 (hgd : o.guard = none) (x y : Operand) (ho : o.op = .store 23 x y) {ad : Addr} {v u : Value} {aa : Option Addr} {n c : Nat} (hx : a.eval x = .pointer (some ad)) (hy : a.eval y = v) (hv : v = .slice aa n c) (hc : w.cell? ad = some u) (hf : w.frozen? ad = false) (hk : K (a.put o.dst undef) (w.setCell ad v)) : if Region.wanted o (yielded ops a.tmps) = true then Oper.wp Tryz.prog o a w K Q else E := by
 rw [if_pos (by simp [Region.wanted, hgd])]
 unfold Oper.wp execOp
 simp only [ho, hx, hy, Sem.run_bind, storeI1_run hv hc hf, Result.andThen_ok, Sem.run_pure]
 exact hk
theorem step_call6C (hgd : o.guard = none) (f : Nat) (hf : ∀ (v1 v2 v3 v4 v5 v6 : Value) (W : World), (callFunc f #[v1, v2, v3, v4, v5, v6]).run Tryz.prog W = .ok (.enter f #[v1, v2, v3, v4, v5, v6]) W) (x1 x2 x3 x4 x5 x6 : Operand) (ts : Array TypeId) (ho : o.op = .call { callee := .value (.func f), args := #[x1, x2, x3, x4, x5, x6], argTypes := ts }) {v1 v2 v3 v4 v5 v6 : Value} (h1 : a.eval x1 = v1) (h2 : a.eval x2 = v2) (h3 : a.eval x3 = v3) (h4 : a.eval x4 = v4) (h5 : a.eval x5 = v5) (h6 : a.eval x6 = v6)
 {Post : Ending → World → Prop} (hc : Calls Tryz.prog f #[v1, v2, v3, v4, v5, v6] w Post) (hk : ∀ e w2, Post e w2 → ∃ r, e = .returned r ∧ K (a.put o.dst r) w2) :
 if Region.wanted o (yielded ops a.tmps) = true then Oper.wp Tryz.prog o a w K Q else E := by
 rw [if_pos (by simp [Region.wanted, hgd])]
 have hrun : (execOp a.eval o).run Tryz.prog w = .ok (.enter f #[v1, v2, v3, v4, v5, v6]) w := by
  have h9 := hf v1 v2 v3 v4 v5 v6 w
  unfold execOp
  have hfv : a.eval (.func f) = .func (.func f) #[] #[] := rfl
  simp [ho, h1, h2, h3, h4, h5, h6, hfv, resolve, invoke, Deferred.ofValue, h9]
 unfold Oper.wp
 rw [hrun]
 refine hc.mono ?_
 intro e w2 hp
 obtain ⟨r, rfl, hK⟩ := hk e w2 hp
 exact hK
end
set_option maxRecDepth 100000 in
/-- Bytes appended to a row of bytes, and where it lies then. -/
theorem wpList_appL8 {ops : Array Oper} {rest : List Oper} {o : Oper} {a : Act} {Q : Exit → Act → World → Prop} {w : World} (hgd : o.guard = none) (x y : Operand) (ho : o.op = .call { callee := .builtin .append, args := #[x, y], argTypes := #[26, 26] }) {B : Nat} {v u : Value} {xs ys : List Int} (hx : a.eval x = v) (hown : Own8 w B v xs) (hy : a.eval y = u) (hys : IsB w u ys)
 (hl : xs.length + ys.length ≤ 140737488355328) (hB : B ≤ w.heap.size) (hk : ∀ v' w', Own8 w' B v' (xs ++ ys) → w.grownBy w' v.ownBlock → (v'.ownBlock = v.ownBlock ∨ v'.ownBlock = some w.heap.size) → wpList Tryz.prog ops Q rest (a.put o.dst v') w') : wpList Tryz.prog ops Q (o :: rest) a w := by
 refine wpList_plain hgd fun K hK => ?_
 obtain ⟨i0, hi, hz0, hz1, hz2⟩ := info_parts info8
 have hys' := hys
 obtain ⟨_, ad, cap, rfl, _, _, hz, hc⟩ := hys
 cases ad with
 | none =>
   have h0 : ys = [] := by
    by_cases hp : 0 < ys.length
    · obtain ⟨b2, off2, ha, _⟩ := hc hp
      cases ha
    · exact List.eq_nil_of_length_eq_zero (by omega)
   subst h0
   obtain rfl := hz rfl
   have hrun := run_append_owned_none (P := Tryz.prog) (w := w) B 26 o.type 5 i0 1 Tryz.underlying26 hi v _ _ hown.1
   have := hk v w (by rw [List.append_nil]; exact hown) ⟨rfl, rfl, rfl, Nat.le_refl _, fun _ _ _ => rfl⟩ (Or.inl rfl)
   unfold Oper.wp
   simp [execOp, ho, resolve, invoke, builtin, hx, hy, hrun, Result.andThen]
   exact hK _ _ this
 | some ad =>
   have hrow : Row w B 5 v (xs.map (Value.int .u8)) := by unfold Row; rw [List.length_map]; exact hown.1
   obtain ⟨v', w', hr, h2, h3, h4, _⟩ := run_append_share (P := Tryz.prog) w B 26 o.type 5 i0 (.int .u8 0) 1 Tryz.underlying26 hi hz0 hz1 hz2 rfl v _ hrow ad ys.length cap (ys.map (Value.int .u8)) (by simp) hys'.cells (u8_one ys) (by rw [List.length_map]; unfold maxLen; omega) (by rw [List.length_map]; omega) hB
   unfold Oper.wp execOp
   simp only [ho, resolve, invoke, builtin, Sem.run_bind, Sem.run_pure, Result.andThen_ok, List.map_toArray, List.map_cons, List.map_nil, hx, hy, hr]
   refine hK _ _ (hk v' w' ⟨?_, fun x hx => ?_⟩ h3 h4)
   · rw [← List.map_append] at h2
     unfold Row at h2
     rw [List.length_map] at h2
     exact h2
   · rcases List.mem_append.1 hx with hx | hx
     · exact hown.2 x hx
     · exact hys'.mem x hx
theorem look_enter6 (v1 v2 v3 v4 v5 v6 : Value) (W : World) : (callFunc 77 #[v1, v2, v3, v4, v5, v6]).run Tryz.prog W = .ok (.enter 77 #[v1, v2, v3, v4, v5, v6]) W := by kernel_rfl
theorem rsectors_enter (v : Value) (W : World) : (callFunc 60 #[v]).run Tryz.prog W = .ok (.enter 60 #[v]) W := by kernel_rfl
theorem rsum_enter (v : Value) (W : World) : (callFunc 61 #[v]).run Tryz.prog W = .ok (.enter 61 #[v]) W := by kernel_rfl
/-- A Going's cells. -/
def goT (heap sd at_ : Nat) (nv pv : Value) (en : Bool) (er bk : Int) : List Value := [.int .i64 (heap : Int), .int .i64 (sd : Int), .int .i64 (at_ : Int), nv, pv, .bool en, .int .i64 er, .int .i64 bk]
def goV (hs : List Int) (fi le : Int) (heap sd at_ : Nat) (nv pv : Value) (en : Bool) (er bk : Int) : List Value := refV hs fi le ++ goT heap sd at_ nv pv en er bk
structure Go (W : World) (B gq : Nat) (hs : List Int) (fi le : Int) (heap sd at_ : Nat) (nums : List Nat) (parts : List Int) (en : Bool) (er bk : Int) (nv pv : Value) : Prop where
 arr : Arr W gq 111 (goV hs fi le heap sd at_ nv pv en er bk)
 num : Row W B 3 nv (iV nums)
 prt : Own8 W B pv parts
 hl : hs.length = 32
 hb : ∀ x ∈ hs, 0 ≤ x ∧ x ≤ 255
section
variable {W W1 W2 w : World} {B gq heap sd at_ : Nat} {hs : List Int} {fi le : Int} {nums : List Nat} {parts : List Int} {en : Bool} {er bk : Int} {nv pv : Value}
theorem goV_at (hh : hs.length = 32) (j : Nat) : (goV hs fi le heap sd at_ nv pv en er bk)[34 + j]? = (goT heap sd at_ nv pv en er bk)[j]? := by
 unfold goV
 rw [List.getElem?_append_right (by rw [refV_len hh]; omega), refV_len hh]
 congr 1
 omega
theorem goV_set (hh : hs.length = 32) (j : Nat) (u : Value) : (goV hs fi le heap sd at_ nv pv en er bk).set (34 + j) u = refV hs fi le ++ (goT heap sd at_ nv pv en er bk).set j u := by
 unfold goV
 rw [List.set_append_right _ _ (by rw [refV_len hh]; omega), refV_len hh]
 congr 2
 omega
theorem Go.cells (h : Go W B gq hs fi le heap sd at_ nums parts en er bk nv pv) : W.cell? ⟨gq, 34, none⟩ = some (.int .i64 (heap : Int)) ∧ W.cell? ⟨gq, 35, none⟩ = some (.int .i64 (sd : Int)) ∧ W.cell? ⟨gq, 36, none⟩ = some (.int .i64 (at_ : Int)) ∧ W.cell? ⟨gq, 37, none⟩ = some nv ∧ W.cell? ⟨gq, 38, none⟩ = some pv ∧ W.cell? ⟨gq, 39, none⟩ = some (.bool en) ∧ W.cell? ⟨gq, 40, none⟩ = some (.int .i64 er) ∧ W.cell? ⟨gq, 41, none⟩ = some (.int .i64 bk) ∧ W.rangeAt gq 0 (refV hs fi le) ∧ (∀ j, W.frozen? ⟨gq, j, none⟩ = false) ∧ W.cell? ⟨gq, 32, none⟩ = some (.int .i64 fi) ∧ W.cell? ⟨gq, 33, none⟩ = some (.int .i64 le) := by
 have hr : W.rangeAt gq 0 (refV hs fi le) := arr_range h.arr
 refine ⟨arr_cell h.arr (goV_at h.hl 0), arr_cell h.arr (goV_at h.hl 1), arr_cell h.arr (goV_at h.hl 2), arr_cell h.arr (goV_at h.hl 3), arr_cell h.arr (goV_at h.hl 4), arr_cell h.arr (goV_at h.hl 5), arr_cell h.arr (goV_at h.hl 6), arr_cell h.arr (goV_at h.hl 7), hr, fun j => h.arr.frozen j, ?_, ?_⟩
 · have := hr 32 (.int .i64 fi) (by unfold refV; rw [List.getElem?_append_right (by simp [h.hl])]; simp [h.hl])
   simpa using this
 · have := hr 33 (.int .i64 le) (by unfold refV; rw [List.getElem?_append_right (by simp [h.hl])]; simp [h.hl])
   simpa using this
theorem Go.below (h : Go W B gq hs fi le heap sd at_ nums parts en er bk nv pv) (hb : Below W.heap.size W W1) : Go W1 B gq hs fi le heap sd at_ nums parts en er bk nv pv :=
 ⟨h.arr.below hb, owns_up h.num (Up.of_below (F := fun _ => False) hb) (fun _ _ h => h), h.prt.below hb, h.hl, h.hb⟩
theorem Go.tyN (h : Go W B gq hs fi le heap sd at_ nums parts en er bk nv pv) {b : Nat} (hb : nv.ownBlock = some b) : Ty W b 3 ∧ B ≤ b := by
 obtain ⟨q0, c, m, q⟩ := row_blk h.num hb
 exact ⟨⟨c, m, q⟩, q0⟩
theorem Go.tyP (h : Go W B gq hs fi le heap sd at_ nums parts en er bk nv pv) {b : Nat} (hb : pv.ownBlock = some b) : Ty W b 5 ∧ B ≤ b := by
 obtain ⟨q0, c, m, q⟩ := row_blk h.prt.1 hb
 exact ⟨⟨c, m, q⟩, q0⟩
/-- A cell of its own is stored. -/
theorem Go.put (h : Go W B gq hs fi le heap sd at_ nums parts en er bk nv pv) {j : Nat} {u : Value} {heap' sd' at' : Nat} {en' : Bool} {er' bk' : Int} (hj : (goT heap sd at_ nv pv en er bk).set j u = goT heap' sd' at' nv pv en' er' bk') : Go (W.setCell ⟨gq, 34 + j, none⟩ u) B gq hs fi le heap' sd' at' nums parts en' er' bk' nv pv := by
 have hu : Up (fun b => b = gq) W (W.setCell ⟨gq, 34 + j, none⟩ u) := up_set
 have ht := h.arr.ty
 refine ⟨?_, owns_up h.num hu (fun b hb e => absurd ((h.tyN hb).1.one (e ▸ ht)) (by decide)), ⟨owns_up h.prt.1 hu (fun b hb e => absurd ((h.tyP hb).1.one (e ▸ ht)) (by decide)), h.prt.2⟩, h.hl, h.hb⟩
 have h1 := h.arr.set (34 + j) u
 rw [goV_set h.hl, hj] at h1
 exact h1
/-- A number more. -/
theorem Go.number (h : Go W B gq hs fi le heap sd at_ nums parts en er bk nv pv) (hb : Below W.heap.size W W1) {x : Nat} {nv' : Value} (hr : Row W2 B 3 nv' (iV nums ++ [.int .i64 (x : Int)])) (hg : W1.grownBy W2 nv.ownBlock) : (W2.cell? ⟨gq, 37, none⟩ = some nv ∧ W2.frozen? ⟨gq, 37, none⟩ = false) ∧ Go (W2.setCell ⟨gq, 37, none⟩ nv') B gq hs fi le heap sd at_ (nums ++ [x]) parts en er bk nv' pv ∧ Up (fun b => b = gq ∨ nv.ownBlock = some b) W1 (W2.setCell ⟨gq, 37, none⟩ nv') := by
 have h1 := h.below hb
 have ht := h1.arr.ty
 have hu : Up (fun b => nv.ownBlock = some b) W1 W2 := up_own hg
 have hA2 := h1.arr.up hu (fun e => absurd ((h1.tyN e).1.one ht) (by decide))
 have hP2 : Own8 W2 B pv parts := ⟨owns_up h1.prt.1 hu (fun b hb e => absurd ((h1.tyN e).1.one (h1.tyP hb).1) (by decide)), h.prt.2⟩
 have hs2 : Up (fun b => b = gq) W2 (W2.setCell ⟨gq, 37, none⟩ nv') := up_set
 have ht2 := hA2.ty
 refine ⟨⟨arr_cell hA2 (goV_at h.hl 3), hA2.frozen 37⟩, ⟨?_, ?_, ⟨owns_up hP2.1 hs2 (fun b hb e => ?_), h.prt.2⟩, h.hl, h.hb⟩, (hu.mono (fun b h => Or.inr h)).trans hs2 (fun b h => Or.inl (Or.inl h))⟩
 · have h9 := hA2.set 37 nv'
   rw [show (37 : Nat) = 34 + 3 from rfl, goV_set h.hl] at h9
   exact h9
 · rw [show iV nums ++ [Value.int .i64 (x : Int)] = iV (nums ++ [x]) by simp [iV]] at hr
   refine owns_up hr hs2 (fun b hb e => ?_)
   obtain ⟨_, c, m, q⟩ := row_blk hr hb
   have hq : Ty W2 b 3 := ⟨c, m, q⟩
   exact absurd (hq.one (e ▸ ht2)) (by decide)
 · obtain ⟨_, c, m, q⟩ := row_blk hP2.1 hb
   have hq : Ty W2 b 5 := ⟨c, m, q⟩
   exact absurd (hq.one (e ▸ ht2)) (by decide)
/-- A piece more. -/
theorem Go.piece (h : Go W B gq hs fi le heap sd at_ nums parts en er bk nv pv) {pv' : Value} {pt : List Int} (hr : Own8 W2 B pv' (parts ++ pt)) (hg : W.grownBy W2 pv.ownBlock) : (W2.cell? ⟨gq, 38, none⟩ = some pv ∧ W2.frozen? ⟨gq, 38, none⟩ = false) ∧ Go (W2.setCell ⟨gq, 38, none⟩ pv') B gq hs fi le heap sd at_ nums (parts ++ pt) en er bk nv pv' ∧ Up (fun b => b = gq ∨ pv.ownBlock = some b) W (W2.setCell ⟨gq, 38, none⟩ pv') := by
 have ht := h.arr.ty
 have hu : Up (fun b => pv.ownBlock = some b) W W2 := up_own hg
 have hA2 := h.arr.up hu (fun e => absurd ((h.tyP e).1.one ht) (by decide))
 have hN2 : Row W2 B 3 nv (iV nums) := owns_up h.num hu (fun b hb e => absurd ((h.tyP e).1.one (h.tyN hb).1) (by decide))
 have hs2 : Up (fun b => b = gq) W2 (W2.setCell ⟨gq, 38, none⟩ pv') := up_set
 have ht2 := hA2.ty
 refine ⟨⟨arr_cell hA2 (goV_at h.hl 4), hA2.frozen 38⟩, ⟨?_, owns_up hN2 hs2 (fun b hb e => ?_), ⟨owns_up hr.1 hs2 (fun b hb e => ?_), hr.2⟩, h.hl, h.hb⟩, (hu.mono (fun b h => Or.inr h)).trans hs2 (fun b h => Or.inl (Or.inl h))⟩
 · have h9 := hA2.set 38 pv'
   rw [show (38 : Nat) = 34 + 4 from rfl, goV_set h.hl] at h9
   exact h9
 · obtain ⟨_, c, m, q⟩ := row_blk hN2 hb
   have hq : Ty W2 b 3 := ⟨c, m, q⟩
   exact absurd (hq.one (e ▸ ht2)) (by decide)
 · obtain ⟨_, c, m, q⟩ := row_blk hr.1 hb
   have hq : Ty W2 b 5 := ⟨c, m, q⟩
   exact absurd (hq.one (e ▸ ht2)) (by decide)
end
end Go.Proofs.YtdalbalphagmfaaGreatDoor

namespace Go.Proofs.YtdalbalphagmfaaGreatDoor
open Go.RowKit Go.Maps

theorem loadI1_run {W : World} {ad : Addr} {v : Value} (h : W.cell? ad = some v) : (Instr.loadAt 23 (.pointer (some ad))).run Tryz.prog W = .ok v W := by
 have hu := Tryz.underlying23
 go_simp
theorem step_loadI1 {ops : Array Oper} {o : Oper} {a : Act} {w : World} {K : Act → World → Prop} {Q : Exit → Act → World → Prop} {E : Prop} (hgd : o.guard = none) (x : Operand) (ho : o.op = .load 23 x) {ad : Addr} {v : Value} (hx : a.eval x = .pointer (some ad)) (hc : w.cell? ad = some v) (hk : K (a.put o.dst v) w) : if Region.wanted o (yielded ops a.tmps) = true then Oper.wp Tryz.prog o a w K Q else E := by
 rw [if_pos (by simp [Region.wanted, hgd])]
 unfold Oper.wp execOp
 simp only [ho, hx, Sem.run_bind, loadI1_run hc, Result.andThen_ok, Sem.run_pure]
 exact hk
/-- A reading of the document's that stands where the program's does. -/
structure Gst (W : World) (B gq : Nat) (hs : List Int) (fi le : Int) (heap sd : Nat) (S : RS) (nv pv : Value) : Prop where
 ex : ∃ at_ parts, Go W B gq hs fi le heap sd at_ S.ns parts (outB le S) (outE S) S.br nv pv ∧ (S.br = 0 → parts = S.by_ ∧ at_ = S.nx)
section
variable {w : World} {B gq heap sd bn bc : Nat} {hs bs : List Int} {fi le : Int} {nv pv : Value} {S : RS} {ba : Option Addr}
theorem Gst.below {W W1 : World} (h : Gst W B gq hs fi le heap sd S nv pv) (hb : Below W.heap.size W W1) : Gst W1 B gq hs fi le heap sd S nv pv := by
 obtain ⟨a, p, h1, h2⟩ := h.ex
 exact ⟨⟨a, p, h1.below hb, h2⟩⟩
/-- What a Step leaves. -/
structure GsP (w w' : World) (B gq : Nat) (hs : List Int) (fi le : Int) (heap sd : Nat) (S : RS) (nv pv : Value) : Prop where
 ex : ∃ nv' pv', Gst w' B gq hs fi le heap sd S nv' pv' ∧ (∀ x, nv'.ownBlock = some x → nv.ownBlock = some x ∨ w.heap.size ≤ x) ∧ (∀ x, pv'.ownBlock = some x → pv.ownBlock = some x ∨ w.heap.size ≤ x)
 up : Up (fun b => b = gq ∨ nv.ownBlock = some b ∨ pv.ownBlock = some b) w w'
set_option maxRecDepth 100000 in
set_option maxHeartbeats 16000000 in
theorem gstep_calls (h : Go w B gq hs fi le heap sd S.nx S.ns S.by_ false 0 0 nv pv) (hj : Rj heap sd S) (hns : (S.ns.length : Int) < secN le) (h1 : 1 ≤ heap) (hsd : sd ≤ 65536) (hfi : fi ≠ 0) (hb : IsB w (.slice ba bn bc) bs) (hty : ∀ x, blkOf (.slice ba bn bc) = some x → Ty w x 5) (hB : B ≤ w.heap.size) :
 Calls Tryz.prog 81 #[.pointer (some ⟨gq, 0, none⟩), .slice ba bn bc] w fun e w' => ∃ r, e = .returned r ∧ GsP w w' B gq hs fi le heap sd (readS bs hs fi le heap sd S) nv pv := by
 have hsh := secN_hi le
 have hat := hj.at_
 have hbyl := hj.by_
 obtain ⟨k0, hk0⟩ : ∃ k0, S.ns.length = k0 := ⟨_, rfl⟩
 obtain ⟨k1, hk1⟩ : ∃ k1, k0 + 1 = k1 := ⟨_, rfl⟩
 obtain ⟨x0, hx0⟩ : ∃ x0, S.nx = x0 := ⟨_, rfl⟩
 have ek1 : IntKind.i64.wrap ((k1 : Int) - 1) = (k0 : Int) := by rw [IntKind.wrap_i64]; omega
 have hlook := look_fits (hs := hs) hj h1 hsd hns hb.mem
 have hly : fits bs hs le heap sd S → lookI bs hs le k0 heap sd (S.ns ++ [x0]) = some (partOf bs le k0, (leN (bs.take 4)).toNat) := fun hf => by
  have h9 := hlook
  rw [if_pos hf, hk0, hx0] at h9
  exact h9
 have hln : ¬ fits bs hs le heap sd S → lookI bs hs le k0 heap sd (S.ns ++ [x0]) = none := fun hf => by
  have h9 := hlook
  rw [if_neg hf, hk0, hx0] at h9
  exact h9
 obtain ⟨na, nc, hnv⟩ := h.num.shape
 rw [iV_len, hk0] at hnv
 subst hnv
 obtain ⟨pa, pn, pc, hpv⟩ := h.prt.shape
 subst hpv
 obtain ⟨q34, q35, q36, q37, q38, q39, q40, q41, qr, qf, q32, q33⟩ := h.cells
 rw [hx0] at q36
 obtain ⟨RV, hRV⟩ : ∃ RV, refV hs fi le = RV := ⟨_, rfl⟩
 have hiR : (Tryz.prog.info? 38).map (·.size) = some RV.length := by rw [← hRV]; exact infoRef h.hl _ _
 have hgty := h.arr.ty
 have HHL := hide (And.intro h.hl h.hb)
 have HLOOK := hide (And.intro hly hln)
 have HB := hide hb
 have HTY := hide hty
 have HNS := hide hns
 -- behind the number
 have HNUM : Hid (∀ w1 w2 nv2, Below w.heap.size w w1 → Row w2 B 3 nv2 (iV S.ns ++ [.int .i64 (x0 : Int)]) → w1.grownBy w2 (Value.slice na k0 nc).ownBlock → (w2.cell? ⟨gq, 37, none⟩ = some (.slice na k0 nc) ∧ w2.frozen? ⟨gq, 37, none⟩ = false) ∧ Go (w2.setCell ⟨gq, 37, none⟩ nv2) B gq hs fi le heap sd x0 (S.ns ++ [x0]) S.by_ false 0 0 nv2 (.slice pa pn pc) ∧ Up (fun b => b = gq ∨ (Value.slice na k0 nc).ownBlock = some b) w1 (w2.setCell ⟨gq, 37, none⟩ nv2) ∧ IsB (w2.setCell ⟨gq, 37, none⟩ nv2) (.slice ba bn bc) bs ∧ ∃ na2 nc2, nv2 = .slice na2 k1 nc2) := hide (fun w1 w2 nv2 hb1 hr hg => by
  have h0 := h
  rw [hx0] at h0
  obtain ⟨p1, p2, p3⟩ := h0.number hb1 hr hg
  refine ⟨p1, p2, p3, ?_, ?_⟩
  · have hbw := hb.below hb1
    refine hbw.up p3 (fun x hx e => ?_)
    have ht := (hty x hx).up (F := fun _ => False) (Up.of_below hb1) (fun h => h)
    have hg1 := hgty.up (F := fun _ => False) (Up.of_below hb1) (fun h => h)
    rcases e with e | e
    · exact absurd (ht.one (e ▸ hg1)) (by decide)
    · exact absurd (ht.one ((h.below hb1).tyN e).1) (by decide)
  · obtain ⟨a2, c2, hv⟩ := hr.shape
    rw [List.length_append, iV_len, hk0] at hv
    exact ⟨a2, c2, by rw [hv, ← hk1]; rfl⟩)
 have HC36 : Hid (∀ w1 w2, Below w.heap.size w w1 → w1.grownBy w2 (Value.slice na k0 nc).ownBlock → w2.cell? ⟨gq, 36, none⟩ = some (.int .i64 (x0 : Int))) := hide (fun w1 w2 hb1 hg => (up_own hg).cell (bkeptC hb1 q36) (fun e => absurd (((h.below hb1).tyN e).1.one (h.below hb1).arr.ty) (by decide)))
 have HLN : Hid ((iV S.ns).length ≤ 1000000) := hide (by rw [iV_len]; omega)
 have hrow := h.num
 have HROW : Hid (∀ W, Below w.heap.size w W → Row W B 3 (.slice na k0 nc) (iV S.ns)) := hide (fun W hW => owns_up hrow (Up.of_below (F := fun _ => False) hW) (fun _ _ h => h))
 have HS1 : Hid (∀ W, Below w.heap.size w W → W.cell? ⟨gq, 37, none⟩ = some (.slice na k0 nc) ∧ W.cell? ⟨gq, 36, none⟩ = some (.int .i64 (x0 : Int))) := hide (fun W hW => ⟨bkeptC hW q37, bkeptC hW q36⟩)
 have HK0 := hide hk0
 have HK1 := hide hk1
 have HX0 := hide hx0
 have HRV := hide hRV
 have hBs := hB
 clear hlook hly hln h hb hty q34 q35 q36 q37 q38 q40 q41 qr qf q32 q33 hrow hgty hat hk0 hk1 hx0 hRV hns
 go_enter Tryz.func81, Tryz.ntmps81
 go_wp2_with fail
 obtain ⟨w1, hw1⟩ : ∃ w1, w.drew.alloc (.cells #[.int .i64 (x0 : Int)] 3) = w1 := ⟨_, rfl⟩
 have hx0d : Below w.heap.size w w.drew := (Below.refl _ _).drew
 have hx1 : Below w.heap.size w w1 := by rw [← hw1]; exact hx0d.alloc hx0d.size _
 have hc1 : w1.cell? ⟨w.drew.heap.size, 0, none⟩ = some (.int .i64 (x0 : Int)) := by rw [← hw1]; exact arr_cell (Arr.new w.drew [.int .i64 (x0 : Int)] 3) rfl
 have HW1 := hide hw1
 have HNB : Hid (∀ w1, Below w.heap.size w w1 → ∀ nv2 : Value, (nv2.ownBlock = (Value.slice na k0 nc).ownBlock ∨ nv2.ownBlock = some w1.heap.size) → ∀ x, nv2.ownBlock = some x → (Value.slice na k0 nc).ownBlock = some x ∨ w.heap.size ≤ x) := hide (fun w1 hb1 nv2 h x hx => by
  rcases h with h | h
  · exact Or.inl (h ▸ hx)
  · rw [h] at hx
    injection hx with hx
    exact Or.inr (by have := hb1.size; omega))
 clear hw1
 go_cut [10] (fun a wc => a = .bool false ∧ Hid (∃ na2 nc2, Go wc B gq hs fi le heap sd x0 (S.ns ++ [x0]) S.by_ false 0 0 (.slice na2 k1 nc2) (.slice pa pn pc) ∧ IsB wc (.slice ba bn bc) bs ∧ (∀ x, (Value.slice na2 k1 nc2).ownBlock = some x → (Value.slice na k0 nc).ownBlock = some x ∨ w.heap.size ≤ x) ∧ Up (fun b => b = gq ∨ (Value.slice na k0 nc).ownBlock = some b) w wc))
 case first =>
  refine wp_region_held_drew (S := fun W => W.cell? ⟨gq, 36, none⟩ = some (.int .i64 (x0 : Int))) (by kernel_rfl) ((unhide HS1 _ hx0d).2) (fun hHeld => ?_)
  refine wpAnyH_take (i := 0) (v := .pointer (some ⟨gq, 0, none⟩)) rfl (by kernel_rfl) (by kernel_rfl) (by kernel_rfl) (fun _ _ _ h => h) (Or.inl ⟨by rfl, fun w hSw => by go_simp⟩) (by assumption) ?_
  simp only [fGa, fGz, Act.put, fSa, fSz, fSs]
  refine wpAnyH_take (i := 1) (v := .pointer (some ⟨gq, 0, none⟩)) rfl (by kernel_rfl) (by kernel_rfl) (by kernel_rfl) (fun _ _ _ h => h) (Or.inl ⟨by rfl, fun w hSw => by go_simp⟩) (by assumption) ?_
  simp only [fGa, fGs, fGz, Act.put, fSa, fSz, fSs]
  refine wpAnyH_take (i := 2) (v := .pointer (some ⟨gq, 0, none⟩)) rfl (by kernel_rfl) (by kernel_rfl) (by kernel_rfl) (fun _ _ _ h => h) (Or.inl ⟨by rfl, fun w hSw => by go_simp⟩) (by assumption) ?_
  simp only [fGa, fGs, fGz, Act.put, fSa, fSz, fSs]
  refine wpAnyH_take (i := 3) (v := .pointer (some ⟨gq, 37, none⟩)) rfl (by kernel_rfl) (by kernel_rfl) (by kernel_rfl) (fun _ _ _ h => h) (Or.inl ⟨by rfl, fun w hSw => by go_simp⟩) (by assumption) ?_
  simp only [fGa, fGs, fGz, Act.put, fSa, fSz, fSs]
  refine wpAnyH_take (i := 5) (v := .pointer (some ⟨gq, 0, none⟩)) rfl (by kernel_rfl) (by kernel_rfl) (by kernel_rfl) (fun _ _ _ h => h) (Or.inl ⟨by rfl, fun w hSw => by go_simp⟩) (by assumption) ?_
  simp only [fGa, fGs, fGz, Act.put, fSa, fSz, fSs]
  refine wpAnyH_take (i := 6) (v := .pointer (some ⟨gq, 0, none⟩)) rfl (by kernel_rfl) (by kernel_rfl) (by kernel_rfl) (fun _ _ _ h => h) (Or.inl ⟨by rfl, fun w hSw => by go_simp⟩) (by assumption) ?_
  simp only [fGa, fGs, fGz, Act.put, fSa, fSz, fSs]
  refine wpAnyH_take (i := 7) (v := .pointer (some ⟨gq, 36, none⟩)) rfl (by kernel_rfl) (by kernel_rfl) (by kernel_rfl) (fun _ _ _ h => h) (Or.inl ⟨by rfl, fun w hSw => by go_simp⟩) (by assumption) ?_
  simp only [fGa, fGs, fGz, Act.put, fSa, fSz, fSs]
  refine wpAnyH_take (i := 8) (v := .int .i64 (x0 : Int)) rfl (by kernel_rfl) (by kernel_rfl) (by kernel_rfl) (fun _ _ _ h => h) (Or.inl ⟨by rfl, fun w hSw => by go_simp⟩) (by assumption) ?_
  simp only [fGa, fGs, fGz, Act.put, fSa, fSz, fSs]
  refine wpAnyH_ready (rs := [4, 9]) (by kernel_rfl) (by simp) (AllReadyH.cons rfl (fun K hK => ?_) (AllReadyH.cons rfl (fun K hK => ?_) AllReadyH.nil))
  · refine step_loadI1 (by rfl) (.tmp 14) rfl rfl (unhide HS1 _ hx0d).1 ?_
    refine hK.out _ _ ((unhide HS1 _ hx0d).2) (fun hJ1 => ?_)
    clear hK K
    simp only [fGa, fGs, fGz, Act.put, fSa, fSz, fSs]
    refine wpAnyH_ready (rs := [9]) (by kernel_rfl) (by simp) (AllReadyH.cons rfl (fun K hK => ?_) AllReadyH.nil)
    refine step_buildI1 (by rfl) (.tmp 19) rfl rfl ?_
    rw [HW1.out]
    refine hK.out _ _ ((unhide HS1 _ hx1).2) (fun hJ2 => ?_)
    clear hK K
    simp only [fGa, fGs, fGz, Act.put, fSa, fSz, fSs]
    refine wpAnyH_ready (rs := [10]) (by kernel_rfl) (by simp) (AllReadyH.cons rfl (fun K hK => ?_) AllReadyH.nil)
    refine step_appI1 (by rfl) (.tmp 15) (.tmp 20) rfl rfl (unhide HROW _ hx1) rfl hc1 rfl HLN.out (Nat.le_trans hBs hx1.size) ?_
    intro nv2 w2 hr2 hg2 hat2
    obtain ⟨⟨hc2, hf2⟩, hG3, hU3, hI3, na2, nc2, hv2⟩ := unhide HNUM w1 w2 nv2 hx1 hr2 hg2
    subst hv2
    have hS2 : w2.cell? ⟨gq, 36, none⟩ = some (.int .i64 (x0 : Int)) := unhide HC36 w1 w2 hx1 hg2
    refine hK.out _ _ (hS2) (fun hJ3 => ?_)
    clear hK K
    simp only [fGa, fGs, fGz, Act.put, fSa, fSz, fSs]
    refine wpAnyH_take (i := 11) (v := .pointer (some ⟨gq, 0, none⟩)) rfl (by kernel_rfl) (by kernel_rfl) (by kernel_rfl) (fun _ _ _ h => h) (Or.inl ⟨by rfl, fun w hSw => by go_simp⟩) (by assumption) ?_
    simp only [fGa, fGs, fGz, Act.put, fSa, fSz, fSs]
    refine wpAnyH_take (i := 12) (v := .pointer (some ⟨gq, 37, none⟩)) rfl (by kernel_rfl) (by kernel_rfl) (by kernel_rfl) (fun _ _ _ h => h) (Or.inl ⟨by rfl, fun w hSw => by go_simp⟩) (by assumption) ?_
    simp only [fGa, fGs, fGz, Act.put, fSa, fSz, fSs]
    refine wpAnyH_ready (rs := [13]) (by kernel_rfl) (by simp) (AllReadyH.cons rfl (fun K hK => ?_) AllReadyH.nil)
    refine step_storeI1 (v := .slice na2 k1 nc2) (by rfl) (.tmp 23) (.tmp 21) rfl rfl rfl rfl hc2 hf2 ?_
    refine hK.out _ _ (hG3.cells.2.2.1) (fun hJ4 => ?_)
    clear hK K
    simp only [fGa, fGs, fGz, Act.put]
    refine wpAnyH_done (by kernel_rfl) ?_ _
    obtain ⟨w3, hw3⟩ : ∃ w3, w2.setCell ⟨gq, 37, none⟩ (.slice na2 k1 nc2) = w3 := ⟨_, rfl⟩
    rw [hw3] at hG3 hU3 hI3 ⊢
    go_wp2
    go_meet
    exact ⟨rfl, hide ⟨na2, nc2, hG3, hI3, unhide HNB w1 hx1 _ hat2, (Up.of_below hx1).trans hU3 (fun b h => Or.inl h)⟩⟩
  · refine step_buildI1 (by rfl) (.tmp 19) rfl rfl ?_
    rw [HW1.out]
    refine hK.out _ _ ((unhide HS1 _ hx1).2) (fun hJ1 => ?_)
    clear hK K
    simp only [fGa, fGs, fGz, Act.put, fSa, fSz, fSs]
    refine wpAnyH_ready (rs := [4]) (by kernel_rfl) (by simp) (AllReadyH.cons rfl (fun K hK => ?_) AllReadyH.nil)
    refine step_loadI1 (by rfl) (.tmp 14) rfl rfl (unhide HS1 _ hx1).1 ?_
    refine hK.out _ _ ((unhide HS1 _ hx1).2) (fun hJ2 => ?_)
    clear hK K
    simp only [fGa, fGs, fGz, Act.put, fSa, fSz, fSs]
    refine wpAnyH_ready (rs := [10]) (by kernel_rfl) (by simp) (AllReadyH.cons rfl (fun K hK => ?_) AllReadyH.nil)
    refine step_appI1 (by rfl) (.tmp 15) (.tmp 20) rfl rfl (unhide HROW _ hx1) rfl hc1 rfl HLN.out (Nat.le_trans hBs hx1.size) ?_
    intro nv2 w2 hr2 hg2 hat2
    obtain ⟨⟨hc2, hf2⟩, hG3, hU3, hI3, na2, nc2, hv2⟩ := unhide HNUM w1 w2 nv2 hx1 hr2 hg2
    subst hv2
    have hS2 : w2.cell? ⟨gq, 36, none⟩ = some (.int .i64 (x0 : Int)) := unhide HC36 w1 w2 hx1 hg2
    refine hK.out _ _ (hS2) (fun hJ3 => ?_)
    clear hK K
    simp only [fGa, fGs, fGz, Act.put, fSa, fSz, fSs]
    refine wpAnyH_take (i := 11) (v := .pointer (some ⟨gq, 0, none⟩)) rfl (by kernel_rfl) (by kernel_rfl) (by kernel_rfl) (fun _ _ _ h => h) (Or.inl ⟨by rfl, fun w hSw => by go_simp⟩) (by assumption) ?_
    simp only [fGa, fGs, fGz, Act.put, fSa, fSz, fSs]
    refine wpAnyH_take (i := 12) (v := .pointer (some ⟨gq, 37, none⟩)) rfl (by kernel_rfl) (by kernel_rfl) (by kernel_rfl) (fun _ _ _ h => h) (Or.inl ⟨by rfl, fun w hSw => by go_simp⟩) (by assumption) ?_
    simp only [fGa, fGs, fGz, Act.put, fSa, fSz, fSs]
    refine wpAnyH_ready (rs := [13]) (by kernel_rfl) (by simp) (AllReadyH.cons rfl (fun K hK => ?_) AllReadyH.nil)
    refine step_storeI1 (v := .slice na2 k1 nc2) (by rfl) (.tmp 23) (.tmp 21) rfl rfl rfl rfl hc2 hf2 ?_
    refine hK.out _ _ (hG3.cells.2.2.1) (fun hJ4 => ?_)
    clear hK K
    simp only [fGa, fGs, fGz, Act.put]
    refine wpAnyH_done (by kernel_rfl) ?_ _
    obtain ⟨w3, hw3⟩ : ∃ w3, w2.setCell ⟨gq, 37, none⟩ (.slice na2 k1 nc2) = w3 := ⟨_, rfl⟩
    rw [hw3] at hG3 hU3 hI3 ⊢
    go_wp2
    go_meet
    exact ⟨rfl, hide ⟨na2, nc2, hG3, hI3, unhide HNB w1 hx1 _ hat2, (Up.of_below hx1).trans hU3 (fun b h => Or.inl h)⟩⟩
 case rest =>
  obtain ⟨rfl, HX⟩ := hcut
  obtain ⟨na2, nc2, hG3, hI3, hN3, hU3⟩ := HX.out
  have hRow3 := hG3.num
  obtain ⟨r34, r35, r36, r37, r38, r39, r40, r41, rr, rf, r32, r33⟩ := hG3.cells
  rw [HRV.out] at rr
  have HS2 : Hid (∀ W, Below wc.heap.size wc W → W.rangeAt gq 0 RV ∧ W.cell? ⟨gq, 37, none⟩ = some (.slice na2 k1 nc2) ∧ W.cell? ⟨gq, 34, none⟩ = some (.int .i64 (heap : Int)) ∧ W.cell? ⟨gq, 35, none⟩ = some (.int .i64 (sd : Int))) := hide (fun W hW => by
   obtain ⟨t34, t35, _, t37, _, _, _, _, tr, _⟩ := (hG3.below hW).cells
   rw [HRV.out] at tr
   exact ⟨tr, t37, t34, t35⟩)
  have HLK : Hid (∀ W, Below wc.heap.size wc W → Calls Tryz.prog 77 #[.slice ba bn bc, .agg RV.toArray, .int .i64 (k0 : Int), .int .i64 (heap : Int), .int .i64 (sd : Int), .slice na2 k1 nc2] W fun e w' => ∃ r, e = .returned r ∧ LookP bs hs le k0 heap sd (S.ns ++ [x0]) W w' r) := hide (fun W hW => by
   have h9 := look6_calls (fi := fi) (le := le) (place := k0) (heap := heap) (sd := sd) (hI3.below hW) HHL.out.1 HHL.out.2 (by have := HNS.out; have := HK0.out; omega) (owns_up hRow3 (Up.of_below (F := fun _ => False) hW) (fun _ _ h => h))
   rw [HRV.out] at h9
   exact h9)
  have hy0 : Below wc.heap.size wc wc.drew := (Below.refl _ _).drew
  have HG3 := hide hG3
  have HU3 := hide hU3
  have HN3 := hide hN3
  clear HX hRow3 hG3 hI3 hU3 hN3 r34 r35 r36 r37 r38 r39 r40 r41 rr rf r32 r33 hx0d hx1 hc1 HW1 HNB HS1 HROW HNUM HC36 HLN HB HTY
  by_cases hf : fits bs hs le heap sd S
  · obtain ⟨nx, hnx⟩ : ∃ nx : Nat, (leN (bs.take 4)).toNat = nx := ⟨_, rfl⟩
    have HLY2 : Hid (∀ W, Below wc.heap.size wc W → Calls Tryz.prog 77 #[.slice ba bn bc, .agg RV.toArray, .int .i64 (k0 : Int), .int .i64 (heap : Int), .int .i64 (sd : Int), .slice na2 k1 nc2] W fun e w' => ∃ va vn vc, e = .returned (.tuple #[.slice va vn vc, .int .i64 (nx : Int), .bool true]) ∧ IsB w' (.slice va vn vc) (partOf bs le k0) ∧ Below W.heap.size W w') := hide (fun W hW => by
     refine (unhide HLK W hW).mono ?_
     rintro e w' ⟨r, rfl, hP⟩
     have h9 := HLOOK.out.1 hf
     rw [hnx] at h9
     obtain ⟨v, B', rfl, ho, _⟩ := hP.yes _ _ h9
     obtain ⟨va, vn, vc, rfl⟩ := ho.shape
     exact ⟨va, vn, vc, rfl, ho.isB, hP.bel⟩)
    have HF := hide hf
    have HNX := hide hnx
    have HPL : Hid (S.by_.length + (partOf bs le k0).length ≤ 140737488355328) := hide (by
     have hp : (partOf bs le k0).length ≤ 480 := by unfold partOf cntI; rw [List.length_take]; omega
     have := HK0.out
     have := HNS.out
     omega)
    clear HLK hf hnx
    go_wp2_with fail
    refine wp_region_held_drew (S := fun W => W.rangeAt gq 0 RV ∧ W.cell? ⟨gq, 37, none⟩ = some (.slice na2 k1 nc2) ∧ W.cell? ⟨gq, 34, none⟩ = some (.int .i64 (heap : Int)) ∧ W.cell? ⟨gq, 35, none⟩ = some (.int .i64 (sd : Int))) (by kernel_rfl) (unhide HS2 _ hy0) (fun hHeld => ?_)
    refine wpAnyH_take (i := 0) (v := .slice (ba) bn bc) rfl (by kernel_rfl) (by kernel_rfl) (by kernel_rfl) (fun _ _ _ h => h) (Or.inl ⟨by rfl, fun w hSw => by obtain ⟨hS1, hS2, hS3, hS4⟩ := hSw; go_simp⟩) (by assumption) ?_
    simp only [fGa, fGz, Act.put, fSa, fSz, fSs]
    refine wpAnyH_take (i := 1) (v := .pointer (some ⟨gq, 0, none⟩)) rfl (by kernel_rfl) (by kernel_rfl) (by kernel_rfl) (fun _ _ _ h => h) (Or.inl ⟨by rfl, fun w hSw => by obtain ⟨hS1, hS2, hS3, hS4⟩ := hSw; go_simp⟩) (by assumption) ?_
    simp only [fGa, fGs, fGz, Act.put, fSa, fSz, fSs]
    refine wpAnyH_take (i := 2) (v := .pointer (some ⟨gq, 0, none⟩)) rfl (by kernel_rfl) (by kernel_rfl) (by kernel_rfl) (fun _ _ _ h => h) (Or.inl ⟨by rfl, fun w hSw => by obtain ⟨hS1, hS2, hS3, hS4⟩ := hSw; go_simp⟩) (by assumption) ?_
    simp only [fGa, fGs, fGz, Act.put, fSa, fSz, fSs]
    refine wpAnyH_take (i := 3) (v := .pointer (some ⟨gq, 0, none⟩)) rfl (by kernel_rfl) (by kernel_rfl) (by kernel_rfl) (fun _ _ _ h => h) (Or.inl ⟨by rfl, fun w hSw => by obtain ⟨hS1, hS2, hS3, hS4⟩ := hSw; go_simp⟩) (by assumption) ?_
    simp only [fGa, fGs, fGz, Act.put, fSa, fSz, fSs]
    refine wpAnyH_take (i := 4) (v := .agg (RV).toArray) rfl (by kernel_rfl) (by kernel_rfl) (by kernel_rfl) (fun _ _ _ h => h) (yieldsIf_load_mid (by rfl) _ _ rfl _ _ rfl _ _ (fun w hSw => hSw.1) Tryz.underlying38 rfl hiR) (by assumption) ?_
    simp only [fGa, fGs, fGz, Act.put, fSa, fSz, fSs]
    refine wpAnyH_take (i := 5) (v := .pointer (some ⟨gq, 0, none⟩)) rfl (by kernel_rfl) (by kernel_rfl) (by kernel_rfl) (fun _ _ _ h => h) (Or.inl ⟨by rfl, fun w hSw => by obtain ⟨hS1, hS2, hS3, hS4⟩ := hSw; go_simp⟩) (by assumption) ?_
    simp only [fGa, fGs, fGz, Act.put, fSa, fSz, fSs]
    refine wpAnyH_take (i := 6) (v := .pointer (some ⟨gq, 0, none⟩)) rfl (by kernel_rfl) (by kernel_rfl) (by kernel_rfl) (fun _ _ _ h => h) (Or.inl ⟨by rfl, fun w hSw => by obtain ⟨hS1, hS2, hS3, hS4⟩ := hSw; go_simp⟩) (by assumption) ?_
    simp only [fGa, fGs, fGz, Act.put, fSa, fSz, fSs]
    refine wpAnyH_take (i := 7) (v := .pointer (some ⟨gq, 37, none⟩)) rfl (by kernel_rfl) (by kernel_rfl) (by kernel_rfl) (fun _ _ _ h => h) (Or.inl ⟨by rfl, fun w hSw => by obtain ⟨hS1, hS2, hS3, hS4⟩ := hSw; go_simp⟩) (by assumption) ?_
    simp only [fGa, fGs, fGz, Act.put, fSa, fSz, fSs]
    refine wpAnyH_take (i := 8) (v := .slice (na2) k1 nc2) rfl (by kernel_rfl) (by kernel_rfl) (by kernel_rfl) (fun _ _ _ h => h) (Or.inl ⟨by rfl, fun w hSw => by obtain ⟨hS1, hS2, hS3, hS4⟩ := hSw; go_simp⟩) (by assumption) ?_
    simp only [fGa, fGs, fGz, Act.put, fSa, fSz, fSs]
    refine wpAnyH_take (i := 9) (v := .int .i64 (k1 : Int)) rfl (by kernel_rfl) (by kernel_rfl) (by kernel_rfl) (fun _ _ _ h => h) (Or.inl ⟨by rfl, fun w hSw => by obtain ⟨hS1, hS2, hS3, hS4⟩ := hSw; go_simp⟩) (by assumption) ?_
    simp only [fGa, fGs, fGz, Act.put, fSa, fSz, fSs]
    refine wpAnyH_take (i := 10) (v := .int .i64 (k0 : Int)) rfl (by kernel_rfl) (by kernel_rfl) (by kernel_rfl) (fun _ _ _ h => h) (Or.inl ⟨by rfl, fun w hSw => by obtain ⟨hS1, hS2, hS3, hS4⟩ := hSw; go_simp⟩) (by assumption) ?_
    simp only [fGa, fGs, fGz, Act.put, fSa, fSz, fSs]
    refine wpAnyH_take (i := 11) (v := .pointer (some ⟨gq, 0, none⟩)) rfl (by kernel_rfl) (by kernel_rfl) (by kernel_rfl) (fun _ _ _ h => h) (Or.inl ⟨by rfl, fun w hSw => by obtain ⟨hS1, hS2, hS3, hS4⟩ := hSw; go_simp⟩) (by assumption) ?_
    simp only [fGa, fGs, fGz, Act.put, fSa, fSz, fSs]
    refine wpAnyH_take (i := 12) (v := .pointer (some ⟨gq, 0, none⟩)) rfl (by kernel_rfl) (by kernel_rfl) (by kernel_rfl) (fun _ _ _ h => h) (Or.inl ⟨by rfl, fun w hSw => by obtain ⟨hS1, hS2, hS3, hS4⟩ := hSw; go_simp⟩) (by assumption) ?_
    simp only [fGa, fGs, fGz, Act.put, fSa, fSz, fSs]
    refine wpAnyH_take (i := 13) (v := .pointer (some ⟨gq, 34, none⟩)) rfl (by kernel_rfl) (by kernel_rfl) (by kernel_rfl) (fun _ _ _ h => h) (Or.inl ⟨by rfl, fun w hSw => by obtain ⟨hS1, hS2, hS3, hS4⟩ := hSw; go_simp⟩) (by assumption) ?_
    simp only [fGa, fGs, fGz, Act.put, fSa, fSz, fSs]
    refine wpAnyH_take (i := 14) (v := .int .i64 (heap : Int)) rfl (by kernel_rfl) (by kernel_rfl) (by kernel_rfl) (fun _ _ _ h => h) (Or.inl ⟨by rfl, fun w hSw => by obtain ⟨hS1, hS2, hS3, hS4⟩ := hSw; go_simp⟩) (by assumption) ?_
    simp only [fGa, fGs, fGz, Act.put, fSa, fSz, fSs]
    refine wpAnyH_take (i := 15) (v := .pointer (some ⟨gq, 0, none⟩)) rfl (by kernel_rfl) (by kernel_rfl) (by kernel_rfl) (fun _ _ _ h => h) (Or.inl ⟨by rfl, fun w hSw => by obtain ⟨hS1, hS2, hS3, hS4⟩ := hSw; go_simp⟩) (by assumption) ?_
    simp only [fGa, fGs, fGz, Act.put, fSa, fSz, fSs]
    refine wpAnyH_take (i := 16) (v := .pointer (some ⟨gq, 0, none⟩)) rfl (by kernel_rfl) (by kernel_rfl) (by kernel_rfl) (fun _ _ _ h => h) (Or.inl ⟨by rfl, fun w hSw => by obtain ⟨hS1, hS2, hS3, hS4⟩ := hSw; go_simp⟩) (by assumption) ?_
    simp only [fGa, fGs, fGz, Act.put, fSa, fSz, fSs]
    refine wpAnyH_take (i := 17) (v := .pointer (some ⟨gq, 35, none⟩)) rfl (by kernel_rfl) (by kernel_rfl) (by kernel_rfl) (fun _ _ _ h => h) (Or.inl ⟨by rfl, fun w hSw => by obtain ⟨hS1, hS2, hS3, hS4⟩ := hSw; go_simp⟩) (by assumption) ?_
    simp only [fGa, fGs, fGz, Act.put, fSa, fSz, fSs]
    refine wpAnyH_take (i := 18) (v := .int .i64 (sd : Int)) rfl (by kernel_rfl) (by kernel_rfl) (by kernel_rfl) (fun _ _ _ h => h) (Or.inl ⟨by rfl, fun w hSw => by obtain ⟨hS1, hS2, hS3, hS4⟩ := hSw; go_simp⟩) (by assumption) ?_
    simp only [fGa, fGs, fGz, Act.put, fSa, fSz, fSs]
    refine wpAnyH_take (i := 19) (v := .pointer (some ⟨gq, 0, none⟩)) rfl (by kernel_rfl) (by kernel_rfl) (by kernel_rfl) (fun _ _ _ h => h) (Or.inl ⟨by rfl, fun w hSw => by obtain ⟨hS1, hS2, hS3, hS4⟩ := hSw; go_simp⟩) (by assumption) ?_
    simp only [fGa, fGs, fGz, Act.put, fSa, fSz, fSs]
    refine wpAnyH_take (i := 20) (v := .pointer (some ⟨gq, 0, none⟩)) rfl (by kernel_rfl) (by kernel_rfl) (by kernel_rfl) (fun _ _ _ h => h) (Or.inl ⟨by rfl, fun w hSw => by obtain ⟨hS1, hS2, hS3, hS4⟩ := hSw; go_simp⟩) (by assumption) ?_
    simp only [fGa, fGs, fGz, Act.put, fSa, fSz, fSs]
    refine wpAnyH_take (i := 21) (v := .pointer (some ⟨gq, 37, none⟩)) rfl (by kernel_rfl) (by kernel_rfl) (by kernel_rfl) (fun _ _ _ h => h) (Or.inl ⟨by rfl, fun w hSw => by obtain ⟨hS1, hS2, hS3, hS4⟩ := hSw; go_simp⟩) (by assumption) ?_
    simp only [fGa, fGs, fGz, Act.put, fSa, fSz, fSs]
    refine wpAnyH_take (i := 22) (v := .slice (na2) k1 nc2) rfl (by kernel_rfl) (by kernel_rfl) (by kernel_rfl) (fun _ _ _ h => h) (Or.inl ⟨by rfl, fun w hSw => by obtain ⟨hS1, hS2, hS3, hS4⟩ := hSw; go_simp⟩) (by assumption) ?_
    simp only [fGa, fGs, fGz, Act.put, fSa, fSz, fSs]
    refine wpAnyH_ready (rs := [23]) (by kernel_rfl) (by simp) (AllReadyH.cons rfl (fun K hK => ?_) AllReadyH.nil)
    refine step_call6C (by rfl) 77 look_enter6 (.tmp 25) (.tmp 29) (.tmp 35) (.tmp 39) (.tmp 43) (.tmp 47) _ rfl rfl rfl rfl rfl rfl rfl (unhide HLY2 _ hy0) ?_
    rintro e w4 ⟨va, vn, vc, rfl, hIp, hb4⟩
    have hx4 : Below wc.heap.size wc w4 := hy0.trans (hb4.mono hy0.size)
    refine ⟨_, rfl, ?_⟩
    refine hK.out _ _ (unhide HS2 _ hx4) (fun hJ1 => ?_)
    clear hK K
    simp only [fGa, fGs, fGz, Act.put, fSa, fSz, fSs]
    refine wpAnyH_take (i := 24) (v := .tuple #[.slice va vn vc, .int .i64 (nx : Int), .bool true]) rfl (by kernel_rfl) (by kernel_rfl) (by kernel_rfl) (fun _ _ _ h => h) (Or.inl ⟨by rfl, fun w hSw => by obtain ⟨hS1, hS2, hS3, hS4⟩ := hSw; go_simp⟩) (by assumption) ?_
    simp only [fGa, fGs, fGz, Act.put, fSa, fSz, fSs]
    refine wpAnyH_take (i := 25) (v := .slice (va) vn vc) rfl (by kernel_rfl) (by kernel_rfl) (by kernel_rfl) (fun _ _ _ h => h) (Or.inl ⟨by rfl, fun w hSw => by obtain ⟨hS1, hS2, hS3, hS4⟩ := hSw; go_simp⟩) (by assumption) ?_
    simp only [fGa, fGs, fGz, Act.put, fSa, fSz, fSs]
    refine wpAnyH_take (i := 26) (v := .int .i64 (nx : Int)) rfl (by kernel_rfl) (by kernel_rfl) (by kernel_rfl) (fun _ _ _ h => h) (Or.inl ⟨by rfl, fun w hSw => by obtain ⟨hS1, hS2, hS3, hS4⟩ := hSw; go_simp⟩) (by assumption) ?_
    simp only [fGa, fGs, fGz, Act.put, fSa, fSz, fSs]
    refine wpAnyH_take (i := 27) (v := .bool true) rfl (by kernel_rfl) (by kernel_rfl) (by kernel_rfl) (fun _ _ _ h => h) (Or.inl ⟨by rfl, fun w hSw => by obtain ⟨hS1, hS2, hS3, hS4⟩ := hSw; go_simp⟩) (by assumption) ?_
    simp only [fGa, fGs, fGz, Act.put, fSa, fSz, fSs]
    refine wpAnyH_take (i := 28) (v := .slice (va) vn vc) rfl (by kernel_rfl) (by kernel_rfl) (by kernel_rfl) (fun _ _ _ h => h) (Or.inl ⟨by rfl, fun w hSw => by obtain ⟨hS1, hS2, hS3, hS4⟩ := hSw; go_simp⟩) (by assumption) ?_
    simp only [fGa, fGs, fGz, Act.put, fSa, fSz, fSs]
    refine wpAnyH_take (i := 29) (v := .int .i64 (nx : Int)) rfl (by kernel_rfl) (by kernel_rfl) (by kernel_rfl) (fun _ _ _ h => h) (Or.inl ⟨by rfl, fun w hSw => by obtain ⟨hS1, hS2, hS3, hS4⟩ := hSw; go_simp⟩) (by assumption) ?_
    simp only [fGa, fGs, fGz, Act.put, fSa, fSz, fSs]
    refine wpAnyH_take (i := 30) (v := .bool true) rfl (by kernel_rfl) (by kernel_rfl) (by kernel_rfl) (fun _ _ _ h => h) (Or.inl ⟨by rfl, fun w hSw => by obtain ⟨hS1, hS2, hS3, hS4⟩ := hSw; go_simp⟩) (by assumption) ?_
    simp only [fGa, fGs, fGz, Act.put, fSa, fSz, fSs]
    refine wpAnyH_done (by kernel_rfl) ?_ _
    have hG4 := HG3.out.below hx4
    have hA4 := hG4.arr
    have hB4 : B ≤ w4.heap.size := Nat.le_trans hBs (Nat.le_trans HU3.out.size hx4.size)
    have HG4 := hide hG4
    have HX4 := hide hx4
    have HIP := hide hIp
    have c38 := hG4.cells.2.2.2.2.1
    have HA5 : Hid (∀ w5, w4.grownBy w5 (Value.slice pa pn pc).ownBlock → w5.cell? ⟨gq, 36, none⟩ = some (.int .i64 (x0 : Int)) ∧ ∀ j, w5.frozen? ⟨gq, j, none⟩ = false) := hide (fun w5 hg => by
     have hA5 := hA4.up (up_own hg) (fun e => absurd ((hG4.tyP e).1.one hA4.ty) (by decide))
     exact ⟨arr_cell hA5 (goV_at hG4.hl 2), fun j => hA5.frozen j⟩)
    clear hG4 hA4 hIp
    go_wp2_with (at_builtin; refine wpList_appL8 rfl (.tmp 71) (.tmp 72) rfl rfl HG4.out.prt rfl HIP.out HPL.out hB4 ?_; intro pv2 w5 ho5 hg5 hat5
                 obtain ⟨⟨hc5, hf5⟩, hG6, hU6⟩ := HG4.out.piece ho5 hg5
                 obtain ⟨c36, cfz⟩ := unhide HA5 w5 hg5
                 obtain ⟨pa2, pn2, pc2, hpv2⟩ := ho5.shape
                 subst hpv2
                 have HG6 := hide hG6
                 have HU6 := hide hU6
                 have HAT := hide hat5
                 clear ho5 hg5 hat5 hG6 hU6)
    obtain ⟨w7, hw7⟩ : ∃ w7, (w5.setCell ⟨gq, 38, none⟩ (.slice pa2 pn2 pc2)).setCell ⟨gq, 36, none⟩ (.int .i64 (nx : Int)) = w7 := ⟨_, rfl⟩
    have hG7 : Go w7 B gq hs fi le heap sd nx (S.ns ++ [x0]) (S.by_ ++ partOf bs le k0) false 0 0 (.slice na2 k1 nc2) (.slice pa2 pn2 pc2) := by
     rw [← hw7]
     exact HG6.out.put (j := 2) (heap' := heap) (sd' := sd) (at' := nx) (en' := false) (er' := 0) (bk' := 0) rfl
    have hU7 : Up (fun b => b = gq ∨ (Value.slice na k0 nc).ownBlock = some b ∨ (Value.slice pa pn pc).ownBlock = some b) w w7 := by
     have u1 : Up (fun b => b = gq ∨ (Value.slice na k0 nc).ownBlock = some b ∨ (Value.slice pa pn pc).ownBlock = some b) w w4 := (HU3.out.mono (fun b h => h.elim Or.inl (fun h => Or.inr (Or.inl h)))).then_below HX4.out
     have u2 := u1.trans HU6.out (fun b h => h.elim (fun h => Or.inl (Or.inl h)) (fun h => Or.inl (Or.inr (Or.inr h))))
     rw [← hw7]
     exact u2.trans up_set (fun b h => Or.inl (Or.inl h))
    have HP7 : Hid (∀ x, (Value.slice pa2 pn2 pc2).ownBlock = some x → (Value.slice pa pn pc).ownBlock = some x ∨ w.heap.size ≤ x) := hide (fun x hx => by
     rcases HAT.out with e | e
     · exact Or.inl (e ▸ hx)
     · rw [e] at hx
       injection hx with hx
       exact Or.inr (by have := HU3.out.size; have := HX4.out.size; omega))
    have HG7 := hide hG7
    have HU7 := hide hU7
    have HKN : Hid ((S.ns.length : Int) + 1 = (k1 : Int)) := hide (by have := HK0.out; have := HK1.out; omega)
    have HGO : Hid (∀ sh : ¬ ((S.ns.length : Int) + 1 = secN le ∧ shaOf (S.by_ ++ partOf bs le S.ns.length) ≠ hs), readS bs hs fi le heap sd S = ⟨S.ns ++ [x0], (goneOn bs le heap sd S).ws, nx, S.by_ ++ partOf bs le k0, 0⟩) := hide (fun sh => by
     rw [readS_yes HF.out sh]
     unfold goneOn
     rw [HK0.out, HX0.out, HNX.out])
    have HS9 : Hid (∀ W, Below w7.heap.size w7 W → W.cell? ⟨gq, 37, none⟩ = some (.slice na2 k1 nc2) ∧ W.cell? ⟨gq, 33, none⟩ = some (.int .i64 le)) := hide (fun W hW => by
     obtain ⟨_, _, _, t37, _, _, _, _, _, _, _, t33⟩ := (hG7.below hW).cells
     exact ⟨t37, t33⟩)
    rw [hw7]
    have hz0 : Below w7.heap.size w7 w7.drew := (Below.refl _ _).drew
    clear hw7 hG7 hU7 HG6 HU6 HAT HG4 HX4 HIP HA5 HPL c36 cfz c38 hc5 hf5 HG3 hJ1 hHeld hx4 hb4 HS2 HLY2 hB4
    by_cases hla : (k1 : Int) < secN le
    · have HNO : Hid (readS bs hs fi le heap sd S = ⟨S.ns ++ [x0], (goneOn bs le heap sd S).ws, nx, S.by_ ++ partOf bs le k0, 0⟩) := hide (unhide HGO (fun h => by have := HKN.out; omega))
      have HGF : Hid (GsP w w7.drew B gq hs fi le heap sd (readS bs hs fi le heap sd S) (.slice na k0 nc) (.slice pa pn pc)) := hide (by
       rw [HNO.out]
       refine ⟨⟨.slice na2 k1 nc2, .slice pa2 pn2 pc2, ⟨nx, S.by_ ++ partOf bs le k0, ?_, fun _ => ⟨rfl, rfl⟩⟩, HN3.out, HP7.out⟩, HU7.out.then_below hz0⟩
       have hob : outB le ⟨S.ns ++ [x0], (goneOn bs le heap sd S).ws, nx, S.by_ ++ partOf bs le k0, 0⟩ = false := by
        unfold outB
        rw [if_pos rfl]
        refine decide_eq_false fun h => ?_
        have h9 : ((S.ns ++ [x0]).length : Int) = secN le := h
        rw [List.length_append, List.length_singleton] at h9
        have := HKN.out
        omega
       rw [hob]
       exact HG7.out.below hz0)
      go_wp2_with fail
      refine wp_region_held_drew (S := fun W => W.cell? ⟨gq, 37, none⟩ = some (.slice na2 k1 nc2) ∧ W.cell? ⟨gq, 33, none⟩ = some (.int .i64 le)) (by kernel_rfl) (unhide HS9 _ hz0) (fun hHeld => ?_)
      refine wpAnyH_take (i := 0) (v := .pointer (some ⟨gq, 0, none⟩)) rfl (by kernel_rfl) (by kernel_rfl) (by kernel_rfl) (fun _ _ _ h => h) (Or.inl ⟨by rfl, fun w hSw => by obtain ⟨hS1, hS2⟩ := hSw; go_simp⟩) (by assumption) ?_
      simp only [fGa, fGz, Act.put, fSa, fSz, fSs]
      refine wpAnyH_take (i := 1) (v := .pointer (some ⟨gq, 0, none⟩)) rfl (by kernel_rfl) (by kernel_rfl) (by kernel_rfl) (fun _ _ _ h => h) (Or.inl ⟨by rfl, fun w hSw => by obtain ⟨hS1, hS2⟩ := hSw; go_simp⟩) (by assumption) ?_
      simp only [fGa, fGs, fGz, Act.put, fSa, fSz, fSs]
      refine wpAnyH_take (i := 2) (v := .pointer (some ⟨gq, 37, none⟩)) rfl (by kernel_rfl) (by kernel_rfl) (by kernel_rfl) (fun _ _ _ h => h) (Or.inl ⟨by rfl, fun w hSw => by obtain ⟨hS1, hS2⟩ := hSw; go_simp⟩) (by assumption) ?_
      simp only [fGa, fGs, fGz, Act.put, fSa, fSz, fSs]
      refine wpAnyH_take (i := 3) (v := .slice (na2) k1 nc2) rfl (by kernel_rfl) (by kernel_rfl) (by kernel_rfl) (fun _ _ _ h => h) (Or.inl ⟨by rfl, fun w hSw => by obtain ⟨hS1, hS2⟩ := hSw; go_simp⟩) (by assumption) ?_
      simp only [fGa, fGs, fGz, Act.put, fSa, fSz, fSs]
      refine wpAnyH_take (i := 4) (v := .int .i64 (k1 : Int)) rfl (by kernel_rfl) (by kernel_rfl) (by kernel_rfl) (fun _ _ _ h => h) (Or.inl ⟨by rfl, fun w hSw => by obtain ⟨hS1, hS2⟩ := hSw; go_simp⟩) (by assumption) ?_
      simp only [fGa, fGs, fGz, Act.put, fSa, fSz, fSs]
      refine wpAnyH_take (i := 5) (v := .pointer (some ⟨gq, 0, none⟩)) rfl (by kernel_rfl) (by kernel_rfl) (by kernel_rfl) (fun _ _ _ h => h) (Or.inl ⟨by rfl, fun w hSw => by obtain ⟨hS1, hS2⟩ := hSw; go_simp⟩) (by assumption) ?_
      simp only [fGa, fGs, fGz, Act.put, fSa, fSz, fSs]
      refine wpAnyH_take (i := 6) (v := .pointer (some ⟨gq, 0, none⟩)) rfl (by kernel_rfl) (by kernel_rfl) (by kernel_rfl) (fun _ _ _ h => h) (Or.inl ⟨by rfl, fun w hSw => by obtain ⟨hS1, hS2⟩ := hSw; go_simp⟩) (by assumption) ?_
      simp only [fGa, fGs, fGz, Act.put, fSa, fSz, fSs]
      refine wpAnyH_take (i := 7) (v := .pointer (some ⟨gq, 0, none⟩)) rfl (by kernel_rfl) (by kernel_rfl) (by kernel_rfl) (fun _ _ _ h => h) (Or.inl ⟨by rfl, fun w hSw => by obtain ⟨hS1, hS2⟩ := hSw; go_simp⟩) (by assumption) ?_
      simp only [fGa, fGs, fGz, Act.put, fSa, fSz, fSs]
      refine wpAnyH_take (i := 8) (v := .pointer (some ⟨gq, 33, none⟩)) rfl (by kernel_rfl) (by kernel_rfl) (by kernel_rfl) (fun _ _ _ h => h) (Or.inl ⟨by rfl, fun w hSw => by obtain ⟨hS1, hS2⟩ := hSw; go_simp⟩) (by assumption) ?_
      simp only [fGa, fGs, fGz, Act.put, fSa, fSz, fSs]
      refine wpAnyH_take (i := 9) (v := .int .i64 le) rfl (by kernel_rfl) (by kernel_rfl) (by kernel_rfl) (fun _ _ _ h => h) (Or.inl ⟨by rfl, fun w hSw => by obtain ⟨hS1, hS2⟩ := hSw; go_simp⟩) (by assumption) ?_
      simp only [fGa, fGs, fGz, Act.put, fSa, fSz, fSs]
      refine wpAnyH_ready (rs := [10]) (by kernel_rfl) (by simp) (AllReadyH.cons rfl (fun K hK => ?_) AllReadyH.nil)
      refine step_call1C (by rfl) 60 rsectors_enter (.tmp 89) _ rfl rfl (refSectors_calls le _) ?_
      rintro e wn ⟨rfl, hwn⟩
      obtain rfl := hwn.symm
      clear hwn
      refine ⟨_, rfl, ?_⟩
      refine hK.out _ _ (unhide HS9 _ hz0) (fun hJ1 => ?_)
      clear hK K
      simp only [fGa, fGs, fGz, Act.put, fSa, fSz, fSs]
      refine wpAnyH_take (i := 11) (v := .bool true) rfl (by kernel_rfl) (by kernel_rfl) (by kernel_rfl) (fun _ _ _ h => h) (Or.inl ⟨by rfl, fun w hSw => by obtain ⟨hS1, hS2⟩ := hSw; go_simp⟩) (by assumption) ?_
      simp only [fGa, fGs, fGz, Act.put, fSa, fSz, fSs]
      refine wpAnyH_done (by kernel_rfl) ?_ _
      go_wp2
      exact bodyPost_ret (v := .tuple #[]) (results_none rfl _ _ _) rfl ⟨_, rfl, HGF.out⟩
    · go_wp2_with fail
      refine wp_region_held_drew (S := fun W => W.cell? ⟨gq, 37, none⟩ = some (.slice na2 k1 nc2) ∧ W.cell? ⟨gq, 33, none⟩ = some (.int .i64 le)) (by kernel_rfl) (unhide HS9 _ hz0) (fun hHeld => ?_)
      refine wpAnyH_take (i := 0) (v := .pointer (some ⟨gq, 0, none⟩)) rfl (by kernel_rfl) (by kernel_rfl) (by kernel_rfl) (fun _ _ _ h => h) (Or.inl ⟨by rfl, fun w hSw => by obtain ⟨hS1, hS2⟩ := hSw; go_simp⟩) (by assumption) ?_
      simp only [fGa, fGz, Act.put, fSa, fSz, fSs]
      refine wpAnyH_take (i := 1) (v := .pointer (some ⟨gq, 0, none⟩)) rfl (by kernel_rfl) (by kernel_rfl) (by kernel_rfl) (fun _ _ _ h => h) (Or.inl ⟨by rfl, fun w hSw => by obtain ⟨hS1, hS2⟩ := hSw; go_simp⟩) (by assumption) ?_
      simp only [fGa, fGs, fGz, Act.put, fSa, fSz, fSs]
      refine wpAnyH_take (i := 2) (v := .pointer (some ⟨gq, 37, none⟩)) rfl (by kernel_rfl) (by kernel_rfl) (by kernel_rfl) (fun _ _ _ h => h) (Or.inl ⟨by rfl, fun w hSw => by obtain ⟨hS1, hS2⟩ := hSw; go_simp⟩) (by assumption) ?_
      simp only [fGa, fGs, fGz, Act.put, fSa, fSz, fSs]
      refine wpAnyH_take (i := 3) (v := .slice (na2) k1 nc2) rfl (by kernel_rfl) (by kernel_rfl) (by kernel_rfl) (fun _ _ _ h => h) (Or.inl ⟨by rfl, fun w hSw => by obtain ⟨hS1, hS2⟩ := hSw; go_simp⟩) (by assumption) ?_
      simp only [fGa, fGs, fGz, Act.put, fSa, fSz, fSs]
      refine wpAnyH_take (i := 4) (v := .int .i64 (k1 : Int)) rfl (by kernel_rfl) (by kernel_rfl) (by kernel_rfl) (fun _ _ _ h => h) (Or.inl ⟨by rfl, fun w hSw => by obtain ⟨hS1, hS2⟩ := hSw; go_simp⟩) (by assumption) ?_
      simp only [fGa, fGs, fGz, Act.put, fSa, fSz, fSs]
      refine wpAnyH_take (i := 5) (v := .pointer (some ⟨gq, 0, none⟩)) rfl (by kernel_rfl) (by kernel_rfl) (by kernel_rfl) (fun _ _ _ h => h) (Or.inl ⟨by rfl, fun w hSw => by obtain ⟨hS1, hS2⟩ := hSw; go_simp⟩) (by assumption) ?_
      simp only [fGa, fGs, fGz, Act.put, fSa, fSz, fSs]
      refine wpAnyH_take (i := 6) (v := .pointer (some ⟨gq, 0, none⟩)) rfl (by kernel_rfl) (by kernel_rfl) (by kernel_rfl) (fun _ _ _ h => h) (Or.inl ⟨by rfl, fun w hSw => by obtain ⟨hS1, hS2⟩ := hSw; go_simp⟩) (by assumption) ?_
      simp only [fGa, fGs, fGz, Act.put, fSa, fSz, fSs]
      refine wpAnyH_take (i := 7) (v := .pointer (some ⟨gq, 0, none⟩)) rfl (by kernel_rfl) (by kernel_rfl) (by kernel_rfl) (fun _ _ _ h => h) (Or.inl ⟨by rfl, fun w hSw => by obtain ⟨hS1, hS2⟩ := hSw; go_simp⟩) (by assumption) ?_
      simp only [fGa, fGs, fGz, Act.put, fSa, fSz, fSs]
      refine wpAnyH_take (i := 8) (v := .pointer (some ⟨gq, 33, none⟩)) rfl (by kernel_rfl) (by kernel_rfl) (by kernel_rfl) (fun _ _ _ h => h) (Or.inl ⟨by rfl, fun w hSw => by obtain ⟨hS1, hS2⟩ := hSw; go_simp⟩) (by assumption) ?_
      simp only [fGa, fGs, fGz, Act.put, fSa, fSz, fSs]
      refine wpAnyH_take (i := 9) (v := .int .i64 le) rfl (by kernel_rfl) (by kernel_rfl) (by kernel_rfl) (fun _ _ _ h => h) (Or.inl ⟨by rfl, fun w hSw => by obtain ⟨hS1, hS2⟩ := hSw; go_simp⟩) (by assumption) ?_
      simp only [fGa, fGs, fGz, Act.put, fSa, fSz, fSs]
      refine wpAnyH_ready (rs := [10]) (by kernel_rfl) (by simp) (AllReadyH.cons rfl (fun K hK => ?_) AllReadyH.nil)
      refine step_call1C (by rfl) 60 rsectors_enter (.tmp 89) _ rfl rfl (refSectors_calls le _) ?_
      rintro e wn ⟨rfl, hwn⟩
      obtain rfl := hwn.symm
      clear hwn
      refine ⟨_, rfl, ?_⟩
      refine hK.out _ _ (unhide HS9 _ hz0) (fun hJ1 => ?_)
      clear hK K
      simp only [fGa, fGs, fGz, Act.put, fSa, fSz, fSs]
      refine wpAnyH_take (i := 11) (v := .bool false) rfl (by kernel_rfl) (by kernel_rfl) (by kernel_rfl) (fun _ _ _ h => h) (Or.inl ⟨by rfl, fun w hSw => by obtain ⟨hS1, hS2⟩ := hSw; go_simp⟩) (by assumption) ?_
      simp only [fGa, fGs, fGz, Act.put, fSa, fSz, fSs]
      refine wpAnyH_done (by kernel_rfl) ?_ _
      have hG8 := HG7.out.below hz0
      obtain ⟨_, _, _, _, _, c39, _, _, _, cfz, _, _⟩ := hG8.cells
      obtain ⟨w9, hw9⟩ : ∃ w9, w7.drew.setCell ⟨gq, 39, none⟩ (.bool true) = w9 := ⟨_, rfl⟩
      have hG9 : Go w9 B gq hs fi le heap sd nx (S.ns ++ [x0]) (S.by_ ++ partOf bs le k0) true 0 0 (.slice na2 k1 nc2) (.slice pa2 pn2 pc2) := by
       rw [← hw9]
       exact hG8.put (j := 5) (heap' := heap) (sd' := sd) (at' := nx) (en' := true) (er' := 0) (bk' := 0) rfl
      have hU9 : Up (fun b => b = gq ∨ (Value.slice na k0 nc).ownBlock = some b ∨ (Value.slice pa pn pc).ownBlock = some b) w w9 := by
       rw [← hw9]
       exact (HU7.out.then_below hz0).trans up_set (fun b h => Or.inl (Or.inl h))
      obtain ⟨PP, hPP⟩ : ∃ PP, S.by_ ++ partOf bs le k0 = PP := ⟨_, rfl⟩
      rw [hPP] at hG9
      obtain ⟨KV, hKV⟩ : ∃ KV, hs.map (Value.int .u8) = KV := ⟨_, rfl⟩
      obtain ⟨KP, hKP⟩ : ∃ KP, (shaOf PP).map (Value.int .u8) = KP := ⟨_, rfl⟩
      have hiK : (Tryz.prog.info? 36).map (·.size) = some KV.length := by rw [← hKV]; exact infoKey HHL.out.1
      have HS11 : Hid (∀ W, Below w9.heap.size w9 W → W.cell? ⟨gq, 38, none⟩ = some (.slice pa2 pn2 pc2) ∧ W.rangeAt gq 0 KV) := hide (fun W hW => by
       obtain ⟨_, _, _, _, t38, _, _, _, tr, _⟩ := (hG9.below hW).cells
       refine ⟨t38, ?_⟩
       rw [← hKV]
       exact ref_key tr)
      have HSU : Hid (∀ W, Below w9.heap.size w9 W → Calls Tryz.prog 61 #[.slice pa2 pn2 pc2] W fun e w' => e = .returned (.agg KP.toArray) ∧ Below W.heap.size W w') := hide (fun W hW => by
       have hO := (hG9.below hW).prt
       have hlen : PP.length ≤ 140737488350000 := by
        rw [← hPP, List.length_append]
        have hp : (partOf bs le k0).length ≤ 480 := by unfold partOf cntI; rw [List.length_take]; omega
        have := HK0.out
        have := HNS.out
        omega
       have h9 := rsum_calls hO.isB hlen
       unfold keyV at h9
       rw [hKP] at h9
       exact h9)
      have HKQ : Hid (∀ W : World, (binOp .neq 36 (.agg KP.toArray) (.agg KV.toArray)).run Tryz.prog W = .ok (.bool (!decide (shaOf PP = hs))) W) := hide (fun W => by rw [← hKP, ← hKV]; exact key_neq _ _ (shaOf_len PP) HHL.out.1 W)
      have hkg := key_guard
      have HG9 := hide hG9
      have HU9 := hide hU9
      have HPP := hide hPP
      have HW9 : Hid ((w7.setCell ⟨gq, 39, none⟩ (.bool true)).drew = w9) := hide (by rw [← hw9]; rfl)
      have HK1s : Hid ((S.ns.length : Int) + 1 = secN le) := hide (by have := HKN.out; have := HNS.out; omega)
      clear hG8 hG9 hU9 hPP hKV hKP hw9
      go_wp2_with fail
      rw [HW9.out]
      have hv0 : Below w9.heap.size w9 w9.drew := (Below.refl _ _).drew
      by_cases hsha : shaOf PP = hs
      · have hkq : ∀ W : World, (binOp .neq 36 (.agg KP.toArray) (.agg KV.toArray)).run Tryz.prog W = .ok (.bool false) W := fun W => by rw [unhide HKQ W, decide_eq_true hsha]; rfl
        have HGF : Hid (∀ W, Below w9.heap.size w9 W → GsP w W B gq hs fi le heap sd (readS bs hs fi le heap sd S) (.slice na k0 nc) (.slice pa pn pc)) := hide (fun W hW => by
         rw [unhide HGO (fun h => h.2 (by rw [HK0.out, HPP.out]; exact hsha)), HPP.out]
         refine ⟨⟨.slice na2 k1 nc2, .slice pa2 pn2 pc2, ⟨nx, PP, ?_, fun _ => ⟨rfl, rfl⟩⟩, HN3.out, HP7.out⟩, HU9.out.then_below hW⟩
         have hob : outB le ⟨S.ns ++ [x0], (goneOn bs le heap sd S).ws, nx, PP, 0⟩ = true := by
          unfold outB
          rw [if_pos rfl]
          refine decide_eq_true ?_
          show ((S.ns ++ [x0]).length : Int) = secN le
          rw [List.length_append, List.length_singleton]
          have := HK1s.out
          omega
         rw [hob]
         exact HG9.out.below hW)
        have HSHA := hide hsha
        clear hsha
        refine wp_region_held_drew (S := fun W => W.cell? ⟨gq, 38, none⟩ = some (.slice pa2 pn2 pc2) ∧ W.rangeAt gq 0 KV) (by kernel_rfl) (unhide HS11 _ hv0) (fun hHeld => ?_)
        refine wpAnyH_take (i := 0) (v := .pointer (some ⟨gq, 0, none⟩)) rfl (by kernel_rfl) (by kernel_rfl) (by kernel_rfl) (fun _ _ _ h => h) (Or.inl ⟨by rfl, fun w hSw => by obtain ⟨hS1, hS2⟩ := hSw; go_simp⟩) (by assumption) ?_
        simp only [fGa, fGz, Act.put, fSa, fSz, fSs]
        refine wpAnyH_take (i := 1) (v := .pointer (some ⟨gq, 0, none⟩)) rfl (by kernel_rfl) (by kernel_rfl) (by kernel_rfl) (fun _ _ _ h => h) (Or.inl ⟨by rfl, fun w hSw => by obtain ⟨hS1, hS2⟩ := hSw; go_simp⟩) (by assumption) ?_
        simp only [fGa, fGs, fGz, Act.put, fSa, fSz, fSs]
        refine wpAnyH_take (i := 2) (v := .pointer (some ⟨gq, 38, none⟩)) rfl (by kernel_rfl) (by kernel_rfl) (by kernel_rfl) (fun _ _ _ h => h) (Or.inl ⟨by rfl, fun w hSw => by obtain ⟨hS1, hS2⟩ := hSw; go_simp⟩) (by assumption) ?_
        simp only [fGa, fGs, fGz, Act.put, fSa, fSz, fSs]
        refine wpAnyH_take (i := 3) (v := .slice (pa2) pn2 pc2) rfl (by kernel_rfl) (by kernel_rfl) (by kernel_rfl) (fun _ _ _ h => h) (Or.inl ⟨by rfl, fun w hSw => by obtain ⟨hS1, hS2⟩ := hSw; go_simp⟩) (by assumption) ?_
        simp only [fGa, fGs, fGz, Act.put, fSa, fSz, fSs]
        refine wpAnyH_take (i := 5) (v := .pointer (some ⟨gq, 0, none⟩)) rfl (by kernel_rfl) (by kernel_rfl) (by kernel_rfl) (fun _ _ _ h => h) (Or.inl ⟨by rfl, fun w hSw => by obtain ⟨hS1, hS2⟩ := hSw; go_simp⟩) (by assumption) ?_
        simp only [fGa, fGs, fGz, Act.put, fSa, fSz, fSs]
        refine wpAnyH_take (i := 6) (v := .pointer (some ⟨gq, 0, none⟩)) rfl (by kernel_rfl) (by kernel_rfl) (by kernel_rfl) (fun _ _ _ h => h) (Or.inl ⟨by rfl, fun w hSw => by obtain ⟨hS1, hS2⟩ := hSw; go_simp⟩) (by assumption) ?_
        simp only [fGa, fGs, fGz, Act.put, fSa, fSz, fSs]
        refine wpAnyH_take (i := 7) (v := .pointer (some ⟨gq, 0, none⟩)) rfl (by kernel_rfl) (by kernel_rfl) (by kernel_rfl) (fun _ _ _ h => h) (Or.inl ⟨by rfl, fun w hSw => by obtain ⟨hS1, hS2⟩ := hSw; go_simp⟩) (by assumption) ?_
        simp only [fGa, fGs, fGz, Act.put, fSa, fSz, fSs]
        refine wpAnyH_take (i := 8) (v := .pointer (some ⟨gq, 0, none⟩)) rfl (by kernel_rfl) (by kernel_rfl) (by kernel_rfl) (fun _ _ _ h => h) (Or.inl ⟨by rfl, fun w hSw => by obtain ⟨hS1, hS2⟩ := hSw; go_simp⟩) (by assumption) ?_
        simp only [fGa, fGs, fGz, Act.put, fSa, fSz, fSs]
        refine wpAnyH_take (i := 9) (v := .agg (KV).toArray) rfl (by kernel_rfl) (by kernel_rfl) (by kernel_rfl) (fun _ _ _ h => h) (yieldsIf_load_mid (by rfl) _ _ rfl _ _ rfl _ _ (fun w hSw => hSw.2) Tryz.underlying36 rfl hiK) (by assumption) ?_
        simp only [fGa, fGs, fGz, Act.put, fSa, fSz, fSs]
        refine wpAnyH_ready (rs := [4]) (by kernel_rfl) (by simp) (AllReadyH.cons rfl (fun K hK => ?_) AllReadyH.nil)
        refine step_call1C (by rfl) 61 rsum_enter (.tmp 98) _ rfl rfl (unhide HSU _ hv0) ?_
        rintro e w10 ⟨rfl, hb10⟩
        have hv1 : Below w9.heap.size w9 w10 := hv0.trans (hb10.mono hv0.size)
        refine ⟨_, rfl, ?_⟩
        refine hK.out _ _ (unhide HS11 _ hv1) (fun hJ2 => ?_)
        clear hK K
        simp only [fGa, fGs, fGz, Act.put, fSa, fSz, fSs]
        refine wpAnyH_take (i := 10) (v := .bool false) rfl (by kernel_rfl) (by kernel_rfl) (by kernel_rfl) (fun _ _ _ h => h) (Or.inl ⟨by rfl, fun w hSw => by obtain ⟨hS1, hS2⟩ := hSw; go_simp⟩) (by assumption) ?_
        simp only [fGa, fGs, fGz, Act.put, fSa, fSz, fSs]
        refine wpAnyH_done (by kernel_rfl) ?_ _
        go_wp2
        exact bodyPost_end (results_none rfl _ _ _) rfl ⟨_, rfl, unhide HGF _ hv1⟩
      · have hkq : ∀ W : World, (binOp .neq 36 (.agg KP.toArray) (.agg KV.toArray)).run Tryz.prog W = .ok (.bool true) W := fun W => by rw [unhide HKQ W, decide_eq_false hsha]; rfl
        have HSE2 : Hid (readS bs hs fi le heap sd S = ⟨S.ns ++ [x0], (goneOn bs le heap sd S).ws, nx, [], fi⟩) := hide (by
         rw [readS_bad HF.out ⟨HK1s.out, by rw [HK0.out, HPP.out]; exact hsha⟩]
         unfold failed goneOn
         rw [HX0.out, HNX.out])
        clear hsha
        refine wp_region_held_drew (S := fun W => W.cell? ⟨gq, 38, none⟩ = some (.slice pa2 pn2 pc2) ∧ W.rangeAt gq 0 KV) (by kernel_rfl) (unhide HS11 _ hv0) (fun hHeld => ?_)
        refine wpAnyH_take (i := 0) (v := .pointer (some ⟨gq, 0, none⟩)) rfl (by kernel_rfl) (by kernel_rfl) (by kernel_rfl) (fun _ _ _ h => h) (Or.inl ⟨by rfl, fun w hSw => by obtain ⟨hS1, hS2⟩ := hSw; go_simp⟩) (by assumption) ?_
        simp only [fGa, fGz, Act.put, fSa, fSz, fSs]
        refine wpAnyH_take (i := 1) (v := .pointer (some ⟨gq, 0, none⟩)) rfl (by kernel_rfl) (by kernel_rfl) (by kernel_rfl) (fun _ _ _ h => h) (Or.inl ⟨by rfl, fun w hSw => by obtain ⟨hS1, hS2⟩ := hSw; go_simp⟩) (by assumption) ?_
        simp only [fGa, fGs, fGz, Act.put, fSa, fSz, fSs]
        refine wpAnyH_take (i := 2) (v := .pointer (some ⟨gq, 38, none⟩)) rfl (by kernel_rfl) (by kernel_rfl) (by kernel_rfl) (fun _ _ _ h => h) (Or.inl ⟨by rfl, fun w hSw => by obtain ⟨hS1, hS2⟩ := hSw; go_simp⟩) (by assumption) ?_
        simp only [fGa, fGs, fGz, Act.put, fSa, fSz, fSs]
        refine wpAnyH_take (i := 3) (v := .slice (pa2) pn2 pc2) rfl (by kernel_rfl) (by kernel_rfl) (by kernel_rfl) (fun _ _ _ h => h) (Or.inl ⟨by rfl, fun w hSw => by obtain ⟨hS1, hS2⟩ := hSw; go_simp⟩) (by assumption) ?_
        simp only [fGa, fGs, fGz, Act.put, fSa, fSz, fSs]
        refine wpAnyH_take (i := 5) (v := .pointer (some ⟨gq, 0, none⟩)) rfl (by kernel_rfl) (by kernel_rfl) (by kernel_rfl) (fun _ _ _ h => h) (Or.inl ⟨by rfl, fun w hSw => by obtain ⟨hS1, hS2⟩ := hSw; go_simp⟩) (by assumption) ?_
        simp only [fGa, fGs, fGz, Act.put, fSa, fSz, fSs]
        refine wpAnyH_take (i := 6) (v := .pointer (some ⟨gq, 0, none⟩)) rfl (by kernel_rfl) (by kernel_rfl) (by kernel_rfl) (fun _ _ _ h => h) (Or.inl ⟨by rfl, fun w hSw => by obtain ⟨hS1, hS2⟩ := hSw; go_simp⟩) (by assumption) ?_
        simp only [fGa, fGs, fGz, Act.put, fSa, fSz, fSs]
        refine wpAnyH_take (i := 7) (v := .pointer (some ⟨gq, 0, none⟩)) rfl (by kernel_rfl) (by kernel_rfl) (by kernel_rfl) (fun _ _ _ h => h) (Or.inl ⟨by rfl, fun w hSw => by obtain ⟨hS1, hS2⟩ := hSw; go_simp⟩) (by assumption) ?_
        simp only [fGa, fGs, fGz, Act.put, fSa, fSz, fSs]
        refine wpAnyH_take (i := 8) (v := .pointer (some ⟨gq, 0, none⟩)) rfl (by kernel_rfl) (by kernel_rfl) (by kernel_rfl) (fun _ _ _ h => h) (Or.inl ⟨by rfl, fun w hSw => by obtain ⟨hS1, hS2⟩ := hSw; go_simp⟩) (by assumption) ?_
        simp only [fGa, fGs, fGz, Act.put, fSa, fSz, fSs]
        refine wpAnyH_take (i := 9) (v := .agg (KV).toArray) rfl (by kernel_rfl) (by kernel_rfl) (by kernel_rfl) (fun _ _ _ h => h) (yieldsIf_load_mid (by rfl) _ _ rfl _ _ rfl _ _ (fun w hSw => hSw.2) Tryz.underlying36 rfl hiK) (by assumption) ?_
        simp only [fGa, fGs, fGz, Act.put, fSa, fSz, fSs]
        refine wpAnyH_ready (rs := [4]) (by kernel_rfl) (by simp) (AllReadyH.cons rfl (fun K hK => ?_) AllReadyH.nil)
        refine step_call1C (by rfl) 61 rsum_enter (.tmp 98) _ rfl rfl (unhide HSU _ hv0) ?_
        rintro e w10 ⟨rfl, hb10⟩
        have hv1 : Below w9.heap.size w9 w10 := hv0.trans (hb10.mono hv0.size)
        refine ⟨_, rfl, ?_⟩
        refine hK.out _ _ (unhide HS11 _ hv1) (fun hJ2 => ?_)
        clear hK K
        simp only [fGa, fGs, fGz, Act.put, fSa, fSz, fSs]
        refine wpAnyH_take (i := 10) (v := .bool true) rfl (by kernel_rfl) (by kernel_rfl) (by kernel_rfl) (fun _ _ _ h => h) (Or.inl ⟨by rfl, fun w hSw => by obtain ⟨hS1, hS2⟩ := hSw; go_simp⟩) (by assumption) ?_
        simp only [fGa, fGs, fGz, Act.put, fSa, fSz, fSs]
        refine wpAnyH_done (by kernel_rfl) ?_ _
        have hG10 := HG9.out.below hv1
        obtain ⟨_, _, _, _, _, _, d40, d41, _, dfz, d32, _⟩ := hG10.cells
        have HG10 := hide hG10
        clear hG10
        go_wp2
        refine bodyPost_end (results_none rfl _ _ _) rfl ⟨_, rfl, ?_⟩
        have hp := (HG10.out.put (j := 6) (u := .int .i64 61) (heap' := heap) (sd' := sd) (at' := nx) (en' := true) (er' := 61) (bk' := 0) rfl).put (j := 7) (u := .int .i64 fi) (heap' := heap) (sd' := sd) (at' := nx) (en' := true) (er' := 61) (bk' := fi) rfl
        rw [HSE2.out]
        refine ⟨⟨.slice na2 k1 nc2, .slice pa2 pn2 pc2, ⟨nx, PP, ?_, fun h => absurd h hfi⟩, HN3.out, HP7.out⟩, ((HU9.out.then_below hv1).trans up_set (fun b h => Or.inl (Or.inl h))).trans up_set (fun b h => Or.inl (Or.inl h))⟩
        have hob : outB le ⟨S.ns ++ [x0], (goneOn bs le heap sd S).ws, nx, [], fi⟩ = true := by unfold outB; rw [if_neg hfi]
        have hoe : outE ⟨S.ns ++ [x0], (goneOn bs le heap sd S).ws, nx, [], fi⟩ = 61 := by unfold outE; rw [if_neg hfi]
        rw [hob, hoe]
        exact hp
  · have HLN2 : Hid (∀ W, Below wc.heap.size wc W → Calls Tryz.prog 77 #[.slice ba bn bc, .agg RV.toArray, .int .i64 (k0 : Int), .int .i64 (heap : Int), .int .i64 (sd : Int), .slice na2 k1 nc2] W fun e w' => e = .returned (.tuple #[.slice none 0 0, .int .i64 0, .bool false]) ∧ Below W.heap.size W w') := hide (fun W hW => by
     refine (unhide HLK W hW).mono ?_
     rintro e w' ⟨r, rfl, hP⟩
     rw [hP.no (HLOOK.out.2 hf)]
     exact ⟨rfl, hP.bel⟩)
    have HSE := hide (readS_no (fi := fi) hf)
    clear HLK hf
    go_wp2_with fail
    refine wp_region_held_drew (S := fun W => W.rangeAt gq 0 RV ∧ W.cell? ⟨gq, 37, none⟩ = some (.slice na2 k1 nc2) ∧ W.cell? ⟨gq, 34, none⟩ = some (.int .i64 (heap : Int)) ∧ W.cell? ⟨gq, 35, none⟩ = some (.int .i64 (sd : Int))) (by kernel_rfl) (unhide HS2 _ hy0) (fun hHeld => ?_)
    refine wpAnyH_take (i := 0) (v := .slice (ba) bn bc) rfl (by kernel_rfl) (by kernel_rfl) (by kernel_rfl) (fun _ _ _ h => h) (Or.inl ⟨by rfl, fun w hSw => by obtain ⟨hS1, hS2, hS3, hS4⟩ := hSw; go_simp⟩) (by assumption) ?_
    simp only [fGa, fGz, Act.put, fSa, fSz, fSs]
    refine wpAnyH_take (i := 1) (v := .pointer (some ⟨gq, 0, none⟩)) rfl (by kernel_rfl) (by kernel_rfl) (by kernel_rfl) (fun _ _ _ h => h) (Or.inl ⟨by rfl, fun w hSw => by obtain ⟨hS1, hS2, hS3, hS4⟩ := hSw; go_simp⟩) (by assumption) ?_
    simp only [fGa, fGs, fGz, Act.put, fSa, fSz, fSs]
    refine wpAnyH_take (i := 2) (v := .pointer (some ⟨gq, 0, none⟩)) rfl (by kernel_rfl) (by kernel_rfl) (by kernel_rfl) (fun _ _ _ h => h) (Or.inl ⟨by rfl, fun w hSw => by obtain ⟨hS1, hS2, hS3, hS4⟩ := hSw; go_simp⟩) (by assumption) ?_
    simp only [fGa, fGs, fGz, Act.put, fSa, fSz, fSs]
    refine wpAnyH_take (i := 3) (v := .pointer (some ⟨gq, 0, none⟩)) rfl (by kernel_rfl) (by kernel_rfl) (by kernel_rfl) (fun _ _ _ h => h) (Or.inl ⟨by rfl, fun w hSw => by obtain ⟨hS1, hS2, hS3, hS4⟩ := hSw; go_simp⟩) (by assumption) ?_
    simp only [fGa, fGs, fGz, Act.put, fSa, fSz, fSs]
    refine wpAnyH_take (i := 4) (v := .agg (RV).toArray) rfl (by kernel_rfl) (by kernel_rfl) (by kernel_rfl) (fun _ _ _ h => h) (yieldsIf_load_mid (by rfl) _ _ rfl _ _ rfl _ _ (fun w hSw => hSw.1) Tryz.underlying38 rfl hiR) (by assumption) ?_
    simp only [fGa, fGs, fGz, Act.put, fSa, fSz, fSs]
    refine wpAnyH_take (i := 5) (v := .pointer (some ⟨gq, 0, none⟩)) rfl (by kernel_rfl) (by kernel_rfl) (by kernel_rfl) (fun _ _ _ h => h) (Or.inl ⟨by rfl, fun w hSw => by obtain ⟨hS1, hS2, hS3, hS4⟩ := hSw; go_simp⟩) (by assumption) ?_
    simp only [fGa, fGs, fGz, Act.put, fSa, fSz, fSs]
    refine wpAnyH_take (i := 6) (v := .pointer (some ⟨gq, 0, none⟩)) rfl (by kernel_rfl) (by kernel_rfl) (by kernel_rfl) (fun _ _ _ h => h) (Or.inl ⟨by rfl, fun w hSw => by obtain ⟨hS1, hS2, hS3, hS4⟩ := hSw; go_simp⟩) (by assumption) ?_
    simp only [fGa, fGs, fGz, Act.put, fSa, fSz, fSs]
    refine wpAnyH_take (i := 7) (v := .pointer (some ⟨gq, 37, none⟩)) rfl (by kernel_rfl) (by kernel_rfl) (by kernel_rfl) (fun _ _ _ h => h) (Or.inl ⟨by rfl, fun w hSw => by obtain ⟨hS1, hS2, hS3, hS4⟩ := hSw; go_simp⟩) (by assumption) ?_
    simp only [fGa, fGs, fGz, Act.put, fSa, fSz, fSs]
    refine wpAnyH_take (i := 8) (v := .slice (na2) k1 nc2) rfl (by kernel_rfl) (by kernel_rfl) (by kernel_rfl) (fun _ _ _ h => h) (Or.inl ⟨by rfl, fun w hSw => by obtain ⟨hS1, hS2, hS3, hS4⟩ := hSw; go_simp⟩) (by assumption) ?_
    simp only [fGa, fGs, fGz, Act.put, fSa, fSz, fSs]
    refine wpAnyH_take (i := 9) (v := .int .i64 (k1 : Int)) rfl (by kernel_rfl) (by kernel_rfl) (by kernel_rfl) (fun _ _ _ h => h) (Or.inl ⟨by rfl, fun w hSw => by obtain ⟨hS1, hS2, hS3, hS4⟩ := hSw; go_simp⟩) (by assumption) ?_
    simp only [fGa, fGs, fGz, Act.put, fSa, fSz, fSs]
    refine wpAnyH_take (i := 10) (v := .int .i64 (k0 : Int)) rfl (by kernel_rfl) (by kernel_rfl) (by kernel_rfl) (fun _ _ _ h => h) (Or.inl ⟨by rfl, fun w hSw => by obtain ⟨hS1, hS2, hS3, hS4⟩ := hSw; go_simp⟩) (by assumption) ?_
    simp only [fGa, fGs, fGz, Act.put, fSa, fSz, fSs]
    refine wpAnyH_take (i := 11) (v := .pointer (some ⟨gq, 0, none⟩)) rfl (by kernel_rfl) (by kernel_rfl) (by kernel_rfl) (fun _ _ _ h => h) (Or.inl ⟨by rfl, fun w hSw => by obtain ⟨hS1, hS2, hS3, hS4⟩ := hSw; go_simp⟩) (by assumption) ?_
    simp only [fGa, fGs, fGz, Act.put, fSa, fSz, fSs]
    refine wpAnyH_take (i := 12) (v := .pointer (some ⟨gq, 0, none⟩)) rfl (by kernel_rfl) (by kernel_rfl) (by kernel_rfl) (fun _ _ _ h => h) (Or.inl ⟨by rfl, fun w hSw => by obtain ⟨hS1, hS2, hS3, hS4⟩ := hSw; go_simp⟩) (by assumption) ?_
    simp only [fGa, fGs, fGz, Act.put, fSa, fSz, fSs]
    refine wpAnyH_take (i := 13) (v := .pointer (some ⟨gq, 34, none⟩)) rfl (by kernel_rfl) (by kernel_rfl) (by kernel_rfl) (fun _ _ _ h => h) (Or.inl ⟨by rfl, fun w hSw => by obtain ⟨hS1, hS2, hS3, hS4⟩ := hSw; go_simp⟩) (by assumption) ?_
    simp only [fGa, fGs, fGz, Act.put, fSa, fSz, fSs]
    refine wpAnyH_take (i := 14) (v := .int .i64 (heap : Int)) rfl (by kernel_rfl) (by kernel_rfl) (by kernel_rfl) (fun _ _ _ h => h) (Or.inl ⟨by rfl, fun w hSw => by obtain ⟨hS1, hS2, hS3, hS4⟩ := hSw; go_simp⟩) (by assumption) ?_
    simp only [fGa, fGs, fGz, Act.put, fSa, fSz, fSs]
    refine wpAnyH_take (i := 15) (v := .pointer (some ⟨gq, 0, none⟩)) rfl (by kernel_rfl) (by kernel_rfl) (by kernel_rfl) (fun _ _ _ h => h) (Or.inl ⟨by rfl, fun w hSw => by obtain ⟨hS1, hS2, hS3, hS4⟩ := hSw; go_simp⟩) (by assumption) ?_
    simp only [fGa, fGs, fGz, Act.put, fSa, fSz, fSs]
    refine wpAnyH_take (i := 16) (v := .pointer (some ⟨gq, 0, none⟩)) rfl (by kernel_rfl) (by kernel_rfl) (by kernel_rfl) (fun _ _ _ h => h) (Or.inl ⟨by rfl, fun w hSw => by obtain ⟨hS1, hS2, hS3, hS4⟩ := hSw; go_simp⟩) (by assumption) ?_
    simp only [fGa, fGs, fGz, Act.put, fSa, fSz, fSs]
    refine wpAnyH_take (i := 17) (v := .pointer (some ⟨gq, 35, none⟩)) rfl (by kernel_rfl) (by kernel_rfl) (by kernel_rfl) (fun _ _ _ h => h) (Or.inl ⟨by rfl, fun w hSw => by obtain ⟨hS1, hS2, hS3, hS4⟩ := hSw; go_simp⟩) (by assumption) ?_
    simp only [fGa, fGs, fGz, Act.put, fSa, fSz, fSs]
    refine wpAnyH_take (i := 18) (v := .int .i64 (sd : Int)) rfl (by kernel_rfl) (by kernel_rfl) (by kernel_rfl) (fun _ _ _ h => h) (Or.inl ⟨by rfl, fun w hSw => by obtain ⟨hS1, hS2, hS3, hS4⟩ := hSw; go_simp⟩) (by assumption) ?_
    simp only [fGa, fGs, fGz, Act.put, fSa, fSz, fSs]
    refine wpAnyH_take (i := 19) (v := .pointer (some ⟨gq, 0, none⟩)) rfl (by kernel_rfl) (by kernel_rfl) (by kernel_rfl) (fun _ _ _ h => h) (Or.inl ⟨by rfl, fun w hSw => by obtain ⟨hS1, hS2, hS3, hS4⟩ := hSw; go_simp⟩) (by assumption) ?_
    simp only [fGa, fGs, fGz, Act.put, fSa, fSz, fSs]
    refine wpAnyH_take (i := 20) (v := .pointer (some ⟨gq, 0, none⟩)) rfl (by kernel_rfl) (by kernel_rfl) (by kernel_rfl) (fun _ _ _ h => h) (Or.inl ⟨by rfl, fun w hSw => by obtain ⟨hS1, hS2, hS3, hS4⟩ := hSw; go_simp⟩) (by assumption) ?_
    simp only [fGa, fGs, fGz, Act.put, fSa, fSz, fSs]
    refine wpAnyH_take (i := 21) (v := .pointer (some ⟨gq, 37, none⟩)) rfl (by kernel_rfl) (by kernel_rfl) (by kernel_rfl) (fun _ _ _ h => h) (Or.inl ⟨by rfl, fun w hSw => by obtain ⟨hS1, hS2, hS3, hS4⟩ := hSw; go_simp⟩) (by assumption) ?_
    simp only [fGa, fGs, fGz, Act.put, fSa, fSz, fSs]
    refine wpAnyH_take (i := 22) (v := .slice (na2) k1 nc2) rfl (by kernel_rfl) (by kernel_rfl) (by kernel_rfl) (fun _ _ _ h => h) (Or.inl ⟨by rfl, fun w hSw => by obtain ⟨hS1, hS2, hS3, hS4⟩ := hSw; go_simp⟩) (by assumption) ?_
    simp only [fGa, fGs, fGz, Act.put, fSa, fSz, fSs]
    refine wpAnyH_ready (rs := [23]) (by kernel_rfl) (by simp) (AllReadyH.cons rfl (fun K hK => ?_) AllReadyH.nil)
    refine step_call6C (by rfl) 77 look_enter6 (.tmp 25) (.tmp 29) (.tmp 35) (.tmp 39) (.tmp 43) (.tmp 47) _ rfl rfl rfl rfl rfl rfl rfl (unhide HLN2 _ hy0) ?_
    rintro e w4 ⟨rfl, hb4⟩
    have hx4 : Below wc.heap.size wc w4 := hy0.trans (hb4.mono hy0.size)
    refine ⟨_, rfl, ?_⟩
    refine hK.out _ _ (unhide HS2 _ hx4) (fun hJ1 => ?_)
    clear hK K
    simp only [fGa, fGs, fGz, Act.put, fSa, fSz, fSs]
    refine wpAnyH_take (i := 24) (v := .tuple #[.slice none 0 0, .int .i64 0, .bool false]) rfl (by kernel_rfl) (by kernel_rfl) (by kernel_rfl) (fun _ _ _ h => h) (Or.inl ⟨by rfl, fun w hSw => by obtain ⟨hS1, hS2, hS3, hS4⟩ := hSw; go_simp⟩) (by assumption) ?_
    simp only [fGa, fGs, fGz, Act.put, fSa, fSz, fSs]
    refine wpAnyH_take (i := 25) (v := .slice none 0 0) rfl (by kernel_rfl) (by kernel_rfl) (by kernel_rfl) (fun _ _ _ h => h) (Or.inl ⟨by rfl, fun w hSw => by obtain ⟨hS1, hS2, hS3, hS4⟩ := hSw; go_simp⟩) (by assumption) ?_
    simp only [fGa, fGs, fGz, Act.put, fSa, fSz, fSs]
    refine wpAnyH_take (i := 26) (v := .int .i64 0) rfl (by kernel_rfl) (by kernel_rfl) (by kernel_rfl) (fun _ _ _ h => h) (Or.inl ⟨by rfl, fun w hSw => by obtain ⟨hS1, hS2, hS3, hS4⟩ := hSw; go_simp⟩) (by assumption) ?_
    simp only [fGa, fGs, fGz, Act.put, fSa, fSz, fSs]
    refine wpAnyH_take (i := 27) (v := .bool false) rfl (by kernel_rfl) (by kernel_rfl) (by kernel_rfl) (fun _ _ _ h => h) (Or.inl ⟨by rfl, fun w hSw => by obtain ⟨hS1, hS2, hS3, hS4⟩ := hSw; go_simp⟩) (by assumption) ?_
    simp only [fGa, fGs, fGz, Act.put, fSa, fSz, fSs]
    refine wpAnyH_take (i := 28) (v := .slice none 0 0) rfl (by kernel_rfl) (by kernel_rfl) (by kernel_rfl) (fun _ _ _ h => h) (Or.inl ⟨by rfl, fun w hSw => by obtain ⟨hS1, hS2, hS3, hS4⟩ := hSw; go_simp⟩) (by assumption) ?_
    simp only [fGa, fGs, fGz, Act.put, fSa, fSz, fSs]
    refine wpAnyH_take (i := 29) (v := .int .i64 0) rfl (by kernel_rfl) (by kernel_rfl) (by kernel_rfl) (fun _ _ _ h => h) (Or.inl ⟨by rfl, fun w hSw => by obtain ⟨hS1, hS2, hS3, hS4⟩ := hSw; go_simp⟩) (by assumption) ?_
    simp only [fGa, fGs, fGz, Act.put, fSa, fSz, fSs]
    refine wpAnyH_take (i := 30) (v := .bool false) rfl (by kernel_rfl) (by kernel_rfl) (by kernel_rfl) (fun _ _ _ h => h) (Or.inl ⟨by rfl, fun w hSw => by obtain ⟨hS1, hS2, hS3, hS4⟩ := hSw; go_simp⟩) (by assumption) ?_
    simp only [fGa, fGs, fGz, Act.put, fSa, fSz, fSs]
    refine wpAnyH_done (by kernel_rfl) ?_ _
    have hG4 := HG3.out.below hx4
    obtain ⟨_, _, c36, _, _, c39, c40, c41, _, cf, _, _⟩ := hG4.cells
    have HG4 := hide hG4
    have HX4 := hide hx4
    clear hG4
    go_wp2
    refine bodyPost_ret (v := .tuple #[]) (results_none rfl _ _ _) rfl ⟨_, rfl, ?_⟩
    have hp := ((HG4.out.put (j := 5) (u := .bool true) (heap' := heap) (sd' := sd) (at' := x0) (en' := true) (er' := 0) (bk' := 0) rfl).put (j := 6) (u := .int .i64 61) (heap' := heap) (sd' := sd) (at' := x0) (en' := true) (er' := 61) (bk' := 0) rfl).put (j := 7) (u := .int .i64 (x0 : Int)) (heap' := heap) (sd' := sd) (at' := x0) (en' := true) (er' := 61) (bk' := (x0 : Int)) rfl
    have u1 : Up (fun b => b = gq ∨ (Value.slice na k0 nc).ownBlock = some b ∨ (Value.slice pa pn pc).ownBlock = some b) w w4 := (HU3.out.mono (fun b h => h.elim Or.inl (fun h => Or.inr (Or.inl h)))).then_below HX4.out
    have hnx0 : ¬ (x0 : Int) = 0 := by have := hj.at_; have := HX0.out; omega
    rw [HSE.out, HX0.out]
    refine ⟨⟨.slice na2 k1 nc2, .slice pa pn pc, ⟨x0, S.by_, ?_, fun h => absurd h hnx0⟩, HN3.out, fun x hx => Or.inl hx⟩, ((u1.trans up_set (fun b h => Or.inl (Or.inl h))).trans up_set (fun b h => Or.inl (Or.inl h))).trans up_set (fun b h => Or.inl (Or.inl h))⟩
    have hob : outB le ⟨S.ns ++ [x0], S.ws, x0, [], (x0 : Int)⟩ = true := by unfold outB; rw [if_neg hnx0]
    have hoe : outE ⟨S.ns ++ [x0], S.ws, x0, [], (x0 : Int)⟩ = 61 := by unfold outE; rw [if_neg hnx0]
    rw [hob, hoe]
    exact hp
end
end Go.Proofs.YtdalbalphagmfaaGreatDoor

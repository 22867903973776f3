/- chain: disk, space and sha beside it; what copies bytes. chain: a writer's cells. chain: when there is no writer. ChainBytes, but for what it begins with. chain: a writer whose sectors are none of the disk. chain: a writer. chain: Sectors is entered. chain: whether it stands behind the last piece. -/
import Derived.Test.YtlofoklfggmbiaaDoorQJ
import Derived.Test.YtlofoklfggmbiaaDoorQM
import Derived.Test.YtlofoklfggmbiaaDoorQV
import Derived.Test.YtlofoklfggmbiaaDoorQT
import Derived.Test.YtlofoklfggmbiaaDoorQR
import Derived.Test.YtlofoklfggmbiaaDoorRG
namespace Go.Proofs.YtlofoklfggmbiaaDoor
open Go.RowKit Go.Maps

theorem eqlB_nil (a : Addr) (n c : Nat) (W : World) : (binOp .eql 26 (.slice (some a) n c) (.slice none 0 0)).run Tryd.prog W = .ok (.bool false) W := by kernel_rfl
theorem eqlB_nil0 (W : World) : (binOp .eql 26 (.slice none 0 0) (.slice none 0 0)).run Tryd.prog W = .ok (.bool true) W := by kernel_rfl
set_option maxRecDepth 100000 in
theorem cloneB_nil {w : World} : Calls Tryd.prog 58 #[.slice none 0 0] w fun e w' => e = .returned (.slice none 0 0) ∧ w' = w := by
 have hnil := eqlB_nil0 w
 go_enter Tryd.func58, Tryd.ntmps58
 go_wp2
 go_ret
 exact ⟨rfl, rfl⟩
theorem own8_empty (w : World) : Own8 (w.alloc (.cells #[] 5)) w.heap.size (.slice (some ⟨w.heap.size, 0, none⟩) 0 0) [] :=
 ⟨⟨by simp, Or.inr ⟨w.heap.size, 0, #[], rfl, Nat.le_refl _, heap_alloc_last w _, Nat.le_refl _, by decide, by simp, by simp⟩⟩, by simp⟩
set_option maxRecDepth 100000 in
theorem cloneB_calls {w : World} {ba : Addr} {bn bc : Nat} {xs : List Int} (h : IsB w (.slice (some ba) bn bc) xs) (hl : xs.length ≤ 140737488350000) :
 Calls Tryd.prog 58 #[.slice (some ba) bn bc] w fun e w' => ∃ v, e = .returned v ∧ Own8 w' w.heap.size v xs ∧ Below w.heap.size w w' := by
 have hbz := (Below.refl w.heap.size w).alloc (Nat.le_refl _) (.cells #[] 5)
 have HI := hide (h.below hbz)
 have HO := hide (own8_empty w)
 have HB := hide hbz
 have hl1 : ([] : List Int).length + xs.length ≤ 140737488355328 := by simp; omega
 have hs1 : w.heap.size ≤ (w.alloc (.cells #[] 5)).heap.size := hbz.size
 have hnil := eqlB_nil ba bn bc w
 clear h hbz
 go_enter Tryd.func58, Tryd.ntmps58
 go_wp2_with (first
  | (at_builtin; refine wpList_appB rfl (.tmp 5) (.tmp 6) rfl rfl HO.out rfl HI.out hl1 hs1 ?_; intro v1 w1 ho1 hg1
     have HE := hide (And.intro ho1 (below_own8 HB.out HO.out hg1 hs1))
     clear ho1 hg1))
 go_ret
 exact ⟨_, rfl, HE.out.1, HE.out.2⟩
theorem num6_calls (n : Int) (w : World) : Calls Tryd.prog 10 #[.int .i64 n] w fun e w' => e = .returned (.int .i64 n) ∧ w' = w := by
 go_enter Tryd.func10, Tryd.ntmps10
 go_wp2
 go_ret
 exact ⟨rfl, rfl⟩
end Go.Proofs.YtlofoklfggmbiaaDoor

namespace Go.Proofs.YtlofoklfggmbiaaDoor
open Go.RowKit Go.Maps

/-- Where a writer or a reader stands. -/
def standV (p : Nat) (hs : List Int) (fi le : Int) (nv : Value) (dn : Int) : List Value := .pointer (some ⟨p, 0, none⟩) :: (refV hs fi le ++ [nv, .int .i64 dn])
def writerV (p : Nat) (hs : List Int) (fi le : Int) (nv : Value) (dn : Int) (rv : Value) : List Value := standV p hs fi le nv dn ++ [rv]
theorem buildRef_run_x (a0 a1 a2 a3 a4 a5 a6 a7 a8 a9 b0 b1 b2 b3 b4 b5 b6 b7 b8 b9 c0 c1 c2 c3 c4 c5 c6 c7 c8 c9 d0 d1 : Int) (fi le : Int) (W : World) : (Instr.build 34 #[(0, .agg ([a0, a1, a2, a3, a4, a5, a6, a7, a8, a9, b0, b1, b2, b3, b4, b5, b6, b7, b8, b9, c0, c1, c2, c3, c4, c5, c6, c7, c8, c9, d0, d1].map (Value.int .u8)).toArray), (1, .int .i64 fi), (2, .int .i64 le)]).run Tryd.prog W = .ok (.agg (refV [a0, a1, a2, a3, a4, a5, a6, a7, a8, a9, b0, b1, b2, b3, b4, b5, b6, b7, b8, b9, c0, c1, c2, c3, c4, c5, c6, c7, c8, c9, d0, d1] fi le).toArray) W := by kernel_rfl
theorem buildRef_run {hs : List Int} (hh : hs.length = 32) (fi le : Int) (W : World) : (Instr.build 34 #[(0, .agg (hs.map (Value.int .u8)).toArray), (1, .int .i64 fi), (2, .int .i64 le)]).run Tryd.prog W = .ok (.agg (refV hs fi le).toArray) W := by
 match hs, hh with
 | [a0, a1, a2, a3, a4, a5, a6, a7, a8, a9, b0, b1, b2, b3, b4, b5, b6, b7, b8, b9, c0, c1, c2, c3, c4, c5, c6, c7, c8, c9, d0, d1], _ => exact buildRef_run_x a0 a1 a2 a3 a4 a5 a6 a7 a8 a9 b0 b1 b2 b3 b4 b5 b6 b7 b8 b9 c0 c1 c2 c3 c4 c5 c6 c7 c8 c9 d0 d1 fi le W
theorem buildStand_run_x (a0 a1 a2 a3 a4 a5 a6 a7 a8 a9 b0 b1 b2 b3 b4 b5 b6 b7 b8 b9 c0 c1 c2 c3 c4 c5 c6 c7 c8 c9 d0 d1 : Int) (p : Nat) (fi le : Int) (na : Option Addr) (nn nc : Nat) (W : World) : (Instr.build 66 #[(0, .pointer (some ⟨p, 0, none⟩)), (1, .agg (refV [a0, a1, a2, a3, a4, a5, a6, a7, a8, a9, b0, b1, b2, b3, b4, b5, b6, b7, b8, b9, c0, c1, c2, c3, c4, c5, c6, c7, c8, c9, d0, d1] fi le).toArray), (2, .slice na nn nc)]).run Tryd.prog W = .ok (.agg (standV p [a0, a1, a2, a3, a4, a5, a6, a7, a8, a9, b0, b1, b2, b3, b4, b5, b6, b7, b8, b9, c0, c1, c2, c3, c4, c5, c6, c7, c8, c9, d0, d1] fi le (.slice na nn nc) 0).toArray) W := by kernel_rfl
theorem buildStand_run {hs : List Int} (hh : hs.length = 32) (p : Nat) (fi le : Int) (na : Option Addr) (nn nc : Nat) (W : World) : (Instr.build 66 #[(0, .pointer (some ⟨p, 0, none⟩)), (1, .agg (refV hs fi le).toArray), (2, .slice na nn nc)]).run Tryd.prog W = .ok (.agg (standV p hs fi le (.slice na nn nc) 0).toArray) W := by
 match hs, hh with
 | [a0, a1, a2, a3, a4, a5, a6, a7, a8, a9, b0, b1, b2, b3, b4, b5, b6, b7, b8, b9, c0, c1, c2, c3, c4, c5, c6, c7, c8, c9, d0, d1], _ => exact buildStand_run_x a0 a1 a2 a3 a4 a5 a6 a7 a8 a9 b0 b1 b2 b3 b4 b5 b6 b7 b8 b9 c0 c1 c2 c3 c4 c5 c6 c7 c8 c9 d0 d1 p fi le na nn nc W
theorem buildWriter_run_x (a0 a1 a2 a3 a4 a5 a6 a7 a8 a9 b0 b1 b2 b3 b4 b5 b6 b7 b8 b9 c0 c1 c2 c3 c4 c5 c6 c7 c8 c9 d0 d1 : Int) (p : Nat) (fi le : Int) (na ra : Option Addr) (nn nc rn rc : Nat) (W : World) : (Instr.build 81 #[(0, .agg (standV p [a0, a1, a2, a3, a4, a5, a6, a7, a8, a9, b0, b1, b2, b3, b4, b5, b6, b7, b8, b9, c0, c1, c2, c3, c4, c5, c6, c7, c8, c9, d0, d1] fi le (.slice na nn nc) 0).toArray), (1, .slice ra rn rc)]).run Tryd.prog W = .ok (.agg (writerV p [a0, a1, a2, a3, a4, a5, a6, a7, a8, a9, b0, b1, b2, b3, b4, b5, b6, b7, b8, b9, c0, c1, c2, c3, c4, c5, c6, c7, c8, c9, d0, d1] fi le (.slice na nn nc) 0 (.slice ra rn rc)).toArray) W := by kernel_rfl
theorem buildWriter_run {hs : List Int} (hh : hs.length = 32) (p : Nat) (fi le : Int) (na ra : Option Addr) (nn nc rn rc : Nat) (W : World) : (Instr.build 81 #[(0, .agg (standV p hs fi le (.slice na nn nc) 0).toArray), (1, .slice ra rn rc)]).run Tryd.prog W = .ok (.agg (writerV p hs fi le (.slice na nn nc) 0 (.slice ra rn rc)).toArray) W := by
 match hs, hh with
 | [a0, a1, a2, a3, a4, a5, a6, a7, a8, a9, b0, b1, b2, b3, b4, b5, b6, b7, b8, b9, c0, c1, c2, c3, c4, c5, c6, c7, c8, c9, d0, d1], _ => exact buildWriter_run_x a0 a1 a2 a3 a4 a5 a6 a7 a8 a9 b0 b1 b2 b3 b4 b5 b6 b7 b8 b9 c0 c1 c2 c3 c4 c5 c6 c7 c8 c9 d0 d1 p fi le na ra nn nc rn rc W
theorem boxWriter_run_x (a0 a1 a2 a3 a4 a5 a6 a7 a8 a9 b0 b1 b2 b3 b4 b5 b6 b7 b8 b9 c0 c1 c2 c3 c4 c5 c6 c7 c8 c9 d0 d1 : Int) (p : Nat) (fi le : Int) (na ra : Option Addr) (nn nc rn rc : Nat) (W : World) : (Instr.box 81 (.agg (writerV p [a0, a1, a2, a3, a4, a5, a6, a7, a8, a9, b0, b1, b2, b3, b4, b5, b6, b7, b8, b9, c0, c1, c2, c3, c4, c5, c6, c7, c8, c9, d0, d1] fi le (.slice na nn nc) 0 (.slice ra rn rc)).toArray)).run Tryd.prog W = .ok (.pointer (some ⟨W.heap.size, 0, none⟩)) (W.alloc (.cells (writerV p [a0, a1, a2, a3, a4, a5, a6, a7, a8, a9, b0, b1, b2, b3, b4, b5, b6, b7, b8, b9, c0, c1, c2, c3, c4, c5, c6, c7, c8, c9, d0, d1] fi le (.slice na nn nc) 0 (.slice ra rn rc)).toArray 81)) := by kernel_rfl
theorem boxWriter_run {hs : List Int} (hh : hs.length = 32) (p : Nat) (fi le : Int) (na ra : Option Addr) (nn nc rn rc : Nat) (W : World) : (Instr.box 81 (.agg (writerV p hs fi le (.slice na nn nc) 0 (.slice ra rn rc)).toArray)).run Tryd.prog W = .ok (.pointer (some ⟨W.heap.size, 0, none⟩)) (W.alloc (.cells (writerV p hs fi le (.slice na nn nc) 0 (.slice ra rn rc)).toArray 81)) := by
 match hs, hh with
 | [a0, a1, a2, a3, a4, a5, a6, a7, a8, a9, b0, b1, b2, b3, b4, b5, b6, b7, b8, b9, c0, c1, c2, c3, c4, c5, c6, c7, c8, c9, d0, d1], _ => exact boxWriter_run_x a0 a1 a2 a3 a4 a5 a6 a7 a8 a9 b0 b1 b2 b3 b4 b5 b6 b7 b8 b9 c0 c1 c2 c3 c4 c5 c6 c7 c8 c9 d0 d1 p fi le na ra nn nc rn rc W
end Go.Proofs.YtlofoklfggmbiaaDoor

namespace Go.Proofs.YtlofoklfggmbiaaDoor
open Go.RowKit Go.Maps

theorem newWriter_nil1 {w : World} (s b : Value) : Calls Tryd.prog 30 #[.pointer none, s, b] w fun e w' => e = .returned (.tuple #[.pointer none, .int .i64 1]) ∧ w' = w := by
 go_enter Tryd.func30, Tryd.ntmps30
 go_wp2
 go_ret2
 exact ⟨rfl, rfl⟩
theorem newWriter_nil2 {w : World} (p : Addr) (b : Value) : Calls Tryd.prog 30 #[.pointer (some p), .pointer none, b] w fun e w' => e = .returned (.tuple #[.pointer none, .int .i64 1]) ∧ w' = w := by
 go_enter Tryd.func30, Tryd.ntmps30
 go_wp2
 go_ret2
 exact ⟨rfl, rfl⟩
theorem newWriter_long {w : World} (p g : Addr) (a : Option Addr) (n c : Nat) (hn : (1048576 : Int) < (n : Int)) : Calls Tryd.prog 30 #[.pointer (some p), .pointer (some g), .slice a n c] w fun e w' => e = .returned (.tuple #[.pointer none, .int .i64 2]) ∧ w' = w := by
 go_enter Tryd.func30, Tryd.ntmps30
 go_wp2
 go_ret2
 exact ⟨rfl, rfl⟩
/-- The sectors that are taken: so many of the lowest. -/
theorem secN_nat {n : Nat} (h : n ≤ 1048576) : ∃ k : Nat, secN (n : Int) = (k : Int) ∧ 1 ≤ k ∧ k ≤ 2185 := by
 have h1 : 1 ≤ secN (n : Int) := by unfold secN; rw [if_neg (by omega), if_neg (by omega)]; omega
 have h2 := secN_hi (n : Int)
 exact ⟨(secN (n : Int)).toNat, by omega, by omega, by omega⟩
set_option maxRecDepth 100000 in
theorem newWriter_full {w : World} {p B g gw fr to_ n c : Nat} {a : Option Addr} {ws : List Nat} (hS : Sp w B g gw fr to_ ws) (hn : n ≤ 1048576) (hf : ((freeN ws : Nat) : Int) < secN (n : Int)) :
 Calls Tryd.prog 30 #[.pointer (some ⟨p, 0, none⟩), .pointer (some ⟨g, 0, none⟩), .slice a n c] w fun e w' => e = .returned (.tuple #[.pointer none, .int .i64 60]) ∧ Below w.heap.size w w' := by
 have HC := hide (spCopy_calls hS)
 have HSN := hide (fun W => chSectors_calls (n : Int) W)
 have HTA : Hid (∀ W g2 gw2, Sp W w.heap.size g2 gw2 fr to_ ws → Calls Tryd.prog 64 #[.pointer (some ⟨g2, 0, none⟩), .int .i64 (secN (n : Int))] W fun e w' => e = .returned (.tuple #[.slice none 0 0, .bool false]) ∧ w' = W) := hide (fun W g2 gw2 h => takeAll_no h _ (Or.inr hf))
 have hnI : ¬ (1048576 : Int) < (n : Int) := by omega
 have HFR := hide hf
 generalize secN (n : Int) = sn at *
 clear hS hf
 go_enter Tryd.func30, Tryd.ntmps30
 go_wp2_with fail
 refine (unhide HC).mono ?_
 rintro e w1 ⟨g2, gw2, rfl, hS2, _, hb1⟩
 have HT := hide (unhide HTA w1 g2 gw2 hS2)
 have HB1 := hide hb1
 clear HC HTA hS2 hb1
 go_wp2_with fail
 refine (unhide HSN _).mono ?_
 rintro e w2 ⟨rfl, hw2⟩
 obtain rfl := hw2.symm
 clear HSN
 go_wp2_with fail
 refine (unhide HT).mono ?_
 rintro e w3 ⟨rfl, hw3⟩
 obtain rfl := hw3.symm
 clear HT
 go_wp2
 go_ret2
 exact ⟨rfl, HB1.out⟩
end Go.Proofs.YtlofoklfggmbiaaDoor

namespace Go.Proofs.YtlofoklfggmbiaaDoor
open Go.RowKit Go.Maps

section
variable {ops : Array Oper} {rest : List Oper} {o : Oper} {a : Act} {Q : Exit → Act → World → Prop} {w : World} {K : Act → World → Prop} {E : Prop}
theorem step_call1GC (hw : Region.wanted o (yielded ops a.tmps) = true) (f : Nat) (hf : ∀ (v : Value) (W : World), (callFunc f #[v]).run Tryd.prog W = .ok (.enter f #[v]) W) (x : Operand) (ts : Array TypeId) (ho : o.op = .call { callee := .value (.func f), args := #[x], argTypes := ts }) {v : Value} (hx : a.eval x = v)
 {Post : Ending → World → Prop} (hc : Calls Tryd.prog f #[v] w Post) (hk : ∀ e w2, Post e w2 → ∃ r, e = .returned r ∧ K (a.put o.dst r) w2) :
 if Region.wanted o (yielded ops a.tmps) = true then Oper.wp Tryd.prog o a w K Q else E := by
 rw [if_pos hw]
 have hrun : (execOp a.eval o).run Tryd.prog w = .ok (.enter f #[v]) w := by
  have h1 := hf v w
  unfold execOp
  have hfv : a.eval (.func f) = .func (.func f) #[] #[] := rfl
  simp [ho, hx, hfv, resolve, invoke, Deferred.ofValue, h1]
 unfold Oper.wp
 rw [hrun]
 refine hc.mono ?_
 intro e w2 hp
 obtain ⟨r, rfl, hK⟩ := hk e w2 hp
 exact hK
theorem step_call2GC (hw : Region.wanted o (yielded ops a.tmps) = true) (f : Nat) (hf : ∀ (v u : Value) (W : World), (callFunc f #[v, u]).run Tryd.prog W = .ok (.enter f #[v, u]) W) (x y : Operand) (ts : Array TypeId) (ho : o.op = .call { callee := .value (.func f), args := #[x, y], argTypes := ts }) {v u : Value} (hx : a.eval x = v) (hy : a.eval y = u)
 {Post : Ending → World → Prop} (hc : Calls Tryd.prog f #[v, u] w Post) (hk : ∀ e w2, Post e w2 → ∃ r, e = .returned r ∧ K (a.put o.dst r) w2) :
 if Region.wanted o (yielded ops a.tmps) = true then Oper.wp Tryd.prog o a w K Q else E := by
 rw [if_pos hw]
 have hrun : (execOp a.eval o).run Tryd.prog w = .ok (.enter f #[v, u]) w := by
  have h1 := hf v u w
  unfold execOp
  have hfv : a.eval (.func f) = .func (.func f) #[] #[] := rfl
  simp [ho, hx, hy, hfv, resolve, invoke, Deferred.ofValue, h1]
 unfold Oper.wp
 rw [hrun]
 refine hc.mono ?_
 intro e w2 hp
 obtain ⟨r, rfl, hK⟩ := hk e w2 hp
 exact hK
end
end Go.Proofs.YtlofoklfggmbiaaDoor

namespace Go.Proofs.YtlofoklfggmbiaaDoor
open Go.RowKit Go.Maps

theorem dsec_enter (v : Value) (W : World) : (callFunc 54 #[v]).run Tryd.prog W = .ok (.enter 54 #[v]) W := by kernel_rfl
theorem bkeptC {w w' : World} (h : Below w.heap.size w w') {a : Addr} {v : Value} (hc : w.cell? a = some v) : w'.cell? a = some v := (Up.of_below (F := fun _ => False) h).cell hc (fun h => h)
theorem iV_at {l : List Nat} {j : Nat} (h : j < l.length) : (iV l)[j]? = some (.int .i64 ((l.getD j 0 : Nat) : Int)) := by
 unfold iV
 rw [List.getElem?_map, List.getElem?_eq_getElem h, List.getD_eq_getElem?_getD, List.getElem?_eq_getElem h]
 rfl
set_option maxRecDepth 100000 in
set_option maxHeartbeats 4000000 in
theorem newWriter_sector {w : World} {p gl gm B g gw fr to_ n c k : Nat} {V : Nat → Value} {D : AD} {a : Option Addr} {ws : List Nat} (hD : Dk w p gl gm V D) (hS : Sp w B g gw fr to_ ws) (hT : Tz w) (hn : n ≤ 1048576) (hk : secN (n : Int) = (k : Int)) (hf : k ≤ freeN ws)
 (hbad : ((allF fr 0 ws).take k).getD 0 0 = 0 ∨ D.la.length ≤ ((allF fr 0 ws).take k).getD (k - 1) 0) :
 Calls Tryd.prog 30 #[.pointer (some ⟨p, 0, none⟩), .pointer (some ⟨g, 0, none⟩), .slice a n c] w fun e w' => e = .returned (.tuple #[.pointer none, .int .i64 31]) ∧ Below w.heap.size w w' := by
 have hk1 : 1 ≤ k := by obtain ⟨k', h1, h2, _⟩ := secN_nat hn; omega
 have hk9 : k ≤ 2185 := by obtain ⟨k', h1, _, h3⟩ := secN_nat hn; omega
 have HC := hide (spCopy_calls hS)
 have HSN := hide (fun W => chSectors_calls (n : Int) W)
 rw [hk] at HSN
 have HTA : Hid (∀ W g2 gw2, Below w.heap.size w W → Sp W w.heap.size g2 gw2 fr to_ ws → Calls Tryd.prog 64 #[.pointer (some ⟨g2, 0, none⟩), .int .i64 (k : Int)] W fun e w' => ∃ gn cn, e = .returned (.tuple #[.slice (some ⟨gn, 0, none⟩) k cn, .bool true]) ∧ (∀ j, j < k → w'.cell? ⟨gn, j, none⟩ = some (.int .i64 ((((allF fr 0 ws).take k).getD j 0 : Nat) : Int))) ∧ Below w.heap.size w w') := hide (fun W g2 gw2 hW h => by
  have hl : ((allF fr 0 ws).take k).length = k := by rw [List.length_take, freeN_allF]; omega
  refine (takeAll_calls h (hT.below hW) k hf).mono ?_
  rintro e w' ⟨v, rfl, hr, _, hg⟩
  have hil : (iV ((allF fr 0 ws).take k)).length = k := by unfold iV; rw [List.length_map, hl]
  obtain ⟨gn, cn, rfl, _⟩ := hr.head (by omega)
  rw [hil] at hr ⊢
  refine ⟨gn, cn, rfl, fun j hj => ?_, hW.trans ((Below.refl _ _).grown hg hW.size (fun b hb => ?_))⟩
  · rw [hr.cellAt (by rw [hil]; exact hj)]
    exact iV_at (by rw [hl]; exact hj)
  · injection hb with hb
    subst hb
    obtain ⟨c0, _, h2⟩ := h.blk
    exact (h2.lt gw2 rfl).1)
 have HDS : Hid (∀ W, Below w.heap.size w W → Calls Tryd.prog 54 #[.pointer (some ⟨p, 0, none⟩)] W fun e w' => e = .returned (.int .i64 (D.la.length : Int)) ∧ w' = W) := hide (fun W hW => sectors_calls (hD.below hW).cells.1)
 have hnI : ¬ (1048576 : Int) < (n : Int) := by omega
 obtain ⟨x0, hx0⟩ : ∃ x0, x0 = ((allF fr 0 ws).take k).getD 0 0 := ⟨_, rfl⟩
 obtain ⟨k1, hk1e⟩ : ∃ k1, k1 = k - 1 := ⟨_, rfl⟩
 obtain ⟨xl, hxl⟩ : ∃ xl, xl = ((allF fr 0 ws).take k).getD k1 0 := ⟨_, rfl⟩
 have HBAD := hide hbad
 rw [← hk1e, ← hx0, ← hxl] at HBAD
 have hwk : IntKind.i64.wrap ((k : Int) - 1) = (k1 : Int) := by rw [show (k : Int) - 1 = (k1 : Int) by omega]; exact IntWalk.i64_in _ (by omega)
 have hk1k : (k1 : Int) < (k : Int) := by omega
 have hk0k : (0 : Int) < (k : Int) := by omega
 have hkz : ¬ k = 0 := by omega
 have hk1N : k1 < k := by omega
 have HX0 := hide hx0
 have HXL := hide hxl
 generalize hsd : D.la.length = sd at HBAD HDS
 clear hbad hx0 hxl hk1e hsd hD hS hT hf hk
 go_enter Tryd.func30, Tryd.ntmps30
 go_wp2_with fail
 refine (unhide HC).mono ?_
 rintro e w1 ⟨g2, gw2, rfl, hS2, _, hb1⟩
 have HT := hide (unhide HTA w1 g2 gw2 hb1 hS2)
 clear HC HTA hS2 hb1
 go_wp2_with fail
 refine (unhide HSN _).mono ?_
 rintro e w2 ⟨rfl, hw2⟩
 obtain rfl := hw2.symm
 clear HSN
 go_wp2_with fail
 refine (unhide HT).mono ?_
 rintro e w4 ⟨gn, cn, rfl, hcell, hb4⟩
 have hc0 : w4.cell? ⟨gn, 0, none⟩ = some (.int .i64 (x0 : Int)) := by rw [HX0.out]; exact hcell 0 (by omega)
 have hcl : w4.cell? ⟨gn, k1, none⟩ = some (.int .i64 (xl : Int)) := by rw [HXL.out]; exact hcell k1 hk1N
 have HSS : Hid (∀ W, Below w4.heap.size w4 W → (fun W => W.cell? ⟨gn, 0, none⟩ = some (.int .i64 (x0 : Int)) ∧ W.cell? ⟨gn, k1, none⟩ = some (.int .i64 (xl : Int))) W) := hide (fun W hW => ⟨bkeptC hW hc0, bkeptC hW hcl⟩)
 have HDT : Hid (∀ W, Below w4.heap.size w4 W → Calls Tryd.prog 54 #[.pointer (some ⟨p, 0, none⟩)] W fun e w' => e = .returned (.int .i64 (sd : Int)) ∧ w' = W) := hide (fun W hW => unhide HDS W (hb4.trans (hW.mono hb4.size)))
 have HB4 : Hid (Below w.heap.size w w4.drew) := hide hb4.drew
 clear HT hcell hb4 hc0 hcl HDS HX0 HXL
 by_cases hz : x0 = 0
 · have hz1 : ((x0 : Int) == 0) = true := by simp [hz]
   clear hz HBAD
   go_wp2_with fail
   refine wp_region_held_drew (S := fun W => W.cell? ⟨gn, 0, none⟩ = some (.int .i64 (x0 : Int)) ∧ W.cell? ⟨gn, k1, none⟩ = some (.int .i64 (xl : Int))) (by kernel_rfl) (unhide HSS _ (Below.refl _ _).drew) (fun hHeld => ?_)
   refine wpAnyH_take (i := 0) (v := .slice (some ⟨gn, 0, none⟩) k cn) rfl (by kernel_rfl) (by kernel_rfl) (by kernel_rfl) (fun _ _ _ h => h) (Or.inl ⟨by rfl, fun w hSw => by obtain ⟨hS1, hS2⟩ := hSw; go_simp⟩) (by assumption) ?_
   simp only [fGa, fGz, Act.put, fSa, fSz, fSs]
   refine wpAnyH_take (i := 1) (v := .pointer (some ⟨gn, 0, none⟩)) rfl (by kernel_rfl) (by kernel_rfl) (by kernel_rfl) (fun _ _ _ h => h) (Or.inl ⟨by rfl, fun w hSw => by obtain ⟨hS1, hS2⟩ := hSw; go_simp⟩) (by assumption) ?_
   simp only [fGa, fGs, fGz, Act.put, fSa, fSz, fSs]
   refine wpAnyH_take (i := 2) (v := .int .i64 (x0 : Int)) rfl (by kernel_rfl) (by kernel_rfl) (by kernel_rfl) (fun _ _ _ h => h) (Or.inl ⟨by rfl, fun w hSw => by obtain ⟨hS1, hS2⟩ := hSw; go_simp⟩) (by assumption) ?_
   simp only [fGa, fGs, fGz, Act.put, fSa, fSz, fSs]
   refine wpAnyH_take (i := 3) (v := .bool true) rfl (by kernel_rfl) (by kernel_rfl) (by kernel_rfl) (fun _ _ _ h => h) (Or.inl ⟨by rfl, fun w hSw => by obtain ⟨hS1, hS2⟩ := hSw; go_simp⟩) (by assumption) ?_
   simp only [fGa, fGs, fGz, Act.put, fSa, fSz, fSs]
   refine wpAnyH_take (i := 4) (v := .bool true) rfl (by kernel_rfl) (by kernel_rfl) (by kernel_rfl) (fun _ _ _ h => h) (Or.inl ⟨by rfl, fun w hSw => by obtain ⟨hS1, hS2⟩ := hSw; go_simp⟩) (by assumption) ?_
   simp only [fGa, fGs, fGz, Act.put, fSa, fSz, fSs]
   refine wpAnyH_take (i := 5) (v := undef) rfl (by kernel_rfl) (by kernel_rfl) (by kernel_rfl) (fun _ _ _ h => h) (Or.inr ⟨by rfl, rfl⟩) (by assumption) ?_
   simp only [fGa, fGs, fGz, Act.put, fSa, fSz, fSs]
   refine wpAnyH_take (i := 6) (v := undef) rfl (by kernel_rfl) (by kernel_rfl) (by kernel_rfl) (fun _ _ _ h => h) (Or.inr ⟨by rfl, rfl⟩) (by assumption) ?_
   simp only [fGa, fGs, fGz, Act.put, fSa, fSz, fSs]
   refine wpAnyH_take (i := 7) (v := undef) rfl (by kernel_rfl) (by kernel_rfl) (by kernel_rfl) (fun _ _ _ h => h) (Or.inr ⟨by rfl, rfl⟩) (by assumption) ?_
   simp only [fGa, fGs, fGz, Act.put, fSa, fSz, fSs]
   refine wpAnyH_take (i := 8) (v := undef) rfl (by kernel_rfl) (by kernel_rfl) (by kernel_rfl) (fun _ _ _ h => h) (Or.inr ⟨by rfl, rfl⟩) (by assumption) ?_
   simp only [fGa, fGs, fGz, Act.put, fSa, fSz, fSs]
   refine wpAnyH_take (i := 9) (v := undef) rfl (by kernel_rfl) (by kernel_rfl) (by kernel_rfl) (fun _ _ _ h => h) (Or.inr ⟨by rfl, rfl⟩) (by assumption) ?_
   simp only [fGa, fGs, fGz, Act.put, fSa, fSz, fSs]
   refine wpAnyH_take (i := 10) (v := undef) rfl (by kernel_rfl) (by kernel_rfl) (by kernel_rfl) (fun _ _ _ h => h) (Or.inr ⟨by rfl, rfl⟩) (by assumption) ?_
   simp only [fGa, fGs, fGz, Act.put, fSa, fSz, fSs]
   refine wpAnyH_take (i := 11) (v := undef) rfl (by kernel_rfl) (by kernel_rfl) (by kernel_rfl) (fun _ _ _ h => h) (Or.inr ⟨by rfl, rfl⟩) (by assumption) ?_
   simp only [fGa, fGs, fGz, Act.put, fSa, fSz, fSs]
   refine wpAnyH_take (i := 12) (v := undef) rfl (by kernel_rfl) (by kernel_rfl) (by kernel_rfl) (fun _ _ _ h => h) (Or.inr ⟨by rfl, rfl⟩) (by assumption) ?_
   simp only [fGa, fGs, fGz, Act.put, fSa, fSz, fSs]
   refine wpAnyH_take (i := 13) (v := undef) rfl (by kernel_rfl) (by kernel_rfl) (by kernel_rfl) (fun _ _ _ h => h) (Or.inr ⟨by rfl, rfl⟩) (by assumption) ?_
   simp only [fGa, fGs, fGz, Act.put, fSa, fSz, fSs]
   refine wpAnyH_take (i := 14) (v := .bool true) rfl (by kernel_rfl) (by kernel_rfl) (by kernel_rfl) (fun _ _ _ h => h) (Or.inl ⟨by rfl, fun w hSw => by obtain ⟨hS1, hS2⟩ := hSw; go_simp⟩) (by assumption) ?_
   simp only [fGa, fGs, fGz, Act.put, fSa, fSz, fSs]
   refine wpAnyH_done (by kernel_rfl) ?_ _
   clear hHeld
   go_wp2
   go_ret2
   exact ⟨rfl, HB4.out⟩
 · have hz1 : ((x0 : Int) == 0) = false := by simp; omega
   have hge : (sd : Int) ≤ (xl : Int) := by rcases HBAD.out with h | h; exact absurd h hz; omega
   clear hz HBAD
   go_wp2_with fail
   refine wp_region_held_drew (S := fun W => W.cell? ⟨gn, 0, none⟩ = some (.int .i64 (x0 : Int)) ∧ W.cell? ⟨gn, k1, none⟩ = some (.int .i64 (xl : Int))) (by kernel_rfl) (unhide HSS _ (Below.refl _ _).drew) (fun hHeld => ?_)
   refine wpAnyH_take (i := 0) (v := .slice (some ⟨gn, 0, none⟩) k cn) rfl (by kernel_rfl) (by kernel_rfl) (by kernel_rfl) (fun _ _ _ h => h) (Or.inl ⟨by rfl, fun w hSw => by obtain ⟨hS1, hS2⟩ := hSw; go_simp⟩) (by assumption) ?_
   simp only [fGa, fGz, Act.put, fSa, fSz, fSs]
   refine wpAnyH_take (i := 1) (v := .pointer (some ⟨gn, 0, none⟩)) rfl (by kernel_rfl) (by kernel_rfl) (by kernel_rfl) (fun _ _ _ h => h) (Or.inl ⟨by rfl, fun w hSw => by obtain ⟨hS1, hS2⟩ := hSw; go_simp⟩) (by assumption) ?_
   simp only [fGa, fGs, fGz, Act.put, fSa, fSz, fSs]
   refine wpAnyH_take (i := 2) (v := .int .i64 (x0 : Int)) rfl (by kernel_rfl) (by kernel_rfl) (by kernel_rfl) (fun _ _ _ h => h) (Or.inl ⟨by rfl, fun w hSw => by obtain ⟨hS1, hS2⟩ := hSw; go_simp⟩) (by assumption) ?_
   simp only [fGa, fGs, fGz, Act.put, fSa, fSz, fSs]
   refine wpAnyH_take (i := 3) (v := .bool false) rfl (by kernel_rfl) (by kernel_rfl) (by kernel_rfl) (fun _ _ _ h => h) (Or.inl ⟨by rfl, fun w hSw => by obtain ⟨hS1, hS2⟩ := hSw; go_simp⟩) (by assumption) ?_
   simp only [fGa, fGs, fGz, Act.put, fSa, fSz, fSs]
   refine wpAnyH_take (i := 4) (v := .bool false) rfl (by kernel_rfl) (by kernel_rfl) (by kernel_rfl) (fun _ _ _ h => h) (Or.inl ⟨by rfl, fun w hSw => by obtain ⟨hS1, hS2⟩ := hSw; go_simp⟩) (by assumption) ?_
   simp only [fGa, fGs, fGz, Act.put, fSa, fSz, fSs]
   refine wpAnyH_take (i := 5) (v := .slice (some ⟨gn, 0, none⟩) k cn) rfl (by kernel_rfl) (by kernel_rfl) (by kernel_rfl) (fun _ _ _ h => h) (Or.inl ⟨by rfl, fun w hSw => by obtain ⟨hS1, hS2⟩ := hSw; go_simp⟩) (by assumption) ?_
   simp only [fGa, fGs, fGz, Act.put, fSa, fSz, fSs]
   refine wpAnyH_take (i := 6) (v := .slice (some ⟨gn, 0, none⟩) k cn) rfl (by kernel_rfl) (by kernel_rfl) (by kernel_rfl) (fun _ _ _ h => h) (Or.inl ⟨by rfl, fun w hSw => by obtain ⟨hS1, hS2⟩ := hSw; go_simp⟩) (by assumption) ?_
   simp only [fGa, fGs, fGz, Act.put, fSa, fSz, fSs]
   refine wpAnyH_take (i := 7) (v := .int .i64 (k : Int)) rfl (by kernel_rfl) (by kernel_rfl) (by kernel_rfl) (fun _ _ _ h => h) (Or.inl ⟨by rfl, fun w hSw => by obtain ⟨hS1, hS2⟩ := hSw; go_simp⟩) (by assumption) ?_
   simp only [fGa, fGs, fGz, Act.put, fSa, fSz, fSs]
   refine wpAnyH_take (i := 8) (v := .int .i64 (k1 : Int)) rfl (by kernel_rfl) (by kernel_rfl) (by kernel_rfl) (fun _ _ _ h => h) (Or.inl ⟨by rfl, fun w hSw => by obtain ⟨hS1, hS2⟩ := hSw; go_simp⟩) (by assumption) ?_
   simp only [fGa, fGs, fGz, Act.put, fSa, fSz, fSs]
   refine wpAnyH_take (i := 9) (v := .pointer (some ⟨gn, k1, none⟩)) rfl (by kernel_rfl) (by kernel_rfl) (by kernel_rfl) (fun _ _ _ h => h) (Or.inl ⟨by rfl, fun w hSw => by obtain ⟨hS1, hS2⟩ := hSw; go_simp⟩) (by assumption) ?_
   simp only [fGa, fGs, fGz, Act.put, fSa, fSz, fSs]
   refine wpAnyH_take (i := 10) (v := .int .i64 (xl : Int)) rfl (by kernel_rfl) (by kernel_rfl) (by kernel_rfl) (fun _ _ _ h => h) (Or.inl ⟨by rfl, fun w hSw => by obtain ⟨hS1, hS2⟩ := hSw; go_simp⟩) (by assumption) ?_
   simp only [fGa, fGs, fGz, Act.put, fSa, fSz, fSs]
   refine wpAnyH_take (i := 11) (v := .pointer (some ⟨p, 0, none⟩)) rfl (by kernel_rfl) (by kernel_rfl) (by kernel_rfl) (fun _ _ _ h => h) (Or.inl ⟨by rfl, fun w hSw => by obtain ⟨hS1, hS2⟩ := hSw; go_simp⟩) (by assumption) ?_
   simp only [fGa, fGs, fGz, Act.put, fSa, fSz, fSs]
   refine wpAnyH_ready (rs := [12]) (by kernel_rfl) (by simp) (AllReadyH.cons rfl (fun K hK => ?_) AllReadyH.nil)
   refine step_call1GC (by rfl) 54 dsec_enter (.tmp 42) _ rfl rfl (unhide HDT _ (Below.refl _ _).drew) ?_
   rintro e w9 ⟨rfl, hw9⟩
   obtain rfl := hw9.symm
   refine ⟨_, rfl, ?_⟩
   refine hK.out _ _ (hHeld) (fun hHeld2 => ?_)
   clear hK K
   simp only [fGa, fGs, fGz, Act.put, fSa, fSz, fSs]
   refine wpAnyH_take (i := 13) (v := .bool true) rfl (by kernel_rfl) (by kernel_rfl) (by kernel_rfl) (fun _ _ _ h => h) (Or.inl ⟨by rfl, fun w hSw => by obtain ⟨hS1, hS2⟩ := hSw; go_simp⟩) (by assumption) ?_
   simp only [fGa, fGs, fGz, Act.put, fSa, fSz, fSs]
   refine wpAnyH_take (i := 14) (v := .bool true) rfl (by kernel_rfl) (by kernel_rfl) (by kernel_rfl) (fun _ _ _ h => h) (Or.inl ⟨by rfl, fun w hSw => by obtain ⟨hS1, hS2⟩ := hSw; go_simp⟩) (by assumption) ?_
   simp only [fGa, fGs, fGz, Act.put, fSa, fSz, fSs]
   refine wpAnyH_done (by kernel_rfl) ?_ _
   clear hHeld hHeld2
   go_wp2
   go_ret2
   exact ⟨rfl, HB4.out⟩
end Go.Proofs.YtlofoklfggmbiaaDoor

namespace Go.Proofs.YtlofoklfggmbiaaDoor
open Go.RowKit Go.Maps

def zRef : List Value := refV (List.replicate 32 0) 0 0
theorem shasum_enter (v : Value) (W : World) : (callFunc 27 #[v]).run Tryd.prog W = .ok (.enter 27 #[v]) W := by kernel_rfl
theorem clone_enter (v : Value) (W : World) : (callFunc 58 #[v]).run Tryd.prog W = .ok (.enter 58 #[v]) W := by kernel_rfl
theorem shaOf_len (xs : List Int) : (shaOf xs).length = 32 := keyB_len _ _
section
variable {ops : Array Oper} {o : Oper} {a : Act} {w : World} {K : Act → World → Prop} {Q : Exit → Act → World → Prop} {E : Prop}
theorem allocRef_run (W : World) : (Instr.alloc 34 true (.tuple #[])).run Tryd.prog W = .ok (.pointer (some ⟨W.heap.size, 0, none⟩)) (W.alloc (.cells zRef.toArray 34)) := by kernel_rfl
theorem step_allocRef (hgd : o.guard = none) (ho : o.op = .alloc 34) (hk : K (a.put o.dst (.pointer (some ⟨w.heap.size, 0, none⟩))) (w.alloc (.cells zRef.toArray 34))) : if Region.wanted o (yielded ops a.tmps) = true then Oper.wp Tryd.prog o a w K Q else E := by
 rw [if_pos (by simp [Region.wanted, hgd])]
 unfold Oper.wp execOp
 simp only [ho, Sem.run_bind, allocRef_run w, Result.andThen_ok, Sem.run_pure]
 exact hk
theorem step_boxW (hgd : o.guard = none) (x : Operand) (ho : o.op = .box 81 x) {v r : Value} {w' : World} (hx : a.eval x = v) (hrun : (Instr.box 81 v).run Tryd.prog w = .ok r w') (hk : K (a.put o.dst r) w') : if Region.wanted o (yielded ops a.tmps) = true then Oper.wp Tryd.prog o a w K Q else E := by
 rw [if_pos (by simp [Region.wanted, hgd])]
 unfold Oper.wp execOp
 simp only [ho, hx, Sem.run_bind, hrun, Result.andThen_ok, Sem.run_pure]
 exact hk
theorem yields_build3 {S : World → Prop} (hw : Region.wanted o (yielded ops a.tmps) = true) (t : TypeId) (x y z : Operand) (ho : o.op = .build t #[(0, x), (1, y), (2, z)]) {vx vy vz v : Value} (hx : a.eval x = vx) (hy : a.eval y = vy) (hz : a.eval z = vz) (hrun : ∀ W, (Instr.build t #[(0, vx), (1, vy), (2, vz)]).run Tryd.prog W = .ok v W) : YieldsIf Tryd.prog ops S o v a :=
 .inl ⟨hw, fun w _ => by
  unfold execOp
  simp only [ho, List.map_toArray, List.map_cons, List.map_nil, hx, hy, hz, Sem.run_bind, hrun w, Result.andThen_ok, Sem.run_pure]⟩
theorem yields_build2 {S : World → Prop} (hw : Region.wanted o (yielded ops a.tmps) = true) (t : TypeId) (x y : Operand) (ho : o.op = .build t #[(0, x), (1, y)]) {vx vy v : Value} (hx : a.eval x = vx) (hy : a.eval y = vy) (hrun : ∀ W, (Instr.build t #[(0, vx), (1, vy)]).run Tryd.prog W = .ok v W) : YieldsIf Tryd.prog ops S o v a :=
 .inl ⟨hw, fun w _ => by
  unfold execOp
  simp only [ho, List.map_toArray, List.map_cons, List.map_nil, hx, hy, Sem.run_bind, hrun w, Result.andThen_ok, Sem.run_pure]⟩
end
theorem own8_mono {w : World} {B B' : Nat} {v : Value} {xs : List Int} (h : Own8 w B v xs) (hB : B' ≤ B) : Own8 w B' v xs := ⟨⟨h.1.1, h.1.2.imp_right (fun ⟨g, cap, cur, a, b, c⟩ => ⟨g, cap, cur, a, Nat.le_trans hB b, c⟩)⟩, h.2⟩
theorem cloneB_any {w : World} {a : Option Addr} {n c : Nat} {xs : List Int} (h : IsB w (.slice a n c) xs) (hl : xs.length ≤ 140737488350000) :
 Calls Tryd.prog 58 #[.slice a n c] w fun e w' => ∃ ra rn rc, e = .returned (.slice ra rn rc) ∧ Own8 w' w.heap.size (.slice ra rn rc) xs ∧ Below w.heap.size w w' := by
 cases a with
 | some ad =>
   refine (cloneB_calls h hl).mono ?_
   rintro e w' ⟨v, rfl, ho, hb⟩
   obtain ⟨ra, rn, rc, rfl⟩ := ho.shape
   exact ⟨ra, rn, rc, rfl, ho, hb⟩
 | none =>
   have hn := h.lenEq
   obtain ⟨_, a', c', hv, hle, _, hz, hc⟩ := h
   injection hv with e1 e2 e3
   have hx : xs = [] := by
    by_cases hp : 0 < xs.length
    · obtain ⟨b2, off2, ha, _⟩ := hc hp
      rw [← e1] at ha
      cases ha
    · exact List.eq_nil_of_length_eq_zero (by omega)
   subst hx
   have hn0 : n = 0 := hn
   have hc0 : c = 0 := by rw [e3]; exact hz e1.symm
   subst hn0 hc0
   refine cloneB_nil.mono ?_
   rintro e w' ⟨rfl, rfl⟩
   exact ⟨none, 0, 0, rfl, Own8.nil _ _, Below.refl _ _⟩
set_option maxRecDepth 100000 in
set_option maxHeartbeats 4000000 in
theorem newWriter_good {w : World} {p gl gm B g gw fr to_ n c k : Nat} {V : Nat → Value} {D : AD} {a : Option Addr} {ws : List Nat} (hD : Dk w p gl gm V D) (hS : Sp w B g gw fr to_ ws) (hT : Tz w) (hn : n ≤ 1048576) (hk : secN (n : Int) = (k : Int)) (hf : k ≤ freeN ws)
 (hgood : ((allF fr 0 ws).take k).getD 0 0 ≠ 0 ∧ ((allF fr 0 ws).take k).getD (k - 1) 0 < D.la.length) {bs : List Int} (hb : IsB w (.slice a n c) bs) (hbk : ∀ W, Up (fun x => x = gw) w W → IsB W (.slice a n c) bs ∧ TabK W ∧ TabS W) (hgw : gw < w.heap.size) :
 Calls Tryd.prog 30 #[.pointer (some ⟨p, 0, none⟩), .pointer (some ⟨g, 0, none⟩), .slice a n c] w fun e w' => ∃ pw gn cn rv, e = .returned (.tuple #[.pointer (some ⟨pw, 0, none⟩), .int .i64 0]) ∧ Arr w' pw 81 (writerV p (shaOf bs) ((((allF fr 0 ws).take k).getD 0 0 : Nat) : Int) (n : Int) (.slice (some ⟨gn, 0, none⟩) k cn) 0 rv) ∧ Row w' w.heap.size 3 (.slice (some ⟨gn, 0, none⟩) k cn) (iV ((allF fr 0 ws).take k)) ∧ Own8 w' w.heap.size rv bs ∧ Sp w' B g gw fr to_ (claimAll fr to_ ws ((allF fr 0 ws).take k)) ∧ w.heap.size ≤ pw ∧ Up (fun b => b = gw) w w' := by
 have hk1 : 1 ≤ k := by obtain ⟨k', h1, h2, _⟩ := secN_nat hn; omega
 have hk9 : k ≤ 2185 := by obtain ⟨k', h1, _, h3⟩ := secN_nat hn; omega
 have HC := hide (spCopy_calls hS)
 have HSN := hide (fun W => chSectors_calls (n : Int) W)
 rw [hk] at HSN
 have HTA : Hid (∀ W g2 gw2, Below w.heap.size w W → Sp W w.heap.size g2 gw2 fr to_ ws → Calls Tryd.prog 64 #[.pointer (some ⟨g2, 0, none⟩), .int .i64 (k : Int)] W fun e w' => ∃ gn cn, e = .returned (.tuple #[.slice (some ⟨gn, 0, none⟩) k cn, .bool true]) ∧ (∀ j, j < k → w'.cell? ⟨gn, j, none⟩ = some (.int .i64 ((((allF fr 0 ws).take k).getD j 0 : Nat) : Int))) ∧ Row w' w.heap.size 3 (.slice (some ⟨gn, 0, none⟩) k cn) (iV ((allF fr 0 ws).take k)) ∧ Below w.heap.size w w') := hide (fun W g2 gw2 hW h => by
  have hl : ((allF fr 0 ws).take k).length = k := by rw [List.length_take, freeN_allF]; omega
  refine (takeAll_calls h (hT.below hW) k hf).mono ?_
  rintro e w' ⟨v, rfl, hr, _, hg⟩
  have hil : (iV ((allF fr 0 ws).take k)).length = k := by unfold iV; rw [List.length_map, hl]
  obtain ⟨gn, cn, rfl, _⟩ := hr.head (by omega)
  rw [hil] at hr ⊢
  refine ⟨gn, cn, rfl, fun j hj => ?_, hr.mono hW.size, hW.trans ((Below.refl _ _).grown hg hW.size (fun b hb => ?_))⟩
  · rw [hr.cellAt (by rw [hil]; exact hj)]
    exact iV_at (by rw [hl]; exact hj)
  · injection hb with hb
    subst hb
    obtain ⟨c0, _, h2⟩ := h.blk
    exact (h2.lt gw2 rfl).1)
 have HDS : Hid (∀ W, Below w.heap.size w W → Calls Tryd.prog 54 #[.pointer (some ⟨p, 0, none⟩)] W fun e w' => e = .returned (.int .i64 (D.la.length : Int)) ∧ w' = W) := hide (fun W hW => sectors_calls (hD.below hW).cells.1)
 have hnI : ¬ (1048576 : Int) < (n : Int) := by omega
 obtain ⟨x0, hx0⟩ : ∃ x0, x0 = ((allF fr 0 ws).take k).getD 0 0 := ⟨_, rfl⟩
 obtain ⟨k1, hk1e⟩ : ∃ k1, k1 = k - 1 := ⟨_, rfl⟩
 obtain ⟨xl, hxl⟩ : ∃ xl, xl = ((allF fr 0 ws).take k).getD k1 0 := ⟨_, rfl⟩
 have HGOOD := hide hgood
 rw [← hk1e, ← hx0, ← hxl] at HGOOD
 rw [← hx0]
 have HT2 : Hid (∀ W, Below w.heap.size w W → Calls Tryd.prog 64 #[.pointer (some ⟨g, 0, none⟩), .int .i64 (k : Int)] W fun e w' => ∃ v, e = .returned (.tuple #[v, .bool true]) ∧ Sp w' B g gw fr to_ (claimAll fr to_ ws ((allF fr 0 ws).take k)) ∧ W.grownBy w' (some gw)) := hide (fun W hW => (takeAll_calls (hS.below hW) (hT.below hW) k hf).mono (fun e w' ⟨v, h1, _, h3, h4⟩ => ⟨v, h1, h3, h4⟩))
 have hwk : IntKind.i64.wrap ((k : Int) - 1) = (k1 : Int) := by rw [show (k : Int) - 1 = (k1 : Int) by omega]; exact IntWalk.i64_in _ (by omega)
 have hk1k : (k1 : Int) < (k : Int) := by omega
 have hk0k : (0 : Int) < (k : Int) := by omega
 have hkz : ¬ k = 0 := by omega
 have hk1N : k1 < k := by omega
 have HX0 := hide hx0
 have HXL := hide hxl
 generalize hsd : D.la.length = sd at HGOOD HDS
 have HBK := hide hbk
 have hbsn : bs.length = n := hb.lenEq.symm
 clear hgood hx0 hxl hk1e hsd hD hS hT hf hk hb hbk
 go_enter Tryd.func30, Tryd.ntmps30
 go_wp2_with fail
 refine (unhide HC).mono ?_
 rintro e w1 ⟨g2, gw2, rfl, hS2, _, hb1⟩
 have HT := hide (unhide HTA w1 g2 gw2 hb1 hS2)
 clear HC HTA hS2 hb1
 go_wp2_with fail
 refine (unhide HSN _).mono ?_
 rintro e w2 ⟨rfl, hw2⟩
 obtain rfl := hw2.symm
 clear HSN
 go_wp2_with fail
 refine (unhide HT).mono ?_
 rintro e w4 ⟨gn, cn, rfl, hcell, hrow4, hb4⟩
 have hc0 : w4.cell? ⟨gn, 0, none⟩ = some (.int .i64 (x0 : Int)) := by rw [HX0.out]; exact hcell 0 (by omega)
 have hcl : w4.cell? ⟨gn, k1, none⟩ = some (.int .i64 (xl : Int)) := by rw [HXL.out]; exact hcell k1 hk1N
 have HSS : Hid (∀ W, Below w4.heap.size w4 W → (fun W => W.cell? ⟨gn, 0, none⟩ = some (.int .i64 (x0 : Int)) ∧ W.cell? ⟨gn, k1, none⟩ = some (.int .i64 (xl : Int))) W) := hide (fun W hW => ⟨bkeptC hW hc0, bkeptC hW hcl⟩)
 have HDT : Hid (∀ W, Below w4.heap.size w4 W → Calls Tryd.prog 54 #[.pointer (some ⟨p, 0, none⟩)] W fun e w' => e = .returned (.int .i64 (sd : Int)) ∧ w' = W) := hide (fun W hW => unhide HDS W (hb4.trans (hW.mono hb4.size)))
 have HB4 : Hid (Below w.heap.size w w4.drew) := hide hb4.drew
 have hc0x := hc0
 clear HT hcell hb4 hc0 hcl HDS
 have hz1 : ((x0 : Int) == 0) = false := by simp; have := HGOOD.out.1; omega
 have hge : ¬ (sd : Int) ≤ (xl : Int) := by have := HGOOD.out.2; omega
 have hge2 : (xl : Int) < (sd : Int) := by have := HGOOD.out.2; omega
 have hge3 : xl < sd := HGOOD.out.2
 have HROW4 := hide hrow4
 have HC0 := hide hc0x
 clear hrow4 hc0x
 go_wp2_with fail
 refine wp_region_held_drew (S := fun W => W.cell? ⟨gn, 0, none⟩ = some (.int .i64 (x0 : Int)) ∧ W.cell? ⟨gn, k1, none⟩ = some (.int .i64 (xl : Int))) (by kernel_rfl) (unhide HSS _ (Below.refl _ _).drew) (fun hHeld => ?_)
 refine wpAnyH_take (i := 0) (v := .slice (some ⟨gn, 0, none⟩) k cn) rfl (by kernel_rfl) (by kernel_rfl) (by kernel_rfl) (fun _ _ _ h => h) (Or.inl ⟨by rfl, fun w hSw => by obtain ⟨hS1, hS2⟩ := hSw; go_simp⟩) (by assumption) ?_
 simp only [fGa, fGz, Act.put, fSa, fSz, fSs]
 refine wpAnyH_take (i := 1) (v := .pointer (some ⟨gn, 0, none⟩)) rfl (by kernel_rfl) (by kernel_rfl) (by kernel_rfl) (fun _ _ _ h => h) (Or.inl ⟨by rfl, fun w hSw => by obtain ⟨hS1, hS2⟩ := hSw; go_simp⟩) (by assumption) ?_
 simp only [fGa, fGs, fGz, Act.put, fSa, fSz, fSs]
 refine wpAnyH_take (i := 2) (v := .int .i64 (x0 : Int)) rfl (by kernel_rfl) (by kernel_rfl) (by kernel_rfl) (fun _ _ _ h => h) (Or.inl ⟨by rfl, fun w hSw => by obtain ⟨hS1, hS2⟩ := hSw; go_simp⟩) (by assumption) ?_
 simp only [fGa, fGs, fGz, Act.put, fSa, fSz, fSs]
 refine wpAnyH_take (i := 3) (v := .bool false) rfl (by kernel_rfl) (by kernel_rfl) (by kernel_rfl) (fun _ _ _ h => h) (Or.inl ⟨by rfl, fun w hSw => by obtain ⟨hS1, hS2⟩ := hSw; go_simp⟩) (by assumption) ?_
 simp only [fGa, fGs, fGz, Act.put, fSa, fSz, fSs]
 refine wpAnyH_take (i := 4) (v := .bool false) rfl (by kernel_rfl) (by kernel_rfl) (by kernel_rfl) (fun _ _ _ h => h) (Or.inl ⟨by rfl, fun w hSw => by obtain ⟨hS1, hS2⟩ := hSw; go_simp⟩) (by assumption) ?_
 simp only [fGa, fGs, fGz, Act.put, fSa, fSz, fSs]
 refine wpAnyH_take (i := 5) (v := .slice (some ⟨gn, 0, none⟩) k cn) rfl (by kernel_rfl) (by kernel_rfl) (by kernel_rfl) (fun _ _ _ h => h) (Or.inl ⟨by rfl, fun w hSw => by obtain ⟨hS1, hS2⟩ := hSw; go_simp⟩) (by assumption) ?_
 simp only [fGa, fGs, fGz, Act.put, fSa, fSz, fSs]
 refine wpAnyH_take (i := 6) (v := .slice (some ⟨gn, 0, none⟩) k cn) rfl (by kernel_rfl) (by kernel_rfl) (by kernel_rfl) (fun _ _ _ h => h) (Or.inl ⟨by rfl, fun w hSw => by obtain ⟨hS1, hS2⟩ := hSw; go_simp⟩) (by assumption) ?_
 simp only [fGa, fGs, fGz, Act.put, fSa, fSz, fSs]
 refine wpAnyH_take (i := 7) (v := .int .i64 (k : Int)) rfl (by kernel_rfl) (by kernel_rfl) (by kernel_rfl) (fun _ _ _ h => h) (Or.inl ⟨by rfl, fun w hSw => by obtain ⟨hS1, hS2⟩ := hSw; go_simp⟩) (by assumption) ?_
 simp only [fGa, fGs, fGz, Act.put, fSa, fSz, fSs]
 refine wpAnyH_take (i := 8) (v := .int .i64 (k1 : Int)) rfl (by kernel_rfl) (by kernel_rfl) (by kernel_rfl) (fun _ _ _ h => h) (Or.inl ⟨by rfl, fun w hSw => by obtain ⟨hS1, hS2⟩ := hSw; go_simp⟩) (by assumption) ?_
 simp only [fGa, fGs, fGz, Act.put, fSa, fSz, fSs]
 refine wpAnyH_take (i := 9) (v := .pointer (some ⟨gn, k1, none⟩)) rfl (by kernel_rfl) (by kernel_rfl) (by kernel_rfl) (fun _ _ _ h => h) (Or.inl ⟨by rfl, fun w hSw => by obtain ⟨hS1, hS2⟩ := hSw; go_simp⟩) (by assumption) ?_
 simp only [fGa, fGs, fGz, Act.put, fSa, fSz, fSs]
 refine wpAnyH_take (i := 10) (v := .int .i64 (xl : Int)) rfl (by kernel_rfl) (by kernel_rfl) (by kernel_rfl) (fun _ _ _ h => h) (Or.inl ⟨by rfl, fun w hSw => by obtain ⟨hS1, hS2⟩ := hSw; go_simp⟩) (by assumption) ?_
 simp only [fGa, fGs, fGz, Act.put, fSa, fSz, fSs]
 refine wpAnyH_take (i := 11) (v := .pointer (some ⟨p, 0, none⟩)) rfl (by kernel_rfl) (by kernel_rfl) (by kernel_rfl) (fun _ _ _ h => h) (Or.inl ⟨by rfl, fun w hSw => by obtain ⟨hS1, hS2⟩ := hSw; go_simp⟩) (by assumption) ?_
 simp only [fGa, fGs, fGz, Act.put, fSa, fSz, fSs]
 refine wpAnyH_ready (rs := [12]) (by kernel_rfl) (by simp) (AllReadyH.cons rfl (fun K hK => ?_) AllReadyH.nil)
 refine step_call1GC (by rfl) 54 dsec_enter (.tmp 42) _ rfl rfl (unhide HDT _ (Below.refl _ _).drew) ?_
 rintro e w9 ⟨rfl, hw9⟩
 obtain rfl := hw9.symm
 refine ⟨_, rfl, ?_⟩
 refine hK.out _ _ (hHeld) (fun hHeld2 => ?_)
 clear hK K
 simp only [fGa, fGs, fGz, Act.put, fSa, fSz, fSs]
 refine wpAnyH_take (i := 13) (v := .bool false) rfl (by kernel_rfl) (by kernel_rfl) (by kernel_rfl) (fun _ _ _ h => h) (Or.inl ⟨by rfl, fun w hSw => by obtain ⟨hS1, hS2⟩ := hSw; go_simp⟩) (by assumption) ?_
 simp only [fGa, fGs, fGz, Act.put, fSa, fSz, fSs]
 refine wpAnyH_take (i := 14) (v := .bool false) rfl (by kernel_rfl) (by kernel_rfl) (by kernel_rfl) (fun _ _ _ h => h) (Or.inl ⟨by rfl, fun w hSw => by obtain ⟨hS1, hS2⟩ := hSw; go_simp⟩) (by assumption) ?_
 simp only [fGa, fGs, fGz, Act.put, fSa, fSz, fSs]
 refine wpAnyH_done (by kernel_rfl) ?_ _
 clear hHeld hHeld2
 have HTT := hide (unhide HT2 _ HB4.out)
 go_wp2_with fail
 refine (unhide HTT).mono ?_
 rintro e w6 ⟨v6, rfl, hS6, hg6⟩
 have hup6 : Up (fun x => x = gw) w w6 := (Up.of_below HB4.out).trans (Up.of_grown (F := fun x => x = gw) hg6 (fun b hb => (Option.some.inj hb).symm)) (fun x hx => Or.inl hx)
 have hgn : gn ≠ gw := by
  have := (HROW4.out.lt gn rfl).1
  omega
 have hc06 : w6.cell? ⟨gn, 0, none⟩ = some (.int .i64 (x0 : Int)) := hg6.cell HC0.out (fun e => hgn (Option.some.inj e))
 have hr5 : Row w4.drew w.heap.size 3 (.slice (some ⟨gn, 0, none⟩) k cn) (iV ((allF fr 0 ws).take k)) := owns_below HROW4.out (Below.refl _ _).drew
 have HROW6 : Hid (Row w6 w.heap.size 3 (.slice (some ⟨gn, 0, none⟩) k cn) (iV ((allF fr 0 ws).take k))) := hide (hr5.kept hg6 (Or.inr (fun e => hgn (Option.some.inj e))))
 have HSP6 := hide hS6
 have HUP : Hid (∀ W, Below w6.heap.size w6 W → Up (fun x => x = gw) w W) := hide (fun W hW => hup6.then_below hW)
 have HIB : Hid (∀ W, Below w6.heap.size w6 W → IsB W (.slice a n c) bs) := hide (fun W hW => (unhide HBK W (hup6.then_below hW)).1)
 have HTK : Hid (∀ W, Below w6.heap.size w6 W → TabK W ∧ TabS W) := hide (fun W hW => (unhide HBK W (hup6.then_below hW)).2)
 have HS11 : Hid (∀ W, Below w6.heap.size w6 W → W.cell? ⟨gn, 0, none⟩ = some (.int .i64 (x0 : Int))) := hide (fun W hW => bkeptC hW hc06)
 have hsh := shaOf_len bs
 have hlen : ([bs] : List (List Int)).flatten.length ≤ 140737488350000 := by simp; omega
 have hkey : keyV ([bs] : List (List Int)).flatten = .agg ((shaOf bs).map (Value.int .u8)).toArray := by simp [keyV]
 have hiR : (Tryd.prog.info? 34).map (·.size) = some (refV (shaOf bs) (x0 : Int) (n : Int)).length := by rw [refV_len hsh]; kernel_rfl
 have hzl : zRef.length = (refV (shaOf bs) (x0 : Int) (n : Int)).length := by rw [refV_len hsh]; rfl
 have h1R : ∀ u ∈ refV (shaOf bs) (x0 : Int) (n : Int), u.oneCell' = true := fun u hu => by
  unfold refV at hu
  rcases List.mem_append.1 hu with hu | hu
  · obtain ⟨y, _, rfl⟩ := List.mem_map.1 hu; rfl
  · simp only [List.mem_cons, List.not_mem_nil, or_false] at hu
    rcases hu with rfl | rfl <;> rfl
 clear hS6 hg6 hc06 hr5 HTT HT2 HBK HC0 HROW4 HSS HDT
 go_wp2_with fail
 refine wp_region_held_drew (S := fun W => W.cell? ⟨gn, 0, none⟩ = some (.int .i64 (x0 : Int))) (by kernel_rfl) (unhide HS11 _ (Below.refl _ _).drew) (fun hHeld => ?_)
 refine wpAnyH_take (i := 0) (v := .slice a n c) rfl (by kernel_rfl) (by kernel_rfl) (by kernel_rfl) (fun _ _ _ h => h) (Or.inl ⟨by rfl, fun w hSw => by go_simp⟩) (by assumption) ?_
 simp only [fGa, fGz, Act.put, fSa, fSz, fSs]
 refine wpAnyH_take (i := 3) (v := .slice (some ⟨gn, 0, none⟩) k cn) rfl (by kernel_rfl) (by kernel_rfl) (by kernel_rfl) (fun _ _ _ h => h) (Or.inl ⟨by rfl, fun w hSw => by go_simp⟩) (by assumption) ?_
 simp only [fGa, fGs, fGz, Act.put, fSa, fSz, fSs]
 refine wpAnyH_take (i := 4) (v := .pointer (some ⟨gn, 0, none⟩)) rfl (by kernel_rfl) (by kernel_rfl) (by kernel_rfl) (fun _ _ _ h => h) (Or.inl ⟨by rfl, fun w hSw => by go_simp⟩) (by assumption) ?_
 simp only [fGa, fGs, fGz, Act.put, fSa, fSz, fSs]
 refine wpAnyH_take (i := 5) (v := .int .i64 (x0 : Int)) rfl (by kernel_rfl) (by kernel_rfl) (by kernel_rfl) (fun _ _ _ h => h) (Or.inl ⟨by rfl, fun w hSw => by go_simp⟩) (by assumption) ?_
 simp only [fGa, fGs, fGz, Act.put, fSa, fSz, fSs]
 refine wpAnyH_take (i := 6) (v := .slice a n c) rfl (by kernel_rfl) (by kernel_rfl) (by kernel_rfl) (fun _ _ _ h => h) (Or.inl ⟨by rfl, fun w hSw => by go_simp⟩) (by assumption) ?_
 simp only [fGa, fGs, fGz, Act.put, fSa, fSz, fSs]
 refine wpAnyH_take (i := 7) (v := .int .i64 (n : Int)) rfl (by kernel_rfl) (by kernel_rfl) (by kernel_rfl) (fun _ _ _ h => h) (Or.inl ⟨by rfl, fun w hSw => by go_simp⟩) (by assumption) ?_
 simp only [fGa, fGs, fGz, Act.put, fSa, fSz, fSs]
 refine wpAnyH_ready (rs := [1, 9]) (by kernel_rfl) (by simp) (AllReadyH.cons rfl (fun K hK => ?_) (AllReadyH.cons rfl (fun K hK => ?_) AllReadyH.nil))
 · refine step_buildSlC (by rfl) (.tmp 50) rfl rfl ?_
   have hL := isBB_one (unhide HIB _ (Below.refl w6.heap.size w6).drew)
   have hbL : Below w6.heap.size w6 (w6.drew.alloc (.cells #[.slice a n c] 26)) := Below.trans (Below.refl w6.heap.size w6).drew ((Below.refl _ _).alloc (Nat.le_refl _) _ |>.mono (Below.refl w6.heap.size w6).drew.size)
   refine hK.out _ _ (unhide HS11 _ hbL) (fun hH1 => ?_)
   clear hK K
   simp only [fGa, fGs, fGz, Act.put, fSa, fSz, fSs]
   refine wpAnyH_ready (rs := [2, 9]) (by kernel_rfl) (by simp) (AllReadyH.cons rfl (fun K hK => ?_) (AllReadyH.cons rfl (fun K hK => ?_) AllReadyH.nil))
   · have HSUM := hide (sums_calls hL hlen (unhide HTK _ hbL).1 (unhide HTK _ hbL).2)
     rw [hkey] at HSUM
     refine step_call1C (by rfl) 27 shasum_enter (.tmp 51) _ rfl rfl (unhide HSUM) ?_
     rintro e wc ⟨rfl, hbc⟩
     have hbC := Below.trans hbL (hbc.mono hbL.size)
     refine ⟨_, rfl, ?_⟩
     refine hK.out _ _ (unhide HS11 _ hbC) (fun hH2 => ?_)
     clear hK K
     simp only [fGa, fGs, fGz, Act.put, fSa, fSz, fSs]
     refine wpAnyH_take (i := 8) (v := .agg (refV (shaOf bs) (x0 : Int) (n : Int)).toArray) rfl (by kernel_rfl) (by kernel_rfl) (by kernel_rfl) (fun _ _ _ h => h) (yields_build3 (by rfl) 34 (.tmp 52) (.tmp 55) (.tmp 57) rfl rfl rfl rfl (fun W => buildRef_run hsh (x0 : Int) (n : Int) W)) (by assumption) ?_
     simp only [fGa, fGs, fGz, Act.put, fSa, fSz, fSs]
     refine wpAnyH_ready (rs := [9]) (by kernel_rfl) (by simp) (AllReadyH.cons rfl (fun K hK => ?_) AllReadyH.nil)
     refine step_allocRef (by rfl) rfl ?_
     have hZ := Arr.new wc zRef 34
     have hbZ : Below w6.heap.size w6 (wc.alloc (.cells zRef.toArray 34)) := Below.trans hbC ((Below.refl _ _).alloc (Nat.le_refl _) _ |>.mono hbC.size)
     refine hK.out _ _ (unhide HS11 _ hbZ) (fun hH3 => ?_)
     clear hK K
     simp only [fGa, fGs, fGz, Act.put, fSa, fSz, fSs]
     have hgR : w6.heap.size ≤ wc.heap.size := hbC.size
     refine wpAnyH_ready (rs := [10]) (by kernel_rfl) (by simp) (AllReadyH.cons rfl (fun K hK => ?_) AllReadyH.nil)
     refine step_storeArr (by rfl) (.tmp 10) (.tmp 58) 34 rfl rfl rfl hZ hiR hzl h1R ?_
     intro we hAe hWe
     have hbE : Below w6.heap.size w6 we := hWe.below _ _ hbZ hgR
     refine hK.out _ _ (unhide HS11 _ hbE) (fun hH4 => ?_)
     clear hK K
     simp only [fGa, fGs, fGz, Act.put]
     refine wpAnyH_done (by kernel_rfl) ?_ _
     obtain ⟨gR, hgRe⟩ : ∃ gR, gR = wc.heap.size := ⟨_, rfl⟩
     rw [← hgRe] at hAe ⊢
     have HS12 : Hid (∀ W, Below we.heap.size we W → (fun W => W.rangeAt gR 0 (refV (shaOf bs) (x0 : Int) (n : Int))) W) := hide (fun W hW => arr_range (ds := []) (by rw [List.append_nil]; exact hAe.below hW))
     have HCL : Hid (∀ W, Below we.heap.size we W → Calls Tryd.prog 58 #[.slice a n c] W fun e w' => ∃ ra rn rc, e = .returned (.slice ra rn rc) ∧ Own8 w' W.heap.size (.slice ra rn rc) bs ∧ Below we.heap.size we w') := hide (fun W hW => (cloneB_any (unhide HIB W (hbE.trans (hW.mono hbE.size))) (by omega)).mono (fun e w' ⟨ra, rn, rc, h1, h2, h3⟩ => ⟨ra, rn, rc, h1, h2, hW.trans (h3.mono hW.size)⟩))
     have HGR := hide hgRe
     have HE := hide hbE
     clear hgRe hAe hbE hH4 hH3 hH2 hH1 hHeld hWe
     go_wp2_with fail
     refine wp_region_held_drew (S := fun W => W.rangeAt gR 0 (refV (shaOf bs) (x0 : Int) (n : Int))) (by kernel_rfl) (unhide HS12 _ (Below.refl _ _).drew) (fun hHeld => ?_)
     refine wpAnyH_take (i := 0) (v := .pointer (some ⟨p, 0, none⟩)) rfl (by kernel_rfl) (by kernel_rfl) (by kernel_rfl) (fun _ _ _ h => h) (Or.inl ⟨by rfl, fun w hSw => by go_simp⟩) (by assumption) ?_
     simp only [fGa, fGz, Act.put, fSa, fSz, fSs]
     refine wpAnyH_take (i := 1) (v := .agg (refV (shaOf bs) (x0 : Int) (n : Int)).toArray) rfl (by kernel_rfl) (by kernel_rfl) (by kernel_rfl) (fun _ _ _ h => h) (yieldsIf_load_mid (by rfl) _ _ rfl _ _ rfl _ _ (fun w hSw => hSw) Tryd.underlying34 rfl hiR) (by assumption) ?_
     simp only [fGa, fGs, fGz, Act.put, fSa, fSz, fSs]
     refine wpAnyH_take (i := 2) (v := .slice (some ⟨gn, 0, none⟩) k cn) rfl (by kernel_rfl) (by kernel_rfl) (by kernel_rfl) (fun _ _ _ h => h) (Or.inl ⟨by rfl, fun w hSw => by go_simp⟩) (by assumption) ?_
     simp only [fGa, fGs, fGz, Act.put, fSa, fSz, fSs]
     refine wpAnyH_take (i := 3) (v := .agg (standV p (shaOf bs) (x0 : Int) (n : Int) (.slice (some ⟨gn, 0, none⟩) k cn) 0).toArray) rfl (by kernel_rfl) (by kernel_rfl) (by kernel_rfl) (fun _ _ _ h => h) (yields_build3 (by rfl) 66 (.tmp 59) (.tmp 60) (.tmp 61) rfl rfl rfl rfl (fun W => buildStand_run hsh p (x0 : Int) (n : Int) _ k cn W)) (by assumption) ?_
     simp only [fGa, fGs, fGz, Act.put, fSa, fSz, fSs]
     refine wpAnyH_take (i := 4) (v := .slice a n c) rfl (by kernel_rfl) (by kernel_rfl) (by kernel_rfl) (fun _ _ _ h => h) (Or.inl ⟨by rfl, fun w hSw => by go_simp⟩) (by assumption) ?_
     simp only [fGa, fGs, fGz, Act.put, fSa, fSz, fSs]
     refine wpAnyH_ready (rs := [5]) (by kernel_rfl) (by simp) (AllReadyH.cons rfl (fun K hK => ?_) AllReadyH.nil)
     refine step_call1C (by rfl) 58 clone_enter (.tmp 63) _ rfl rfl (unhide HCL _ (Below.refl _ _).drew) ?_
     rintro e wf ⟨ra, rn, rc, rfl, hrv, hbf⟩
     refine ⟨_, rfl, ?_⟩
     refine hK.out _ _ (unhide HS12 _ hbf) (fun hJ2 => ?_)
     clear hK K
     simp only [fGa, fGs, fGz, Act.put, fSa, fSz, fSs]
     refine wpAnyH_take (i := 6) (v := .agg (writerV p (shaOf bs) (x0 : Int) (n : Int) (.slice (some ⟨gn, 0, none⟩) k cn) 0 (.slice ra rn rc)).toArray) rfl (by kernel_rfl) (by kernel_rfl) (by kernel_rfl) (fun _ _ _ h => h) (yields_build2 (by rfl) 81 (.tmp 62) (.tmp 64) rfl rfl rfl (fun W => buildWriter_run hsh p (x0 : Int) (n : Int) _ ra k cn rn rc W)) (by assumption) ?_
     simp only [fGa, fGs, fGz, Act.put, fSa, fSz, fSs]
     refine wpAnyH_ready (rs := [7]) (by kernel_rfl) (by simp) (AllReadyH.cons rfl (fun K hK => ?_) AllReadyH.nil)
     refine step_boxW (by rfl) (.tmp 65) rfl rfl (boxWriter_run hsh p (x0 : Int) (n : Int) _ ra k cn rn rc _) ?_
     have hbG : Below we.heap.size we (wf.alloc (.cells (writerV p (shaOf bs) (x0 : Int) (n : Int) (.slice (some ⟨gn, 0, none⟩) k cn) 0 (.slice ra rn rc)).toArray 81)) := hbf.trans ((Below.refl _ _).alloc (Nat.le_refl _) _ |>.mono hbf.size)
     refine hK.out _ _ (unhide HS12 _ hbG) (fun hJ3 => ?_)
     clear hK K
     simp only [fGa, fGs, fGz, Act.put, fSa, fSz, fSs]
     refine wpAnyH_take (i := 8) (v := .pointer (some ⟨wf.heap.size, 0, none⟩)) rfl (by kernel_rfl) (by kernel_rfl) (by kernel_rfl) (fun _ _ _ h => h) (Or.inl ⟨by rfl, fun w hSw => by go_simp⟩) (by assumption) ?_
     simp only [fGa, fGs, fGz, Act.put, fSa, fSz, fSs]
     refine wpAnyH_take (i := 9) (v := .int .i64 0) rfl (by kernel_rfl) (by kernel_rfl) (by kernel_rfl) (fun _ _ _ h => h) (Or.inl ⟨by rfl, fun w hSw => by go_simp⟩) (by assumption) ?_
     simp only [fGa, fGs, fGz, Act.put, fSa, fSz, fSs]
     refine wpAnyH_done (by kernel_rfl) ?_ _
     have hbH : Below w6.heap.size w6 (wf.alloc (.cells (writerV p (shaOf bs) (x0 : Int) (n : Int) (.slice (some ⟨gn, 0, none⟩) k cn) 0 (.slice ra rn rc)).toArray 81)) := HE.out.trans (hbG.mono HE.out.size)
     have hbF : Below w6.heap.size w6 wf := HE.out.trans (hbf.mono HE.out.size)
     have hsz : w.heap.size ≤ wf.heap.size := (unhide HUP _ hbF).size
     have hszd : w.heap.size ≤ we.drew.heap.size := (unhide HUP _ HE.out).size
     have HP1 : Hid (Row _ w.heap.size 3 (.slice (some ⟨gn, 0, none⟩) k cn) (iV ((allF fr 0 ws).take k))) := hide (owns_below HROW6.out hbH)
     have HP2 := hide (own8_mono (hrv.below ((Below.refl wf.heap.size wf).alloc (Nat.le_refl _) (.cells (writerV p (shaOf bs) (x0 : Int) (n : Int) (.slice (some ⟨gn, 0, none⟩) k cn) 0 (.slice ra rn rc)).toArray 81))) hszd)
     have HP3 := hide (HSP6.out.below hbH)
     have HP4 := hide (unhide HUP _ hbH)
     have HP5 := hide (Arr.new wf (writerV p (shaOf bs) (x0 : Int) (n : Int) (.slice (some ⟨gn, 0, none⟩) k cn) 0 (.slice ra rn rc)) 81)
     have HSZ := hide hsz
     clear hbH hbF hsz hszd hrv hbf hbG hHeld hJ2 hJ3
     go_wp2
     go_ret2
     exact ⟨wf.heap.size, gn, cn, .slice ra rn rc, rfl, HP5.out, HP1.out, HP2.out, HP3.out, HSZ.out, HP4.out⟩
   · refine step_allocRef (by rfl) rfl ?_
     have hZ := Arr.new (w6.drew.alloc (.cells #[.slice a n c] 26)) zRef 34
     have hbZ : Below w6.heap.size w6 ((w6.drew.alloc (.cells #[.slice a n c] 26)).alloc (.cells zRef.toArray 34)) := Below.trans hbL ((Below.refl _ _).alloc (Nat.le_refl _) _ |>.mono hbL.size)
     refine hK.out _ _ (unhide HS11 _ hbZ) (fun hH2 => ?_)
     clear hK K
     simp only [fGa, fGs, fGz, Act.put, fSa, fSz, fSs]
     refine wpAnyH_ready (rs := [2]) (by kernel_rfl) (by simp) (AllReadyH.cons rfl (fun K hK => ?_) AllReadyH.nil)
     have HSUM := hide (sums_calls (hL.below ((Below.refl _ _).alloc (Nat.le_refl _) _)) hlen (unhide HTK _ hbZ).1 (unhide HTK _ hbZ).2)
     rw [hkey] at HSUM
     refine step_call1C (by rfl) 27 shasum_enter (.tmp 51) _ rfl rfl (unhide HSUM) ?_
     rintro e wc ⟨rfl, hbc⟩
     have hbC := Below.trans hbZ (hbc.mono hbZ.size)
     refine ⟨_, rfl, ?_⟩
     refine hK.out _ _ (unhide HS11 _ hbC) (fun hH3 => ?_)
     clear hK K
     simp only [fGa, fGs, fGz, Act.put, fSa, fSz, fSs]
     refine wpAnyH_take (i := 8) (v := .agg (refV (shaOf bs) (x0 : Int) (n : Int)).toArray) rfl (by kernel_rfl) (by kernel_rfl) (by kernel_rfl) (fun _ _ _ h => h) (yields_build3 (by rfl) 34 (.tmp 52) (.tmp 55) (.tmp 57) rfl rfl rfl rfl (fun W => buildRef_run hsh (x0 : Int) (n : Int) W)) (by assumption) ?_
     simp only [fGa, fGs, fGz, Act.put, fSa, fSz, fSs]
     have hgR : w6.heap.size ≤ (w6.drew.alloc (.cells #[.slice a n c] 26)).heap.size := hbL.size
     have hZ2 := hZ.below hbc
     refine wpAnyH_ready (rs := [10]) (by kernel_rfl) (by simp) (AllReadyH.cons rfl (fun K hK => ?_) AllReadyH.nil)
     refine step_storeArr (by rfl) (.tmp 10) (.tmp 58) 34 rfl rfl rfl hZ2 hiR hzl h1R ?_
     intro we hAe hWe
     have hbE : Below w6.heap.size w6 we := hWe.below _ _ hbC hgR
     refine hK.out _ _ (unhide HS11 _ hbE) (fun hH4 => ?_)
     clear hK K
     simp only [fGa, fGs, fGz, Act.put]
     refine wpAnyH_done (by kernel_rfl) ?_ _
     obtain ⟨gR, hgRe⟩ : ∃ gR, gR = (w6.drew.alloc (.cells #[.slice a n c] 26)).heap.size := ⟨_, rfl⟩
     rw [← hgRe] at hAe ⊢
     have HS12 : Hid (∀ W, Below we.heap.size we W → (fun W => W.rangeAt gR 0 (refV (shaOf bs) (x0 : Int) (n : Int))) W) := hide (fun W hW => arr_range (ds := []) (by rw [List.append_nil]; exact hAe.below hW))
     have HCL : Hid (∀ W, Below we.heap.size we W → Calls Tryd.prog 58 #[.slice a n c] W fun e w' => ∃ ra rn rc, e = .returned (.slice ra rn rc) ∧ Own8 w' W.heap.size (.slice ra rn rc) bs ∧ Below we.heap.size we w') := hide (fun W hW => (cloneB_any (unhide HIB W (hbE.trans (hW.mono hbE.size))) (by omega)).mono (fun e w' ⟨ra, rn, rc, h1, h2, h3⟩ => ⟨ra, rn, rc, h1, h2, hW.trans (h3.mono hW.size)⟩))
     have HGR := hide hgRe
     have HE := hide hbE
     clear hgRe hAe hbE hH4 hH3 hH2 hH1 hHeld hWe
     go_wp2_with fail
     refine wp_region_held_drew (S := fun W => W.rangeAt gR 0 (refV (shaOf bs) (x0 : Int) (n : Int))) (by kernel_rfl) (unhide HS12 _ (Below.refl _ _).drew) (fun hHeld => ?_)
     refine wpAnyH_take (i := 0) (v := .pointer (some ⟨p, 0, none⟩)) rfl (by kernel_rfl) (by kernel_rfl) (by kernel_rfl) (fun _ _ _ h => h) (Or.inl ⟨by rfl, fun w hSw => by go_simp⟩) (by assumption) ?_
     simp only [fGa, fGz, Act.put, fSa, fSz, fSs]
     refine wpAnyH_take (i := 1) (v := .agg (refV (shaOf bs) (x0 : Int) (n : Int)).toArray) rfl (by kernel_rfl) (by kernel_rfl) (by kernel_rfl) (fun _ _ _ h => h) (yieldsIf_load_mid (by rfl) _ _ rfl _ _ rfl _ _ (fun w hSw => hSw) Tryd.underlying34 rfl hiR) (by assumption) ?_
     simp only [fGa, fGs, fGz, Act.put, fSa, fSz, fSs]
     refine wpAnyH_take (i := 2) (v := .slice (some ⟨gn, 0, none⟩) k cn) rfl (by kernel_rfl) (by kernel_rfl) (by kernel_rfl) (fun _ _ _ h => h) (Or.inl ⟨by rfl, fun w hSw => by go_simp⟩) (by assumption) ?_
     simp only [fGa, fGs, fGz, Act.put, fSa, fSz, fSs]
     refine wpAnyH_take (i := 3) (v := .agg (standV p (shaOf bs) (x0 : Int) (n : Int) (.slice (some ⟨gn, 0, none⟩) k cn) 0).toArray) rfl (by kernel_rfl) (by kernel_rfl) (by kernel_rfl) (fun _ _ _ h => h) (yields_build3 (by rfl) 66 (.tmp 59) (.tmp 60) (.tmp 61) rfl rfl rfl rfl (fun W => buildStand_run hsh p (x0 : Int) (n : Int) _ k cn W)) (by assumption) ?_
     simp only [fGa, fGs, fGz, Act.put, fSa, fSz, fSs]
     refine wpAnyH_take (i := 4) (v := .slice a n c) rfl (by kernel_rfl) (by kernel_rfl) (by kernel_rfl) (fun _ _ _ h => h) (Or.inl ⟨by rfl, fun w hSw => by go_simp⟩) (by assumption) ?_
     simp only [fGa, fGs, fGz, Act.put, fSa, fSz, fSs]
     refine wpAnyH_ready (rs := [5]) (by kernel_rfl) (by simp) (AllReadyH.cons rfl (fun K hK => ?_) AllReadyH.nil)
     refine step_call1C (by rfl) 58 clone_enter (.tmp 63) _ rfl rfl (unhide HCL _ (Below.refl _ _).drew) ?_
     rintro e wf ⟨ra, rn, rc, rfl, hrv, hbf⟩
     refine ⟨_, rfl, ?_⟩
     refine hK.out _ _ (unhide HS12 _ hbf) (fun hJ2 => ?_)
     clear hK K
     simp only [fGa, fGs, fGz, Act.put, fSa, fSz, fSs]
     refine wpAnyH_take (i := 6) (v := .agg (writerV p (shaOf bs) (x0 : Int) (n : Int) (.slice (some ⟨gn, 0, none⟩) k cn) 0 (.slice ra rn rc)).toArray) rfl (by kernel_rfl) (by kernel_rfl) (by kernel_rfl) (fun _ _ _ h => h) (yields_build2 (by rfl) 81 (.tmp 62) (.tmp 64) rfl rfl rfl (fun W => buildWriter_run hsh p (x0 : Int) (n : Int) _ ra k cn rn rc W)) (by assumption) ?_
     simp only [fGa, fGs, fGz, Act.put, fSa, fSz, fSs]
     refine wpAnyH_ready (rs := [7]) (by kernel_rfl) (by simp) (AllReadyH.cons rfl (fun K hK => ?_) AllReadyH.nil)
     refine step_boxW (by rfl) (.tmp 65) rfl rfl (boxWriter_run hsh p (x0 : Int) (n : Int) _ ra k cn rn rc _) ?_
     have hbG : Below we.heap.size we (wf.alloc (.cells (writerV p (shaOf bs) (x0 : Int) (n : Int) (.slice (some ⟨gn, 0, none⟩) k cn) 0 (.slice ra rn rc)).toArray 81)) := hbf.trans ((Below.refl _ _).alloc (Nat.le_refl _) _ |>.mono hbf.size)
     refine hK.out _ _ (unhide HS12 _ hbG) (fun hJ3 => ?_)
     clear hK K
     simp only [fGa, fGs, fGz, Act.put, fSa, fSz, fSs]
     refine wpAnyH_take (i := 8) (v := .pointer (some ⟨wf.heap.size, 0, none⟩)) rfl (by kernel_rfl) (by kernel_rfl) (by kernel_rfl) (fun _ _ _ h => h) (Or.inl ⟨by rfl, fun w hSw => by go_simp⟩) (by assumption) ?_
     simp only [fGa, fGs, fGz, Act.put, fSa, fSz, fSs]
     refine wpAnyH_take (i := 9) (v := .int .i64 0) rfl (by kernel_rfl) (by kernel_rfl) (by kernel_rfl) (fun _ _ _ h => h) (Or.inl ⟨by rfl, fun w hSw => by go_simp⟩) (by assumption) ?_
     simp only [fGa, fGs, fGz, Act.put, fSa, fSz, fSs]
     refine wpAnyH_done (by kernel_rfl) ?_ _
     have hbH : Below w6.heap.size w6 (wf.alloc (.cells (writerV p (shaOf bs) (x0 : Int) (n : Int) (.slice (some ⟨gn, 0, none⟩) k cn) 0 (.slice ra rn rc)).toArray 81)) := HE.out.trans (hbG.mono HE.out.size)
     have hbF : Below w6.heap.size w6 wf := HE.out.trans (hbf.mono HE.out.size)
     have hsz : w.heap.size ≤ wf.heap.size := (unhide HUP _ hbF).size
     have hszd : w.heap.size ≤ we.drew.heap.size := (unhide HUP _ HE.out).size
     have HP1 : Hid (Row _ w.heap.size 3 (.slice (some ⟨gn, 0, none⟩) k cn) (iV ((allF fr 0 ws).take k))) := hide (owns_below HROW6.out hbH)
     have HP2 := hide (own8_mono (hrv.below ((Below.refl wf.heap.size wf).alloc (Nat.le_refl _) (.cells (writerV p (shaOf bs) (x0 : Int) (n : Int) (.slice (some ⟨gn, 0, none⟩) k cn) 0 (.slice ra rn rc)).toArray 81))) hszd)
     have HP3 := hide (HSP6.out.below hbH)
     have HP4 := hide (unhide HUP _ hbH)
     have HP5 := hide (Arr.new wf (writerV p (shaOf bs) (x0 : Int) (n : Int) (.slice (some ⟨gn, 0, none⟩) k cn) 0 (.slice ra rn rc)) 81)
     have HSZ := hide hsz
     clear hbH hbF hsz hszd hrv hbf hbG hHeld hJ2 hJ3
     go_wp2
     go_ret2
     exact ⟨wf.heap.size, gn, cn, .slice ra rn rc, rfl, HP5.out, HP1.out, HP2.out, HP3.out, HSZ.out, HP4.out⟩
 · refine step_allocRef (by rfl) rfl ?_
   have hZ := Arr.new w6.drew zRef 34
   have hbZ : Below w6.heap.size w6 (w6.drew.alloc (.cells zRef.toArray 34)) := Below.trans (Below.refl w6.heap.size w6).drew ((Below.refl _ _).alloc (Nat.le_refl _) _ |>.mono (Below.refl w6.heap.size w6).drew.size)
   refine hK.out _ _ (unhide HS11 _ hbZ) (fun hH1 => ?_)
   clear hK K
   simp only [fGa, fGs, fGz, Act.put, fSa, fSz, fSs]
   refine wpAnyH_ready (rs := [1]) (by kernel_rfl) (by simp) (AllReadyH.cons rfl (fun K hK => ?_) AllReadyH.nil)
   refine step_buildSlC (by rfl) (.tmp 50) rfl rfl ?_
   have hL := isBB_one (unhide HIB _ hbZ)
   have hbL : Below w6.heap.size w6 ((w6.drew.alloc (.cells zRef.toArray 34)).alloc (.cells #[.slice a n c] 26)) := Below.trans hbZ ((Below.refl _ _).alloc (Nat.le_refl _) _ |>.mono hbZ.size)
   refine hK.out _ _ (unhide HS11 _ hbL) (fun hH2 => ?_)
   clear hK K
   simp only [fGa, fGs, fGz, Act.put, fSa, fSz, fSs]
   refine wpAnyH_ready (rs := [2]) (by kernel_rfl) (by simp) (AllReadyH.cons rfl (fun K hK => ?_) AllReadyH.nil)
   have HSUM := hide (sums_calls hL hlen (unhide HTK _ hbL).1 (unhide HTK _ hbL).2)
   rw [hkey] at HSUM
   refine step_call1C (by rfl) 27 shasum_enter (.tmp 51) _ rfl rfl (unhide HSUM) ?_
   rintro e wc ⟨rfl, hbc⟩
   have hbC := Below.trans hbL (hbc.mono hbL.size)
   refine ⟨_, rfl, ?_⟩
   refine hK.out _ _ (unhide HS11 _ hbC) (fun hH3 => ?_)
   clear hK K
   simp only [fGa, fGs, fGz, Act.put, fSa, fSz, fSs]
   refine wpAnyH_take (i := 8) (v := .agg (refV (shaOf bs) (x0 : Int) (n : Int)).toArray) rfl (by kernel_rfl) (by kernel_rfl) (by kernel_rfl) (fun _ _ _ h => h) (yields_build3 (by rfl) 34 (.tmp 52) (.tmp 55) (.tmp 57) rfl rfl rfl rfl (fun W => buildRef_run hsh (x0 : Int) (n : Int) W)) (by assumption) ?_
   simp only [fGa, fGs, fGz, Act.put, fSa, fSz, fSs]
   have hgR : w6.heap.size ≤ w6.drew.heap.size := Nat.le_refl _
   have hZ2 := (hZ.below ((Below.refl _ _).alloc (Nat.le_refl _) _)).below hbc
   refine wpAnyH_ready (rs := [10]) (by kernel_rfl) (by simp) (AllReadyH.cons rfl (fun K hK => ?_) AllReadyH.nil)
   refine step_storeArr (by rfl) (.tmp 10) (.tmp 58) 34 rfl rfl rfl hZ2 hiR hzl h1R ?_
   intro we hAe hWe
   have hbE : Below w6.heap.size w6 we := hWe.below _ _ hbC hgR
   refine hK.out _ _ (unhide HS11 _ hbE) (fun hH4 => ?_)
   clear hK K
   simp only [fGa, fGs, fGz, Act.put]
   refine wpAnyH_done (by kernel_rfl) ?_ _
   obtain ⟨gR, hgRe⟩ : ∃ gR, gR = w6.drew.heap.size := ⟨_, rfl⟩
   rw [← hgRe] at hAe ⊢
   have HS12 : Hid (∀ W, Below we.heap.size we W → (fun W => W.rangeAt gR 0 (refV (shaOf bs) (x0 : Int) (n : Int))) W) := hide (fun W hW => arr_range (ds := []) (by rw [List.append_nil]; exact hAe.below hW))
   have HCL : Hid (∀ W, Below we.heap.size we W → Calls Tryd.prog 58 #[.slice a n c] W fun e w' => ∃ ra rn rc, e = .returned (.slice ra rn rc) ∧ Own8 w' W.heap.size (.slice ra rn rc) bs ∧ Below we.heap.size we w') := hide (fun W hW => (cloneB_any (unhide HIB W (hbE.trans (hW.mono hbE.size))) (by omega)).mono (fun e w' ⟨ra, rn, rc, h1, h2, h3⟩ => ⟨ra, rn, rc, h1, h2, hW.trans (h3.mono hW.size)⟩))
   have HGR := hide hgRe
   have HE := hide hbE
   clear hgRe hAe hbE hH4 hH3 hH2 hH1 hHeld hWe
   go_wp2_with fail
   refine wp_region_held_drew (S := fun W => W.rangeAt gR 0 (refV (shaOf bs) (x0 : Int) (n : Int))) (by kernel_rfl) (unhide HS12 _ (Below.refl _ _).drew) (fun hHeld => ?_)
   refine wpAnyH_take (i := 0) (v := .pointer (some ⟨p, 0, none⟩)) rfl (by kernel_rfl) (by kernel_rfl) (by kernel_rfl) (fun _ _ _ h => h) (Or.inl ⟨by rfl, fun w hSw => by go_simp⟩) (by assumption) ?_
   simp only [fGa, fGz, Act.put, fSa, fSz, fSs]
   refine wpAnyH_take (i := 1) (v := .agg (refV (shaOf bs) (x0 : Int) (n : Int)).toArray) rfl (by kernel_rfl) (by kernel_rfl) (by kernel_rfl) (fun _ _ _ h => h) (yieldsIf_load_mid (by rfl) _ _ rfl _ _ rfl _ _ (fun w hSw => hSw) Tryd.underlying34 rfl hiR) (by assumption) ?_
   simp only [fGa, fGs, fGz, Act.put, fSa, fSz, fSs]
   refine wpAnyH_take (i := 2) (v := .slice (some ⟨gn, 0, none⟩) k cn) rfl (by kernel_rfl) (by kernel_rfl) (by kernel_rfl) (fun _ _ _ h => h) (Or.inl ⟨by rfl, fun w hSw => by go_simp⟩) (by assumption) ?_
   simp only [fGa, fGs, fGz, Act.put, fSa, fSz, fSs]
   refine wpAnyH_take (i := 3) (v := .agg (standV p (shaOf bs) (x0 : Int) (n : Int) (.slice (some ⟨gn, 0, none⟩) k cn) 0).toArray) rfl (by kernel_rfl) (by kernel_rfl) (by kernel_rfl) (fun _ _ _ h => h) (yields_build3 (by rfl) 66 (.tmp 59) (.tmp 60) (.tmp 61) rfl rfl rfl rfl (fun W => buildStand_run hsh p (x0 : Int) (n : Int) _ k cn W)) (by assumption) ?_
   simp only [fGa, fGs, fGz, Act.put, fSa, fSz, fSs]
   refine wpAnyH_take (i := 4) (v := .slice a n c) rfl (by kernel_rfl) (by kernel_rfl) (by kernel_rfl) (fun _ _ _ h => h) (Or.inl ⟨by rfl, fun w hSw => by go_simp⟩) (by assumption) ?_
   simp only [fGa, fGs, fGz, Act.put, fSa, fSz, fSs]
   refine wpAnyH_ready (rs := [5]) (by kernel_rfl) (by simp) (AllReadyH.cons rfl (fun K hK => ?_) AllReadyH.nil)
   refine step_call1C (by rfl) 58 clone_enter (.tmp 63) _ rfl rfl (unhide HCL _ (Below.refl _ _).drew) ?_
   rintro e wf ⟨ra, rn, rc, rfl, hrv, hbf⟩
   refine ⟨_, rfl, ?_⟩
   refine hK.out _ _ (unhide HS12 _ hbf) (fun hJ2 => ?_)
   clear hK K
   simp only [fGa, fGs, fGz, Act.put, fSa, fSz, fSs]
   refine wpAnyH_take (i := 6) (v := .agg (writerV p (shaOf bs) (x0 : Int) (n : Int) (.slice (some ⟨gn, 0, none⟩) k cn) 0 (.slice ra rn rc)).toArray) rfl (by kernel_rfl) (by kernel_rfl) (by kernel_rfl) (fun _ _ _ h => h) (yields_build2 (by rfl) 81 (.tmp 62) (.tmp 64) rfl rfl rfl (fun W => buildWriter_run hsh p (x0 : Int) (n : Int) _ ra k cn rn rc W)) (by assumption) ?_
   simp only [fGa, fGs, fGz, Act.put, fSa, fSz, fSs]
   refine wpAnyH_ready (rs := [7]) (by kernel_rfl) (by simp) (AllReadyH.cons rfl (fun K hK => ?_) AllReadyH.nil)
   refine step_boxW (by rfl) (.tmp 65) rfl rfl (boxWriter_run hsh p (x0 : Int) (n : Int) _ ra k cn rn rc _) ?_
   have hbG : Below we.heap.size we (wf.alloc (.cells (writerV p (shaOf bs) (x0 : Int) (n : Int) (.slice (some ⟨gn, 0, none⟩) k cn) 0 (.slice ra rn rc)).toArray 81)) := hbf.trans ((Below.refl _ _).alloc (Nat.le_refl _) _ |>.mono hbf.size)
   refine hK.out _ _ (unhide HS12 _ hbG) (fun hJ3 => ?_)
   clear hK K
   simp only [fGa, fGs, fGz, Act.put, fSa, fSz, fSs]
   refine wpAnyH_take (i := 8) (v := .pointer (some ⟨wf.heap.size, 0, none⟩)) rfl (by kernel_rfl) (by kernel_rfl) (by kernel_rfl) (fun _ _ _ h => h) (Or.inl ⟨by rfl, fun w hSw => by go_simp⟩) (by assumption) ?_
   simp only [fGa, fGs, fGz, Act.put, fSa, fSz, fSs]
   refine wpAnyH_take (i := 9) (v := .int .i64 0) rfl (by kernel_rfl) (by kernel_rfl) (by kernel_rfl) (fun _ _ _ h => h) (Or.inl ⟨by rfl, fun w hSw => by go_simp⟩) (by assumption) ?_
   simp only [fGa, fGs, fGz, Act.put, fSa, fSz, fSs]
   refine wpAnyH_done (by kernel_rfl) ?_ _
   have hbH : Below w6.heap.size w6 (wf.alloc (.cells (writerV p (shaOf bs) (x0 : Int) (n : Int) (.slice (some ⟨gn, 0, none⟩) k cn) 0 (.slice ra rn rc)).toArray 81)) := HE.out.trans (hbG.mono HE.out.size)
   have hbF : Below w6.heap.size w6 wf := HE.out.trans (hbf.mono HE.out.size)
   have hsz : w.heap.size ≤ wf.heap.size := (unhide HUP _ hbF).size
   have hszd : w.heap.size ≤ we.drew.heap.size := (unhide HUP _ HE.out).size
   have HP1 : Hid (Row _ w.heap.size 3 (.slice (some ⟨gn, 0, none⟩) k cn) (iV ((allF fr 0 ws).take k))) := hide (owns_below HROW6.out hbH)
   have HP2 := hide (own8_mono (hrv.below ((Below.refl wf.heap.size wf).alloc (Nat.le_refl _) (.cells (writerV p (shaOf bs) (x0 : Int) (n : Int) (.slice (some ⟨gn, 0, none⟩) k cn) 0 (.slice ra rn rc)).toArray 81))) hszd)
   have HP3 := hide (HSP6.out.below hbH)
   have HP4 := hide (unhide HUP _ hbH)
   have HP5 := hide (Arr.new wf (writerV p (shaOf bs) (x0 : Int) (n : Int) (.slice (some ⟨gn, 0, none⟩) k cn) 0 (.slice ra rn rc)) 81)
   have HSZ := hide hsz
   clear hbH hbF hsz hszd hrv hbf hbG hHeld hJ2 hJ3
   go_wp2
   go_ret2
   exact ⟨wf.heap.size, gn, cn, .slice ra rn rc, rfl, HP5.out, HP1.out, HP2.out, HP3.out, HSZ.out, HP4.out⟩
end Go.Proofs.YtlofoklfggmbiaaDoor

namespace Go.Proofs.YtlofoklfggmbiaaDoor
open Go.RowKit Go.Maps

theorem chs_enter (v : Value) (W : World) : (callFunc 11 #[v]).run Tryd.prog W = .ok (.enter 11 #[v]) W := by kernel_rfl
end Go.Proofs.YtlofoklfggmbiaaDoor

namespace Go.Proofs.YtlofoklfggmbiaaDoor
open Go.RowKit Go.Maps

set_option maxRecDepth 100000 in
theorem behind_calls {w : World} {g : Nat} {dn le : Int} (h36 : w.cell? ⟨g, 36, none⟩ = some (.int .i64 dn)) (h34 : w.cell? ⟨g, 34, none⟩ = some (.int .i64 le)) :
 Calls Tryd.prog 55 #[.pointer (some ⟨g, 0, none⟩)] w fun e w' => e = .returned (.bool (dn == secN le)) ∧ w' = w.drew := by
 go_enter Tryd.func55, Tryd.ntmps55
 go_wp2_with fail
 refine wp_region_held_drew (S := fun W => W.cell? ⟨g, 36, none⟩ = some (.int .i64 dn) ∧ W.cell? ⟨g, 34, none⟩ = some (.int .i64 le)) (by kernel_rfl) (⟨bkeptC (Below.refl _ _).drew h36, bkeptC (Below.refl _ _).drew h34⟩) (fun hHeld => ?_)
 refine wpAnyH_take (i := 0) (v := .pointer (some ⟨g, 0, none⟩)) rfl (by kernel_rfl) (by kernel_rfl) (by kernel_rfl) (fun _ _ _ h => h) (Or.inl ⟨by rfl, fun w hSw => by obtain ⟨hS1, hS2⟩ := hSw; go_simp⟩) (by assumption) ?_
 simp only [fGa, fGz, Act.put, fSa, fSz, fSs]
 refine wpAnyH_take (i := 1) (v := .pointer (some ⟨g, 0, none⟩)) rfl (by kernel_rfl) (by kernel_rfl) (by kernel_rfl) (fun _ _ _ h => h) (Or.inl ⟨by rfl, fun w hSw => by obtain ⟨hS1, hS2⟩ := hSw; go_simp⟩) (by assumption) ?_
 simp only [fGa, fGs, fGz, Act.put, fSa, fSz, fSs]
 refine wpAnyH_take (i := 2) (v := .pointer (some ⟨g, 36, none⟩)) rfl (by kernel_rfl) (by kernel_rfl) (by kernel_rfl) (fun _ _ _ h => h) (Or.inl ⟨by rfl, fun w hSw => by obtain ⟨hS1, hS2⟩ := hSw; go_simp⟩) (by assumption) ?_
 simp only [fGa, fGs, fGz, Act.put, fSa, fSz, fSs]
 refine wpAnyH_take (i := 3) (v := .int .i64 dn) rfl (by kernel_rfl) (by kernel_rfl) (by kernel_rfl) (fun _ _ _ h => h) (Or.inl ⟨by rfl, fun w hSw => by obtain ⟨hS1, hS2⟩ := hSw; go_simp⟩) (by assumption) ?_
 simp only [fGa, fGs, fGz, Act.put, fSa, fSz, fSs]
 refine wpAnyH_take (i := 4) (v := .pointer (some ⟨g, 0, none⟩)) rfl (by kernel_rfl) (by kernel_rfl) (by kernel_rfl) (fun _ _ _ h => h) (Or.inl ⟨by rfl, fun w hSw => by obtain ⟨hS1, hS2⟩ := hSw; go_simp⟩) (by assumption) ?_
 simp only [fGa, fGs, fGz, Act.put, fSa, fSz, fSs]
 refine wpAnyH_take (i := 5) (v := .pointer (some ⟨g, 0, none⟩)) rfl (by kernel_rfl) (by kernel_rfl) (by kernel_rfl) (fun _ _ _ h => h) (Or.inl ⟨by rfl, fun w hSw => by obtain ⟨hS1, hS2⟩ := hSw; go_simp⟩) (by assumption) ?_
 simp only [fGa, fGs, fGz, Act.put, fSa, fSz, fSs]
 refine wpAnyH_take (i := 6) (v := .pointer (some ⟨g, 1, none⟩)) rfl (by kernel_rfl) (by kernel_rfl) (by kernel_rfl) (fun _ _ _ h => h) (Or.inl ⟨by rfl, fun w hSw => by obtain ⟨hS1, hS2⟩ := hSw; go_simp⟩) (by assumption) ?_
 simp only [fGa, fGs, fGz, Act.put, fSa, fSz, fSs]
 refine wpAnyH_take (i := 7) (v := .pointer (some ⟨g, 34, none⟩)) rfl (by kernel_rfl) (by kernel_rfl) (by kernel_rfl) (fun _ _ _ h => h) (Or.inl ⟨by rfl, fun w hSw => by obtain ⟨hS1, hS2⟩ := hSw; go_simp⟩) (by assumption) ?_
 simp only [fGa, fGs, fGz, Act.put, fSa, fSz, fSs]
 refine wpAnyH_take (i := 8) (v := .int .i64 le) rfl (by kernel_rfl) (by kernel_rfl) (by kernel_rfl) (fun _ _ _ h => h) (Or.inl ⟨by rfl, fun w hSw => by obtain ⟨hS1, hS2⟩ := hSw; go_simp⟩) (by assumption) ?_
 simp only [fGa, fGs, fGz, Act.put, fSa, fSz, fSs]
 refine wpAnyH_ready (rs := [9]) (by kernel_rfl) (by simp) (AllReadyH.cons rfl (fun K hK => ?_) AllReadyH.nil)
 refine step_call1C (by rfl) 11 chs_enter (.tmp 11) _ rfl rfl (chSectors_calls le _) ?_
 rintro e w9 ⟨rfl, hw9⟩
 obtain rfl := hw9.symm
 refine ⟨_, rfl, ?_⟩
 refine hK.out _ _ (hHeld) (fun hHeld2 => ?_)
 clear hK K
 simp only [fGa, fGs, fGz, Act.put, fSa, fSz, fSs]
 refine wpAnyH_take (i := 10) (v := .bool (dn == secN le)) rfl (by kernel_rfl) (by kernel_rfl) (by kernel_rfl) (fun _ _ _ h => h) (Or.inl ⟨by rfl, fun w hSw => by obtain ⟨hS1, hS2⟩ := hSw; go_simp⟩) (by assumption) ?_
 simp only [fGa, fGs, fGz, Act.put, fSa, fSz, fSs]
 refine wpAnyH_take (i := 11) (v := .bool (dn == secN le)) rfl (by kernel_rfl) (by kernel_rfl) (by kernel_rfl) (fun _ _ _ h => h) (Or.inl ⟨by rfl, fun w hSw => by obtain ⟨hS1, hS2⟩ := hSw; go_simp⟩) (by assumption) ?_
 simp only [fGa, fGs, fGz, Act.put, fSa, fSz, fSs]
 refine wpAnyH_done (by kernel_rfl) ?_ _
 clear hHeld hHeld2
 go_wp2
 go_ret
 exact ⟨rfl, rfl⟩
end Go.Proofs.YtlofoklfggmbiaaDoor

/- ChainReads: a reading of the document's begun. ChainReads: a reader that is opened, and the document's. -/
import Derived.Test.YtdalbalphagmfaaGreatDoorTC
import Derived.Test.YtdalbalphagmfaaGreatDoorSO
namespace Go.Proofs.YtdalbalphagmfaaGreatDoor
open Go.RowKit Go.Maps

def go0 (hs : List Int) (fi le : Int) (heap sd at_ : Nat) : List Value := goV hs fi le heap sd at_ (.slice none 0 0) (.slice none 0 0) false 0 0
theorem buildGo_run_x (a0 a1 a2 a3 a4 a5 a6 a7 a8 a9 b0 b1 b2 b3 b4 b5 b6 b7 b8 b9 c0 c1 c2 c3 c4 c5 c6 c7 c8 c9 d0 d1 : Int) (fi le : Int) (heap sd at_ : Nat) (W : World) : (Instr.build 111 #[(0, .agg (refV [a0, a1, a2, a3, a4, a5, a6, a7, a8, a9, b0, b1, b2, b3, b4, b5, b6, b7, b8, b9, c0, c1, c2, c3, c4, c5, c6, c7, c8, c9, d0, d1] fi le).toArray), (1, .int .i64 (heap : Int)), (2, .int .i64 (sd : Int)), (3, .int .i64 (at_ : Int))]).run Tryz.prog W = .ok (.agg (go0 [a0, a1, a2, a3, a4, a5, a6, a7, a8, a9, b0, b1, b2, b3, b4, b5, b6, b7, b8, b9, c0, c1, c2, c3, c4, c5, c6, c7, c8, c9, d0, d1] fi le heap sd at_).toArray) W := by kernel_rfl
theorem buildGo_run {hs : List Int} (hh : hs.length = 32) (fi le : Int) (heap sd at_ : Nat) (W : World) : (Instr.build 111 #[(0, .agg (refV hs fi le).toArray), (1, .int .i64 (heap : Int)), (2, .int .i64 (sd : Int)), (3, .int .i64 (at_ : Int))]).run Tryz.prog W = .ok (.agg (go0 hs fi le heap sd at_).toArray) W := by
 match hs, hh with
 | [a0, a1, a2, a3, a4, a5, a6, a7, a8, a9, b0, b1, b2, b3, b4, b5, b6, b7, b8, b9, c0, c1, c2, c3, c4, c5, c6, c7, c8, c9, d0, d1], _ => exact buildGo_run_x a0 a1 a2 a3 a4 a5 a6 a7 a8 a9 b0 b1 b2 b3 b4 b5 b6 b7 b8 b9 c0 c1 c2 c3 c4 c5 c6 c7 c8 c9 d0 d1 fi le heap sd at_ W
theorem boxGo_run_x (a0 a1 a2 a3 a4 a5 a6 a7 a8 a9 b0 b1 b2 b3 b4 b5 b6 b7 b8 b9 c0 c1 c2 c3 c4 c5 c6 c7 c8 c9 d0 d1 : Int) (fi le : Int) (heap sd at_ : Nat) (W : World) : (Instr.box 111 (.agg (go0 [a0, a1, a2, a3, a4, a5, a6, a7, a8, a9, b0, b1, b2, b3, b4, b5, b6, b7, b8, b9, c0, c1, c2, c3, c4, c5, c6, c7, c8, c9, d0, d1] fi le heap sd at_).toArray)).run Tryz.prog W = .ok (.pointer (some ⟨W.heap.size, 0, none⟩)) (W.alloc (.cells (go0 [a0, a1, a2, a3, a4, a5, a6, a7, a8, a9, b0, b1, b2, b3, b4, b5, b6, b7, b8, b9, c0, c1, c2, c3, c4, c5, c6, c7, c8, c9, d0, d1] fi le heap sd at_).toArray 111)) := by kernel_rfl
theorem boxGo_run {hs : List Int} (hh : hs.length = 32) (fi le : Int) (heap sd at_ : Nat) (W : World) : (Instr.box 111 (.agg (go0 hs fi le heap sd at_).toArray)).run Tryz.prog W = .ok (.pointer (some ⟨W.heap.size, 0, none⟩)) (W.alloc (.cells (go0 hs fi le heap sd at_).toArray 111)) := by
 match hs, hh with
 | [a0, a1, a2, a3, a4, a5, a6, a7, a8, a9, b0, b1, b2, b3, b4, b5, b6, b7, b8, b9, c0, c1, c2, c3, c4, c5, c6, c7, c8, c9, d0, d1], _ => exact boxGo_run_x a0 a1 a2 a3 a4 a5 a6 a7 a8 a9 b0 b1 b2 b3 b4 b5 b6 b7 b8 b9 c0 c1 c2 c3 c4 c5 c6 c7 c8 c9 d0 d1 fi le heap sd at_ W
section
variable {ops : Array Oper} {rest : List Oper} {o : Oper} {a : Act} {Q : Exit → Act → World → Prop} {w : World}
theorem wpList_buildGo (hgd : o.guard = none) (x y z u : Operand) (ho : o.op = .build 111 #[(0, x), (1, y), (2, z), (3, u)]) {vx vy vz vu r : Value} (hx : a.eval x = vx) (hy : a.eval y = vy) (hz : a.eval z = vz) (hu : a.eval u = vu) (hrun : ∀ W : World, (Instr.build 111 #[(0, vx), (1, vy), (2, vz), (3, vu)]).run Tryz.prog W = .ok r W) (hk : wpList Tryz.prog ops Q rest (a.put o.dst r) w) : wpList Tryz.prog ops Q (o :: rest) a w := by
 refine wpList_plain hgd fun K hK => ?_
 unfold Oper.wp execOp
 simp only [ho, List.map_toArray, List.map_cons, List.map_nil, hx, hy, hz, hu, Sem.run_bind, hrun w, Result.andThen_ok, Sem.run_pure]
 exact hK _ _ hk
theorem wpList_boxGo (hgd : o.guard = none) (x : Operand) (ho : o.op = .box 111 x) {v : Value} {w' : World} (hx : a.eval x = v) (hrun : (Instr.box 111 v).run Tryz.prog w = .ok (.pointer (some ⟨w.heap.size, 0, none⟩)) w') (hk : wpList Tryz.prog ops Q rest (a.put o.dst (.pointer (some ⟨w.heap.size, 0, none⟩))) w') : wpList Tryz.prog ops Q (o :: rest) a w := by
 refine wpList_plain hgd fun K hK => ?_
 unfold Oper.wp execOp
 simp only [ho, hx, Sem.run_bind, hrun, Result.andThen_ok, Sem.run_pure]
 exact hK _ _ hk
end
section
variable {w : World} {hs : List Int} {fi le : Int} {sd : Nat}
theorem ref_at32 (hh : hs.length = 32) : (refV hs fi le)[32]? = some (.int .i64 fi) ∧ (refV hs fi le)[33]? = some (.int .i64 le) := by
 unfold refV
 constructor
 · rw [List.getElem?_append_right (by simp [hh])]; simp [hh]
 · rw [List.getElem?_append_right (by simp [hh])]; simp [hh]
set_option maxRecDepth 100000 in
set_option maxHeartbeats 4000000 in
/-- A reading that is refused. -/
theorem rbegin_no {heap : Int} (hh : hs.length = 32) (f : Int) (hf : (f = 1 ∧ (heap < 1 ∨ (sd : Int) < heap)) ∨ (f = 2 ∧ 1 ≤ heap ∧ heap ≤ (sd : Int) ∧ secN le = 0) ∨ (f = 61 ∧ 1 ≤ heap ∧ heap ≤ (sd : Int) ∧ secN le ≠ 0 ∧ (fi < heap ∨ (sd : Int) ≤ fi))) :
 Calls Tryz.prog 78 #[.int .i64 heap, .int .i64 (sd : Int), .agg (refV hs fi le).toArray] w fun e w' => e = .returned (.tuple #[.pointer none, .int .i64 f]) ∧ Below w.heap.size w w' := by
 obtain ⟨S, hS⟩ : ∃ S, w.heap.size = S := ⟨_, rfl⟩
 obtain ⟨w1, hw1⟩ : ∃ w1, w.alloc (.cells (refV hs fi le).toArray 38) = w1 := ⟨_, rfl⟩
 have hb1 : Below w.heap.size w w1 := by rw [← hw1]; exact (Below.refl _ _).alloc (Nat.le_refl _) _
 have hA1 : Arr w1 S 38 (refV hs fi le) := by rw [← hw1, ← hS]; exact Arr.new w _ _
 have c32 := arr_cell hA1 (ref_at32 hh).1
 have c33 := arr_cell hA1 (ref_at32 hh).2
 obtain ⟨RV, hRV⟩ : ∃ RV, refV hs fi le = RV := ⟨_, rfl⟩
 rw [hRV] at hw1 ⊢
 have HW1 := hide hw1
 have HS := hide hS
 have HB1 := hide hb1
 clear hw1 hS hb1 hA1 hRV
 go_enter Tryz.func78, Tryz.ntmps78
 rcases hf with ⟨rfl, hf⟩ | ⟨rfl, h1, h2, hz⟩ | ⟨rfl, h1, h2, hz, hf⟩
 · by_cases h0 : heap < 1
   · clear hf
     go_wp2_with (rw [HW1.out, HS.out])
     go_ret2
     exact ⟨rfl, HB1.out⟩
   · have h2 : (sd : Int) < heap := hf.resolve_left h0
     clear hf
     go_wp2_with (rw [HW1.out, HS.out])
     go_ret2
     exact ⟨rfl, HB1.out⟩
 · have h1n : ¬ heap < 1 := by omega
   have h2n : ¬ (sd : Int) < heap := by omega
   have HSC : Hid (∀ W, Calls Tryz.prog 60 #[.int .i64 le] W fun e w' => e = .returned (.int .i64 0) ∧ w' = W) := hide (fun W => by rw [← hz]; exact refSectors_calls le W)
   clear hz
   go_wp2_with (rw [HW1.out, HS.out])
   refine (unhide HSC _).mono ?_
   rintro e wn ⟨rfl, hwn⟩
   obtain rfl := hwn.symm
   clear hwn
   go_wp2
   go_ret2
   exact ⟨rfl, HB1.out⟩
 · have h1n : ¬ heap < 1 := by omega
   have h2n : ¬ (sd : Int) < heap := by omega
   have hzb : (secN le == 0) = false := by simpa using hz
   by_cases h0 : fi < heap
   · clear hf
     go_wp2_with (rw [HW1.out, HS.out])
     refine (refSectors_calls le _).mono ?_
     rintro e wn ⟨rfl, hwn⟩
     obtain rfl := hwn.symm
     clear hwn
     go_wp2
     go_ret2
     exact ⟨rfl, HB1.out⟩
   · have h3 : (sd : Int) ≤ fi := hf.resolve_left h0
     clear hf
     go_wp2_with (rw [HW1.out, HS.out])
     refine (refSectors_calls le _).mono ?_
     rintro e wn ⟨rfl, hwn⟩
     obtain rfl := hwn.symm
     clear hwn
     go_wp2
     go_ret2
     exact ⟨rfl, HB1.out⟩
set_option maxRecDepth 100000 in
set_option maxHeartbeats 4000000 in
/-- A reading that is begun. -/
theorem rbegin_yes {heap f0 : Nat} (hh : hs.length = 32) (hhb : ∀ x ∈ hs, 0 ≤ x ∧ x ≤ 255) (h1 : 1 ≤ heap) (h2 : heap ≤ sd) (hz : secN le ≠ 0) (hf : heap ≤ f0 ∧ f0 < sd) :
 Calls Tryz.prog 78 #[.int .i64 (heap : Int), .int .i64 (sd : Int), .agg (refV hs (f0 : Int) le).toArray] w fun e w' => ∃ gq, e = .returned (.tuple #[.pointer (some ⟨gq, 0, none⟩), .int .i64 0]) ∧ Gst w' w.heap.size gq hs (f0 : Int) le heap sd (begS heap sd f0) (.slice none 0 0) (.slice none 0 0) ∧ w.heap.size ≤ gq ∧ Below w.heap.size w w' := by
 obtain ⟨S, hS⟩ : ∃ S, w.heap.size = S := ⟨_, rfl⟩
 obtain ⟨w1, hw1⟩ : ∃ w1, w.alloc (.cells (refV hs (f0 : Int) le).toArray 38) = w1 := ⟨_, rfl⟩
 have hb1 : Below w.heap.size w w1 := by rw [← hw1]; exact (Below.refl _ _).alloc (Nat.le_refl _) _
 have hA1 : Arr w1 S 38 (refV hs (f0 : Int) le) := by rw [← hw1, ← hS]; exact Arr.new w _ _
 have c32 := arr_cell hA1 (ref_at32 hh).1
 have c33 := arr_cell hA1 (ref_at32 hh).2
 have hrg : w1.rangeAt S 0 (refV hs (f0 : Int) le) := arr_range (ds := []) (by rw [List.append_nil]; exact hA1)
 have hiR := infoRef hh (f0 : Int) le
 have HBD : Hid (∀ W : World, (Instr.build 111 #[(0, .agg (refV hs (f0 : Int) le).toArray), (1, .int .i64 (heap : Int)), (2, .int .i64 (sd : Int)), (3, .int .i64 (f0 : Int))]).run Tryz.prog W = .ok (.agg (go0 hs (f0 : Int) le heap sd f0).toArray) W) := hide (fun W => buildGo_run hh _ _ _ _ _ W)
 have HBX : Hid (∀ W : World, (Instr.box 111 (.agg (go0 hs (f0 : Int) le heap sd f0).toArray)).run Tryz.prog W = .ok (.pointer (some ⟨W.heap.size, 0, none⟩)) (W.alloc (.cells (go0 hs (f0 : Int) le heap sd f0).toArray 111))) := hide (fun W => boxGo_run hh _ _ _ _ _ W)
 have HFIN : Hid (∀ w2, w1.alloc (.cells (go0 hs (f0 : Int) le heap sd f0).toArray 111) = w2 → Gst w2 S w1.heap.size hs (f0 : Int) le heap sd (begS heap sd f0) (.slice none 0 0) (.slice none 0 0) ∧ S ≤ w1.heap.size ∧ Below S w w2) := hide (fun w2 hw2 => by
  have hA2 : Arr w2 w1.heap.size 111 (go0 hs (f0 : Int) le heap sd f0) := by rw [← hw2]; exact Arr.new w1 _ _
  have hb2 : Below w.heap.size w w2 := by rw [← hw2]; exact hb1.alloc hb1.size _
  have hs1 := hb1.size
  have hob : outB le (begS heap sd f0) = false := by
   unfold outB
   rw [if_pos (show (begS heap sd f0).br = 0 from rfl)]
   refine decide_eq_false fun h => ?_
   exact hz (by have h9 : ((0 : Nat) : Int) = secN le := h; omega)
  refine ⟨⟨⟨f0, [], ⟨?_, Row.nil _ _ _, Own8.nil _ _, hh, hhb⟩, fun _ => ⟨rfl, rfl⟩⟩⟩, by omega, by rw [← hS]; exact hb2⟩
  rw [hob]
  exact hA2)
 obtain ⟨RV, hRV⟩ : ∃ RV, refV hs (f0 : Int) le = RV := ⟨_, rfl⟩
 rw [hRV] at hw1 hrg hiR HBD ⊢
 obtain ⟨GV, hGV⟩ : ∃ GV, go0 hs (f0 : Int) le heap sd f0 = GV := ⟨_, rfl⟩
 rw [hGV] at HBD HBX HFIN
 have HW1 := hide hw1
 have HS := hide hS
 have h1n : ¬ (heap : Int) < 1 := by omega
 have h2n : ¬ (sd : Int) < (heap : Int) := by omega
 have hzb : (secN le == 0) = false := by simpa using hz
 have h3n : ¬ (f0 : Int) < (heap : Int) := by omega
 have h4n : ¬ (sd : Int) ≤ (f0 : Int) := by omega
 have h5 : f0 < sd := hf.2
 have h6 : heap ≤ f0 := hf.1
 rw [hS]
 clear hw1 hb1 hA1 hRV hGV hhb hz hf hh hS
 go_enter Tryz.func78, Tryz.ntmps78
 go_wp2_with (rw [HW1.out, HS.out])
 refine (refSectors_calls le _).mono ?_
 rintro e wn ⟨rfl, hwn⟩
 obtain rfl := hwn.symm
 clear hwn
 go_wp2_with (first
  | refine wpList_load_mid rfl 38 (.tmp 5) rfl S 0 rfl RV _ hrg Tryz.underlying38 rfl hiR ?_
  | refine wpList_buildGo rfl (.tmp 29) (.tmp 30) (.tmp 31) (.tmp 33) rfl (vx := .agg RV.toArray) (vy := .int .i64 (heap : Int)) (vz := .int .i64 (sd : Int)) (vu := .int .i64 (f0 : Int)) (r := .agg GV.toArray) rfl rfl rfl rfl (fun W => unhide HBD W) ?_
  | refine wpList_boxGo rfl (.tmp 34) rfl (v := .agg GV.toArray) rfl (unhide HBX _) ?_)
 go_ret2
 obtain ⟨q1, q2, q3⟩ := unhide HFIN _ rfl
 exact ⟨_, rfl, q1, q2, q3⟩
end
end Go.Proofs.YtdalbalphagmfaaGreatDoor

namespace Go.Proofs.YtdalbalphagmfaaGreatDoor
open Go.RowKit Go.Maps

theorem rbegin_enter6 (v u z : Value) (W : World) : (callFunc 78 #[v, u, z]).run Tryz.prog W = .ok (.enter 78 #[v, u, z]) W := by kernel_rfl
theorem newReader_enter6 (v u z : Value) (W : World) : (callFunc 69 #[v, u, z]).run Tryz.prog W = .ok (.enter 69 #[v, u, z]) W := by kernel_rfl
/-- When is a reading refused, and how? -/
def RefE (heap : Int) (sd : Nat) (fi le f : Int) : Prop := (f = 1 ∧ (heap < 1 ∨ (sd : Int) < heap)) ∨ (f = 2 ∧ 1 ≤ heap ∧ heap ≤ (sd : Int) ∧ secN le = 0) ∨ (f = 61 ∧ 1 ≤ heap ∧ heap ≤ (sd : Int) ∧ secN le ≠ 0 ∧ (fi < heap ∨ (sd : Int) ≤ fi))
section
variable {w : World} {gx ga ca n p gl gm g gr B0 : Nat} {us : List Value} {ims : List (List Int)} {V : Nat → Value} {D : AD} {hs : List Int} {fi le : Int}
theorem newReader_no {heap f : Int} (hD : Dk w p gl gm V D) (hn : D.la.length = n) (hh : hs.length = 32) (hf : RefE heap n fi le f) : Calls Tryz.prog 69 #[.pointer (some ⟨p, 0, none⟩), .int .i64 heap, .agg (refV hs fi le).toArray] w fun e w' => e = .returned (.tuple #[.pointer none, .int .i64 f]) ∧ Below w.heap.size w w' := by
 rcases hf with ⟨rfl, hf⟩ | ⟨rfl, h1, h2, hz⟩ | ⟨rfl, h1, h2, hz, hf⟩
 · exact newReader_arg hD heap hs fi le (by rw [hn]; exact hf)
 · obtain ⟨k, rfl⟩ : ∃ k : Nat, heap = (k : Int) := ⟨heap.toNat, by omega⟩
   exact newReader_long hD hh fi le (by omega) (by omega) hz
 · obtain ⟨k, rfl⟩ : ∃ k : Nat, heap = (k : Int) := ⟨heap.toNat, by omega⟩
   by_cases e : k = D.la.length
   · exact newReader_none hD hh fi le (by omega) e hz
   · exact newReader_first hD hh fi le (by omega) (by omega) hz (by omega)
set_option maxRecDepth 100000 in
set_option maxHeartbeats 8000000 in
/-- A reading that is refused. -/
theorem open_no {heap f : Int} (hC : Bc w gx ga ca n us ims p gl gm V D g gr B0) (hh : hs.length = 32) (hf : RefE heap n fi le f) (hw0 : 0 ≤ D.wt) (hw1 : D.wt ≤ 1000000000) (hr0 : 0 ≤ D.rd) (hr1 : D.rd ≤ 1000000000) :
 Calls Tryz.prog 42 #[.pointer (some ⟨gx, 0, none⟩), .int .i64 heap, .agg (refV hs fi le).toArray] w fun e w' => e = .returned (.tuple #[.pointer none, .bool true]) ∧ Below w.heap.size w w' := by
 obtain ⟨rd, hrd⟩ : ∃ rd, D.rd = rd := ⟨_, rfl⟩
 obtain ⟨wt, hwt⟩ : ∃ wt, D.wt = wt := ⟨_, rfl⟩
 obtain ⟨fl, hfl⟩ : ∃ fl, D.fl = fl := ⟨_, rfl⟩
 have hblk := hC.dk.blk
 rw [hrd, hwt, hfl] at hblk
 obtain ⟨S, hS⟩ : ∃ S, w.heap.size = S := ⟨_, rfl⟩
 obtain ⟨w1, hw1'⟩ : ∃ w1, w.alloc (.cells (refV hs fi le).toArray 38) = w1 := ⟨_, rfl⟩
 have hb1 : Below w.heap.size w w1 := by rw [← hw1']; exact (Below.refl _ _).alloc (Nat.le_refl _) _
 have hA1 : Arr w1 S 38 (refV hs fi le) := by rw [← hw1', ← hS]; exact Arr.new w _ _
 obtain ⟨RV, hRV⟩ : ∃ RV, refV hs fi le = RV := ⟨_, rfl⟩
 have hiR : (Tryz.prog.info? 38).map (·.size) = some RV.length := by rw [← hRV]; exact infoRef hh _ _
 rw [hRV] at hA1 hw1'
 have HST : Hid (∀ W, Below w1.heap.size w1 W → W.cell? ⟨gx, 0, none⟩ = some (.pointer (some ⟨p, 0, none⟩)) ∧ W.cell? ⟨gx, 2, none⟩ = some (.slice (some ⟨ga, 0, none⟩) n ca) ∧ W.rangeAt S 0 RV) := hide (fun W hW => by
  have hb := hb1.trans (hW.mono hb1.size)
  have hA := hC.arr.below hb
  exact ⟨arr_cell hA rfl, arr_cell hA rfl, arr_range (ds := []) (by rw [List.append_nil]; exact hA1.below hW)⟩)
 have HPC : Hid (∀ W, Below w.heap.size w W → W.cell? ⟨p, 2, none⟩ = some (.int .i64 rd) ∧ W.cell? ⟨p, 3, none⟩ = some (.int .i64 wt) ∧ W.cell? ⟨p, 4, none⟩ = some (.int .i64 fl)) := hide (fun W hW => by
  have hB := hblk.below hW
  exact ⟨arr_cell hB rfl, arr_cell hB rfl, arr_cell hB rfl⟩)
 have HAC : Hid (∀ W, Below w.heap.size w W → Calls Tryz.prog 25 #[.pointer (some ⟨p, 0, none⟩)] W fun e w' => e = .returned (.agg #[.int .i64 rd, .int .i64 wt, .int .i64 fl]) ∧ Below W.heap.size W w') := hide (fun W hW => by
  obtain ⟨q1, q2, q3⟩ := unhide HPC W hW
  exact acts_calls q1 q2 q3)
 have HWR : Hid (IntKind.i64.wrap (rd + 0) = rd ∧ IntKind.i64.wrap (wt + 0) = wt) := hide ⟨by rw [IntKind.wrap_i64]; omega, by rw [IntKind.wrap_i64]; omega⟩
 have HBG : Hid (∀ W, Calls Tryz.prog 78 #[.int .i64 heap, .int .i64 (n : Int), .agg RV.toArray] W fun e w' => e = .returned (.tuple #[.pointer none, .int .i64 f]) ∧ Below W.heap.size W w') := hide (fun W => by rw [← hRV]; exact rbegin_no hh f hf)
 have HNR : Hid (∀ W, Below w.heap.size w W → Calls Tryz.prog 69 #[.pointer (some ⟨p, 0, none⟩), .int .i64 heap, .agg RV.toArray] W fun e w' => e = .returned (.tuple #[.pointer none, .int .i64 f]) ∧ Below W.heap.size W w') := hide (fun W hW => by rw [← hRV]; exact newReader_no (hC.dk.below hW) hC.dn hh hf)
 rw [hRV]
 have HW1 := hide hw1'
 have HS := hide hS
 have HB1 := hide hb1
 clear hC hh hw0 hw1 hr0 hr1 hblk hrd hwt hfl hw1' hS hb1 hA1 hRV
 clear hf
 go_enter Tryz.func42, Tryz.ntmps42
 go_wp2_with (rw [HW1.out, HS.out])
 have hz0 : Below w1.heap.size w1 w1.drew := (Below.refl _ _).drew
 refine wp_region_held_drew (S := fun W => W.cell? ⟨gx, 0, none⟩ = some (.pointer (some ⟨p, 0, none⟩)) ∧ W.cell? ⟨gx, 2, none⟩ = some (.slice (some ⟨ga, 0, none⟩) n ca) ∧ W.rangeAt S 0 RV) (by kernel_rfl) (unhide HST _ hz0) (fun hHeld => ?_)
 refine wpAnyH_take (i := 0) (v := .int .i64 heap) rfl (by kernel_rfl) (by kernel_rfl) (by kernel_rfl) (fun _ _ _ h => h) (Or.inl ⟨by rfl, fun w hSw => by obtain ⟨hS1, hS2, hS3⟩ := hSw; go_simp⟩) (by assumption) ?_
 simp only [fGa, fGz, Act.put, fSa, fSz, fSs]
 refine wpAnyH_take (i := 1) (v := .pointer (some ⟨gx, 0, none⟩)) rfl (by kernel_rfl) (by kernel_rfl) (by kernel_rfl) (fun _ _ _ h => h) (Or.inl ⟨by rfl, fun w hSw => by obtain ⟨hS1, hS2, hS3⟩ := hSw; go_simp⟩) (by assumption) ?_
 simp only [fGa, fGs, fGz, Act.put, fSa, fSz, fSs]
 refine wpAnyH_take (i := 2) (v := .pointer (some ⟨gx, 0, none⟩)) rfl (by kernel_rfl) (by kernel_rfl) (by kernel_rfl) (fun _ _ _ h => h) (Or.inl ⟨by rfl, fun w hSw => by obtain ⟨hS1, hS2, hS3⟩ := hSw; go_simp⟩) (by assumption) ?_
 simp only [fGa, fGs, fGz, Act.put, fSa, fSz, fSs]
 refine wpAnyH_take (i := 3) (v := .pointer (some ⟨gx, 2, none⟩)) rfl (by kernel_rfl) (by kernel_rfl) (by kernel_rfl) (fun _ _ _ h => h) (Or.inl ⟨by rfl, fun w hSw => by obtain ⟨hS1, hS2, hS3⟩ := hSw; go_simp⟩) (by assumption) ?_
 simp only [fGa, fGs, fGz, Act.put, fSa, fSz, fSs]
 refine wpAnyH_take (i := 4) (v := .slice (some ⟨ga, 0, none⟩) n ca) rfl (by kernel_rfl) (by kernel_rfl) (by kernel_rfl) (fun _ _ _ h => h) (Or.inl ⟨by rfl, fun w hSw => by obtain ⟨hS1, hS2, hS3⟩ := hSw; go_simp⟩) (by assumption) ?_
 simp only [fGa, fGs, fGz, Act.put, fSa, fSz, fSs]
 refine wpAnyH_take (i := 5) (v := .int .i64 (n : Int)) rfl (by kernel_rfl) (by kernel_rfl) (by kernel_rfl) (fun _ _ _ h => h) (Or.inl ⟨by rfl, fun w hSw => by obtain ⟨hS1, hS2, hS3⟩ := hSw; go_simp⟩) (by assumption) ?_
 simp only [fGa, fGs, fGz, Act.put, fSa, fSz, fSs]
 refine wpAnyH_take (i := 6) (v := .agg (RV).toArray) rfl (by kernel_rfl) (by kernel_rfl) (by kernel_rfl) (fun _ _ _ h => h) (yieldsIf_load_mid (by rfl) _ _ rfl _ _ rfl _ _ (fun w hSw => hSw.2.2) Tryz.underlying38 rfl hiR) (by assumption) ?_
 simp only [fGa, fGs, fGz, Act.put, fSa, fSz, fSs]
 refine wpAnyH_ready (rs := [7]) (by kernel_rfl) (by simp) (AllReadyH.cons rfl (fun K hK => ?_) AllReadyH.nil)
 refine step_call3C (by rfl) 78 rbegin_enter6 (.tmp 15) (.tmp 20) (.tmp 21) _ rfl rfl rfl rfl (unhide HBG _) ?_
 rintro e w2 ⟨rfl, hb2⟩
 have hz1 : Below w1.heap.size w1 w2 := hz0.trans (hb2.mono hz0.size)
 refine ⟨_, rfl, ?_⟩
 refine hK.out _ _ (unhide HST _ hz1) (fun hJ1 => ?_)
 clear hK K
 simp only [fGa, fGs, fGz, Act.put, fSa, fSz, fSs]
 refine wpAnyH_take (i := 8) (v := .tuple #[.pointer none, .int .i64 f]) rfl (by kernel_rfl) (by kernel_rfl) (by kernel_rfl) (fun _ _ _ h => h) (Or.inl ⟨by rfl, fun w hSw => by obtain ⟨hS1, hS2, hS3⟩ := hSw; go_simp⟩) (by assumption) ?_
 simp only [fGa, fGs, fGz, Act.put, fSa, fSz, fSs]
 refine wpAnyH_take (i := 9) (v := .pointer none) rfl (by kernel_rfl) (by kernel_rfl) (by kernel_rfl) (fun _ _ _ h => h) (Or.inl ⟨by rfl, fun w hSw => by obtain ⟨hS1, hS2, hS3⟩ := hSw; go_simp⟩) (by assumption) ?_
 simp only [fGa, fGs, fGz, Act.put, fSa, fSz, fSs]
 refine wpAnyH_take (i := 10) (v := .int .i64 f) rfl (by kernel_rfl) (by kernel_rfl) (by kernel_rfl) (fun _ _ _ h => h) (Or.inl ⟨by rfl, fun w hSw => by obtain ⟨hS1, hS2, hS3⟩ := hSw; go_simp⟩) (by assumption) ?_
 simp only [fGa, fGs, fGz, Act.put, fSa, fSz, fSs]
 refine wpAnyH_take (i := 11) (v := .pointer none) rfl (by kernel_rfl) (by kernel_rfl) (by kernel_rfl) (fun _ _ _ h => h) (Or.inl ⟨by rfl, fun w hSw => by obtain ⟨hS1, hS2, hS3⟩ := hSw; go_simp⟩) (by assumption) ?_
 simp only [fGa, fGs, fGz, Act.put, fSa, fSz, fSs]
 refine wpAnyH_take (i := 12) (v := .int .i64 f) rfl (by kernel_rfl) (by kernel_rfl) (by kernel_rfl) (fun _ _ _ h => h) (Or.inl ⟨by rfl, fun w hSw => by obtain ⟨hS1, hS2, hS3⟩ := hSw; go_simp⟩) (by assumption) ?_
 simp only [fGa, fGs, fGz, Act.put, fSa, fSz, fSs]
 refine wpAnyH_done (by kernel_rfl) ?_ _
 have hb02 : Below w.heap.size w w2 := HB1.out.trans (hz1.mono HB1.out.size)
 have HAC2 := hide (unhide HAC w2 hb02)
 have hx20 := (unhide HST w2 hz1).1
 have HZ1 := hide hz1
 have HB02 := hide hb02
 have HU2 := hide hb2
 clear HAC hb02 hz1 hz0 hb2 hHeld hJ1 HBG
 go_wp2_with fail
 refine (unhide HAC2).mono ?_
 rintro e w2a ⟨rfl, hb2a⟩
 obtain ⟨gA, hgA⟩ : ∃ gA, w2a.heap.size = gA := ⟨_, rfl⟩
 have hA3 := Arr.new w2a [.int .i64 0, .int .i64 0, .int .i64 0] 80
 rw [hgA] at hA3
 have hiA : (Tryz.prog.info? 80).map (·.size) = some [Value.int .i64 rd, .int .i64 wt, .int .i64 fl].length := by kernel_rfl
 have h1A : ∀ u ∈ [Value.int .i64 rd, .int .i64 wt, .int .i64 fl], u.oneCell' = true := by simp [Value.oneCell']
 have HB3 : Hid (∀ w3, Wrote (w2a.alloc (.cells #[.int .i64 0, .int .i64 0, .int .i64 0] 80)) w3 gA → Below w2.heap.size w2 w3) := hide (fun w3 hW3 => hW3.below _ _ (hb2a.alloc hb2a.size _) (by rw [← hgA]; exact hb2a.size))
 have HGA := hide hgA
 clear HAC2 hb2a hgA hx20
 go_wp2_with (first
  | (refine wpList_storeArr2 (cs' := [Value.int .i64 rd, .int .i64 wt, .int .i64 fl]) rfl (.tmp 10) (.tmp 29) 80 rfl rfl rfl hA3 hiA rfl h1A ?_; intro w3 hAc3 hWr3
     have HAC3 := hide hAc3
     have HBB3 := hide (unhide HB3 w3 hWr3)
     clear hAc3 hWr3 hA3)
  | rw [HGA.out])
 have hy0 : Below w3.heap.size w3 w3.drew := (Below.refl _ _).drew
 have hb03 : Below w.heap.size w w3 := HB02.out.trans (HBB3.out.mono HB02.out.size)
 have hz3 : Below w1.heap.size w1 w3 := HZ1.out.trans (HBB3.out.mono HZ1.out.size)
 have HB03 := hide hb03
 have HST3 : Hid (∀ W, Below w3.heap.size w3 W → W.cell? ⟨gx, 0, none⟩ = some (.pointer (some ⟨p, 0, none⟩)) ∧ W.cell? ⟨gx, 2, none⟩ = some (.slice (some ⟨ga, 0, none⟩) n ca) ∧ W.rangeAt S 0 RV) := hide (fun W hW => unhide HST W (hz3.trans (hW.mono hz3.size)))
 have HNR3 := hide (unhide HNR w3.drew (hb03.trans (hy0.mono hb03.size)))
 clear HNR hb03 hz3 HST HB3
 refine wp_region_held_drew (S := fun W => W.cell? ⟨gx, 0, none⟩ = some (.pointer (some ⟨p, 0, none⟩)) ∧ W.cell? ⟨gx, 2, none⟩ = some (.slice (some ⟨ga, 0, none⟩) n ca) ∧ W.rangeAt S 0 RV) (by kernel_rfl) (unhide HST3 _ hy0) (fun hHeld => ?_)
 refine wpAnyH_take (i := 0) (v := .pointer (some ⟨gx, 0, none⟩)) rfl (by kernel_rfl) (by kernel_rfl) (by kernel_rfl) (fun _ _ _ h => h) (Or.inl ⟨by rfl, fun w hSw => by obtain ⟨hS1, hS2, hS3⟩ := hSw; go_simp⟩) (by assumption) ?_
 simp only [fGa, fGz, Act.put, fSa, fSz, fSs]
 refine wpAnyH_take (i := 1) (v := .pointer (some ⟨gx, 0, none⟩)) rfl (by kernel_rfl) (by kernel_rfl) (by kernel_rfl) (fun _ _ _ h => h) (Or.inl ⟨by rfl, fun w hSw => by obtain ⟨hS1, hS2, hS3⟩ := hSw; go_simp⟩) (by assumption) ?_
 simp only [fGa, fGs, fGz, Act.put, fSa, fSz, fSs]
 refine wpAnyH_take (i := 2) (v := .pointer (some ⟨gx, 0, none⟩)) rfl (by kernel_rfl) (by kernel_rfl) (by kernel_rfl) (fun _ _ _ h => h) (Or.inl ⟨by rfl, fun w hSw => by obtain ⟨hS1, hS2, hS3⟩ := hSw; go_simp⟩) (by assumption) ?_
 simp only [fGa, fGs, fGz, Act.put, fSa, fSz, fSs]
 refine wpAnyH_take (i := 3) (v := .pointer (some ⟨p, 0, none⟩)) rfl (by kernel_rfl) (by kernel_rfl) (by kernel_rfl) (fun _ _ _ h => h) (Or.inl ⟨by rfl, fun w hSw => by obtain ⟨hS1, hS2, hS3⟩ := hSw; go_simp⟩) (by assumption) ?_
 simp only [fGa, fGs, fGz, Act.put, fSa, fSz, fSs]
 refine wpAnyH_take (i := 4) (v := .int .i64 heap) rfl (by kernel_rfl) (by kernel_rfl) (by kernel_rfl) (fun _ _ _ h => h) (Or.inl ⟨by rfl, fun w hSw => by obtain ⟨hS1, hS2, hS3⟩ := hSw; go_simp⟩) (by assumption) ?_
 simp only [fGa, fGs, fGz, Act.put, fSa, fSz, fSs]
 refine wpAnyH_take (i := 5) (v := .agg (RV).toArray) rfl (by kernel_rfl) (by kernel_rfl) (by kernel_rfl) (fun _ _ _ h => h) (yieldsIf_load_mid (by rfl) _ _ rfl _ _ rfl _ _ (fun w hSw => hSw.2.2) Tryz.underlying38 rfl hiR) (by assumption) ?_
 simp only [fGa, fGs, fGz, Act.put, fSa, fSz, fSs]
 refine wpAnyH_ready (rs := [6]) (by kernel_rfl) (by simp) (AllReadyH.cons rfl (fun K hK => ?_) AllReadyH.nil)
 refine step_call3C (by rfl) 69 newReader_enter6 (.tmp 34) (.tmp 35) (.tmp 36) _ rfl rfl rfl rfl (unhide HNR3) ?_
 rintro e w4 ⟨rfl, hb4⟩
 have hy1 : Below w3.heap.size w3 w4 := hy0.trans (hb4.mono hy0.size)
 refine ⟨_, rfl, ?_⟩
 refine hK.out _ _ (unhide HST3 _ hy1) (fun hJ2 => ?_)
 clear hK K
 simp only [fGa, fGs, fGz, Act.put, fSa, fSz, fSs]
 refine wpAnyH_take (i := 7) (v := .tuple #[.pointer none, .int .i64 f]) rfl (by kernel_rfl) (by kernel_rfl) (by kernel_rfl) (fun _ _ _ h => h) (Or.inl ⟨by rfl, fun w hSw => by obtain ⟨hS1, hS2, hS3⟩ := hSw; go_simp⟩) (by assumption) ?_
 simp only [fGa, fGs, fGz, Act.put, fSa, fSz, fSs]
 refine wpAnyH_take (i := 8) (v := .pointer none) rfl (by kernel_rfl) (by kernel_rfl) (by kernel_rfl) (fun _ _ _ h => h) (Or.inl ⟨by rfl, fun w hSw => by obtain ⟨hS1, hS2, hS3⟩ := hSw; go_simp⟩) (by assumption) ?_
 simp only [fGa, fGs, fGz, Act.put, fSa, fSz, fSs]
 refine wpAnyH_take (i := 9) (v := .int .i64 f) rfl (by kernel_rfl) (by kernel_rfl) (by kernel_rfl) (fun _ _ _ h => h) (Or.inl ⟨by rfl, fun w hSw => by obtain ⟨hS1, hS2, hS3⟩ := hSw; go_simp⟩) (by assumption) ?_
 simp only [fGa, fGs, fGz, Act.put, fSa, fSz, fSs]
 refine wpAnyH_take (i := 10) (v := .pointer none) rfl (by kernel_rfl) (by kernel_rfl) (by kernel_rfl) (fun _ _ _ h => h) (Or.inl ⟨by rfl, fun w hSw => by obtain ⟨hS1, hS2, hS3⟩ := hSw; go_simp⟩) (by assumption) ?_
 simp only [fGa, fGs, fGz, Act.put, fSa, fSz, fSs]
 refine wpAnyH_take (i := 11) (v := .int .i64 f) rfl (by kernel_rfl) (by kernel_rfl) (by kernel_rfl) (fun _ _ _ h => h) (Or.inl ⟨by rfl, fun w hSw => by obtain ⟨hS1, hS2, hS3⟩ := hSw; go_simp⟩) (by assumption) ?_
 simp only [fGa, fGs, fGz, Act.put, fSa, fSz, fSs]
 refine wpAnyH_done (by kernel_rfl) ?_ _
 have hb04 : Below w.heap.size w w4 := HB03.out.trans (hy1.mono HB03.out.size)
 obtain ⟨q1, q2, q3⟩ := unhide HPC w4 hb04
 have HA4 : Hid (Calls Tryz.prog 28 #[.pointer (some ⟨gx, 0, none⟩), .agg [Value.int .i64 rd, .int .i64 wt, .int .i64 fl].toArray, .int .i64 0, .int .i64 0] w4 (fun e w' => e = .returned (.bool true) ∧ Below w4.heap.size w4 w')) := hide (bacts_calls (unhide HST3 _ hy1).1 q1 q2 q3 HWR.out.1 HWR.out.2)
 have hrA : w4.rangeAt gA 0 [Value.int .i64 rd, .int .i64 wt, .int .i64 fl] := arr_range (ds := []) (by rw [List.append_nil]; exact HAC3.out.below hy1)
 have HY1 := hide hy1
 have HB04 := hide hb04
 have HB4 := hide hb4
 clear hb04 hy1 q1 q2 q3 HST3 HNR3 hy0 hHeld hJ2 hb4
 go_wp2_with fail
 refine (num6_calls f _).mono ?_
 rintro e wn ⟨rfl, hwn⟩
 obtain rfl := hwn.symm
 clear hwn
 go_wp2_with (refine wpList_load6On rfl 80 (.tmp 10) rfl gA 0 rfl [Value.int .i64 rd, .int .i64 wt, .int .i64 fl] _ hrA Tryz.underlying80 rfl hiA ?_)
 refine (unhide HA4).mono ?_
 rintro e w5 ⟨rfl, hb5⟩
 have HB5 := hide hb5
 have HB05 := hide (HB04.out.trans (hb5.mono HB04.out.size))
 clear HA4 hb5 hrA
 go_wp2
 go_ret2
 exact ⟨rfl, HB05.out⟩
set_option maxRecDepth 100000 in
set_option maxHeartbeats 8000000 in
/-- A reading that is begun. -/
theorem open_yes {heap f0 : Nat} (hC : Bc w gx ga ca n us ims p gl gm V D g gr B0) (hh : hs.length = 32) (hhb : ∀ x ∈ hs, 0 ≤ x ∧ x ≤ 255) (h1 : 1 ≤ heap) (hz : secN le ≠ 0) (hf : heap ≤ f0 ∧ f0 < n) (hw0 : 0 ≤ D.wt) (hw1 : D.wt ≤ 1000000000) (hr0 : 0 ≤ D.rd) (hr1 : D.rd ≤ 1000000000) :
 Calls Tryz.prog 42 #[.pointer (some ⟨gx, 0, none⟩), .int .i64 (heap : Int), .agg (refV hs (f0 : Int) le).toArray] w fun e w' => ∃ gy B pr up ug B2 gq, e = .returned (.tuple #[.pointer (some ⟨gy, 0, none⟩), .bool true]) ∧ Ey w' gy B p pr up ug B2 gq hs (f0 : Int) le heap n (begS heap n f0) (.slice none 0 0) (.slice none 0 0) (.slice none 0 0) (.slice none 0 0) ∧ (w.heap.size ≤ gy ∧ w.heap.size ≤ pr ∧ w.heap.size ≤ up ∧ w.heap.size ≤ ug ∧ w.heap.size ≤ gq ∧ B ≤ w'.heap.size ∧ B2 ≤ w'.heap.size ∧ gy ≠ gq) ∧ Below w.heap.size w w' := by
 obtain ⟨rd, hrd⟩ : ∃ rd, D.rd = rd := ⟨_, rfl⟩
 obtain ⟨wt, hwt⟩ : ∃ wt, D.wt = wt := ⟨_, rfl⟩
 obtain ⟨fl, hfl⟩ : ∃ fl, D.fl = fl := ⟨_, rfl⟩
 have hblk := hC.dk.blk
 rw [hrd, hwt, hfl] at hblk
 obtain ⟨S, hS⟩ : ∃ S, w.heap.size = S := ⟨_, rfl⟩
 obtain ⟨w1, hw1'⟩ : ∃ w1, w.alloc (.cells (refV hs (f0 : Int) le).toArray 38) = w1 := ⟨_, rfl⟩
 have hb1 : Below w.heap.size w w1 := by rw [← hw1']; exact (Below.refl _ _).alloc (Nat.le_refl _) _
 have hA1 : Arr w1 S 38 (refV hs (f0 : Int) le) := by rw [← hw1', ← hS]; exact Arr.new w _ _
 obtain ⟨RV, hRV⟩ : ∃ RV, refV hs (f0 : Int) le = RV := ⟨_, rfl⟩
 have hiR : (Tryz.prog.info? 38).map (·.size) = some RV.length := by rw [← hRV]; exact infoRef hh _ _
 rw [hRV] at hA1 hw1'
 have HST : Hid (∀ W, Below w1.heap.size w1 W → W.cell? ⟨gx, 0, none⟩ = some (.pointer (some ⟨p, 0, none⟩)) ∧ W.cell? ⟨gx, 2, none⟩ = some (.slice (some ⟨ga, 0, none⟩) n ca) ∧ W.rangeAt S 0 RV) := hide (fun W hW => by
  have hb := hb1.trans (hW.mono hb1.size)
  have hA := hC.arr.below hb
  exact ⟨arr_cell hA rfl, arr_cell hA rfl, arr_range (ds := []) (by rw [List.append_nil]; exact hA1.below hW)⟩)
 have HPC : Hid (∀ W, Below w.heap.size w W → W.cell? ⟨p, 2, none⟩ = some (.int .i64 rd) ∧ W.cell? ⟨p, 3, none⟩ = some (.int .i64 wt) ∧ W.cell? ⟨p, 4, none⟩ = some (.int .i64 fl)) := hide (fun W hW => by
  have hB := hblk.below hW
  exact ⟨arr_cell hB rfl, arr_cell hB rfl, arr_cell hB rfl⟩)
 have HAC : Hid (∀ W, Below w.heap.size w W → Calls Tryz.prog 25 #[.pointer (some ⟨p, 0, none⟩)] W fun e w' => e = .returned (.agg #[.int .i64 rd, .int .i64 wt, .int .i64 fl]) ∧ Below W.heap.size W w') := hide (fun W hW => by
  obtain ⟨q1, q2, q3⟩ := unhide HPC W hW
  exact acts_calls q1 q2 q3)
 have HWR : Hid (IntKind.i64.wrap (rd + 0) = rd ∧ IntKind.i64.wrap (wt + 0) = wt) := hide ⟨by rw [IntKind.wrap_i64]; omega, by rw [IntKind.wrap_i64]; omega⟩
 have HBG : Hid (∀ W, Calls Tryz.prog 78 #[.int .i64 (heap : Int), .int .i64 (n : Int), .agg RV.toArray] W fun e w' => ∃ gq, e = .returned (.tuple #[.pointer (some ⟨gq, 0, none⟩), .int .i64 0]) ∧ Hid (Gst w' W.heap.size gq hs (f0 : Int) le heap n (begS heap n f0) (.slice none 0 0) (.slice none 0 0) ∧ W.heap.size ≤ gq) ∧ Below W.heap.size W w') := hide (fun W => by
  rw [← hRV]
  refine (rbegin_yes hh hhb h1 (by omega) hz hf).mono ?_
  rintro e w' ⟨gq, q1, q2, q3, q4⟩
  exact ⟨gq, q1, hide ⟨q2, q3⟩, q4⟩)
 have HNR : Hid (∀ W, Below w.heap.size w W → Calls Tryz.prog 69 #[.pointer (some ⟨p, 0, none⟩), .int .i64 (heap : Int), .agg RV.toArray] W fun e w' => ∃ pr up ug, e = .returned (.tuple #[.pointer (some ⟨pr, 0, none⟩), .int .i64 0]) ∧ Hid (Rd w' W.heap.size p pr up ug hs (f0 : Int) le heap n (.slice none 0 0) (.slice none 0 0) (begS heap n f0) ∧ W.heap.size ≤ pr ∧ W.heap.size ≤ up ∧ W.heap.size ≤ ug) ∧ Below W.heap.size W w') := hide (fun W hW => by
  rw [← hRV]
  have h := newReader_good (hC.dk.below hW) hh hhb le h1 (by rw [hC.dn]; omega) hz (by rw [hC.dn]; exact hf)
  rw [hC.dn] at h
  refine h.mono ?_
  rintro e w' ⟨pr, up, ug, q1, q2, q3, q4, q5, q6⟩
  exact ⟨pr, up, ug, q1, hide ⟨q2, q3, q4, q5⟩, q6⟩)
 rw [hRV]
 have HW1 := hide hw1'
 have HS := hide hS
 have HB1 := hide hb1
 clear hC hh hw0 hw1 hr0 hr1 hblk hrd hwt hfl hw1' hS hb1 hA1 hRV
 clear hf hhb h1 hz
 go_enter Tryz.func42, Tryz.ntmps42
 go_wp2_with (rw [HW1.out, HS.out])
 have hz0 : Below w1.heap.size w1 w1.drew := (Below.refl _ _).drew
 refine wp_region_held_drew (S := fun W => W.cell? ⟨gx, 0, none⟩ = some (.pointer (some ⟨p, 0, none⟩)) ∧ W.cell? ⟨gx, 2, none⟩ = some (.slice (some ⟨ga, 0, none⟩) n ca) ∧ W.rangeAt S 0 RV) (by kernel_rfl) (unhide HST _ hz0) (fun hHeld => ?_)
 refine wpAnyH_take (i := 0) (v := .int .i64 (heap : Int)) rfl (by kernel_rfl) (by kernel_rfl) (by kernel_rfl) (fun _ _ _ h => h) (Or.inl ⟨by rfl, fun w hSw => by obtain ⟨hS1, hS2, hS3⟩ := hSw; go_simp⟩) (by assumption) ?_
 simp only [fGa, fGz, Act.put, fSa, fSz, fSs]
 refine wpAnyH_take (i := 1) (v := .pointer (some ⟨gx, 0, none⟩)) rfl (by kernel_rfl) (by kernel_rfl) (by kernel_rfl) (fun _ _ _ h => h) (Or.inl ⟨by rfl, fun w hSw => by obtain ⟨hS1, hS2, hS3⟩ := hSw; go_simp⟩) (by assumption) ?_
 simp only [fGa, fGs, fGz, Act.put, fSa, fSz, fSs]
 refine wpAnyH_take (i := 2) (v := .pointer (some ⟨gx, 0, none⟩)) rfl (by kernel_rfl) (by kernel_rfl) (by kernel_rfl) (fun _ _ _ h => h) (Or.inl ⟨by rfl, fun w hSw => by obtain ⟨hS1, hS2, hS3⟩ := hSw; go_simp⟩) (by assumption) ?_
 simp only [fGa, fGs, fGz, Act.put, fSa, fSz, fSs]
 refine wpAnyH_take (i := 3) (v := .pointer (some ⟨gx, 2, none⟩)) rfl (by kernel_rfl) (by kernel_rfl) (by kernel_rfl) (fun _ _ _ h => h) (Or.inl ⟨by rfl, fun w hSw => by obtain ⟨hS1, hS2, hS3⟩ := hSw; go_simp⟩) (by assumption) ?_
 simp only [fGa, fGs, fGz, Act.put, fSa, fSz, fSs]
 refine wpAnyH_take (i := 4) (v := .slice (some ⟨ga, 0, none⟩) n ca) rfl (by kernel_rfl) (by kernel_rfl) (by kernel_rfl) (fun _ _ _ h => h) (Or.inl ⟨by rfl, fun w hSw => by obtain ⟨hS1, hS2, hS3⟩ := hSw; go_simp⟩) (by assumption) ?_
 simp only [fGa, fGs, fGz, Act.put, fSa, fSz, fSs]
 refine wpAnyH_take (i := 5) (v := .int .i64 (n : Int)) rfl (by kernel_rfl) (by kernel_rfl) (by kernel_rfl) (fun _ _ _ h => h) (Or.inl ⟨by rfl, fun w hSw => by obtain ⟨hS1, hS2, hS3⟩ := hSw; go_simp⟩) (by assumption) ?_
 simp only [fGa, fGs, fGz, Act.put, fSa, fSz, fSs]
 refine wpAnyH_take (i := 6) (v := .agg (RV).toArray) rfl (by kernel_rfl) (by kernel_rfl) (by kernel_rfl) (fun _ _ _ h => h) (yieldsIf_load_mid (by rfl) _ _ rfl _ _ rfl _ _ (fun w hSw => hSw.2.2) Tryz.underlying38 rfl hiR) (by assumption) ?_
 simp only [fGa, fGs, fGz, Act.put, fSa, fSz, fSs]
 refine wpAnyH_ready (rs := [7]) (by kernel_rfl) (by simp) (AllReadyH.cons rfl (fun K hK => ?_) AllReadyH.nil)
 refine step_call3C (by rfl) 78 rbegin_enter6 (.tmp 15) (.tmp 20) (.tmp 21) _ rfl rfl rfl rfl (unhide HBG _) ?_
 rintro e w2 ⟨gq, rfl, HGS, hb2⟩
 have hz1 : Below w1.heap.size w1 w2 := hz0.trans (hb2.mono hz0.size)
 refine ⟨_, rfl, ?_⟩
 refine hK.out _ _ (unhide HST _ hz1) (fun hJ1 => ?_)
 clear hK K
 simp only [fGa, fGs, fGz, Act.put, fSa, fSz, fSs]
 refine wpAnyH_take (i := 8) (v := .tuple #[.pointer (some ⟨gq, 0, none⟩), .int .i64 0]) rfl (by kernel_rfl) (by kernel_rfl) (by kernel_rfl) (fun _ _ _ h => h) (Or.inl ⟨by rfl, fun w hSw => by obtain ⟨hS1, hS2, hS3⟩ := hSw; go_simp⟩) (by assumption) ?_
 simp only [fGa, fGs, fGz, Act.put, fSa, fSz, fSs]
 refine wpAnyH_take (i := 9) (v := .pointer (some ⟨gq, 0, none⟩)) rfl (by kernel_rfl) (by kernel_rfl) (by kernel_rfl) (fun _ _ _ h => h) (Or.inl ⟨by rfl, fun w hSw => by obtain ⟨hS1, hS2, hS3⟩ := hSw; go_simp⟩) (by assumption) ?_
 simp only [fGa, fGs, fGz, Act.put, fSa, fSz, fSs]
 refine wpAnyH_take (i := 10) (v := .int .i64 0) rfl (by kernel_rfl) (by kernel_rfl) (by kernel_rfl) (fun _ _ _ h => h) (Or.inl ⟨by rfl, fun w hSw => by obtain ⟨hS1, hS2, hS3⟩ := hSw; go_simp⟩) (by assumption) ?_
 simp only [fGa, fGs, fGz, Act.put, fSa, fSz, fSs]
 refine wpAnyH_take (i := 11) (v := .pointer (some ⟨gq, 0, none⟩)) rfl (by kernel_rfl) (by kernel_rfl) (by kernel_rfl) (fun _ _ _ h => h) (Or.inl ⟨by rfl, fun w hSw => by obtain ⟨hS1, hS2, hS3⟩ := hSw; go_simp⟩) (by assumption) ?_
 simp only [fGa, fGs, fGz, Act.put, fSa, fSz, fSs]
 refine wpAnyH_take (i := 12) (v := .int .i64 0) rfl (by kernel_rfl) (by kernel_rfl) (by kernel_rfl) (fun _ _ _ h => h) (Or.inl ⟨by rfl, fun w hSw => by obtain ⟨hS1, hS2, hS3⟩ := hSw; go_simp⟩) (by assumption) ?_
 simp only [fGa, fGs, fGz, Act.put, fSa, fSz, fSs]
 refine wpAnyH_done (by kernel_rfl) ?_ _
 have hb02 : Below w.heap.size w w2 := HB1.out.trans (hz1.mono HB1.out.size)
 have HAC2 := hide (unhide HAC w2 hb02)
 have hx20 := (unhide HST w2 hz1).1
 have HZ1 := hide hz1
 have HB02 := hide hb02
 have HGS2 := HGS
 clear HAC hb02 hz1 hz0 hb2 hHeld hJ1 HBG
 go_wp2_with fail
 refine (unhide HAC2).mono ?_
 rintro e w2a ⟨rfl, hb2a⟩
 obtain ⟨gA, hgA⟩ : ∃ gA, w2a.heap.size = gA := ⟨_, rfl⟩
 have hA3 := Arr.new w2a [.int .i64 0, .int .i64 0, .int .i64 0] 80
 rw [hgA] at hA3
 have hiA : (Tryz.prog.info? 80).map (·.size) = some [Value.int .i64 rd, .int .i64 wt, .int .i64 fl].length := by kernel_rfl
 have h1A : ∀ u ∈ [Value.int .i64 rd, .int .i64 wt, .int .i64 fl], u.oneCell' = true := by simp [Value.oneCell']
 have HB3 : Hid (∀ w3, Wrote (w2a.alloc (.cells #[.int .i64 0, .int .i64 0, .int .i64 0] 80)) w3 gA → Below w2.heap.size w2 w3) := hide (fun w3 hW3 => hW3.below _ _ (hb2a.alloc hb2a.size _) (by rw [← hgA]; exact hb2a.size))
 have HGA := hide hgA
 clear HAC2 hb2a hgA hx20
 go_wp2_with (first
  | (refine wpList_storeArr2 (cs' := [Value.int .i64 rd, .int .i64 wt, .int .i64 fl]) rfl (.tmp 10) (.tmp 29) 80 rfl rfl rfl hA3 hiA rfl h1A ?_; intro w3 hAc3 hWr3
     have HAC3 := hide hAc3
     have HBB3 := hide (unhide HB3 w3 hWr3)
     clear hAc3 hWr3 hA3)
  | rw [HGA.out])
 have hy0 : Below w3.heap.size w3 w3.drew := (Below.refl _ _).drew
 have hb03 : Below w.heap.size w w3 := HB02.out.trans (HBB3.out.mono HB02.out.size)
 have hz3 : Below w1.heap.size w1 w3 := HZ1.out.trans (HBB3.out.mono HZ1.out.size)
 have HB03 := hide hb03
 have HST3 : Hid (∀ W, Below w3.heap.size w3 W → W.cell? ⟨gx, 0, none⟩ = some (.pointer (some ⟨p, 0, none⟩)) ∧ W.cell? ⟨gx, 2, none⟩ = some (.slice (some ⟨ga, 0, none⟩) n ca) ∧ W.rangeAt S 0 RV) := hide (fun W hW => unhide HST W (hz3.trans (hW.mono hz3.size)))
 have HNR3 := hide (unhide HNR w3.drew (hb03.trans (hy0.mono hb03.size)))
 clear HNR hb03 hz3 HST HB3
 refine wp_region_held_drew (S := fun W => W.cell? ⟨gx, 0, none⟩ = some (.pointer (some ⟨p, 0, none⟩)) ∧ W.cell? ⟨gx, 2, none⟩ = some (.slice (some ⟨ga, 0, none⟩) n ca) ∧ W.rangeAt S 0 RV) (by kernel_rfl) (unhide HST3 _ hy0) (fun hHeld => ?_)
 refine wpAnyH_take (i := 0) (v := .pointer (some ⟨gx, 0, none⟩)) rfl (by kernel_rfl) (by kernel_rfl) (by kernel_rfl) (fun _ _ _ h => h) (Or.inl ⟨by rfl, fun w hSw => by obtain ⟨hS1, hS2, hS3⟩ := hSw; go_simp⟩) (by assumption) ?_
 simp only [fGa, fGz, Act.put, fSa, fSz, fSs]
 refine wpAnyH_take (i := 1) (v := .pointer (some ⟨gx, 0, none⟩)) rfl (by kernel_rfl) (by kernel_rfl) (by kernel_rfl) (fun _ _ _ h => h) (Or.inl ⟨by rfl, fun w hSw => by obtain ⟨hS1, hS2, hS3⟩ := hSw; go_simp⟩) (by assumption) ?_
 simp only [fGa, fGs, fGz, Act.put, fSa, fSz, fSs]
 refine wpAnyH_take (i := 2) (v := .pointer (some ⟨gx, 0, none⟩)) rfl (by kernel_rfl) (by kernel_rfl) (by kernel_rfl) (fun _ _ _ h => h) (Or.inl ⟨by rfl, fun w hSw => by obtain ⟨hS1, hS2, hS3⟩ := hSw; go_simp⟩) (by assumption) ?_
 simp only [fGa, fGs, fGz, Act.put, fSa, fSz, fSs]
 refine wpAnyH_take (i := 3) (v := .pointer (some ⟨p, 0, none⟩)) rfl (by kernel_rfl) (by kernel_rfl) (by kernel_rfl) (fun _ _ _ h => h) (Or.inl ⟨by rfl, fun w hSw => by obtain ⟨hS1, hS2, hS3⟩ := hSw; go_simp⟩) (by assumption) ?_
 simp only [fGa, fGs, fGz, Act.put, fSa, fSz, fSs]
 refine wpAnyH_take (i := 4) (v := .int .i64 (heap : Int)) rfl (by kernel_rfl) (by kernel_rfl) (by kernel_rfl) (fun _ _ _ h => h) (Or.inl ⟨by rfl, fun w hSw => by obtain ⟨hS1, hS2, hS3⟩ := hSw; go_simp⟩) (by assumption) ?_
 simp only [fGa, fGs, fGz, Act.put, fSa, fSz, fSs]
 refine wpAnyH_take (i := 5) (v := .agg (RV).toArray) rfl (by kernel_rfl) (by kernel_rfl) (by kernel_rfl) (fun _ _ _ h => h) (yieldsIf_load_mid (by rfl) _ _ rfl _ _ rfl _ _ (fun w hSw => hSw.2.2) Tryz.underlying38 rfl hiR) (by assumption) ?_
 simp only [fGa, fGs, fGz, Act.put, fSa, fSz, fSs]
 refine wpAnyH_ready (rs := [6]) (by kernel_rfl) (by simp) (AllReadyH.cons rfl (fun K hK => ?_) AllReadyH.nil)
 refine step_call3C (by rfl) 69 newReader_enter6 (.tmp 34) (.tmp 35) (.tmp 36) _ rfl rfl rfl rfl (unhide HNR3) ?_
 rintro e w4 ⟨pr, up, ug, rfl, HRD4, hb4⟩
 have hy1 : Below w3.heap.size w3 w4 := hy0.trans (hb4.mono hy0.size)
 refine ⟨_, rfl, ?_⟩
 refine hK.out _ _ (unhide HST3 _ hy1) (fun hJ2 => ?_)
 clear hK K
 simp only [fGa, fGs, fGz, Act.put, fSa, fSz, fSs]
 refine wpAnyH_take (i := 7) (v := .tuple #[.pointer (some ⟨pr, 0, none⟩), .int .i64 0]) rfl (by kernel_rfl) (by kernel_rfl) (by kernel_rfl) (fun _ _ _ h => h) (Or.inl ⟨by rfl, fun w hSw => by obtain ⟨hS1, hS2, hS3⟩ := hSw; go_simp⟩) (by assumption) ?_
 simp only [fGa, fGs, fGz, Act.put, fSa, fSz, fSs]
 refine wpAnyH_take (i := 8) (v := .pointer (some ⟨pr, 0, none⟩)) rfl (by kernel_rfl) (by kernel_rfl) (by kernel_rfl) (fun _ _ _ h => h) (Or.inl ⟨by rfl, fun w hSw => by obtain ⟨hS1, hS2, hS3⟩ := hSw; go_simp⟩) (by assumption) ?_
 simp only [fGa, fGs, fGz, Act.put, fSa, fSz, fSs]
 refine wpAnyH_take (i := 9) (v := .int .i64 0) rfl (by kernel_rfl) (by kernel_rfl) (by kernel_rfl) (fun _ _ _ h => h) (Or.inl ⟨by rfl, fun w hSw => by obtain ⟨hS1, hS2, hS3⟩ := hSw; go_simp⟩) (by assumption) ?_
 simp only [fGa, fGs, fGz, Act.put, fSa, fSz, fSs]
 refine wpAnyH_take (i := 10) (v := .pointer (some ⟨pr, 0, none⟩)) rfl (by kernel_rfl) (by kernel_rfl) (by kernel_rfl) (fun _ _ _ h => h) (Or.inl ⟨by rfl, fun w hSw => by obtain ⟨hS1, hS2, hS3⟩ := hSw; go_simp⟩) (by assumption) ?_
 simp only [fGa, fGs, fGz, Act.put, fSa, fSz, fSs]
 refine wpAnyH_take (i := 11) (v := .int .i64 0) rfl (by kernel_rfl) (by kernel_rfl) (by kernel_rfl) (fun _ _ _ h => h) (Or.inl ⟨by rfl, fun w hSw => by obtain ⟨hS1, hS2, hS3⟩ := hSw; go_simp⟩) (by assumption) ?_
 simp only [fGa, fGs, fGz, Act.put, fSa, fSz, fSs]
 refine wpAnyH_done (by kernel_rfl) ?_ _
 have hb04 : Below w.heap.size w w4 := HB03.out.trans (hy1.mono HB03.out.size)
 obtain ⟨q1, q2, q3⟩ := unhide HPC w4 hb04
 have HA4 : Hid (Calls Tryz.prog 28 #[.pointer (some ⟨gx, 0, none⟩), .agg [Value.int .i64 rd, .int .i64 wt, .int .i64 fl].toArray, .int .i64 0, .int .i64 0] w4 (fun e w' => e = .returned (.bool true) ∧ Below w4.heap.size w4 w')) := hide (bacts_calls (unhide HST3 _ hy1).1 q1 q2 q3 HWR.out.1 HWR.out.2)
 have hrA : w4.rangeAt gA 0 [Value.int .i64 rd, .int .i64 wt, .int .i64 fl] := arr_range (ds := []) (by rw [List.append_nil]; exact HAC3.out.below hy1)
 have HY1 := hide hy1
 have HB04 := hide hb04
 have HB4 := hide hb4
 clear hb04 hy1 q1 q2 q3 HST3 HNR3 hy0 hHeld hJ2 hb4
 go_wp2_with fail
 refine (num6_calls 0 _).mono ?_
 rintro e wn ⟨rfl, hwn⟩
 obtain rfl := hwn.symm
 clear hwn
 go_wp2_with (refine wpList_load6On rfl 80 (.tmp 10) rfl gA 0 rfl [Value.int .i64 rd, .int .i64 wt, .int .i64 fl] _ hrA Tryz.underlying80 rfl hiA ?_)
 refine (unhide HA4).mono ?_
 rintro e w5 ⟨rfl, hb5⟩
 have HB5 := hide hb5
 have HB05 := hide (HB04.out.trans (hb5.mono HB04.out.size))
 clear HA4 hb5 hrA
 have hRD5 := HRD4.out.1.below HB5.out
 have hb35 : Below w3.heap.size w3 w5 := HY1.out.trans (HB5.out.mono HY1.out.size)
 have hb25 : Below w2.heap.size w2 w5 := HBB3.out.trans (hb35.mono HBB3.out.size)
 have hGS5 := HGS2.out.1.below hb25
 obtain ⟨w6, hw6⟩ : ∃ w6, w5.alloc (.cells #[.pointer (some ⟨pr, 0, none⟩), .pointer (some ⟨gq, 0, none⟩)] 115) = w6 := ⟨_, rfl⟩
 obtain ⟨gy, hgy⟩ : ∃ gy, w5.heap.size = gy := ⟨_, rfl⟩
 have hb6 : Below w5.heap.size w5 w6 := by rw [← hw6]; exact (Below.refl _ _).alloc (Nat.le_refl _) _
 have hA6 : Arr w6 gy 115 [.pointer (some ⟨pr, 0, none⟩), .pointer (some ⟨gq, 0, none⟩)] := by rw [← hw6, ← hgy]; exact Arr.new w5 _ _
 have HEY : Hid (Ey w6 gy w3.drew.heap.size p pr up ug w1.drew.heap.size gq hs (f0 : Int) le heap n (begS heap n f0) (.slice none 0 0) (.slice none 0 0) (.slice none 0 0) (.slice none 0 0)) := hide ⟨hA6, hRD5.below hb6, hGS5.below hb6, fun _ => rfl, Nat.zero_le _, Nat.zero_le _, fun _ => rfl⟩
 have HEH := hide (eholds_calls HEY.out)
 have HW6 := hide hw6
 have HGY := hide hgy
 have HB6 := hide hb6
 clear hRD5 hb35 hb25 hGS5 hw6 hgy hb6 hA6
 go_wp2_with (rw [HW6.out, HGY.out])
 refine (unhide HEH).mono ?_
 rintro e w7 ⟨rfl, hb7⟩
 have HB7 := hide hb7
 clear HEH hb7
 go_wp2
 go_ret2
 refine ⟨gy, _, pr, up, ug, _, gq, rfl, HEY.out.below HB7.out, ?_, ?_⟩
 · have a1 := HB1.out.size
   have a2 := HZ1.out.size
   have a3 := HB03.out.size
   have a4 := HB05.out.size
   have a5 := HB5.out.size
   have a6 := HB6.out.size
   have a7 := HB7.out.size
   have a8 := HBB3.out.size
   have a9 := HY1.out.size
   obtain ⟨_, b1, b2, b3⟩ := HRD4.out
   obtain ⟨c0, c1⟩ := HGS2.out
   have d1 : w3.drew.heap.size = w3.heap.size := rfl
   have d2 : w1.drew.heap.size = w1.heap.size := rfl
   have d3 := HGY.out
   obtain ⟨_, _, hG, _⟩ := c0.ex
   have d4 := hG.arr.lt
   refine ⟨?_, ?_, ?_, ?_, ?_, ?_, ?_, ?_⟩ <;> omega
 · exact (HB05.out.trans (HB6.out.mono HB05.out.size)).trans (HB7.out.mono (Nat.le_trans HB05.out.size HB6.out.size))
end
end Go.Proofs.YtdalbalphagmfaaGreatDoor

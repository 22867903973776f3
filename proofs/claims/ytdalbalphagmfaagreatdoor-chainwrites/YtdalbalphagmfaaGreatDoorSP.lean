/- chain's statements: a writer that is made, and the document's. ChainWrites: a scene under a writer's Steps. ChainWrites: the walk. -/
import Derived.Test.YtdalbalphagmfaaGreatDoorSO
import Derived.Test.YtdalbalphagmfaaGreatDoorSQ
import Derived.Test.YtdalbalphagmfaaGreatDoorSK
import Derived.Test.YtdalbalphagmfaaGreatDoorRL
import Derived.Deep.DeepCutAuto
namespace Go.Proofs.YtdalbalphagmfaaGreatDoor
open Go.RowKit Go.Maps

def hand0 (pw gK k cK : Nat) : List Value := .pointer (some ⟨pw, 0, none⟩) :: .slice none 0 0 :: .slice (some ⟨gK, 0, none⟩) k cK :: (zRef ++ [.int .i64 0])
theorem buildHand_run (pw gK k cK : Nat) (W : World) : (Instr.build 40 #[(0, .pointer (some ⟨pw, 0, none⟩)), (2, .slice (some ⟨gK, 0, none⟩) k cK)]).run Tryz.prog W = .ok (.agg (hand0 pw gK k cK).toArray) W := by kernel_rfl
theorem boxHand_run (pw gK k cK : Nat) (W : World) : (Instr.box 40 (.agg (hand0 pw gK k cK).toArray)).run Tryz.prog W = .ok (.pointer (some ⟨W.heap.size, 0, none⟩)) (W.alloc (.cells (hand0 pw gK k cK).toArray 40)) := by kernel_rfl
section
variable {ops : Array Oper} {rest : List Oper} {o : Oper} {a : Act} {Q : Exit → Act → World → Prop} {w : World}
theorem wpList_buildHand (hgd : o.guard = none) (x y : Operand) (ho : o.op = .build 40 #[(0, x), (2, y)]) {pw gK k cK : Nat} (hx : a.eval x = .pointer (some ⟨pw, 0, none⟩)) (hy : a.eval y = .slice (some ⟨gK, 0, none⟩) k cK) (hk : wpList Tryz.prog ops Q rest (a.put o.dst (.agg (hand0 pw gK k cK).toArray)) w) : wpList Tryz.prog ops Q (o :: rest) a w := by
 refine wpList_plain hgd fun K hK => ?_
 unfold Oper.wp execOp
 simp only [ho, List.map_toArray, List.map_cons, List.map_nil, hx, hy, Sem.run_bind, buildHand_run, Result.andThen_ok, Sem.run_pure]
 exact hK _ _ hk
theorem wpList_boxHand (hgd : o.guard = none) (x : Operand) (ho : o.op = .box 40 x) {pw gK k cK : Nat} (hx : a.eval x = .agg (hand0 pw gK k cK).toArray) (hk : wpList Tryz.prog ops Q rest (a.put o.dst (.pointer (some ⟨w.heap.size, 0, none⟩))) (w.alloc (.cells (hand0 pw gK k cK).toArray 40))) : wpList Tryz.prog ops Q (o :: rest) a w := by
 refine wpList_plain hgd fun K hK => ?_
 unfold Oper.wp execOp
 simp only [ho, hx, Sem.run_bind, boxHand_run, Result.andThen_ok, Sem.run_pure]
 exact hK _ _ hk
theorem wpList_storePart (hgd : o.guard = none) (x y : Operand) (t : TypeId) (hd : o.dst = none) (ho : o.op = .store t x y) {g off : Nat} {t0 : TypeId} {cs : List Value} (cs' : List Value) (hx : a.eval x = .pointer (some ⟨g, off, none⟩)) (hy : a.eval y = .agg cs'.toArray) (h : Arr w g t0 cs) (hi : (Tryz.prog.info? t).map (·.size) = some cs'.length)
 (hf : off + cs'.length ≤ cs.length) (h1 : ∀ u ∈ cs', u.oneCell' = true) (hk : ∀ w', Arr w' g t0 (cs.take off ++ cs' ++ cs.drop (off + cs'.length)) → Wrote w w' g → wpList Tryz.prog ops Q rest a w') : wpList Tryz.prog ops Q (o :: rest) a w :=
 wpList_plain hgd fun _ hK => (wp_storePart x y t hd ho cs' hx hy h hi hf h1 (fun w' q1 q2 => hK _ _ (hk w' q1 q2))).out
end
theorem hand_done {pw gB k cB gK cK : Nat} {RV : List Value} (hl : RV.length = 34) : ((hand0 pw gK k cK).set 1 (.slice (some ⟨gB, 0, none⟩) k cB)).take 3 ++ RV ++ ((hand0 pw gK k cK).set 1 (.slice (some ⟨gB, 0, none⟩) k cB)).drop (3 + RV.length) = handV pw gB k cB gK cK RV 0 := by
 rw [hl]
 rfl
section
variable {w : World} {gx ga ca n p gl gm g gr B0 gw gb fr to_ m1 m2 bn c k : Nat} {us : List Value} {ims : List (List Int)} {V : Nat → Value} {D : AD} {ws ks : List Nat} {bl : List Bool} {a : Option Addr} {bs : List Int}
set_option maxRecDepth 100000 in
set_option maxHeartbeats 16000000 in
theorem begin_yes (hC : Bc w gx ga ca n us ims p gl gm V D g gr B0) (hS : Sp w m1 g gw fr to_ ws) (hR : Rs w m2 gr gb fr to_ bl) (hW : Tw fr to_ ws bl) (hb : IsB w (.slice a bn c) bs) (hbl : bn ≤ 1048576) (hk : secN (bn : Int) = (k : Int)) (hk1 : 1 ≤ k) (hk9 : k ≤ 2185) (hf : k ≤ freeN ws) (hks : ks = (allF fr 0 ws).take k) (hin : ∀ x ∈ ks, 1 ≤ x ∧ x < n) (hbg : 0 < bn → ∀ x, blkOf (.slice a bn c) = some x → x ≠ gw) (hgw : GB ≤ gw) (hgb : GB ≤ gb) (hbb : 0 < bn → ∀ x, blkOf (.slice a bn c) = some x → x ≠ gb) (hw0 : 0 ≤ D.wt) (hw1 : D.wt ≤ 1000000000) (hr0 : 0 ≤ D.rd) (hr1 : D.rd ≤ 1000000000) :
 Calls Tryz.prog 7 #[.pointer (some ⟨gx, 0, none⟩), .slice a bn c] w fun e w' => ∃ ph pw gn cn rv gB cB usB gK cK, e = .returned (.tuple #[.pointer (some ⟨ph, 0, none⟩), .bool true]) ∧ Bc w' gx ga ca n us ims p gl gm V D g gr B0 ∧ Sp w' m1 g gw fr to_ (claimAll fr to_ ws ks) ∧ Rs w' m2 gr gb fr to_ (clrR fr bl ks) ∧ Hd w' w.heap.size ph p pw gn cn rv bs ks k gB cB usB gK cK 0 ∧ (∀ b, Fw pw gn rv b → w.heap.size ≤ b ∧ b ≠ ph) ∧ w.heap.size ≤ ph ∧ w.heap.size ≤ gB ∧ Up (fun b => b = gw ∨ b = gb) w w' := by
 obtain ⟨rd, hrd⟩ : ∃ rd, D.rd = rd := ⟨_, rfl⟩
 obtain ⟨wt, hwt⟩ : ∃ wt, D.wt = wt := ⟨_, rfl⟩
 obtain ⟨fl, hfl⟩ : ∃ fl, D.fl = fl := ⟨_, rfl⟩
 have hgwl : gw < w.heap.size := hS.ltw
 have hgbl : gb < w.heap.size := by
  obtain ⟨_, c1, m, q⟩ := hR.row_lo
  exact (Array.getElem?_eq_some_iff.1 q).1
 have hgll : g < w.heap.size := hS.ltg
 obtain ⟨⟨cg, mg, qg⟩, _, ⟨cw, mw, qw⟩⟩ := hS.cellsG
 obtain ⟨_, cb, mb, qb⟩ := hR.row_lo
 have hgwt : Ty w gw 126 := ⟨cw, mw, qw⟩
 have hgbt : Ty w gb 4 := ⟨cb, mb, qb⟩
 obtain ⟨cr, hrblk, _⟩ := hR.blk
 have hgrt : ∃ t, Ty w gr t ∧ t ≠ 126 ∧ t ≠ 4 := ⟨_, ⟨_, _, hrblk⟩, by decide, by decide⟩
 have hgrl : gr < w.heap.size := (Array.getElem?_eq_some_iff.1 hrblk).1
 have HUP : Hid (∀ W, Up (fun b => b = gw ∨ b = gb) w W → Bc W gx ga ca n us ims p gl gm V D g gr B0) := hide (fun W hU => hC.up hU (fun b e => by rcases e with e | e <;> omega) (fun b e => by
  rcases e with rfl | rfl
  · exact ⟨_, hgwt, by decide, by decide, by decide, by decide, by decide⟩
  · exact ⟨_, hgbt, by decide, by decide, by decide, by decide, by decide⟩))
 have HRU : Hid (∀ W, Up (fun b => b = gw) w W → Rs W m2 gr gb fr to_ bl) := hide (fun W hU => hR.up hU (fun e => by obtain ⟨t, q, q1, _⟩ := hgrt; exact q1 (q.one (e ▸ hgwt))) (fun e => absurd (hgbt.one (e ▸ hgwt)) (by decide)))
 have hblk := hC.dk.blk
 rw [hrd, hwt, hfl] at hblk
 have HBN : Hid (bn = bs.length) := hide hb.lenEq
 have HBL : Hid (bs.length ≤ 140737488351300) := hide (by have := hb.lenEq; omega)
 have HRO := hide (roomy6_calls hb HBL.out)
 have HBC : Hid (∀ W, Up (fun b => b = gw) w W → W.cell? ⟨gx, 0, none⟩ = some (.pointer (some ⟨p, 0, none⟩)) ∧ W.cell? ⟨gx, 1, none⟩ = some (.pointer (some ⟨g, 0, none⟩)) ∧ W.cell? ⟨gx, 2, none⟩ = some (.slice (some ⟨ga, 0, none⟩) n ca) ∧ W.cell? ⟨gx, 3, none⟩ = some (.pointer (some ⟨gr, 0, none⟩)) ∧ IsB W (.slice a bn c) bs ∧ W.cell? ⟨p, 2, none⟩ = some (.int .i64 rd) ∧ W.cell? ⟨p, 3, none⟩ = some (.int .i64 wt) ∧ W.cell? ⟨p, 4, none⟩ = some (.int .i64 fl)) := hide (fun W hU => by
  have hCW := unhide HUP W (hU.mono (fun b h => Or.inl h))
  have hB := hCW.dk.blk
  rw [hrd, hwt, hfl] at hB
  have hA := hCW.arr
  exact ⟨arr_cell hA rfl, arr_cell hA rfl, arr_cell hA rfl, arr_cell hA rfl, hb.up0 hU (fun h x hx => hbg (by have := hb.lenEq; omega) x hx), arr_cell hB rfl, arr_cell hB rfl, arr_cell hB rfl⟩)
 have HAC : Hid (∀ W, Below w.heap.size w W → Calls Tryz.prog 25 #[.pointer (some ⟨p, 0, none⟩)] W fun e w' => e = .returned (.agg #[.int .i64 rd, .int .i64 wt, .int .i64 fl]) ∧ Below W.heap.size W w') := hide (fun W hW => by
  have hB := hblk.below hW
  exact acts_calls (arr_cell hB rfl) (arr_cell hB rfl) (arr_cell hB rfl))
 have HWR : Hid (IntKind.i64.wrap (rd + 0) = rd ∧ IntKind.i64.wrap (wt + 0) = wt) := hide ⟨by rw [IntKind.wrap_i64]; omega, by rw [IntKind.wrap_i64]; omega⟩
 have HNW : Hid (∀ W, Below w.heap.size w W → ∀ gd cd, IsB W (.slice (some ⟨gd, 0, none⟩) bn cd) bs → gd < W.heap.size → w.heap.size ≤ gd → Calls Tryz.prog 26 #[.pointer (some ⟨p, 0, none⟩), .pointer (some ⟨g, 0, none⟩), .slice (some ⟨gd, 0, none⟩) bn cd] W fun e w' => ∃ pw gn cn rv, e = .returned (.tuple #[.pointer (some ⟨pw, 0, none⟩), .int .i64 0]) ∧ Wr w' p pw gn cn rv bs ks 0 ∧ (∀ x, Fw pw gn rv x → W.heap.size ≤ x) ∧ Sp w' m1 g gw fr to_ (claimAll fr to_ ws ks) ∧ Up (fun b => b = gw) W w') := hide (fun W hBW gd cd hI _ hgd => by
  have h := newWriter_wr (hC.dk.below hBW) (hS.below hBW) (hC.tt.below hBW) hbl hk hf (fun x hx => by rw [← hks] at hx; rw [hC.dn]; exact hin x hx) hI (fun _ x hx => by cases hx; show gd ≠ gw; omega) hgw
  rw [← hks] at h
  exact h)
 have hal := hW.all hS
 have hkR : ks = (allR fr bl).take k := by rw [hal]; exact hks
 have hkl : ks.length = k := by rw [hks, List.length_take, freeN_allF]; omega
 have HRF : Hid (∀ W, Up (fun b => b = gw) w W → Calls Tryz.prog 29 #[.pointer (some ⟨gx, 0, none⟩), .int .i64 (bn : Int)] W fun e w' => Below W.heap.size W w' ∧ ∃ gK cK, e = .returned (.tuple #[.int .i64 0, .slice (some ⟨gK, 0, none⟩) k cK]) ∧ Row w' W.heap.size 3 (.slice (some ⟨gK, 0, none⟩) k cK) (iV ks)) := hide (fun W hU => by
  obtain ⟨_, _, q2, q3, _⟩ := unhide HBC W hU
  refine (refusal_takes q3 q2 (unhide HRU W hU) hbl hk hk1 hk9 (by rw [hal, freeN_allF]; exact hf) hkR k (Nat.le_refl _) (fun j hj => hin _ (getD_mem (by omega))) (fun h => by omega)).mono ?_
  rintro e w' ⟨h1, _, h3⟩
  exact ⟨h1, h3 rfl⟩)
 have HTK : Hid (∀ W, Up (fun b => b = gw) w W → Calls Tryz.prog 30 #[.pointer (some ⟨gr, 0, none⟩), .int .i64 (k : Int)] W fun e w' => ∃ v, e = .returned v ∧ Rs w' m2 gr gb fr to_ (clrR fr bl ks) ∧ Up (fun b => b = gb) W w') := hide (fun W hU => by
  refine (rtakeAll_calls (unhide HRU W hU) k (by rw [hal, freeN_allF]; exact hf)).mono ?_
  rintro e w' ⟨v, rfl, _, h2, h3⟩
  rw [← hkR] at h2
  exact ⟨_, rfl, h2, Up.of_grown h3 (fun _ e => (Option.some.inj e).symm)⟩)
 have HTW : Hid (Tw fr to_ (claimAll fr to_ ws ks) (clrR fr bl ks)) := hide (by
  have h := hW.takeAll hS k
  rw [← hks, ← hkR] at h
  exact h)
 have h6 : n ≤ 65536 := by have := hC.dk.ok.hi; rw [hC.dn] at this; exact this
 have HLY : Hid (∀ W gK cK, IsB W (.slice a bn c) bs → Row W w.heap.size 3 (.slice (some ⟨gK, 0, none⟩) k cK) (iV ks) → Calls Tryz.prog 31 #[.slice a bn c, .slice (some ⟨gK, 0, none⟩) k cK] W fun e w' => ∃ gB cB us, e = .returned (.tuple #[.slice (some ⟨gB, 0, none⟩) k cB, .agg (refV (shaOf bs) ((ks.getD 0 0 : Nat) : Int) (bn : Int)).toArray]) ∧ W.heap.size ≤ gB ∧ Ig w' W.heap.size (.slice (some ⟨gB, 0, none⟩) k cB) us ((List.range k).map (sectK bs ks)) ∧ Below W.heap.size W w') := hide (fun W gK cK hI hr => by
  refine (lay6_calls hI hbl (row_isT hr) hk1 hk9 (fun x hx => by have := hin x hx; omega)).mono ?_
  rintro e w' ⟨v, us, rfl, h1, h2⟩
  obtain ⟨gB, cB, hv, hB, _⟩ := h1.shape (by rw [List.length_map, List.length_range]; omega)
  rw [List.length_map, List.length_range] at hv
  subst hv
  exact ⟨gB, cB, us, rfl, hB, h1, h2⟩)
 obtain ⟨RV, hRV⟩ : ∃ RV, refV (shaOf bs) ((ks.getD 0 0 : Nat) : Int) (bn : Int) = RV := ⟨_, rfl⟩
 have hRl : RV.length = 34 := by rw [← hRV]; exact refV_len (shaOf_len bs) _ _
 have hiR : (Tryz.prog.info? 38).map (·.size) = some RV.length := by rw [← hRV]; exact infoRef (shaOf_len bs) _ _
 have h1R : ∀ u ∈ RV, u.oneCell' = true := by rw [← hRV]; exact refV_one _ _ _
 have HRV : Hid (refV (shaOf bs) ((ks.getD 0 0 : Nat) : Int) (bs.length : Int) = RV) := hide (by rw [← hRV, ← HBN.out])
 rw [hRV] at HLY
 have HKL := hide hkl
 have hgst : Ty w g 128 := ⟨_, _, qg⟩
 have HTY := hide (And.intro hgwt (And.intro hgbt hgst))
 have HIB7 : Hid (∀ W, Up (fun b => b = gw ∨ b = gb) w W → IsB W (.slice a bn c) bs) := hide (fun W hU => hb.up0 hU (fun h0 x hx e => by
  have hbp : 0 < bn := by have := hb.lenEq; omega
  rcases e with e | e
  · exact hbg hbp x hx e
  · exact hbb hbp x hx e))
 clear hC hS hR hW hb hbg hbb hw0 hw1 hr0 hr1 hblk hrd hwt hfl hal hkR hkl hk hf hks hin hgwt hgbt hgrt hgst qg qw qb hrblk hRV
 go_enter Tryz.func7, Tryz.ntmps7
 go_wp2_with fail
 refine (unhide HRO).mono ?_
 rintro e w1 ⟨wu, rfl, hO1, hb1⟩
 obtain ⟨gd, cd, rfl, hgd, hcd1, hcd2, htd, hslw, hsub⟩ := wide_facts hO1 HBN.out
 have HB1 := hide hb1
 have HO1 := hide hO1
 have HSUB := hide hsub
 have HAC1 := hide (unhide HAC w1 hb1)
 have hx10 := (unhide HBC w1 (Up.of_below hb1)).1
 clear hO1 hb1 hsub HRO HAC
 go_wp2_with fail
 refine (unhide HAC1).mono ?_
 rintro e w1a ⟨rfl, hb1a⟩
 obtain ⟨gA, hgA⟩ : ∃ gA, w1a.heap.size = gA := ⟨_, rfl⟩
 have hA3 := Arr.new w1a [.int .i64 0, .int .i64 0, .int .i64 0] 80
 rw [hgA] at hA3
 have hiA : (Tryz.prog.info? 80).map (·.size) = some [Value.int .i64 rd, .int .i64 wt, .int .i64 fl].length := by kernel_rfl
 have h1A : ∀ u ∈ [Value.int .i64 rd, .int .i64 wt, .int .i64 fl], u.oneCell' = true := by simp [Value.oneCell']
 have HB2 : Hid (∀ w2, Wrote (w1a.alloc (.cells #[.int .i64 0, .int .i64 0, .int .i64 0] 80)) w2 gA → Below w1.heap.size w1 w2) := hide (fun w2 hW2 => hW2.below _ _ (hb1a.alloc hb1a.size _) (by rw [← hgA]; exact hb1a.size))
 have HGA := hide hgA
 have HGS : Hid (w1.heap.size ≤ gA) := hide (by rw [← hgA]; exact hb1a.size)
 clear HAC1 hb1a hgA
 go_wp2_with (first
  | (refine wpList_storeArr2 (cs' := [Value.int .i64 rd, .int .i64 wt, .int .i64 fl]) rfl (.tmp 7) (.tmp 20) 80 rfl rfl rfl hA3 hiA rfl h1A ?_; intro w2 hAc2 hWr2
     have HAC2 := hide hAc2
     have HBB2 := hide (unhide HB2 w2 hWr2)
     clear hAc2 hWr2 hA3)
  | rw [HGA.out])
 have hb02 : Below w.heap.size w w2 := HB1.out.trans (HBB2.out.mono HB1.out.size)
 have HB02 := hide hb02
 have HS3 : Hid (∀ W, Below w2.heap.size w2 W → W.cell? ⟨gx, 0, none⟩ = some (.pointer (some ⟨p, 0, none⟩)) ∧ W.cell? ⟨gx, 1, none⟩ = some (.pointer (some ⟨g, 0, none⟩))) := hide (fun W hW => by
  obtain ⟨q0, q1, _⟩ := unhide HBC W (Up.of_below (hb02.trans (hW.mono hb02.size)))
  exact ⟨q0, q1⟩)
 have hO2 := HO1.out.below HBB2.out
 have hz0 : Below w2.heap.size w2 w2.drew := (Below.refl _ _).drew
 have HNW2 := hide (unhide HNW w2.drew (hb02.trans (hz0.mono hb02.size)) gd cd (unhide HSUB _ (hO2.isB.below hz0)) (by have := htd.lt; have := HBB2.out.size; have := hz0.size; omega) hgd)
 clear HNW hb02 hO2 hx10
 refine wp_region_held_drew (S := fun W => W.cell? ⟨gx, 0, none⟩ = some (.pointer (some ⟨p, 0, none⟩)) ∧ W.cell? ⟨gx, 1, none⟩ = some (.pointer (some ⟨g, 0, none⟩))) (by kernel_rfl) (unhide HS3 _ hz0) (fun hHeld => ?_)
 refine wpAnyH_take (i := 0) (v := .pointer (some ⟨gx, 0, none⟩)) rfl (by kernel_rfl) (by kernel_rfl) (by kernel_rfl) (fun _ _ _ h => h) (Or.inl ⟨by rfl, fun w hSw => by obtain ⟨hS1, hS2⟩ := hSw; go_simp⟩) (by assumption) ?_
 simp only [fGa, fGz, Act.put, fSa, fSz, fSs]
 refine wpAnyH_take (i := 1) (v := .pointer (some ⟨gx, 0, none⟩)) rfl (by kernel_rfl) (by kernel_rfl) (by kernel_rfl) (fun _ _ _ h => h) (Or.inl ⟨by rfl, fun w hSw => by obtain ⟨hS1, hS2⟩ := hSw; go_simp⟩) (by assumption) ?_
 simp only [fGa, fGs, fGz, Act.put, fSa, fSz, fSs]
 refine wpAnyH_take (i := 2) (v := .pointer (some ⟨gx, 0, none⟩)) rfl (by kernel_rfl) (by kernel_rfl) (by kernel_rfl) (fun _ _ _ h => h) (Or.inl ⟨by rfl, fun w hSw => by obtain ⟨hS1, hS2⟩ := hSw; go_simp⟩) (by assumption) ?_
 simp only [fGa, fGs, fGz, Act.put, fSa, fSz, fSs]
 refine wpAnyH_take (i := 3) (v := .pointer (some ⟨p, 0, none⟩)) rfl (by kernel_rfl) (by kernel_rfl) (by kernel_rfl) (fun _ _ _ h => h) (Or.inl ⟨by rfl, fun w hSw => by obtain ⟨hS1, hS2⟩ := hSw; go_simp⟩) (by assumption) ?_
 simp only [fGa, fGs, fGz, Act.put, fSa, fSz, fSs]
 refine wpAnyH_take (i := 4) (v := .pointer (some ⟨gx, 0, none⟩)) rfl (by kernel_rfl) (by kernel_rfl) (by kernel_rfl) (fun _ _ _ h => h) (Or.inl ⟨by rfl, fun w hSw => by obtain ⟨hS1, hS2⟩ := hSw; go_simp⟩) (by assumption) ?_
 simp only [fGa, fGs, fGz, Act.put, fSa, fSz, fSs]
 refine wpAnyH_take (i := 5) (v := .pointer (some ⟨gx, 0, none⟩)) rfl (by kernel_rfl) (by kernel_rfl) (by kernel_rfl) (fun _ _ _ h => h) (Or.inl ⟨by rfl, fun w hSw => by obtain ⟨hS1, hS2⟩ := hSw; go_simp⟩) (by assumption) ?_
 simp only [fGa, fGs, fGz, Act.put, fSa, fSz, fSs]
 refine wpAnyH_take (i := 6) (v := .pointer (some ⟨gx, 1, none⟩)) rfl (by kernel_rfl) (by kernel_rfl) (by kernel_rfl) (fun _ _ _ h => h) (Or.inl ⟨by rfl, fun w hSw => by obtain ⟨hS1, hS2⟩ := hSw; go_simp⟩) (by assumption) ?_
 simp only [fGa, fGs, fGz, Act.put, fSa, fSz, fSs]
 refine wpAnyH_take (i := 7) (v := .pointer (some ⟨g, 0, none⟩)) rfl (by kernel_rfl) (by kernel_rfl) (by kernel_rfl) (fun _ _ _ h => h) (Or.inl ⟨by rfl, fun w hSw => by obtain ⟨hS1, hS2⟩ := hSw; go_simp⟩) (by assumption) ?_
 simp only [fGa, fGs, fGz, Act.put, fSa, fSz, fSs]
 refine wpAnyH_take (i := 8) (v := .slice (some ⟨gd, 0, none⟩) (bn + 5) cd) rfl (by kernel_rfl) (by kernel_rfl) (by kernel_rfl) (fun _ _ _ h => h) (Or.inl ⟨by rfl, fun w hSw => by obtain ⟨hS1, hS2⟩ := hSw; go_simp⟩) (by assumption) ?_
 simp only [fGa, fGs, fGz, Act.put, fSa, fSz, fSs]
 refine wpAnyH_take (i := 9) (v := .slice (a) bn c) rfl (by kernel_rfl) (by kernel_rfl) (by kernel_rfl) (fun _ _ _ h => h) (Or.inl ⟨by rfl, fun w hSw => by obtain ⟨hS1, hS2⟩ := hSw; go_simp⟩) (by assumption) ?_
 simp only [fGa, fGs, fGz, Act.put, fSa, fSz, fSs]
 refine wpAnyH_take (i := 10) (v := .int .i64 (bn : Int)) rfl (by kernel_rfl) (by kernel_rfl) (by kernel_rfl) (fun _ _ _ h => h) (Or.inl ⟨by rfl, fun w hSw => by obtain ⟨hS1, hS2⟩ := hSw; go_simp⟩) (by assumption) ?_
 simp only [fGa, fGs, fGz, Act.put, fSa, fSz, fSs]
 refine wpAnyH_take (i := 11) (v := .slice (some ⟨gd, 0, none⟩) bn cd) rfl (by kernel_rfl) (by kernel_rfl) (by kernel_rfl) (fun _ _ _ h => h) (Or.inl ⟨by rfl, fun w hSw => by obtain ⟨hS1, hS2⟩ := hSw; go_simp⟩) (by assumption) ?_
 simp only [fGa, fGs, fGz, Act.put, fSa, fSz, fSs]
 refine wpAnyH_ready (rs := [12]) (by kernel_rfl) (by simp) (AllReadyH.cons rfl (fun K hK => ?_) AllReadyH.nil)
 refine step_call3C (by rfl) 26 newWriter_enter6 (.tmp 25) (.tmp 29) (.tmp 33) _ rfl rfl rfl rfl (unhide HNW2) ?_
 rintro e w3 ⟨pw, gn, cn, rv, rfl, hW3, hFw3, hS3w, hU3⟩
 have hS33 : w3.cell? ⟨gx, 0, none⟩ = some (.pointer (some ⟨p, 0, none⟩)) ∧ w3.cell? ⟨gx, 1, none⟩ = some (.pointer (some ⟨g, 0, none⟩)) := by
  obtain ⟨q0, q1, _⟩ := unhide HBC w3 (((Up.of_below HB02.out).then_below hz0).trans hU3 (fun b h => Or.inl h))
  exact ⟨q0, q1⟩
 refine ⟨_, rfl, ?_⟩
 refine hK.out _ _ (hS33) (fun hJ1 => ?_)
 clear hK K
 simp only [fGa, fGs, fGz, Act.put, fSa, fSz, fSs]
 refine wpAnyH_take (i := 13) (v := .tuple #[.pointer (some ⟨pw, 0, none⟩), .int .i64 0]) rfl (by kernel_rfl) (by kernel_rfl) (by kernel_rfl) (fun _ _ _ h => h) (Or.inl ⟨by rfl, fun w hSw => by obtain ⟨hS1, hS2⟩ := hSw; go_simp⟩) (by assumption) ?_
 simp only [fGa, fGs, fGz, Act.put, fSa, fSz, fSs]
 refine wpAnyH_take (i := 14) (v := .pointer (some ⟨pw, 0, none⟩)) rfl (by kernel_rfl) (by kernel_rfl) (by kernel_rfl) (fun _ _ _ h => h) (Or.inl ⟨by rfl, fun w hSw => by obtain ⟨hS1, hS2⟩ := hSw; go_simp⟩) (by assumption) ?_
 simp only [fGa, fGs, fGz, Act.put, fSa, fSz, fSs]
 refine wpAnyH_take (i := 15) (v := .int .i64 0) rfl (by kernel_rfl) (by kernel_rfl) (by kernel_rfl) (fun _ _ _ h => h) (Or.inl ⟨by rfl, fun w hSw => by obtain ⟨hS1, hS2⟩ := hSw; go_simp⟩) (by assumption) ?_
 simp only [fGa, fGs, fGz, Act.put, fSa, fSz, fSs]
 refine wpAnyH_take (i := 16) (v := .pointer (some ⟨pw, 0, none⟩)) rfl (by kernel_rfl) (by kernel_rfl) (by kernel_rfl) (fun _ _ _ h => h) (Or.inl ⟨by rfl, fun w hSw => by obtain ⟨hS1, hS2⟩ := hSw; go_simp⟩) (by assumption) ?_
 simp only [fGa, fGs, fGz, Act.put, fSa, fSz, fSs]
 refine wpAnyH_take (i := 17) (v := .int .i64 0) rfl (by kernel_rfl) (by kernel_rfl) (by kernel_rfl) (fun _ _ _ h => h) (Or.inl ⟨by rfl, fun w hSw => by obtain ⟨hS1, hS2⟩ := hSw; go_simp⟩) (by assumption) ?_
 simp only [fGa, fGs, fGz, Act.put, fSa, fSz, fSs]
 refine wpAnyH_done (by kernel_rfl) ?_ _
 have hU03 : Up (fun b => b = gw) w w3 := ((Up.of_below HB02.out).then_below hz0).trans hU3 (fun b h => Or.inl h)
 have hU23 : Up (fun b => b = gw) w2 w3 := (Up.of_below hz0).trans hU3 (fun b h => Or.inl h)
 obtain ⟨_, _, _, _, hbw3, _⟩ := unhide HBC w3 hU03
 have HRO3 := hide (roomy6_calls hbw3 HBL.out)
 have hO3 : Own8 w3 w.heap.size (.slice (some ⟨gd, 0, none⟩) (bn + 5) cd) (bs ++ [201, 202, 203, 204, 205]) := ⟨owns_up (HO1.out.below HBB2.out).1 hU23 (fun b hb => by cases hb; (show ¬ gd = gw); omega), (HO1.out).2⟩
 have hAc3 : Arr w3 gA 80 [.int .i64 rd, .int .i64 wt, .int .i64 fl] := HAC2.out.up hU23 (by show ¬ gA = gw; have := HGS.out; have := HB1.out.size; omega)
 have HO3 := hide hO3
 have HAC3 := hide hAc3
 have HU03 := hide hU03
 clear hbw3 hO3 hAc3 hU03 hU23 HNW2 HS3 hHeld hJ1 hS33
 go_wp2_with fail
 refine (unhide HRO3).mono ?_
 rintro e w4 ⟨u4, rfl, hO4, hb4⟩
 obtain ⟨a4, n4, c4, rfl⟩ := hO4.shape
 have HSM : Hid (Calls Tryz.prog 27 #[.slice (some ⟨gd, 0, none⟩) (bn + 5) cd, .slice a4 n4 c4] w4 fun e w' => e = .returned (.bool true) ∧ w' = w4) := hide ((same6_calls (HO3.out.isB.below hb4) hO4.isB).mono (fun e w' h => ⟨by rw [h.1, decide_eq_true rfl], h.2⟩))
 have hU04 := HU03.out.then_below hb4
 obtain ⟨q0, _, _, _, _, q4, q5, q6⟩ := unhide HBC w4 hU04
 have HA4 : Hid (Calls Tryz.prog 28 #[.pointer (some ⟨gx, 0, none⟩), .agg [Value.int .i64 rd, .int .i64 wt, .int .i64 fl].toArray, .int .i64 0, .int .i64 0] w4 (fun e w' => e = .returned (.bool true) ∧ Below w4.heap.size w4 w')) := hide (bacts_calls q0 q4 q5 q6 HWR.out.1 HWR.out.2)
 have hrA : w4.rangeAt gA 0 [Value.int .i64 rd, .int .i64 wt, .int .i64 fl] := arr_range (ds := []) (by rw [List.append_nil]; exact HAC3.out.below hb4)
 have HB4 := hide hb4
 clear hO4 hb4 hU04 q0 q4 q5 q6 HRO3 HAC3
 go_wp2_with fail
 refine (unhide HSM).mono ?_
 rintro e wn ⟨rfl, hwn⟩
 obtain rfl := hwn.symm
 clear hwn HSM
 go_wp2_with (refine wpList_load6On rfl 80 (.tmp 7) rfl gA 0 rfl [Value.int .i64 rd, .int .i64 wt, .int .i64 fl] _ hrA Tryz.underlying80 rfl hiA ?_)
 refine (unhide HA4).mono ?_
 rintro e w5 ⟨rfl, hb5⟩
 have HB35 : Hid (Below w3.heap.size w3 w5) := hide (HB4.out.trans (hb5.mono HB4.out.size))
 have HO5 := hide (HO3.out.below HB35.out)
 clear HA4 hb5 hrA HO3 HB4
 go_wp2_with fail
 go_loopw [10] (fun iv W => ∃ i : Nat, i ≤ bn + 5 ∧ iv = .int .i64 (i : Int) ∧ Hid (∃ ys, Own8 W w.heap.size (.slice (some ⟨gd, 0, none⟩) (bn + 5) cd) ys ∧ Up (fun b => b = gd) w5 W)) (fun iv _ => bn + 5 - (intOf iv).toNat)
 case atStart => exact ⟨0, by omega, rfl, hide ⟨_, HO5.out, Up.refl _ _⟩⟩
 case round =>
  clear HO5
  obtain ⟨i, hi, rfl, HI⟩ := hrel
  by_cases hlt : i < bn + 5
  · obtain ⟨ys, ho, hUw⟩ := HI.out
    have hyl : ys.length = bn + 5 := ho.isB.lenEq.symm
    obtain ⟨x, hx⟩ : ∃ x, ys[i]? = some x := ⟨_, List.getElem?_eq_getElem (by omega)⟩
    have hrow : Row wr w.heap.size 5 (.slice (some ⟨gd, 0, none⟩) (bn + 5) cd) (ys.map (Value.int .u8)) := by unfold Row; rw [List.length_map]; exact ho.1
    have hci : wr.cell? ⟨gd, i, none⟩ = some (.int .u8 x) := by
     rw [hrow.cellAt (by rw [List.length_map]; omega), List.getElem?_map, hx]; rfl
    have hfi := hrow.frozenAt i
    obtain ⟨hr2, hg2⟩ := hrow.set i (.int .u8 77)
    have e77 : (ys.map (Value.int .u8)).set i (.int .u8 77) = (ys.set i 77).map (Value.int .u8) := (List.map_set ..).symm
    rw [e77] at hr2
    have HQ : Hid (∃ ys, Own8 (wr.setCell ⟨gd, i, none⟩ (.int .u8 77)) w.heap.size (.slice (some ⟨gd, 0, none⟩) (bn + 5) cd) ys ∧ Up (fun b => b = gd) w5 (wr.setCell ⟨gd, i, none⟩ (.int .u8 77))) := hide (by
     refine ⟨_, ⟨by unfold Row at hr2; rw [List.length_map] at hr2; exact hr2, fun y hy => ?_⟩, hUw.trans (Up.of_grown (F := fun b => b = gd) hg2 (fun _ e => (Option.some.inj e).symm)) (fun b h => Or.inl h)⟩
     rcases List.mem_or_eq_of_mem_set hy with hy | rfl
     · exact ho.2 y hy
     · omega)
    have hiI : (i : Int) < ((bn + 5 : Nat) : Int) := by omega
    clear ho hUw hx hrow hr2 hg2 e77 hyl HI
    go_wp2
    go_roundw
    case rel => exact ⟨i + 1, by omega, by go_num, HQ⟩
    case measure => simp [intOf]; omega
  · obtain ⟨ys, ho, hUw⟩ := HI.out
    have hU5 : Up (fun b => b = gw) w wr := (HU03.out.then_below HB35.out).trans hUw (fun b h => Or.inr (by omega))
    have HU5 := hide hU5
    have hFd : ∀ b, Fw pw gn rv b → ¬ b = gd := fun b hb e => by have := hFw3 b hb; have := htd.lt; have := HBB2.out.size; have := hz0.size; omega
    have HW5 : Hid (Wr wr p pw gn cn rv bs ks 0) := hide ((hW3.up (F := fun _ => False) (Up.of_below HB35.out) (fun _ _ h => h)).up hUw hFd)
    have HS5 : Hid (Sp wr m1 g gw fr to_ (claimAll fr to_ ws ks)) := hide ((hS3w.below HB35.out).up hUw (by omega) (by omega))
    have HFW : Hid (∀ b, Fw pw gn rv b → w.heap.size ≤ b) := hide (fun b hb => by have := hFw3 b hb; have := HB02.out.size; have := hz0.size; omega)
    have HRF5 := hide (unhide HRF wr hU5)
    clear ho hUw hU5 HI
    clear hFd hW3 hFw3 hS3w hU3
    go_wp2_with fail
    refine (unhide HRF5).mono ?_
    rintro e w6 ⟨hb6, gK, cK, rfl, hrK⟩
    have hU6 := HU5.out.then_below hb6
    have HTK6 := hide (unhide HTK w6 hU6)
    have hx63 := (unhide HBC w6 hU6).2.2.2.1
    have HIB6 := hide (unhide HBC w6 hU6).2.2.2.2.1
    have HRK6 : Hid (Row w6 w.heap.size 3 (.slice (some ⟨gK, 0, none⟩) k cK) (iV ks)) := hide (Row.mono hrK HU5.out.size)
    have HW6 : Hid (Wr w6 p pw gn cn rv bs ks 0) := hide (HW5.out.up (F := fun _ => False) (Up.of_below hb6) (fun _ _ h => h))
    have HS6 := hide (HS5.out.below hb6)
    have HU6 := hide hU6
    clear hb6 hU6 hrK HRF5 HRF HW5 HS5 HU5
    go_wp2_with fail
    refine (num6_calls 0 _).mono ?_
    rintro e wn ⟨rfl, hwn⟩
    obtain rfl := hwn.symm
    clear hwn
    go_wp2_with fail
    refine (unhide HTK6).mono ?_
    rintro e w7 ⟨vt, rfl, hR7, hU67⟩
    have hU7 : Up (fun b => b = gw ∨ b = gb) w w7 := (HU6.out.mono (fun b h => Or.inl h)).trans hU67 (fun b h => Or.inl (Or.inr h))
    have hgKl : w.heap.size ≤ gK := (row_blk HRK6.out (g := gK) rfl).1
    have hW7 : Wr w7 p pw gn cn rv bs ks 0 := HW6.out.up hU67 (fun b hb e => by have := unhide HFW b hb; omega)
    have hK7 : Row w7 w.heap.size 3 (.slice (some ⟨gK, 0, none⟩) k cK) (iV ks) := owns_up HRK6.out hU67 (fun b hb => by cases hb; show ¬ gK = gb; omega)
    have hgne : g ≠ gb ∧ gw ≠ gb := by
     obtain ⟨t1, t2, t3⟩ := HTY.out
     exact ⟨fun e => absurd (t2.one (e ▸ t3)) (by decide), fun e => absurd (t1.one (e ▸ t2)) (by decide)⟩
    have hS7 := HS6.out.up hU67 hgne.1 hgne.2
    have hI7 : IsB w7 (.slice a bn c) bs := unhide HIB7 w7 hU7
    obtain ⟨ph, hph⟩ : ∃ ph, w7.heap.size = ph := ⟨_, rfl⟩
    obtain ⟨w8, hw8⟩ : ∃ w8, w7.alloc (.cells (hand0 pw gK k cK).toArray 40) = w8 := ⟨_, rfl⟩
    have hb8 : Below w7.heap.size w7 w8 := by rw [← hw8]; exact (Below.refl _ _).alloc (Nat.le_refl _) _
    have hA8 : Arr w8 ph 40 (hand0 pw gK k cK) := by rw [← hw8, ← hph]; exact Arr.new w7 _ _
    have HLY8 := hide (unhide HLY w8 gK cK (hI7.below hb8) (owns_up hK7 (Up.of_below (F := fun _ => False) hb8) (fun _ _ h => h)))
    have HX7 := hide (And.intro hU7 (And.intro hR7 (And.intro hW7 (And.intro hK7 hS7))))
    have HA8 := hide hA8
    have HB8 := hide hb8
    have HW8 := hide hw8
    have HPH := hide hph
    clear HTK6 hR7 hU67 hU7 hW7 hK7 hgne hS7 hI7 hph hw8 hb8 hA8 HW6 HRK6 HS6 HU6 HLY hx63
    go_wp2_with (first
     | refine wpList_buildHand rfl (.tmp 95) (.tmp 96) rfl rfl rfl ?_
     | (refine wpList_boxHand rfl (.tmp 97) rfl rfl ?_; rw [HW8.out, HPH.out]))
    refine (unhide HLY8).mono ?_
    rintro e w9 ⟨gB, cB, usB, rfl, hgB, hI9, hb9⟩
    have hA9 := HA8.out.below hb9
    have hc1 := arr_cell hA9 (j := 1) (v := .slice none 0 0) rfl
    have hf1 := hA9.frozen 1
    obtain ⟨w10, hw10⟩ : ∃ w10, w9.setCell ⟨ph, 1, none⟩ (.slice (some ⟨gB, 0, none⟩) k cB) = w10 := ⟨_, rfl⟩
    have hA10 : Arr w10 ph 40 ((hand0 pw gK k cK).set 1 (.slice (some ⟨gB, 0, none⟩) k cB)) := by rw [← hw10]; exact hA9.set 1 _
    have hfit : 3 + RV.length ≤ ((hand0 pw gK k cK).set 1 (.slice (some ⟨gB, 0, none⟩) k cB)).length := by rw [hRl, List.length_set]; show 3 + 34 ≤ 38; omega
    have HX11 : Hid (∀ w11, Arr w11 ph 40 (((hand0 pw gK k cK).set 1 (.slice (some ⟨gB, 0, none⟩) k cB)).take 3 ++ RV ++ ((hand0 pw gK k cK).set 1 (.slice (some ⟨gB, 0, none⟩) k cB)).drop (3 + RV.length)) → Wrote w10 w11 ph → Bc w11 gx ga ca n us ims p gl gm V D g gr B0 ∧ Sp w11 m1 g gw fr to_ (claimAll fr to_ ws ks) ∧ Rs w11 m2 gr gb fr to_ (clrR fr bl ks) ∧ Hd w11 w.heap.size ph p pw gn cn rv bs ks k gB cB usB gK cK 0 ∧ (∀ b, Fw pw gn rv b → w.heap.size ≤ b ∧ b ≠ ph) ∧ w.heap.size ≤ ph ∧ w.heap.size ≤ gB ∧ Up (fun b => b = gw ∨ b = gb) w w11) := hide (fun w11 hA11 hWr => by
     rw [hand_done hRl] at hA11
     obtain ⟨hU7, hR7, hW7, hK7, hS7⟩ := HX7.out
     have hph := HPH.out
     have hb8 := HB8.out
     have hb79 : Below w7.heap.size w7 w9 := hb8.trans (hb9.mono hb8.size)
     have u10 : Up (fun b => b = ph) w9 w10 := by rw [← hw10]; exact up_set
     have u11 : Up (fun b => b = ph) w10 w11 := by
      have h9 := hWr.below ph w10 ⟨rfl, rfl, rfl, Nat.le_refl _, fun _ _ => rfl⟩ (Nat.le_refl _)
      exact ⟨h9.os, h9.tape, h9.output, h9.size, fun q _ hq => hWr.other q hq⟩
     have u9 : Up (fun b => b = ph) w9 w11 := u10.trans u11 (fun b h => Or.inl h)
     have u7 : Up (fun b => b = ph) w7 w11 := (Up.of_below hb79).trans u9 (fun b h => Or.inl h)
     have hs7 : w.heap.size ≤ w7.heap.size := hU7.size
     have hUf : Up (fun b => b = gw ∨ b = gb) w w11 := hU7.trans u7 (fun b h => Or.inr (by omega))
     have hFph : ∀ b, Fw pw gn rv b → w.heap.size ≤ b ∧ b ≠ ph := fun b hb => ⟨unhide HFW b hb, by have := hW7.lt hb; omega⟩
     have hK9 : Row w9 w.heap.size 3 (.slice (some ⟨gK, 0, none⟩) k cK) (iV ks) := owns_up hK7 (Up.of_below (F := fun _ => False) hb79) (fun _ _ h => h)
     have hgr7 : gr ≠ ph ∧ gb ≠ ph := by omega
     have hpT := hA9.ty
     refine ⟨unhide HUP w11 hUf, hS7.up u7 (by omega) (by omega), hR7.up u7 hgr7.1 hgr7.2, ⟨by rw [HRV.out]; exact hA11, hW7.up u7 (fun b hb => (hFph b hb).2), ?_, ?_, HKL.out⟩, hFph, by omega, by have := hb8.size; omega, hUf⟩
     · have hI9b : Ig w9 w.heap.size (.slice (some ⟨gB, 0, none⟩) k cB) usB ((List.range k).map (sectK bs ks)) := ⟨Row.mono hI9.own (by have := hb8.size; omega), hI9.len, hI9.each, hI9.secs⟩
       refine hI9b.up u9 (fun b hb e => ?_) (fun b hb e => ?_)
       · obtain ⟨_, c1, m9, q⟩ := row_blk hI9.own hb
         have hq : Ty w9 b 26 := ⟨c1, m9, q⟩
         exact absurd (hq.one (e ▸ hpT)) (by decide)
       · exact absurd (hb.one (e ▸ hpT)) (by decide)
     · refine owns_up hK9 u9 (fun b hb e => ?_)
       obtain ⟨_, c1, m9, q⟩ := row_blk hK9 hb
       have hq : Ty w9 b 3 := ⟨c1, m9, q⟩
       exact absurd (hq.one (e ▸ hpT)) (by decide))
    have HW10 := hide hw10
    have HA10 := hide hA10
    clear HLY8 hgB hI9 hb9 hA9 hw10 HX7 HA8 HB8 HW8 hA10
    go_wp2_with (rw [HW10.out]; refine wpList_storePart rfl (.tmp 110) (.tmp 106) 38 rfl rfl RV rfl rfl HA10.out hiR hfit h1R ?_; intro w11 hA11 hWr11
                 have HQ11 := hide (unhide HX11 w11 hA11 hWr11)
                 clear hA11 hWr11)
    obtain ⟨hB11, hS11, hR11, hH11, _⟩ := HQ11.out
    have hy0 : Below w11.heap.size w11 w11.drew := (Below.refl _ _).drew
    have HS18 : Hid (∀ W, Below w11.heap.size w11 W → W.cell? ⟨gx, 1, none⟩ = some (.pointer (some ⟨g, 0, none⟩)) ∧ W.cell? ⟨gx, 3, none⟩ = some (.pointer (some ⟨gr, 0, none⟩))) := hide (fun W hW => ⟨arr_cell (hB11.below hW).arr rfl, arr_cell (hB11.below hW).arr rfl⟩)
    have HHO : Hid (∀ W, Below w11.heap.size w11 W → Calls Tryz.prog 32 #[.pointer (some ⟨ph, 0, none⟩)] W fun e w' => e = .returned (.bool true) ∧ Below W.heap.size W w') := hide (fun W hW => holds_calls (hH11.below hW))
    have HL1 : Hid (∀ W, Below w11.heap.size w11 W → Calls Tryz.prog 12 #[.pointer (some ⟨g, 0, none⟩)] W fun e w' => ∃ v, e = .returned v ∧ Row w' W.heap.size 3 v (iV (allF fr 0 (claimAll fr to_ ws ks))) ∧ Below W.heap.size W w') := hide (fun W hW => list_calls (hS11.below hW) (hB11.below hW).tt.tz)
    have HL2 : Hid (∀ W, Below w11.heap.size w11 W → Calls Tryz.prog 13 #[.pointer (some ⟨gr, 0, none⟩)] W fun e w' => ∃ v, e = .returned v ∧ Row w' W.heap.size 3 v (iV (allF fr 0 (claimAll fr to_ ws ks))) ∧ Below W.heap.size W w') := hide (fun W hW => by
     have h := rlist_calls (hR11.below hW)
     rw [HTW.out.all hS11] at h
     exact h)
    clear hB11 hS11 hR11 hH11
    refine wp_region_held_drew (S := fun W => W.cell? ⟨gx, 1, none⟩ = some (.pointer (some ⟨g, 0, none⟩)) ∧ W.cell? ⟨gx, 3, none⟩ = some (.pointer (some ⟨gr, 0, none⟩))) (by kernel_rfl) (unhide HS18 _ hy0) (fun hHeld => ?_)
    refine wpAnyH_take (i := 0) (v := .pointer (some ⟨ph, 0, none⟩)) rfl (by kernel_rfl) (by kernel_rfl) (by kernel_rfl) (fun _ _ _ h => h) (Or.inl ⟨by rfl, fun w hSw => by obtain ⟨hS1, hS2⟩ := hSw; go_simp⟩) (by assumption) ?_
    simp only [fGa, fGz, Act.put, fSa, fSz, fSs]
    refine wpAnyH_take (i := 1) (v := .pointer (some ⟨ph, 0, none⟩)) rfl (by kernel_rfl) (by kernel_rfl) (by kernel_rfl) (fun _ _ _ h => h) (Or.inl ⟨by rfl, fun w hSw => by obtain ⟨hS1, hS2⟩ := hSw; go_simp⟩) (by assumption) ?_
    simp only [fGa, fGs, fGz, Act.put, fSa, fSz, fSs]
    refine wpAnyH_ready (rs := [2]) (by kernel_rfl) (by simp) (AllReadyH.cons rfl (fun K hK => ?_) AllReadyH.nil)
    refine step_call1C (by rfl) 32 holds_enter (.tmp 112) _ rfl rfl (unhide HHO _ hy0) ?_
    rintro e wd ⟨rfl, hbwd⟩
    have hz1 : Below w11.heap.size w11 wd := hy0.trans (hbwd.mono hy0.size)
    refine ⟨_, rfl, ?_⟩
    refine hK.out _ _ (unhide HS18 _ hz1) (fun hJ1 => ?_)
    clear hK K
    simp only [fGa, fGs, fGz, Act.put, fSa, fSz, fSs]
    refine wpAnyH_take (i := 3) (v := .bool true) rfl (by kernel_rfl) (by kernel_rfl) (by kernel_rfl) (fun _ _ _ h => h) (Or.inl ⟨by rfl, fun w hSw => by obtain ⟨hS1, hS2⟩ := hSw; go_simp⟩) (by assumption) ?_
    simp only [fGa, fGs, fGz, Act.put, fSa, fSz, fSs]
    refine wpAnyH_take (i := 4) (v := .pointer (some ⟨gx, 0, none⟩)) rfl (by kernel_rfl) (by kernel_rfl) (by kernel_rfl) (fun _ _ _ h => h) (Or.inl ⟨by rfl, fun w hSw => by obtain ⟨hS1, hS2⟩ := hSw; go_simp⟩) (by assumption) ?_
    simp only [fGa, fGs, fGz, Act.put, fSa, fSz, fSs]
    refine wpAnyH_take (i := 5) (v := .pointer (some ⟨gx, 0, none⟩)) rfl (by kernel_rfl) (by kernel_rfl) (by kernel_rfl) (fun _ _ _ h => h) (Or.inl ⟨by rfl, fun w hSw => by obtain ⟨hS1, hS2⟩ := hSw; go_simp⟩) (by assumption) ?_
    simp only [fGa, fGs, fGz, Act.put, fSa, fSz, fSs]
    refine wpAnyH_take (i := 6) (v := .pointer (some ⟨gx, 1, none⟩)) rfl (by kernel_rfl) (by kernel_rfl) (by kernel_rfl) (fun _ _ _ h => h) (Or.inl ⟨by rfl, fun w hSw => by obtain ⟨hS1, hS2⟩ := hSw; go_simp⟩) (by assumption) ?_
    simp only [fGa, fGs, fGz, Act.put, fSa, fSz, fSs]
    refine wpAnyH_take (i := 7) (v := .pointer (some ⟨g, 0, none⟩)) rfl (by kernel_rfl) (by kernel_rfl) (by kernel_rfl) (fun _ _ _ h => h) (Or.inl ⟨by rfl, fun w hSw => by obtain ⟨hS1, hS2⟩ := hSw; go_simp⟩) (by assumption) ?_
    simp only [fGa, fGs, fGz, Act.put, fSa, fSz, fSs]
    refine wpAnyH_take (i := 9) (v := .pointer (some ⟨gx, 0, none⟩)) rfl (by kernel_rfl) (by kernel_rfl) (by kernel_rfl) (fun _ _ _ h => h) (Or.inl ⟨by rfl, fun w hSw => by obtain ⟨hS1, hS2⟩ := hSw; go_simp⟩) (by assumption) ?_
    simp only [fGa, fGs, fGz, Act.put, fSa, fSz, fSs]
    refine wpAnyH_take (i := 10) (v := .pointer (some ⟨gx, 0, none⟩)) rfl (by kernel_rfl) (by kernel_rfl) (by kernel_rfl) (fun _ _ _ h => h) (Or.inl ⟨by rfl, fun w hSw => by obtain ⟨hS1, hS2⟩ := hSw; go_simp⟩) (by assumption) ?_
    simp only [fGa, fGs, fGz, Act.put, fSa, fSz, fSs]
    refine wpAnyH_take (i := 11) (v := .pointer (some ⟨gx, 3, none⟩)) rfl (by kernel_rfl) (by kernel_rfl) (by kernel_rfl) (fun _ _ _ h => h) (Or.inl ⟨by rfl, fun w hSw => by obtain ⟨hS1, hS2⟩ := hSw; go_simp⟩) (by assumption) ?_
    simp only [fGa, fGs, fGz, Act.put, fSa, fSz, fSs]
    refine wpAnyH_take (i := 12) (v := .pointer (some ⟨gr, 0, none⟩)) rfl (by kernel_rfl) (by kernel_rfl) (by kernel_rfl) (fun _ _ _ h => h) (Or.inl ⟨by rfl, fun w hSw => by obtain ⟨hS1, hS2⟩ := hSw; go_simp⟩) (by assumption) ?_
    simp only [fGa, fGs, fGz, Act.put, fSa, fSz, fSs]
    refine wpAnyH_ready (rs := [8]) (by kernel_rfl) (by simp) (AllReadyH.cons rfl (fun K hK => ?_) AllReadyH.nil)
    refine step_call1GC (by rfl) 12 list6_enter (.tmp 118) _ rfl rfl (unhide HL1 _ hz1) ?_
    rintro e wa ⟨v1, rfl, hr1, hbwa⟩
    obtain ⟨la1, lc1, rfl⟩ := hr1.shape
    have hz2 : Below w11.heap.size w11 wa := hz1.trans (hbwa.mono hz1.size)
    refine ⟨_, rfl, ?_⟩
    refine hK.out _ _ (unhide HS18 _ hz2) (fun hJ2 => ?_)
    clear hK K
    simp only [fGa, fGs, fGz, Act.put, fSa, fSz, fSs]
    refine wpAnyH_ready (rs := [13]) (by kernel_rfl) (by simp) (AllReadyH.cons rfl (fun K hK => ?_) AllReadyH.nil)
    refine step_call1GC (by rfl) 13 rlist_enter (.tmp 123) _ rfl rfl (unhide HL2 _ hz2) ?_
    rintro e wb ⟨v2, rfl, hr2, hbwb⟩
    obtain ⟨la2, lc2, rfl⟩ := hr2.shape
    have hr1b := Row.mono (owns_up hr1 (Up.of_below (F := fun _ => False) hbwb) (fun _ _ h => h)) (Nat.zero_le _)
    have hz3 : Below w11.heap.size w11 wb := hz2.trans (hbwb.mono hz2.size)
    refine ⟨_, rfl, ?_⟩
    refine hK.out _ _ (unhide HS18 _ hz3) (fun hJ3 => ?_)
    clear hK K
    simp only [fGa, fGs, fGz, Act.put, fSa, fSz, fSs]
    refine wpAnyH_ready (rs := [14]) (by kernel_rfl) (by simp) (AllReadyH.cons rfl (fun K hK => ?_) AllReadyH.nil)
    refine step_call2GC (by rfl) 11 sameInts6_enter (.tmp 119) (.tmp 124) _ rfl rfl rfl ((sameInts6_calls hr1b hr2)) ?_
    rintro e wc ⟨rfl, hbwc⟩
    rw [decide_eq_true rfl]
    have hz4 : Below w11.heap.size w11 wc := hz3.trans (hbwc.mono hz3.size)
    refine ⟨_, rfl, ?_⟩
    refine hK.out _ _ (unhide HS18 _ hz4) (fun hJ4 => ?_)
    clear hK K
    simp only [fGa, fGs, fGz, Act.put, fSa, fSz, fSs]
    refine wpAnyH_take (i := 15) (v := .bool true) rfl (by kernel_rfl) (by kernel_rfl) (by kernel_rfl) (fun _ _ _ h => h) (Or.inl ⟨by rfl, fun w hSw => by obtain ⟨hS1, hS2⟩ := hSw; go_simp⟩) (by assumption) ?_
    simp only [fGa, fGs, fGz, Act.put, fSa, fSz, fSs]
    refine wpAnyH_take (i := 16) (v := .pointer (some ⟨ph, 0, none⟩)) rfl (by kernel_rfl) (by kernel_rfl) (by kernel_rfl) (fun _ _ _ h => h) (Or.inl ⟨by rfl, fun w hSw => by obtain ⟨hS1, hS2⟩ := hSw; go_simp⟩) (by assumption) ?_
    simp only [fGa, fGs, fGz, Act.put, fSa, fSz, fSs]
    refine wpAnyH_take (i := 17) (v := .bool true) rfl (by kernel_rfl) (by kernel_rfl) (by kernel_rfl) (fun _ _ _ h => h) (Or.inl ⟨by rfl, fun w hSw => by obtain ⟨hS1, hS2⟩ := hSw; go_simp⟩) (by assumption) ?_
    simp only [fGa, fGs, fGz, Act.put, fSa, fSz, fSs]
    refine wpAnyH_done (by kernel_rfl) ?_ _
    go_wp2
    go_ret2
    obtain ⟨z1, z2, z3, z4, z5, z6, z7, z8⟩ := HQ11.out
    exact ⟨ph, pw, gn, cn, rv, gB, cB, usB, gK, cK, rfl, z1.below hz4, z2.below hz4, z3.below hz4, z4.below hz4, z5, z6, z7, z8.then_below hz4⟩
end
end Go.Proofs.YtdalbalphagmfaaGreatDoor

namespace Go.Proofs.YtdalbalphagmfaaGreatDoor
open Go.RowKit Go.Maps

/-- The image behind so many pieces. -/
def imJ (ims : List (List Int)) (bs : List Int) (ks : List Nat) : Nat → List (List Int)
 | 0 => ims
 | j + 1 => (imJ ims bs ks j).set (ks.getD j 0) (sectK bs ks j)
theorem imJ_len (ims : List (List Int)) (bs : List Int) (ks : List Nat) : ∀ j, (imJ ims bs ks j).length = ims.length
 | 0 => rfl
 | j + 1 => by rw [imJ, List.length_set, imJ_len ims bs ks j]
theorem imJ_now {ims : List (List Int)} {bs : List Int} {ks : List Nat} {n : Nat} (hn : ims.length = n) {D : AD} (h0 : ∀ i, i < n → D.now i = ims.getD i []) : ∀ j, ∀ i, i < n → (putAll D bs ks j).now i = (imJ ims bs ks j).getD i []
 | 0, i, hi => h0 i hi
 | j + 1, i, hi => by
   rw [putAll, write_now, imJ]
   generalize ks.getD j 0 = x
   rw [List.getD_eq_getElem?_getD]
   by_cases e : i = x
   · rw [if_pos e, ← e, List.getElem?_set_self (by rw [imJ_len]; omega)]
     rfl
   · rw [if_neg e, List.getElem?_set_ne (fun h => e h.symm), ← List.getD_eq_getElem?_getD]
     exact imJ_now hn h0 j i hi
structure Wq (w W : World) (S gx ga ca n : Nat) (us : List Value) (ims : List (List Int)) (p gl gm : Nat) (V : Nat → Value) (D : AD) (m1 g gw m2 gr gb fr to_ : Nat) (ws : List Nat) (bl : List Bool) (B0 B ph pw gn cn : Nat) (rv : Value) (bs : List Int) (ks : List Nat) (k gB cB : Nat) (usB : List Value) (gK cK j : Nat) : Prop where
 bc : Bc W gx ga ca n us (imJ ims bs ks j) p gl gm V (putAll D bs ks j) g gr B0
 sp : Sp W m1 g gw fr to_ ws
 rs : Rs W m2 gr gb fr to_ bl
 hd : Hd W B ph p pw gn cn rv bs ks k gB cB usB gK cK j
 fx : ∀ b, Fw pw gn rv b → ¬ Ft p gl gm V b
 fa : ∀ b, Fw pw gn rv b → b ≠ ga ∧ b ≠ ph
 ab : ga ≠ gB
 lo : ∀ b, Ft p gl gm V b → S ≤ b
 lp : S ≤ pw ∧ S ≤ ga ∧ S ≤ ph ∧ GB ≤ S
 bel : Below S w W
 sz : S ≤ W.heap.size
section
variable {w W : World} {S gx ga ca n p gl gm m1 g gw m2 gr gb fr to_ B0 B ph pw gn cn k gB cB gK cK j : Nat} {us usB : List Value} {ims : List (List Int)} {V : Nat → Value} {D : AD} {ws ks : List Nat} {bl : List Bool} {rv : Value} {bs : List Int}
theorem Rs.tyG {W : World} {B g gb fr to_ : Nat} {bs : List Bool} (h : Rs W B g gb fr to_ bs) : Ty W g 57 ∧ Ty W gb 4 := by
 obtain ⟨c, q1, q2⟩ := h.blk
 obtain ⟨_, c1, m, q⟩ := row_blk q2 rfl
 exact ⟨⟨_, _, q1⟩, ⟨c1, m, q⟩⟩
theorem Wq.below (h : Wq w W S gx ga ca n us ims p gl gm V D m1 g gw m2 gr gb fr to_ ws bl B0 B ph pw gn cn rv bs ks k gB cB usB gK cK j) {W1 : World} (hb : Below W.heap.size W W1) : Wq w W1 S gx ga ca n us ims p gl gm V D m1 g gw m2 gr gb fr to_ ws bl B0 B ph pw gn cn rv bs ks k gB cB usB gK cK j :=
 ⟨h.bc.below hb, h.sp.below hb, h.rs.below hb, h.hd.below hb, h.fx, h.fa, h.ab, h.lo, h.lp, h.bel.trans (hb.mono h.sz), Nat.le_trans h.sz hb.size⟩
theorem Wq.step (h : Wq w W S gx ga ca n us ims p gl gm V D m1 g gw m2 gr gb fr to_ ws bl B0 B ph pw gn cn rv bs ks k gB cB usB gK cK j) (hj : j < k) (hks : ∀ x ∈ ks, x < n) (hk9 : k ≤ 2185) (hn2 : n ≤ 65536) (hwt : D.wt = 0) (hrd : D.rd = 0) (hwr : ∀ x, (D.wr x).length = 0) :
 Calls Tryz.prog 10 #[.pointer (some ⟨gx, 0, none⟩), .pointer (some ⟨ph, 0, none⟩)] W fun e w' => e = .returned (.bool true) ∧ ∃ rv' V' us', Wq w w' S gx ga ca n us' ims p gl gm V' D m1 g gw m2 gr gb fr to_ ws bl B0 B ph pw gn cn rv' bs ks k gB cB usB gK cK (j + 1) := by
 have e1 : (putAll D bs ks j).wt = (j : Int) := by rw [putAll_wt, hwt]; omega
 have e2 : (putAll D bs ks j).rd = 0 := by rw [putAll_rd, hrd]
 refine (bstep_more h.bc.arr h.bc.ig h.bc.nl h.bc.dk h.bc.dn h.hd hj hks h.ab h.fa h.fx h.bc.tt hn2 (by omega) (by omega) (fun x => by have := putAll_len D bs ks x j; have := hwr x; omega) (by omega) (by omega)).mono ?_
 rintro e w' ⟨rfl, rv', V', us', hA, hI, hD, hH, hFt, hbk, hU⟩
 refine ⟨rfl, rv', V', us', ?_⟩
 obtain ⟨l1, l2, l3, l4⟩ := h.lp
 have hpw := h.hd.ww.arr.ty
 have hph := h.hd.arr.ty
 have hga : Ty W ga 26 := by
  obtain ⟨_, c, m, q⟩ := row_blk h.bc.ig.own (g := ga) rfl
  exact ⟨c, m, q⟩
 have hne : ∀ {b : Nat} {t : TypeId}, Ty W b t → t ≠ 136 → t ≠ 123 → t ≠ 119 → t ≠ 26 → t ≠ 40 → ¬ (b = pw ∨ Ft p gl gm V b ∨ b = ga ∨ b = ph) := fun hb h1 h2 h3 h4 h5 e => by
  rcases e with e | e | e | e
  · exact h1 (hb.one (e ▸ hpw))
  · rcases h.bc.dk.ty e hb with e | e
    · exact h2 e
    · exact h3 e
  · exact h4 (hb.one (e ▸ hga))
  · exact h5 (hb.one (e ▸ hph))
 have hS : ∀ b, (b = pw ∨ Ft p gl gm V b ∨ b = ga ∨ b = ph) → S ≤ b := fun b e => by
  rcases e with e | e | e | e
  · omega
  · exact h.lo b e
  · omega
  · omega
 obtain ⟨⟨cg, mg, qg⟩, _, ⟨cw, mw, qw⟩⟩ := h.sp.cellsG
 obtain ⟨tr, tb⟩ := h.rs.tyG
 have hfb : ∀ b, Fw pw gn rv' b → Fw pw gn rv b := fun b hb => by
  rcases hb with hb | hb | hb
  · exact Or.inl hb
  · exact Or.inr (Or.inl hb)
  · exact Or.inr (Or.inr (hbk b hb))
 have hgt : Ty W g 128 := ⟨cg, mg, qg⟩
 have hwty : Ty W gw 126 := ⟨cw, mw, qw⟩
 have hsz := h.sz
 refine ⟨⟨hA, hI, by rw [imJ_len]; have := h.bc.nl; rw [imJ_len] at this; exact this, hD, by have := h.bc.dn; rw [putAll_la] at this ⊢; exact this, h.bc.tt.up hU (fun b e => Nat.le_trans l4 (hS b e))⟩, h.sp.up hU (hne hgt (by decide) (by decide) (by decide) (by decide) (by decide)) (hne hwty (by decide) (by decide) (by decide) (by decide) (by decide)), h.rs.up hU (hne tr (by decide) (by decide) (by decide) (by decide) (by decide)) (hne tb (by decide) (by decide) (by decide) (by decide) (by decide)), hH, fun b hb hf => ?_, fun b hb => h.fa b (hfb b hb), h.ab, fun b hb => ?_, h.lp, h.bel.trans (hU.below hsz hS), Nat.le_trans hsz hU.size⟩
 · rcases hFt b hf with hf | hf
   · exact h.fx b (hfb b hb) hf
   · have := h.hd.ww.lt (hfb b hb); omega
 · rcases hFt b hb with hf | hf
   · exact h.lo b hf
   · omega
theorem Wq.last (h : Wq w W S gx ga ca n us ims p gl gm V D m1 g gw m2 gr gb fr to_ ws bl B0 B ph pw gn cn rv bs ks k gB cB usB gK cK k) (hk9 : k ≤ 2185) (hwt : D.wt = 0) (hrd : D.rd = 0) :
 Calls Tryz.prog 10 #[.pointer (some ⟨gx, 0, none⟩), .pointer (some ⟨ph, 0, none⟩)] W fun e w' => e = .returned (.bool true) ∧ Wq w w' S gx ga ca n us ims p gl gm V D m1 g gw m2 gr gb fr to_ ws bl B0 B ph pw gn cn rv bs ks k gB cB usB gK cK k := by
 have e1 : (putAll D bs ks k).wt = (k : Int) := by rw [putAll_wt, hwt]; omega
 have e2 : (putAll D bs ks k).rd = 0 := by rw [putAll_rd, hrd]
 refine (bstep_end h.bc.arr h.bc.dk h.hd (by omega) (by omega) (by omega) (by omega)).mono ?_
 rintro e w' ⟨rfl, hb⟩
 exact ⟨rfl, h.below hb⟩
end
end Go.Proofs.YtdalbalphagmfaaGreatDoor

namespace Go.Proofs.YtdalbalphagmfaaGreatDoor
open Go.RowKit Go.Maps

set_option maxRecDepth 100000 in
set_option maxHeartbeats 16000000 in
theorem writes_walk {w : World} {sn fn tn : Int} {ra ta ba : Option Addr} {rn rc tl tc bn bc : Nat} {raw : List (Int × List Int)} {tk bs : List Int} (hr : IsSpots w (.slice ra rn rc) raw) (htk : IsT w (.slice ta tl tc) tk) (hb : IsB w (.slice ba bn bc) bs) (hbl : bn ≤ 140737488351232) (hT : TT w) :
 Calls Tryz.prog 3 #[.agg #[.int .i64 sn, .slice ra rn rc, .int .i64 fn, .int .i64 tn, .slice ta tl tc], .slice ba bn bc] w fun e w' => e = .returned (.bool true) ∧ Below w.heap.size w w' := by
 obtain ⟨n, hn⟩ : ∃ n : Nat, (wholeI sn 2 200).toNat = n := ⟨_, rfl⟩
 have hn2 : 2 ≤ n ∧ n ≤ 200 := by have := wholeI_in sn (show (2 : Int) ≤ 200 by omega); omega
 obtain ⟨IMS, hIMS⟩ : ∃ IMS, laidI n (List.replicate n zsec) (raw.take 400) = IMS := ⟨_, rfl⟩
 have HNL : Hid (IMS.length = n) := hide (by rw [← hIMS, laidI_len, List.length_replicate])
 obtain ⟨S, hS⟩ : ∃ S, w.heap.size = S := ⟨_, rfl⟩
 obtain ⟨w1, hw1⟩ : ∃ w1, w.alloc (.cells #[.int .i64 sn, .slice ra rn rc, .int .i64 fn, .int .i64 tn, .slice ta tl tc] 25) = w1 := ⟨_, rfl⟩
 have hA1 : Arr w1 S 25 [.int .i64 sn, .slice ra rn rc, .int .i64 fn, .int .i64 tn, .slice ta tl tc] := by rw [← hw1, ← hS]; exact Arr.new _ _ _
 have hb1 : Below w.heap.size w w1 := by rw [← hw1]; exact (Below.refl _ _).alloc (Nat.le_refl _) _
 have HLD := hide (laid_calls (sn := sn) (fn := fn) (tn := tn) (hr.belowW hb1) (isT_belowW htk hb1) (hT.below hb1))
 rw [hn, hIMS] at HLD
 generalize frI sn fn = FR at HLD
 generalize toI sn fn tn = TO at HLD
 generalize takenW _ _ _ _ = WS at HLD
 generalize takenR _ _ _ _ = RS0 at HLD
 obtain ⟨hn2a, hn2b⟩ := hn2
 have HS := hide hS
 have HW1 := hide hw1
 have HB1 := hide hb1
 have HT := hide hT
 have HB := hide hb
 have c10 : w1.cell? ⟨S, 0, none⟩ = some (.int .i64 sn) := arr_cell hA1 rfl
 have c11 : w1.cell? ⟨S, 1, none⟩ = some (.slice ra rn rc) := arr_cell hA1 rfl
 have c12 : w1.cell? ⟨S, 2, none⟩ = some (.int .i64 fn) := arr_cell hA1 rfl
 have c13 : w1.cell? ⟨S, 3, none⟩ = some (.int .i64 tn) := arr_cell hA1 rfl
 have c14 : w1.cell? ⟨S, 4, none⟩ = some (.slice ta tl tc) := arr_cell hA1 rfl
 rw [hS]
 clear hr htk hb hT hn hIMS hS hw1 hb1 hA1
 go_enter Tryz.func3, Tryz.ntmps3
 go_wp2_with (rw [HW1.out, HS.out])
 refine (unhide HLD).mono ?_
 rintro e w3 ⟨gx, p, gl, gm, V, m1, g, gw, m2, gr, gb, rfl, hL3⟩
 obtain ⟨B, hBe⟩ : ∃ B, w1.heap.size = B := ⟨_, rfl⟩
 rw [hBe] at hL3
 have hSB : S ≤ B := by have := HB1.out.size; have := HS.out; omega
 have hgbS : GB ≤ S := by have := HT.out.size; have := HS.out; omega
 have hb13 : Below B w1 w3 := hL3.l6.low
 have hb03 : Below S w w3 := by
  have h1 := HB1.out
  rw [HS.out] at h1
  exact h1.trans (hb13.mono hSB)
 have hT3 : TT w3 := HT.out.below (by have h := hb03; rw [← HS.out] at h; exact h)
 obtain ⟨ga, ca, us, hC3, hgaB⟩ := hL3.bc HNL.out (by omega) hT3
 have hS3 := hL3.sp
 have hR3 := hL3.rs
 have hW3 := hL3.tw
 obtain ⟨o1, o2, o3, o4, o5, o6⟩ := hL3.ord
 have hgw : m1 ≤ gw := hS3.row_lo.1
 have hgb : m2 ≤ gb := hR3.row_lo.1
 have hI3 : IsB w3 (.slice ba bn bc) bs := HB.out.below (by have h := hb03; rw [← HS.out] at h; exact h)
 have hbk : 0 < bn → ∀ x, blkOf (.slice ba bn bc) = some x → x < S := fun h0 x hx => by have := isB_lt HB.out h0 hx; have := HS.out; omega
 have hFt3 : ∀ b, Ft p gl gm V b → B ≤ b := fun b hb => ft_lo hL3.vn hL3.lo.1 hL3.lo.2.1 hL3.lo.2.2 b hb
 have hs3 : S ≤ w3.heap.size := by have := hb03.size; have := HS.out; omega
 have HNO : Hid (∀ f : Int, f ≠ 0 → (∀ W, Below w3.heap.size w3 W → ∀ gd cd, Calls Tryz.prog 26 #[.pointer (some ⟨p, 0, none⟩), .pointer (some ⟨g, 0, none⟩), .slice (some ⟨gd, 0, none⟩) bn cd] W fun e w' => e = .returned (.tuple #[.pointer none, .int .i64 f]) ∧ Below W.heap.size W w') → (∀ W, Below w3.heap.size w3 W → Calls Tryz.prog 29 #[.pointer (some ⟨gx, 0, none⟩), .int .i64 (bn : Int)] W fun e w' => e = .returned (.tuple #[.int .i64 f, .slice none 0 0]) ∧ Below W.heap.size W w') → Calls Tryz.prog 7 #[.pointer (some ⟨gx, 0, none⟩), .slice ba bn bc] w3 fun e w' => e = .returned (.tuple #[.pointer none, .bool true]) ∧ Below w3.heap.size w3 w') := hide (fun f hf h1 h2 => begin_no hC3 hS3 hR3 hW3 hI3 hbl hf (by show (0 : Int) ≤ 0; omega) (by show (0 : Int) ≤ 1000000000; omega) (by show (0 : Int) ≤ 0; omega) (by show (0 : Int) ≤ 1000000000; omega) h1 h2)
 have HLI : Hid (∀ W, Below w3.heap.size w3 W → Calls Tryz.prog 8 #[.pointer (some ⟨gx, 0, none⟩)] W fun e w' => e = .returned (.bool true) ∧ TT w' ∧ Below S w w') := hide (fun W hW => by
  have hCW := hC3.below hW
  refine (lies_calls hCW.arr hCW.ig hCW.nl hCW.dk hCW.dn (by omega) (fun i hi => now0 HNL.out i hi) (by show (0 : Int) ≤ 0; omega) (by show (0 : Int) ≤ 1000000; omega)).mono ?_
  rintro e w' ⟨rfl, _, hU⟩
  have hp := hFt3 p (Or.inl rfl)
  exact ⟨rfl, hCW.tt.up hU (fun b e => by omega), (hb03.trans (hW.mono hs3)).trans (hU.below (by have := hW.size; omega) (fun b e => by omega))⟩)
 have hno : (∃ f : Int, f ≠ 0 ∧ Calls Tryz.prog 7 #[.pointer (some ⟨gx, 0, none⟩), .slice ba bn bc] w3 (fun e w' => e = .returned (.tuple #[.pointer none, .bool true]) ∧ Below w3.heap.size w3 w')) ∨ (∃ (k : Nat) (ks : List Nat), bn ≤ 1048576 ∧ secN (bn : Int) = (k : Int) ∧ 1 ≤ k ∧ k ≤ 2185 ∧ k ≤ freeN WS ∧ ks = (allF FR 0 WS).take k ∧ ∀ x ∈ ks, 1 ≤ x ∧ x < n) := by
  by_cases hl : bn ≤ 1048576
  · obtain ⟨k, hk, hk1, hk9⟩ := secN_nat hl
    by_cases hf : k ≤ freeN WS
    · by_cases hgood : ∀ x ∈ (allF FR 0 WS).take k, 1 ≤ x ∧ x < n
      · exact Or.inr ⟨k, _, hl, hk, hk1, hk9, hf, rfl, hgood⟩
      · refine Or.inl ⟨31, by decide, unhide HNO 31 (by decide) (fun W hW gd cd => ?_) (fun W hW => ?_)⟩
        · refine newWriter_sector (hC3.dk.below hW) (hS3.below hW) (hC3.tt.below hW).tz hl hk hf ?_
          have hri : ((allF FR 0 WS).take k).Pairwise (· < ·) := (allF_rises hS3).sublist (List.take_sublist _ _)
          have hlen : ((allF FR 0 WS).take k).length = k := by rw [List.length_take, freeN_allF]; omega
          generalize (allF FR 0 WS).take k = L at *
          by_cases h0 : L.getD 0 0 = 0
          · exact Or.inl h0
          · right
            rw [hC3.dn]
            by_cases hl2 : n ≤ L.getD (k - 1) 0
            · exact hl2
            · exfalso
              refine hgood fun x hx => ?_
              have h1 := iFirst hri hx
              obtain ⟨j, hj, e⟩ := List.mem_iff_getElem.1 hx
              have e2 : L.getD j 0 = x := by rw [List.getD_eq_getElem?_getD, List.getElem?_eq_getElem hj]; exact e
              by_cases ej : j = k - 1
              · rw [ej] at e2; omega
              · have := rises_at hri (show j < k - 1 by omega) (by omega); omega
        · have hbad : ∃ j, j < k ∧ (((allR FR RS0).take k).getD j 0 = 0 ∨ n ≤ ((allR FR RS0).take k).getD j 0) := by
           rw [hW3.all hS3]
           have hlen : ((allF FR 0 WS).take k).length = k := by rw [List.length_take, freeN_allF]; omega
           generalize (allF FR 0 WS).take k = L at *
           apply Classical.byContradiction
           intro hc
           refine hgood fun x hx => ?_
           obtain ⟨j, hj, e⟩ := List.mem_iff_getElem.1 hx
           have e2 : L.getD j 0 = x := by rw [List.getD_eq_getElem?_getD, List.getElem?_eq_getElem hj]; exact e
           apply Classical.byContradiction
           intro hx2
           exact hc ⟨j, by omega, by rw [e2]; omega⟩
          obtain ⟨j0, hj0, hb0, hg0⟩ := first_bad (P := fun j => ((allR FR RS0).take k).getD j 0 = 0 ∨ n ≤ ((allR FR RS0).take k).getD j 0) k hbad
          have hCW := hC3.below hW
          refine (refusal_takes (arr_cell hCW.arr rfl) (arr_cell hCW.arr rfl) (hR3.below hW) hl hk hk1 hk9 (by rw [hW3.all hS3, freeN_allF]; exact hf) rfl j0 (by omega) (fun j hj => by have := hg0 j hj; omega) (fun _ => hb0)).mono ?_
          rintro e w' ⟨h1, h2, _⟩
          exact ⟨h2 hj0, h1⟩
    · refine Or.inl ⟨60, by decide, unhide HNO 60 (by decide) (fun W hW gd cd => newWriter_full (hS3.below hW) hl (by rw [hk]; omega)) (fun W hW => refusal_full (arr_cell (hC3.below hW).arr rfl) (hR3.below hW) hl (by rw [hW3.all hS3, freeN_allF, hk]; omega))⟩
  · refine Or.inl ⟨2, by decide, unhide HNO 2 (by decide) (fun W hW gd cd => ?_) (fun W hW => ?_)⟩
    · refine (newWriter_long _ _ _ bn cd (by omega)).mono ?_
      rintro e w' ⟨rfl, rfl⟩
      exact ⟨rfl, Below.refl _ _⟩
    · refine (refusal_long _ bn (by omega)).mono ?_
      rintro e w' ⟨rfl, rfl⟩
      exact ⟨rfl, Below.refl _ _⟩
 rcases hno with ⟨f, _, hNB⟩ | ⟨k, ks, hl, hk, hk1, hk9, hf, hks, hin⟩
 · have HNB := hide hNB
   clear hNB hL3 hC3 hS3 hR3 hW3 hI3 hbk hFt3 hT3 hb13 HLD HNO c10 c11 c12 c13 c14
   go_wp2_with fail
   refine (unhide HNB).mono ?_
   rintro e w4 ⟨rfl, hb4⟩
   have HLI4 := hide (unhide HLI w4 hb4)
   clear HNB hb4 HLI
   go_wp2_with fail
   refine (unhide HLI4).mono ?_
   rintro e w5 ⟨rfl, hT5, hb5⟩
   have HST := hide (started_calls hT5)
   have HB5 := hide hb5
   clear hT5 hb5 HLI4
   go_wp2_with fail
   refine (unhide HST).mono ?_
   rintro e w6 ⟨rfl, hb6⟩
   have HB6 : Hid (Below S w w6) := hide (HB5.out.trans (hb6.mono (by have := HB5.out.size; have := HS.out; omega)))
   clear hb6 HST
   go_wp2
   go_ret
   exact ⟨rfl, HB6.out⟩
 · have hnod : ks.Nodup := by rw [hks]; exact (allF_nodup hS3).sublist (List.take_sublist _ _)
   have hBY := begin_yes hC3 hS3 hR3 hW3 hI3 hl hk hk1 hk9 hf hks hin (fun h x hx => by have := hbk h x hx; omega) (by omega) (by omega) (fun h x hx => by have := hbk h x hx; omega) (by show (0 : Int) ≤ 0; omega) (by show (0 : Int) ≤ 1000000000; omega) (by show (0 : Int) ≤ 0; omega) (by show (0 : Int) ≤ 1000000000; omega)
   have hFl3 : ∀ b, Ft p gl gm V b → b < w3.heap.size := fun b hb => hC3.dk.lt hb
   have hgal : ga < w3.heap.size := by
    obtain ⟨_, c, m, q⟩ := row_blk hC3.ig.own (g := ga) rfl
    exact (Array.getElem?_eq_some_iff.1 q).1
   have HBY := hide hBY
   have HQ0 : Hid (∀ w4 ph pw gn cn rv gB cB usB gK cK, Bc w4 gx ga ca n us IMS p gl gm V ⟨IMS, fun _ => [], 0, 0, 0⟩ g gr B → Sp w4 m1 g gw FR TO (claimAll FR TO WS ks) → Rs w4 m2 gr gb FR TO (clrR FR RS0 ks) → Hd w4 w3.heap.size ph p pw gn cn rv bs ks k gB cB usB gK cK 0 → (∀ b, Fw pw gn rv b → w3.heap.size ≤ b ∧ b ≠ ph) → w3.heap.size ≤ ph → w3.heap.size ≤ gB → Up (fun b => b = gw ∨ b = gb) w3 w4 → Wq w w4 S gx ga ca n us IMS p gl gm V ⟨IMS, fun _ => [], 0, 0, 0⟩ m1 g gw m2 gr gb FR TO (claimAll FR TO WS ks) (clrR FR RS0 ks) B w3.heap.size ph pw gn cn rv bs ks k gB cB usB gK cK 0) := hide (fun w4 ph pw gn cn rv gB cB usB gK cK q1 q2 q3 q4 q5 q6 q7 q8 =>
    ⟨q1, q2, q3, q4, fun b hb hf2 => by have := (q5 b hb).1; have := hFl3 b hf2; omega, fun b hb => ⟨by have := (q5 b hb).1; omega, (q5 b hb).2⟩, by omega, fun b hb => by have := hFt3 b hb; omega, ⟨by have := (q5 pw (Or.inl rfl)).1; omega, by omega, by omega, hgbS⟩, hb03.trans (q8.below hs3 (fun b e => by rcases e with e | e <;> omega)), Nat.le_trans hs3 q8.size⟩)
   have HTW : Hid (Tw FR TO (claimAll FR TO WS ks) (clrR FR RS0 ks)) := hide (by
    have h := hW3.takeAll hS3 k
    have e : (allR FR RS0).take k = ks := by rw [hW3.all hS3]; exact hks.symm
    rw [e, ← hks] at h
    exact h)
   have HKS : Hid (∀ x ∈ ks, x < n) := hide (fun x hx => (hin x hx).2)
   clear hBY hL3 hC3 hS3 hR3 hW3 hI3 hbk hFt3 hT3 hb13 HLD HNO HLI c10 c11 c12 c13 c14 hks hin hf hk hl hnod hFl3 hgal
   go_wp2_with fail
   refine (unhide HBY).mono ?_
   rintro e w4 ⟨ph, pw, gn, cn, rv, gB, cB, usB, gK, cK, rfl, q1, q2, q3, q4, q5, q6, q7, q8⟩
   have HQ4 := hide (unhide HQ0 w4 ph pw gn cn rv gB cB usB gK cK q1 q2 q3 q4 q5 q6 q7 q8)
   clear HBY HQ0 q1 q2 q3 q4 q5 q6 q7 q8
   obtain ⟨B3, hB3⟩ : ∃ B3, w3.heap.size = B3 := ⟨_, rfl⟩
   rw [hB3] at HQ4
   obtain ⟨WK, hWK⟩ : ∃ WK, claimAll FR TO WS ks = WK := ⟨_, rfl⟩
   obtain ⟨RK, hRK⟩ : ∃ RK, clrR FR RS0 ks = RK := ⟨_, rfl⟩
   rw [hWK, hRK] at HQ4 HTW
   obtain ⟨D0, hD0⟩ : ∃ D0 : AD, (⟨IMS, fun _ => [], 0, 0, 0⟩ : AD) = D0 := ⟨_, rfl⟩
   have HD0 : Hid (D0.wt = 0 ∧ D0.rd = 0 ∧ (∀ x, (D0.wr x).length = 0) ∧ ∀ i, i < n → D0.now i = IMS.getD i []) := hide ⟨by rw [← hD0], by rw [← hD0], fun x => by rw [← hD0]; rfl, fun i hi => by rw [← hD0]; exact now0 HNL.out i hi⟩
   rw [hD0] at HQ4
   clear hWK hRK hB3 hD0
   go_wp2_with fail
   go_loopw [8] (fun iv W => ∃ (i j : Nat), i ≤ k + 2 ∧ j = min i k ∧ iv = .int .i64 (i : Int) ∧ Hid (∃ rv V us, Wq w W S gx ga ca n us IMS p gl gm V D0 m1 g gw m2 gr gb FR TO WK RK B B3 ph pw gn cn rv bs ks k gB cB usB gK cK j)) (fun iv _ => k + 2 - (intOf iv).toNat)
   case atStart => exact ⟨0, 0, by omega, by omega, rfl, hide ⟨_, _, _, HQ4.out⟩⟩
   case round =>
    clear HQ4
    obtain ⟨i, j, hi, hj, rfl, HI⟩ := hrel
    have HJ := hide hj
    have hc2 : wr.cell? ⟨ph, 2, none⟩ = some (.slice (some ⟨gK, 0, none⟩) k cK) := by
     obtain ⟨_, _, _, hQ⟩ := HI.out
     exact hQ.hd.cells.2.2.1
    have ek : IntKind.i64.wrap ((k : Int) + 2) = (k : Int) + 2 := by rw [IntKind.wrap_i64]; omega
    by_cases hlt : i < k + 2
    · have hltI : (i : Int) < (k : Int) + 2 := by omega
      have HSTP : Hid (Calls Tryz.prog 10 #[.pointer (some ⟨gx, 0, none⟩), .pointer (some ⟨ph, 0, none⟩)] wr fun e w' => e = .returned (.bool true) ∧ Hid (∃ rv V us, Wq w w' S gx ga ca n us IMS p gl gm V D0 m1 g gw m2 gr gb FR TO WK RK B B3 ph pw gn cn rv bs ks k gB cB usB gK cK (min (i + 1) k))) := hide (by
       obtain ⟨rv, V, us, hQ⟩ := HI.out
       obtain ⟨d1, d2, d3, _⟩ := HD0.out
       by_cases hjk : j < k
       · refine (hQ.step hjk HKS.out hk9 (by omega) d1 d2 d3).mono ?_
         rintro e w' ⟨rfl, rv', V', us', hQ'⟩
         rw [show min (i + 1) k = j + 1 by omega]
         exact ⟨rfl, hide ⟨rv', V', us', hQ'⟩⟩
       · have e : j = k := by omega
         rw [e] at hQ
         refine (hQ.last hk9 d1 d2).mono ?_
         rintro e w' ⟨rfl, hQ'⟩
         rw [show min (i + 1) k = k by omega]
         exact ⟨rfl, hide ⟨rv, V, us, hQ'⟩⟩)
      clear HI hj
      go_wp2_with fail
      refine (unhide HSTP).mono ?_
      rintro e w7 ⟨rfl, HQ7⟩
      clear HSTP hc2
      go_wp2
      go_roundw
      case rel => exact ⟨i + 1, _, by omega, rfl, by go_num, HQ7⟩
      case measure => simp [intOf]; omega
    · have hltI : ¬ (i : Int) < (k : Int) + 2 := by omega
      obtain ⟨rv, V, us, hQ⟩ := HI.out
      have ej : j = k := by omega
      rw [ej] at hQ
      obtain ⟨d1, d2, d3, d4⟩ := HD0.out
      have HS12 : Hid (∀ W, Up (fun b => b = p) wr W → W.cell? ⟨gx, 1, none⟩ = some (.pointer (some ⟨g, 0, none⟩)) ∧ W.cell? ⟨gx, 3, none⟩ = some (.pointer (some ⟨gr, 0, none⟩))) := hide (fun W hU => by
       have hA := hQ.bc.arr.up hU (fun e => absurd (hQ.bc.arr.ty.one (e ▸ hQ.bc.dk.blk.ty)) (by decide))
       exact ⟨arr_cell hA rfl, arr_cell hA rfl⟩)
      have HLI : Hid (∀ W, Below wr.heap.size wr W → Calls Tryz.prog 8 #[.pointer (some ⟨gx, 0, none⟩)] W fun e w' => e = .returned (.bool true) ∧ Up (fun b => b = p) W w') := hide (fun W hW => by
       have hCW := hQ.bc.below hW
       refine (lies_calls hCW.arr hCW.ig hCW.nl hCW.dk hCW.dn (by omega) (fun i hi => imJ_now HNL.out d4 k i hi) (by rw [putAll_rd, d2]; omega) (by rw [putAll_rd, d2]; omega)).mono ?_
       rintro e w' ⟨rfl, _, hU⟩
       exact ⟨rfl, hU⟩)
      have hpS : S ≤ p := hQ.lo p (Or.inl rfl)
      have HTT : Hid (∀ W, Up (fun b => b = p) wr W → TT W ∧ Below S w W) := hide (fun W hU => ⟨hQ.bc.tt.up hU (fun b e => by omega), hQ.bel.trans (hU.below hQ.sz (fun b e => by omega))⟩)
      obtain ⟨⟨cg, mg, qg⟩, _, ⟨cw, mw, qw⟩⟩ := hQ.sp.cellsG
      obtain ⟨tr, tb⟩ := hQ.rs.tyG
      have hgt : Ty wr g 128 := ⟨cg, mg, qg⟩
      have hwty : Ty wr gw 126 := ⟨cw, mw, qw⟩
      have hpty := hQ.bc.dk.blk.ty
      have HL1 : Hid (∀ W, Up (fun b => b = p) wr W → Calls Tryz.prog 12 #[.pointer (some ⟨g, 0, none⟩)] W fun e w' => ∃ v, e = .returned v ∧ Row w' W.heap.size 3 v (iV (allF FR 0 WK)) ∧ Below W.heap.size W w') := hide (fun W hU => list_calls (hQ.sp.up hU (fun e => absurd (hgt.one (e ▸ hpty)) (by decide)) (fun e => absurd (hwty.one (e ▸ hpty)) (by decide))) (unhide HTT W hU).1.tz)
      have HL2 : Hid (∀ W, Up (fun b => b = p) wr W → Calls Tryz.prog 13 #[.pointer (some ⟨gr, 0, none⟩)] W fun e w' => ∃ v, e = .returned v ∧ Row w' W.heap.size 3 v (iV (allF FR 0 WK)) ∧ Below W.heap.size W w') := hide (fun W hU => by
       have h := rlist_calls (hQ.rs.up hU (fun e => absurd (tr.one (e ▸ hpty)) (by decide)) (fun e => absurd (tb.one (e ▸ hpty)) (by decide)))
       rw [HTW.out.all hQ.sp] at h
       exact h)
      clear hQ HI hj ej qg qw tr tb hgt hwty hpty
      go_wp2_with fail
      have hy0 : Below wr.heap.size wr wr.drew := (Below.refl _ _).drew
      refine wp_region_held_drew (S := fun W => W.cell? ⟨gx, 1, none⟩ = some (.pointer (some ⟨g, 0, none⟩)) ∧ W.cell? ⟨gx, 3, none⟩ = some (.pointer (some ⟨gr, 0, none⟩))) (by kernel_rfl) (unhide HS12 _ (Up.of_below hy0)) (fun hHeld => ?_)
      refine wpAnyH_take (i := 0) (v := .pointer (some ⟨gx, 0, none⟩)) rfl (by kernel_rfl) (by kernel_rfl) (by kernel_rfl) (fun _ _ _ h => h) (Or.inl ⟨by rfl, fun w hSw => by obtain ⟨hS1, hS2⟩ := hSw; go_simp⟩) (by assumption) ?_
      simp only [fGa, fGz, Act.put, fSa, fSz, fSs]
      refine wpAnyH_ready (rs := [1]) (by kernel_rfl) (by simp) (AllReadyH.cons rfl (fun K hK => ?_) AllReadyH.nil)
      refine step_call1C (by rfl) 8 lies_enter (.tmp 47) _ rfl rfl (unhide HLI _ hy0) ?_
      rintro e wa ⟨rfl, hua⟩
      have hv1 : Up (fun b => b = p) wr wa := (Up.of_below hy0).trans hua (fun b h => Or.inl h)
      refine ⟨_, rfl, ?_⟩
      refine hK.out _ _ (unhide HS12 _ hv1) (fun hJ1 => ?_)
      clear hK K
      simp only [fGa, fGs, fGz, Act.put, fSa, fSz, fSs]
      refine wpAnyH_take (i := 2) (v := .bool true) rfl (by kernel_rfl) (by kernel_rfl) (by kernel_rfl) (fun _ _ _ h => h) (Or.inl ⟨by rfl, fun w hSw => by obtain ⟨hS1, hS2⟩ := hSw; go_simp⟩) (by assumption) ?_
      simp only [fGa, fGs, fGz, Act.put, fSa, fSz, fSs]
      refine wpAnyH_take (i := 3) (v := .pointer (some ⟨gx, 0, none⟩)) rfl (by kernel_rfl) (by kernel_rfl) (by kernel_rfl) (fun _ _ _ h => h) (Or.inl ⟨by rfl, fun w hSw => by obtain ⟨hS1, hS2⟩ := hSw; go_simp⟩) (by assumption) ?_
      simp only [fGa, fGs, fGz, Act.put, fSa, fSz, fSs]
      refine wpAnyH_take (i := 4) (v := .pointer (some ⟨gx, 0, none⟩)) rfl (by kernel_rfl) (by kernel_rfl) (by kernel_rfl) (fun _ _ _ h => h) (Or.inl ⟨by rfl, fun w hSw => by obtain ⟨hS1, hS2⟩ := hSw; go_simp⟩) (by assumption) ?_
      simp only [fGa, fGs, fGz, Act.put, fSa, fSz, fSs]
      refine wpAnyH_take (i := 5) (v := .pointer (some ⟨gx, 1, none⟩)) rfl (by kernel_rfl) (by kernel_rfl) (by kernel_rfl) (fun _ _ _ h => h) (Or.inl ⟨by rfl, fun w hSw => by obtain ⟨hS1, hS2⟩ := hSw; go_simp⟩) (by assumption) ?_
      simp only [fGa, fGs, fGz, Act.put, fSa, fSz, fSs]
      refine wpAnyH_take (i := 6) (v := .pointer (some ⟨g, 0, none⟩)) rfl (by kernel_rfl) (by kernel_rfl) (by kernel_rfl) (fun _ _ _ h => h) (Or.inl ⟨by rfl, fun w hSw => by obtain ⟨hS1, hS2⟩ := hSw; go_simp⟩) (by assumption) ?_
      simp only [fGa, fGs, fGz, Act.put, fSa, fSz, fSs]
      refine wpAnyH_take (i := 8) (v := .pointer (some ⟨gx, 0, none⟩)) rfl (by kernel_rfl) (by kernel_rfl) (by kernel_rfl) (fun _ _ _ h => h) (Or.inl ⟨by rfl, fun w hSw => by obtain ⟨hS1, hS2⟩ := hSw; go_simp⟩) (by assumption) ?_
      simp only [fGa, fGs, fGz, Act.put, fSa, fSz, fSs]
      refine wpAnyH_take (i := 9) (v := .pointer (some ⟨gx, 0, none⟩)) rfl (by kernel_rfl) (by kernel_rfl) (by kernel_rfl) (fun _ _ _ h => h) (Or.inl ⟨by rfl, fun w hSw => by obtain ⟨hS1, hS2⟩ := hSw; go_simp⟩) (by assumption) ?_
      simp only [fGa, fGs, fGz, Act.put, fSa, fSz, fSs]
      refine wpAnyH_take (i := 10) (v := .pointer (some ⟨gx, 3, none⟩)) rfl (by kernel_rfl) (by kernel_rfl) (by kernel_rfl) (fun _ _ _ h => h) (Or.inl ⟨by rfl, fun w hSw => by obtain ⟨hS1, hS2⟩ := hSw; go_simp⟩) (by assumption) ?_
      simp only [fGa, fGs, fGz, Act.put, fSa, fSz, fSs]
      refine wpAnyH_take (i := 11) (v := .pointer (some ⟨gr, 0, none⟩)) rfl (by kernel_rfl) (by kernel_rfl) (by kernel_rfl) (fun _ _ _ h => h) (Or.inl ⟨by rfl, fun w hSw => by obtain ⟨hS1, hS2⟩ := hSw; go_simp⟩) (by assumption) ?_
      simp only [fGa, fGs, fGz, Act.put, fSa, fSz, fSs]
      refine wpAnyH_ready (rs := [7]) (by kernel_rfl) (by simp) (AllReadyH.cons rfl (fun K hK => ?_) AllReadyH.nil)
      refine step_call1GC (by rfl) 12 list6_enter (.tmp 53) _ rfl rfl (unhide HL1 _ hv1) ?_
      rintro e wb ⟨v1, rfl, hr1, hbwb⟩
      obtain ⟨la1, lc1, rfl⟩ := hr1.shape
      have hv2 : Up (fun b => b = p) wr wb := hv1.then_below hbwb
      refine ⟨_, rfl, ?_⟩
      refine hK.out _ _ (unhide HS12 _ hv2) (fun hJ2 => ?_)
      clear hK K
      simp only [fGa, fGs, fGz, Act.put, fSa, fSz, fSs]
      refine wpAnyH_ready (rs := [12]) (by kernel_rfl) (by simp) (AllReadyH.cons rfl (fun K hK => ?_) AllReadyH.nil)
      refine step_call1GC (by rfl) 13 rlist_enter (.tmp 58) _ rfl rfl (unhide HL2 _ hv2) ?_
      rintro e wc ⟨v2, rfl, hr2, hbwc⟩
      obtain ⟨la2, lc2, rfl⟩ := hr2.shape
      have hr1b := Row.mono (owns_up hr1 (Up.of_below (F := fun _ => False) hbwc) (fun _ _ h => h)) (Nat.zero_le _)
      have hv3 : Up (fun b => b = p) wr wc := hv2.then_below hbwc
      refine ⟨_, rfl, ?_⟩
      refine hK.out _ _ (unhide HS12 _ hv3) (fun hJ3 => ?_)
      clear hK K
      simp only [fGa, fGs, fGz, Act.put, fSa, fSz, fSs]
      refine wpAnyH_ready (rs := [13]) (by kernel_rfl) (by simp) (AllReadyH.cons rfl (fun K hK => ?_) AllReadyH.nil)
      refine step_call2GC (by rfl) 11 sameInts6_enter (.tmp 54) (.tmp 59) _ rfl rfl rfl ((sameInts6_calls hr1b hr2)) ?_
      rintro e wd ⟨rfl, hbwd⟩
      rw [decide_eq_true rfl]
      have hv4 : Up (fun b => b = p) wr wd := hv3.then_below hbwd
      refine ⟨_, rfl, ?_⟩
      refine hK.out _ _ (unhide HS12 _ hv4) (fun hJ4 => ?_)
      clear hK K
      simp only [fGa, fGs, fGz, Act.put, fSa, fSz, fSs]
      refine wpAnyH_take (i := 14) (v := .bool true) rfl (by kernel_rfl) (by kernel_rfl) (by kernel_rfl) (fun _ _ _ h => h) (Or.inl ⟨by rfl, fun w hSw => by obtain ⟨hS1, hS2⟩ := hSw; go_simp⟩) (by assumption) ?_
      simp only [fGa, fGs, fGz, Act.put, fSa, fSz, fSs]
      refine wpAnyH_take (i := 15) (v := .bool true) rfl (by kernel_rfl) (by kernel_rfl) (by kernel_rfl) (fun _ _ _ h => h) (Or.inl ⟨by rfl, fun w hSw => by obtain ⟨hS1, hS2⟩ := hSw; go_simp⟩) (by assumption) ?_
      simp only [fGa, fGs, fGz, Act.put, fSa, fSz, fSs]
      refine wpAnyH_ready (rs := [16]) (by kernel_rfl) (by simp) (AllReadyH.cons rfl (fun K hK => ?_) AllReadyH.nil)
      refine step_call0C (by rfl) 9 started_enterW  _ rfl  (started_calls (unhide HTT _ hv4).1) ?_
      rintro e we ⟨rfl, hbwe⟩
      have hv5 : Up (fun b => b = p) wr we := hv4.then_below hbwe
      have hbF : Below S w we := (unhide HTT _ hv5).2
      refine ⟨_, rfl, ?_⟩
      refine hK.out _ _ (unhide HS12 _ hv5) (fun hJ5 => ?_)
      clear hK K
      simp only [fGa, fGs, fGz, Act.put, fSa, fSz, fSs]
      refine wpAnyH_take (i := 17) (v := .bool true) rfl (by kernel_rfl) (by kernel_rfl) (by kernel_rfl) (fun _ _ _ h => h) (Or.inl ⟨by rfl, fun w hSw => by obtain ⟨hS1, hS2⟩ := hSw; go_simp⟩) (by assumption) ?_
      simp only [fGa, fGs, fGz, Act.put, fSa, fSz, fSs]
      refine wpAnyH_take (i := 18) (v := .bool true) rfl (by kernel_rfl) (by kernel_rfl) (by kernel_rfl) (fun _ _ _ h => h) (Or.inl ⟨by rfl, fun w hSw => by obtain ⟨hS1, hS2⟩ := hSw; go_simp⟩) (by assumption) ?_
      simp only [fGa, fGs, fGz, Act.put, fSa, fSz, fSs]
      refine wpAnyH_done (by kernel_rfl) ?_ _
      go_wp2
      go_ret
      exact ⟨rfl, hbF⟩
end Go.Proofs.YtdalbalphagmfaaGreatDoor

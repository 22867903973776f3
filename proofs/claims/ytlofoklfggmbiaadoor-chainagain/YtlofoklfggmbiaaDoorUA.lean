/- A desk of kilnlaw1, in chain's statements: Lend, Back, Wipe. Refs in a row of the call's own. ChainAgain: chains on a disk, and what lies in memory. -/
import Derived.Test.YtlofoklfggmbiaaDoorSG
import Derived.Test.YtlofoklfggmbiaaDoorRH
import Derived.Test.YtlofoklfggmbiaaDoorQA
import Derived.Laws.CopyOwn
import Derived.Laws.BitsAllLaws
import Derived.Deep.DeepCutAuto
import Derived.Test.YtlofoklfggmbiaaDoorSK
import Derived.Test.YtlofoklfggmbiaaDoorRK
import Derived.Test.YtlofoklfggmbiaaDoorRL
namespace Go.Proofs.YtlofoklfggmbiaaDoor
open Go.RowKit

theorem Own8.row {w : World} {B : Nat} {v : Value} {xs : List Int} (h : Own8 w B v xs) : Row w B 5 v (xs.map (Value.int .u8)) := by
 unfold Row; rw [List.length_map]; exact h.1
theorem Row.own8 {w : World} {B : Nat} {v : Value} {xs : List Int} (h : Row w B 5 v (xs.map (Value.int .u8))) (hb : ∀ x ∈ xs, 0 ≤ x ∧ x ≤ 255) : Own8 w B v xs := by
 refine ⟨?_, hb⟩
 unfold Row at h; rw [List.length_map] at h; exact h
/-- The blocks of A, as far as they are there, stay. -/
structure Kp (A : Nat → Prop) (w w' : World) : Prop where
 os : w'.os = w.os
 tape : w'.tape = w.tape
 output : w'.output = w.output
 size : w.heap.size ≤ w'.heap.size
 block : ∀ k, k < w.heap.size → A k → w'.heap[k]? = w.heap[k]?
theorem Kp.refl (A : Nat → Prop) (w : World) : Kp A w w := ⟨rfl, rfl, rfl, Nat.le_refl _, fun _ _ _ => rfl⟩
theorem Kp.trans {A : Nat → Prop} {a b c : World} (h : Kp A a b) (k : Kp A b c) : Kp A a c :=
 ⟨k.os.trans h.os, k.tape.trans h.tape, k.output.trans h.output, Nat.le_trans h.size k.size, fun i hi ho => (k.block i (Nat.lt_of_lt_of_le hi h.size) ho).trans (h.block i hi ho)⟩
theorem Kp.grown {A : Nat → Prop} {a w w' : World} {row : Option Nat} (h : Kp A a w) (hg : w.grownBy w' row) (hr : ∀ k, row = some k → ¬ A k) : Kp A a w' :=
 ⟨hg.os.trans h.os, hg.tape.trans h.tape, hg.output.trans h.output, Nat.le_trans h.size hg.size, fun k hk ho => (hg.block k (Nat.lt_of_lt_of_le hk h.size) (fun e => hr k e.symm ho)).trans (h.block k hk ho)⟩
theorem Kp.of_below {A : Nat → Prop} {w w' : World} (h : Below w.heap.size w w') : Kp A w w' := ⟨h.os, h.tape, h.output, h.size, fun k hk _ => h.block k hk⟩
theorem Kp.below {A : Nat → Prop} {w w' : World} {b : Nat} (h : Kp A w w') (hb : b ≤ w.heap.size) (hA : ∀ k, k < b → A k) : Below b w w' := ⟨h.os, h.tape, h.output, h.size, fun k hk => h.block k (by omega) (hA k hk)⟩
theorem grown_set1 (w : World) (g j : Nat) (u : Value) : w.grownBy (w.setCell ⟨g, j, none⟩ u) (some g) :=
 ⟨rfl, rfl, rfl, by simp, fun k _ hk => heap_setCell_other w ⟨g, j, none⟩ k u (fun e => hk (by simp [e]))⟩

theorem Kp.up {g : Nat} {room : Value} {w w' : World} (h : Kp (fun k => k ≠ g ∧ room.ownBlock ≠ some k) w w') : Up (fun b => b = g ∨ room.ownBlock = some b) w w' :=
 ⟨h.os, h.tape, h.output, h.size, fun k hk hn => h.block k hk ⟨fun e => hn (Or.inl e), fun e => hn (Or.inr e)⟩⟩

section
variable {ops : Array Oper} {rest : List Oper} {o : Oper} {a : Act} {Q : Exit → Act → World → Prop} {w : World} {K : Act → World → Prop}
set_option maxRecDepth 100000 in
/-- Bytes copied over the head of a row. -/
theorem wpList_copyRow (hgd : o.guard = none) (d s : Operand) (ho : o.op = .call { callee := .builtin .copy, args := #[d, s], argTypes := #[26, 26] }) {B g R c : Nat} {u : Value} {xs : List Value} {ys : List Int} (hd : a.eval d = .slice (some ⟨g, 0, none⟩) R c) (hs : a.eval s = u)
 (hrow : Row w B 5 (.slice (some ⟨g, 0, none⟩) R c) xs) (hys : IsB w u ys) (hle : ys.length ≤ R)
 (hk : ∀ w', Row w' B 5 (.slice (some ⟨g, 0, none⟩) R c) (ys.map (Value.int .u8) ++ xs.drop ys.length) → w.grownBy w' (some g) → wpList Tryd.prog ops Q rest (a.put o.dst (goInt ys.length)) w') : wpList Tryd.prog ops Q (o :: rest) a w := by
 have hsz : (Tryd.prog.info? 5).map (·.size) = some 1 := by
  obtain ⟨i0, hi, _, hz1, _⟩ := info_parts info8
  rw [hi]; simp [hz1]
 obtain ⟨a1, c1, hv⟩ := hrow.shape
 injection hv with e1 e2 e3
 obtain ⟨ua, un, uc, rfl⟩ := hys.shape
 have hun := hys.lenEq
 subst hun
 by_cases h0 : ys.length = 0
 · obtain rfl : ys = [] := List.eq_nil_of_length_eq_zero h0
   refine wpList_copy_nothing hgd d s _ _ ho 5 Tryd.underlying26 hsz _ _ _ _ _ _ hd hs (by simp) ?_
   exact hk w (by simpa using hrow) ⟨rfl, rfl, rfl, Nat.le_refl _, fun _ _ _ => rfl⟩
 · obtain ⟨_, a2, c2, hv2, _, _, _, hc2⟩ := hys
   obtain ⟨b2, off2, ha2, hcell⟩ := hc2 (by omega)
   injection hv2 with f1 f2 f3
   subst f1 f3
   subst ha2
   obtain ⟨hlen, hr2⟩ := hrow
   rcases hr2 with ⟨h, _⟩ | ⟨g3, cap, cur, h, hb, hg, hnc, hcm, hcs, htake⟩
   · cases h
   · injection h with h1 h2 h3
     injection h1 with h1
     injection h1 with h1
     subst h1 h3
     simp only [Nat.mul_one] at hcs htake
     refine wpList_copy_own hgd d s _ _ ho 5 Tryd.underlying26 hsz g 0 R c ⟨b2, off2, none⟩ ys.length _ hd hs cur 5 hg (ys.map (Value.int .u8)) (by simp [Nat.min_def]; omega) (fun j v hj => ?_) (by simp; omega) (u8_one ys) ?_
     · simp only [List.getElem?_map, Option.map_eq_some_iff] at hj
       obtain ⟨x, hx, rfl⟩ := hj
       have hjl := (List.getElem?_eq_some_iff.1 hx).1
       rw [Addr.add_lit, hcell j hjl, List.getD_eq_getElem?_getD, hx]
       rfl
     · have e : goInt ((ys.map (Value.int .u8)).length) = goInt ys.length := by simp
       rw [e]
       refine hk _ ⟨by simp, .inr ⟨g, c, _, by simp [e2]; omega, hb, setRow_heap w g cur _ _ _ hg, by simp; omega, hcm, by simp; omega, ?_⟩⟩ ⟨rfl, rfl, rfl, by simp, fun k _ hk => setRow_other w g k _ (fun e => hk (by simp [e]))⟩
       simp only [List.take_zero, List.nil_append, Nat.mul_one, Nat.zero_add]
       have hx : xs.drop ys.length = (cur.toList.drop ys.length).take (R - ys.length) := by rw [← htake, List.drop_take, e2]
       rw [hx, List.take_append, List.take_of_length_le (by simp)]
       congr 2
       · simp; omega
       · simp
end
/-- What lies at a place behind what is lent. -/
def md (i : Nat) : Int := (203 - 5 * (i : Int)) % 256
theorem md_byte (i : Nat) : 0 ≤ md i ∧ md i ≤ 255 := by unfold md; omega
def lentL (bs : List Int) (R : Nat) : List Int := bs ++ ((List.range R).map md).drop bs.length
set_option maxRecDepth 100000 in
set_option maxHeartbeats 400000 in
theorem mark_calls (i : Nat) (w : World) (hi : i ≤ 281474976710656) : Calls Tryd.prog 67 #[.int .i64 (i : Int)] w fun e w' => e = .returned (.int .u8 (md i)) ∧ w' = w := by
 have hm : (203 - 5 * (i : Int)) % 256 = md i := rfl
 go_enter Tryd.func67, Tryd.ntmps67
 go_wp2
 go_ret
 exact ⟨rfl, rfl⟩
theorem fill_set {α : Type} (f : Nat → α) {j : Nat} {xs : List α} (h : j < xs.length) : ((List.range j).map f ++ xs.drop j).set j (f j) = (List.range (j + 1)).map f ++ xs.drop (j + 1) := by
 rw [List.set_append_right _ _ (by simp), List.range_succ, List.map_append, List.append_assoc]
 congr 1
 simp only [List.length_map, List.length_range, Nat.sub_self]
 rw [List.drop_eq_getElem_cons h]
 rfl

def mdv (i : Nat) : Value := .int .u8 (md i)
theorem Kp.grown' {A : Nat → Prop} {a w w' : World} {row : Option Nat} (h : Kp A a w) (hg : w.grownBy w' row) (hr : ∀ k, row = some k → ¬ A k ∨ a.heap.size ≤ k) : Kp A a w' :=
 ⟨hg.os.trans h.os, hg.tape.trans h.tape, hg.output.trans h.output, Nat.le_trans h.size hg.size, fun k hk ho => (hg.block k (Nat.lt_of_lt_of_le hk h.size) (fun e => by
   rcases hr k e.symm with h1 | h1
   · exact h1 ho
   · omega)).trans (h.block k hk ho)⟩
/-- A desk: its room, and how much of it is lent. -/
structure Dsk (w : World) (B g : Nat) (room : Value) (xs : List Int) (N : Nat) : Prop where
 blk : w.heap[g]? = some (.cells #[room, .int .i64 (N : Int)] 85 (0, 0))
 own : Own8 w B room xs
 len : N ≤ xs.length
 big : xs.length ≤ 281474976710656
theorem Dsk.ne {w : World} {B g N : Nat} {room : Value} {xs : List Int} (h : Dsk w B g room xs N) : room.ownBlock ≠ some g := fun e => by
 rcases h.own.1.2 with ⟨rfl, _⟩ | ⟨g2, cap, cur, rfl, _, hg, _⟩
 · simp [Value.ownBlock] at e
 · simp only [Value.ownBlock, Option.some.injEq] at e
   subst e
   have := h.blk
   rw [hg] at this
   simp only [Option.some.injEq, Obj.cells.injEq] at this
   exact absurd this.2.1 (by decide)
/-- The blocks that are no part of the desk. -/
def Off (g : Nat) (room : Value) (k : Nat) : Prop := k ≠ g ∧ room.ownBlock ≠ some k
set_option maxRecDepth 100000 in
set_option maxHeartbeats 4000000 in
theorem lend_calls {w : World} {B g N : Nat} {room vb : Value} {xs bs : List Int} (h : Dsk w B g room xs N) (hB : B ≤ w.heap.size) (hvb : ∀ W, Kp (Off g room) w W → IsB W vb bs) (hl : bs.length ≤ 140737488351232) :
 Calls Tryd.prog 33 #[.pointer (some ⟨g, 0, none⟩), vb] w fun e w' => ∃ g2 R c, e = .returned (.slice (some ⟨g2, 0, none⟩) bs.length c) ∧ Dsk w' B g (.slice (some ⟨g2, 0, none⟩) R c) (lentL bs R) bs.length ∧ bs.length ≤ R ∧ (room.ownBlock = some g2 ∨ w.heap.size ≤ g2) ∧ Kp (Off g room) w w' := by
 obtain ⟨i0, hi, hz0, hz1, hz2⟩ := info_parts info8
 obtain ⟨ar, nr, cr, rfl⟩ := h.own.isB.shape
 have hnr := h.own.isB.lenEq
 obtain ⟨av, nv, cv, rfl⟩ := (hvb w (Kp.refl _ _)).shape
 have hnv := (hvb w (Kp.refl _ _)).lenEq
 have hbig := h.big
 have hc0 : w.cell? ⟨g, 0, none⟩ = some (.slice ar nr cr) := cell_of_row w g 0 _ _ _ h.blk
 have hf0 : w.frozen? ⟨g, 0, none⟩ = false := frozen_of_row w g 0 _ _ h.blk
 rw [← hnr] at hbig
 rw [← hnv] at hl ⊢
 have HNV := hide hnv
 have HNR := hide hnr
 have H := hide h
 have HVB := hide hvb
 have hglt : g < w.heap.size := (Array.getElem?_eq_some_iff.1 h.blk).1
 have HG : Hid (∀ w1, w.grownBy w1 none → w1.heap[g]? = some (.cells #[.slice ar nr cr, .int .i64 (N : Int)] 85 (0, 0)) ∧ w1.cell? ⟨g, 0, none⟩ = some (.slice ar nr cr) ∧ w1.frozen? ⟨g, 0, none⟩ = false) := fun w1 hg => by
  have e : w1.heap[g]? = some (.cells #[.slice ar nr cr, .int .i64 (N : Int)] 85 (0, 0)) := by rw [hg.block g hglt (by simp)]; exact h.blk
  exact ⟨e, cell_of_row w1 g 0 _ _ _ e, frozen_of_row w1 g 0 _ _ e⟩
 clear h hvb hnr hnv
 go_enter Tryd.func33, Tryd.ntmps33
 go_upto_if 15 with fail
 go_cut [4] (fun a wc => a = .slice none 0 0 ∧ ∃ g2 R c ys, wc.heap[g]? = some (.cells #[.slice (some ⟨g2, 0, none⟩) R c, .int .i64 (N : Int)] 85 (0, 0)) ∧ Row wc B 5 (.slice (some ⟨g2, 0, none⟩) R c) ys ∧ ys.length = R ∧ 2 * nv + 70 ≤ R ∧ R ≤ 281474976710656 ∧ ((Value.slice ar nr cr).ownBlock = some g2 ∨ w.heap.size ≤ g2) ∧ Kp (Off g (.slice ar nr cr)) w wc)
 case first =>
  by_cases hlt : nr < 2 * nv + 70
  · go_wp2_with (at_make; refine wpList_make_full _ rfl _ _ 26 rfl w.heap.size 5 i0 (.int .u8 0) 1 Tryd.underlying26 hi hz0 hz1 .i64 .i64 _ _ (2 * nv + 512) rfl rfl (by omega) (by omega) (by rw [hz2]; omega) (by unfold maxLen; omega) (Nat.le_refl _) ?_; intro w1 hown hgrow; obtain ⟨hb1, hc1, hf1⟩ := unhide HG w1 hgrow)
    go_meet
    have hs := grown_set1 w1 g 0 (.slice (some ⟨w.heap.size, 0, none⟩) (2 * nv + 512) (2 * nv + 512))
    have hrow : Row w1 w.heap.size 5 (.slice (some ⟨w.heap.size, 0, none⟩) (2 * nv + 512) (2 * nv + 512)) (List.replicate (2 * nv + 512) (.int .u8 0)) := by
     unfold Row
     rw [List.length_replicate]
     rw [made8] at hown
     exact hown
    refine ⟨rfl, w.heap.size, 2 * nv + 512, 2 * nv + 512, _, heap_setCell_same w1 g 0 _ _ _ hb1, (hrow.kept hs (Or.inr (by simp [Value.ownBlock]; omega))).mono hB, by simp, by omega, by omega, Or.inr (Nat.le_refl _), ?_⟩
    exact ((Kp.refl _ _).grown hgrow (fun k hk => by cases hk)).grown hs (fun k hk ha => by injection hk with hk; exact ha.1 hk.symm)
  · go_wp2
    go_meet
    obtain ⟨g2, c2, hv, _, _⟩ := (unhide H).own.row.head (by rw [List.length_map, ← HNR.out]; omega)
    rw [List.length_map, ← HNR.out] at hv
    have hh := H.out
    rw [hv] at hh ⊢
    exact ⟨rfl, g2, nr, c2, _, hh.blk, hh.own.row, by rw [List.length_map, ← HNR.out], by omega, hbig, Or.inl rfl, Kp.refl _ _⟩
 case rest =>
  obtain ⟨rfl, g2, R, c, ys, hbk, hrow, hyl, hR1, hR2, hloc, hkp⟩ := hcut
  have HYL := hide hyl
  have HBK := hide hbk
  have hgw : g < wc.heap.size := Nat.lt_of_lt_of_le hglt hkp.size
  obtain ⟨_, _, hvv, hRc, hcm, _, hg2w⟩ := hrow.head (by omega)
  injection hvv with e1 e2 e3
  injection e1 with e1
  injection e1 with e1
  subst e1 e3
  rw [hyl] at hRc
  have hgne : g2 ≠ g := fun e => by
   subst e
   rcases hrow.2 with ⟨hh, _⟩ | ⟨g3, cap, cur, hh, _, hg3, _⟩
   · cases hh
   · injection hh with h1 h2 h3
     injection h1 with h1
     injection h1 with h1
     subst h1
     rw [hg3] at hbk
     simp only [Option.some.injEq, Obj.cells.injEq] at hbk
     exact absurd hbk.2.1 (by decide)
  have HGB : Hid (∀ W, wc.grownBy W (some g2) → W.heap[g]? = some (.cells #[.slice (some ⟨g2, 0, none⟩) R c, .int .i64 (N : Int)] 85 (0, 0)) ∧ W.cell? ⟨g, 0, none⟩ = some (.slice (some ⟨g2, 0, none⟩) R c) ∧ W.cell? ⟨g, 1, none⟩ = some (.int .i64 (N : Int)) ∧ W.frozen? ⟨g, 1, none⟩ = false) := fun W hW => by
   have e : W.heap[g]? = some (.cells #[.slice (some ⟨g2, 0, none⟩) R c, .int .i64 (N : Int)] 85 (0, 0)) := by rw [hW.block g hgw (by simpa using hgne.symm)]; exact hbk
   exact ⟨e, cell_of_row W g 0 _ _ _ e, by rw [cell_of_row W g 1 _ _ _ e]; rfl, frozen_of_row W g 1 _ _ e⟩
  clear hyl hbk hc0 hf0 e2
  go_wp2
  go_loopw [5] (fun jv W => ∃ (j : Nat), j ≤ R ∧ jv = .int .i64 (j : Int) ∧ Row W B 5 (.slice (some ⟨g2, 0, none⟩) R c) ((List.range j).map mdv ++ ys.drop j) ∧ wc.grownBy W (some g2)) (fun j _ => R - (intOf j).toNat)
  case atStart => exact ⟨0, by omega, rfl, by simpa using hrow, grown_refl _ _⟩
  case round =>
   clear hrow
   obtain ⟨j, hj, rfl, hr, hgr⟩ := hrel
   obtain ⟨hbk, hcg, hc1, hfg⟩ := unhide HGB wr hgr
   have hlen : ((List.range j).map mdv ++ ys.drop j).length = R := by simp [HYL.out]; omega
   by_cases hlt : j < R
   · have hfr := hr.frozenAt j
     have hst := hr.set j (mdv j)
     rw [fill_set mdv (by rw [HYL.out]; exact hlt)] at hst
     have hold : wr.cell? ⟨g2, j, none⟩ = ((List.range j).map mdv ++ ys.drop j)[j]? := hr.cellAt (by rw [hlen]; exact hlt)
     obtain ⟨old, hold2⟩ : ∃ old, ((List.range j).map mdv ++ ys.drop j)[j]? = some old := ⟨_, List.getElem?_eq_getElem (by rw [hlen]; exact hlt)⟩
     rw [hold2] at hold
     have HST := hide hst
     have HMK : Hid (∀ W : World, Calls Tryd.prog 67 #[.int .i64 (j : Int)] W fun e w' => e = .returned (.int .u8 (md j)) ∧ w' = W) := fun W => mark_calls j W (by omega)
     have HCS : Hid (∀ v : Value, (wr.setCell ⟨g2, j, none⟩ v).drew.cell? ⟨g, 0, none⟩ = some (.slice (some ⟨g2, 0, none⟩) R c)) := fun v => by
      have e : (wr.setCell ⟨g2, j, none⟩ v).drew.cell? ⟨g, 0, none⟩ = wr.cell? ⟨g, 0, none⟩ := World.cell?_of_block (w := wr) (heap_setCell_other wr ⟨g2, j, none⟩ g v (fun e => hgne e.symm))
      rw [e]; exact hcg
     clear hst hold2 hr hlen
     go_wp2_with fail
     focus (go_region_held3 (fun W => W.cell? ⟨g, 0, none⟩ = some (.slice (some ⟨g2, 0, none⟩) R c))
      (first | assumption | exact hcg | exact unhide HCS _)
      (first
        | (go_at_call 67; refine (unhide HMK _).mono ?_; rintro e w2 ⟨rfl, hw2⟩; obtain rfl := hw2.symm)))
     go_wp2
     go_roundw
     case rel =>
      rw [show Value.int .u8 (md j) = mdv j from rfl]
      obtain ⟨hs1, hs2⟩ := HST.out
      exact ⟨j + 1, by omega, by go_num, World.ownsRow.drew hs1, grown_drew (hgr.trans hs2)⟩
     case measure => simp [intOf]; omega
   · have hkr : Kp (Off g (.slice ar nr cr)) w wr := hkp.grown' hgr fun k hk => by
      injection hk with hk
      subst hk
      rcases hloc with h | h
      · exact Or.inl fun ho => ho.2 h
      · exact Or.inr h
     have hbI := unhide HVB wr hkr
     have hje : j = R := by omega
     have hr2 : Row wr B 5 (.slice (some ⟨g2, 0, none⟩) R c) ((List.range R).map mdv) := by
      rw [hje, List.drop_of_length_le (by rw [HYL.out]; exact Nat.le_refl _), List.append_nil] at hr
      exact hr
     have HR2 := hide hr2
     have HBI := hide hbI
     have HKR := hide hkr
     clear hr hr2 hbI hje hlen hkr
     go_wp2_with (refine wpList_copyRow rfl _ _ rfl rfl rfl (unhide HR2) (unhide HBI) (by rw [← HNV.out]; omega) ?_; intro w3 hr3 hg3; obtain ⟨hbk3, hcg3, hc13, hfg3⟩ := unhide HGB w3 (hgr.trans hg3))
     have hs := grown_set1 w3 g 1 (.int .i64 (nv : Int))
     have hbk4 := heap_setCell_same w3 g 1 _ _ (.int .i64 (nv : Int)) hbk3
     have e3 : bs.map (Value.int .u8) ++ ((List.range R).map mdv).drop bs.length = (lentL bs R).map (Value.int .u8) := by
      unfold lentL
      rw [List.map_append, List.map_drop, List.map_map]
      rfl
     rw [e3] at hr3
     have hr4 := hr3.kept hs (Or.inr (by simp [Value.ownBlock]; exact hgne))
     have hll : (lentL bs R).length = R := by
      have := HNV.out
      simp [lentL]; omega
     have hmem : ∀ x ∈ lentL bs R, 0 ≤ x ∧ x ≤ 255 := fun x hx => by
      rcases List.mem_append.1 hx with hx | hx
      · exact (unhide HBI).mem x hx
      · obtain ⟨i, _, rfl⟩ := List.mem_map.1 (List.mem_of_mem_drop hx)
        exact md_byte i
     have hkf := ((unhide HKR).grown' hg3 (fun k hk => by
      injection hk with hk
      subst hk
      rcases hloc with h | h
      · exact Or.inl fun ho => ho.2 h
      · exact Or.inr h)).grown' hs (fun k hk => by injection hk with hk; exact Or.inl fun ho => ho.1 hk.symm)
     go_ret
     exact ⟨g2, R, c, rfl, ⟨hbk4, hr4.own8 hmem, by rw [hll]; omega, by rw [hll]; exact hR2⟩, by omega, hloc, hkf⟩

theorem lentL_at {bs : List Int} {R j : Nat} (h : bs.length ≤ j) (hj : j < R) : (lentL bs R)[j]? = some (md j) := by
 unfold lentL
 rw [List.getElem?_append_right h, List.getElem?_drop, List.getElem?_map, List.getElem?_range (by omega)]
 simp
 congr 1
 omega
theorem Own8.room {w : World} {B g R c : Nat} {xs : List Int} (h : Own8 w B (.slice (some ⟨g, 0, none⟩) R c) xs) : R = xs.length ∧ R ≤ c ∧ c ≤ 9223372036854775807 ∧ g < w.heap.size := by
 rcases h.1.2 with ⟨hh, _⟩ | ⟨g3, cap, cur, hh, _, hg3, h1, h2, _⟩
 · cases hh
 · injection hh with e1 e2 e3
   injection e1 with e1
   injection e1 with e1
   subst e1 e3
   exact ⟨e2, by omega, by simpa [maxLen] using h2, (Array.getElem?_eq_some_iff.1 hg3).1⟩
set_option maxRecDepth 100000 in
set_option maxHeartbeats 4000000 in
theorem back_calls {w : World} {B g g2 R c : Nat} {vb : Value} {bs : List Int} (h : Dsk w B g (.slice (some ⟨g2, 0, none⟩) R c) (lentL bs R) bs.length) (hbR : bs.length ≤ R) (hvb : IsB w vb bs) :
 Calls Tryd.prog 34 #[.pointer (some ⟨g, 0, none⟩), vb] w fun e w' => e = .returned (.bool true) ∧ Below w.heap.size w w' := by
 obtain ⟨av, nv, cv, rfl⟩ := hvb.shape
 have hnv := hvb.lenEq
 obtain ⟨hRl, hRc, hcm, hg2w⟩ := h.own.room
 have hbig := h.big
 rw [← hRl] at hbig
 have hglt : g < w.heap.size := (Array.getElem?_eq_some_iff.1 h.blk).1
 have hblk := h.blk
 rw [← hnv] at hblk hbR
 have hsame : IsB w (.slice (some ⟨g2, 0, none⟩) nv c) bs := by
  have hi := h.own.isB
  by_cases h0 : 0 < R
  · have := IsB.first hi (k := nv) hbR h0
    rwa [show (lentL bs R).take nv = bs by rw [hnv]; unfold lentL; exact List.take_left] at this
  · have hb0 : bs = [] := List.eq_nil_of_length_eq_zero (by omega)
    subst hb0
    refine ⟨by simp, some ⟨g2, 0, none⟩, c, by rw [hnv], by simp, hcm, (fun h => by cases h), fun hp => by simp at hp⟩
 have HB : Hid (∀ W, Below w.heap.size w W → Below w.heap.size w W ∧ W.cell? ⟨g, 0, none⟩ = some (.slice (some ⟨g2, 0, none⟩) R c) ∧ W.cell? ⟨g, 1, none⟩ = some (.int .i64 (nv : Int))) := fun W hW => by
  have e : W.heap[g]? = some (.cells #[.slice (some ⟨g2, 0, none⟩) R c, .int .i64 (nv : Int)] 85 (0, 0)) := by rw [hW.block g hglt]; exact hblk
  exact ⟨hW, cell_of_row W g 0 _ _ _ e, by rw [cell_of_row W g 1 _ _ _ e]; rfl⟩
 have HSM : Hid (∀ W, Below w.heap.size w W → Calls Tryd.prog 68 #[.slice (some ⟨g2, 0, none⟩) nv c, .slice av nv cv] W fun e w' => e = .returned (.bool true) ∧ w' = W) := fun W hW => by
  have := same_calls (hsame.below hW) (hvb.below hW)
  rwa [decide_eq_true rfl] at this
 have HJ : Hid (∀ W, Below w.heap.size w W → ∀ j, nv ≤ j → j < R → W.cell? ⟨g2, j, none⟩ = some (.int .u8 (md j))) := fun W hW j h1 h2 => by
  rw [hW.cell (p := ⟨g2, j, none⟩) hg2w, h.own.row.cellAt (by rw [List.length_map, ← hRl]; exact h2), List.getElem?_map, lentL_at (by omega) h2]
  rfl
 have hc0 := ((unhide HB) w (Below.refl _ _)).2.1
 have hc1 := ((unhide HB) w (Below.refl _ _)).2.2
 have hnvc : nv ≤ c := Nat.le_trans hbR hRc
 have hnvi : (nv : Int) ≤ (c : Int) := by omega
 clear h hnv hvb hsame hblk hRl
 go_enter Tryd.func34, Tryd.ntmps34
 go_wp2_with fail
 focus (go_region_held3 (fun W => Below w.heap.size w W ∧ W.cell? ⟨g, 0, none⟩ = some (.slice (some ⟨g2, 0, none⟩) R c) ∧ W.cell? ⟨g, 1, none⟩ = some (.int .i64 (nv : Int)))
  ((refine unhide HB _ ?_; repeat (first | assumption | exact Below.refl _ _ | refine Below.drew ?_)))
  (first
    | (go_at_call 68; refine (unhide HSM _ (Below.drew (Below.refl _ _))).mono ?_; rintro e w2 ⟨rfl, hw2⟩; obtain rfl := hw2.symm)))
 go_wp2
 go_loopw [5] (fun jv W => ∃ (j : Nat), nv ≤ j ∧ j ≤ R ∧ jv = .int .i64 (j : Int) ∧ Below w.heap.size w W) (fun j _ => R - (intOf j).toNat)
 case atStart => exact ⟨nv, by omega, by omega, rfl, (Below.refl _ _).drew⟩
 case round =>
  clear hc0 hc1
  obtain ⟨j, hj1, hj2, rfl, hb⟩ := hrel
  have hc0 := (unhide HB wr hb).2.1
  by_cases hlt : j < R
  · have hcj := unhide HJ wr hb j hj1 hlt
    have HSS : Hid (∀ W, Below wr.heap.size wr W → Below wr.heap.size wr W ∧ W.cell? ⟨g, 0, none⟩ = some (.slice (some ⟨g2, 0, none⟩) R c) ∧ W.cell? ⟨g2, j, none⟩ = some (.int .u8 (md j))) := fun W hW =>
     ⟨hW, (hW.cell (p := ⟨g, 0, none⟩) (World.block_lt_of_cell? _ _ hc0)).trans hc0, (hW.cell (p := ⟨g2, j, none⟩) (World.block_lt_of_cell? _ _ hcj)).trans hcj⟩
    have HMK : Hid (∀ W : World, Calls Tryd.prog 67 #[.int .i64 (j : Int)] W fun e w' => e = .returned (.int .u8 (md j)) ∧ w' = W) := fun W => mark_calls j W (by omega)
    go_wp2_with fail
    focus (go_region_held3 (fun W => Below wr.heap.size wr W ∧ W.cell? ⟨g, 0, none⟩ = some (.slice (some ⟨g2, 0, none⟩) R c) ∧ W.cell? ⟨g2, j, none⟩ = some (.int .u8 (md j)))
     ((refine unhide HSS _ ?_; repeat (first | assumption | exact Below.refl _ _ | refine Below.drew ?_)))
     (first
       | (go_at_call 67; refine (unhide HMK _).mono ?_; rintro e w2 ⟨rfl, hw2⟩; obtain rfl := hw2.symm)))
    go_wp2
    go_roundw
    case rel => exact ⟨j + 1, by omega, by omega, by go_num, hb.drew⟩
    case measure => simp [intOf]; omega
  · go_wp2
    go_ret
    exact ⟨rfl, hb⟩

theorem xor_byte (x : Int) (h : 0 ≤ x ∧ x ≤ 255) : ∃ y : Int, bits .xor .u8 x 255 = y ∧ 0 ≤ y ∧ y ≤ 255 := by
 refine ⟨_, u8_xor x 255 h.1 (by omega) (by decide) (by decide), by omega, ?_⟩
 have : x.toNat ^^^ (255 : Int).toNat < 2 ^ 8 := Nat.xor_lt_two_pow (by omega) (by decide)
 omega
set_option maxRecDepth 100000 in
set_option maxHeartbeats 4000000 in
theorem wipe_calls {w : World} {B g g2 R c N : Nat} {xs : List Int} (h : Dsk w B g (.slice (some ⟨g2, 0, none⟩) R c) xs N) :
 Calls Tryd.prog 35 #[.pointer (some ⟨g, 0, none⟩)] w fun e w' => (∃ r, e = .returned r) ∧ (∃ ys, Dsk w' B g (.slice (some ⟨g2, 0, none⟩) R c) ys N) ∧ Kp (Off g (.slice (some ⟨g2, 0, none⟩) R c)) w w' := by
 obtain ⟨hRl, hRc, hcm, hg2w⟩ := h.own.room
 have hgne : g2 ≠ g := fun e => h.ne (by rw [e]; rfl)
 have hNR : N ≤ R := by have := h.len; omega
 have hbig := h.big
 rw [← hRl] at hbig
 have hglt : g < w.heap.size := (Array.getElem?_eq_some_iff.1 h.blk).1
 have HB : Hid (∀ W, w.grownBy W (some g2) → W.heap[g]? = some (.cells #[.slice (some ⟨g2, 0, none⟩) R c, .int .i64 (N : Int)] 85 (0, 0)) ∧ W.cell? ⟨g, 0, none⟩ = some (.slice (some ⟨g2, 0, none⟩) R c) ∧ W.cell? ⟨g, 1, none⟩ = some (.int .i64 (N : Int))) := fun W hW => by
  have e : W.heap[g]? = some (.cells #[.slice (some ⟨g2, 0, none⟩) R c, .int .i64 (N : Int)] 85 (0, 0)) := by rw [hW.block g hglt (by simpa using hgne.symm)]; exact h.blk
  exact ⟨e, cell_of_row W g 0 _ _ _ e, by rw [cell_of_row W g 1 _ _ _ e]; rfl⟩
 have HO := hide h.own
 have HRL := hide hRl
 clear h hRl
 go_enter Tryd.func35, Tryd.ntmps35
 go_wp2
 go_loopw [2] (fun jv W => ∃ (j : Nat) (ys : List Int), j ≤ N ∧ jv = .int .i64 (j : Int) ∧ Own8 W B (.slice (some ⟨g2, 0, none⟩) R c) ys ∧ w.grownBy W (some g2)) (fun j _ => N - (intOf j).toNat)
 case atStart => exact ⟨0, xs, by omega, rfl, HO.out, grown_refl _ _⟩
 case round =>
  obtain ⟨j, ys, hj, rfl, ho, hgr⟩ := hrel
  obtain ⟨hbk, hc0, hc1⟩ := unhide HB wr hgr
  by_cases hlt : j < N
  · have hyl := ho.room.1
    have hjR : j < R := by omega
    have hjRi : (j : Int) < (R : Int) := by omega
    obtain ⟨x, hx⟩ : ∃ x, ys[j]? = some x := ⟨_, List.getElem?_eq_getElem (by omega)⟩
    have hxb := ho.2 x (List.mem_of_getElem? hx)
    obtain ⟨y, hxor, hyb⟩ := xor_byte x hxb
    have hcj : wr.cell? ⟨g2, j, none⟩ = some (.int .u8 x) := by
     rw [ho.row.cellAt (by rw [List.length_map]; omega), List.getElem?_map, hx]; rfl
    have hfr := ho.row.frozenAt j
    have hst := ho.row.set j (.int .u8 y)
    rw [← List.map_set] at hst
    have HST := hide hst
    have HYB := hide hyb
    have HYS := hide ho.2
    clear hst hyl hx hxb ho hyb
    go_wp2_with fail
    go_region
    go_wp2
    go_roundw
    case rel =>
     obtain ⟨hs1, hs2⟩ := HST.out
     refine ⟨j + 1, ys.set j y, by omega, by go_num, Row.own8 (World.ownsRow.drew hs1) (fun z hz => ?_), grown_drew (hgr.trans hs2)⟩
     rcases List.mem_or_eq_of_mem_set hz with hz | rfl
     · exact HYS.out z hz
     · exact HYB.out
    case measure => simp [intOf]; omega
  · go_wp2
    refine bodyPost_end (results_none rfl _ _ _) rfl ⟨⟨_, rfl⟩, ⟨ys, hbk, ho, by have := ho.room.1; omega, by have := ho.room.1; omega⟩, (Kp.refl _ _).grown hgr fun k hk ho2 => ?_⟩
    injection hk with hk
    subst hk
    exact ho2.2 rfl
end Go.Proofs.YtlofoklfggmbiaaDoor

namespace Go.Proofs.YtlofoklfggmbiaaDoor
open Go.RowKit

abbrev RfT : Type := List Int × Int × Int
def rfV (r : RfT) : List Value := refV r.1 r.2.1 r.2.2
def rfsV (l : List RfT) : List Value := l.flatMap rfV
theorem rfV_len {r : RfT} (h : r.1.length = 32) : (rfV r).length = 34 := refV_len h _ _
theorem rfsV_len : ∀ {l : List RfT}, (∀ r ∈ l, r.1.length = 32) → (rfsV l).length = l.length * 34
 | [], _ => rfl
 | r :: l, h => by
   show (rfV r ++ rfsV l).length = _
   rw [List.length_append, rfV_len (h r (by simp)), rfsV_len (fun x hx => h x (by simp [hx])), List.length_cons]
   omega
theorem rfsV_app (l m : List RfT) : rfsV (l ++ m) = rfsV l ++ rfsV m := List.flatMap_append
theorem rfsV_at : ∀ {l : List RfT}, (∀ r ∈ l, r.1.length = 32) → ∀ {j k : Nat} {r : RfT}, l[j]? = some r → k < 34 → (rfsV l)[j * 34 + k]? = (rfV r)[k]?
 | [], _, j, k, r, hj, _ => by simp at hj
 | x :: l, h, 0, k, r, hj, hk => by
   have e : x = r := by simpa using hj
   subst e
   show (rfV x ++ rfsV l)[0 * 34 + k]? = _
   rw [Nat.zero_mul, Nat.zero_add, List.getElem?_append_left (by rw [rfV_len (h x (by simp))]; exact hk)]
 | x :: l, h, j + 1, k, r, hj, hk => by
   have hl := rfV_len (h x (by simp))
   show (rfV x ++ rfsV l)[(j + 1) * 34 + k]? = _
   rw [List.getElem?_append_right (by omega), hl, show (j + 1) * 34 + k - 34 = j * 34 + k by omega]
   exact rfsV_at (fun y hy => h y (by simp [hy])) (by simpa using hj) hk
theorem rfsV_one (l : List RfT) : ∀ v ∈ rfsV l, v.oneCell' = true := by
 intro v hv
 obtain ⟨r, _, hr⟩ := List.mem_flatMap.1 hv
 unfold rfV refV at hr
 simp only [List.mem_append, List.mem_map, List.mem_cons, List.not_mem_nil, or_false] at hr
 rcases hr with ⟨x, _, rfl⟩ | rfl | rfl <;> rfl
/-- Refs in a slice of the call's own. -/
def OwnR (w : World) (B : Nat) (v : Value) (l : List RfT) : Prop := (∀ r ∈ l, r.1.length = 32) ∧ w.ownsRow B 34 34 v l.length (rfsV l)
theorem OwnR.nil (w : World) (B : Nat) : OwnR w B (.slice none 0 0) [] := ⟨by simp, World.ownsRow_nil _ _ _ _⟩
theorem OwnR.up {F : Nat → Prop} {w w' : World} {B : Nat} {v : Value} {l : List RfT} (h : OwnR w B v l) (hu : Up F w w') (h1 : ∀ b, v.ownBlock = some b → ¬ F b) : OwnR w' B v l := ⟨h.1, owns_up h.2 hu h1⟩
theorem OwnR.ty {w : World} {B : Nat} {v : Value} {l : List RfT} (h : OwnR w B v l) {b : Nat} (hb : v.ownBlock = some b) : Ty w b 34 ∧ B ≤ b := by
 rcases h.2.2 with ⟨rfl, _⟩ | ⟨g, cap, cur, rfl, hB, hg, _⟩
 · cases hb
 · obtain rfl : g = b := by simpa [Value.ownBlock] using hb
   exact ⟨⟨_, _, hg⟩, hB⟩
theorem OwnR.shape {w : World} {B : Nat} {v : Value} {l : List RfT} (h : OwnR w B v l) (h0 : 0 < l.length) : ∃ g c, v = .slice (some ⟨g, 0, none⟩) l.length c ∧ B ≤ g ∧ l.length ≤ c ∧ c ≤ 9223372036854775807 := by
 rcases h.2.2 with ⟨rfl, h1⟩ | ⟨g, cap, cur, rfl, hB, hg, hle, hm, _⟩
 · omega
 · exact ⟨g, cap, rfl, hB, hle, by simpa [maxLen] using hm⟩
theorem OwnR.range {w : World} {B g n c : Nat} {l : List RfT} (h : OwnR w B (.slice (some ⟨g, 0, none⟩) n c) l) {j : Nat} {r : RfT} (hj : l[j]? = some r) : w.rangeAt g (j * 34) (rfV r) := fun k v hv => by
 have hr := h.1 r (List.mem_of_getElem? hj)
 have hk : k < 34 := by have := (List.getElem?_eq_some_iff.1 hv).1; rw [rfV_len hr] at this; exact this
 have e := rfsV_at h.1 hj hk
 rw [hv] at e
 have := World.ownsRow.cells (g := g) h.2 rfl (j * 34 + k) _ e
 rw [Addr.add_lit] at this
 rw [← this]
 congr 2
 omega
def z34 : List Value := List.replicate 32 (.int .u8 0) ++ [.int .i64 0, .int .i64 0]
theorem infoRf : (Tryd.prog.info? 34).map (fun i => (i.zero, i.size, i.bytes)) = some (some (.agg z34.toArray), 34, 48) := by kernel_rfl
section
variable {ops : Array Oper} {rest : List Oper} {o : Oper} {a : Act} {Q : Exit → Act → World → Prop} {w : World} {K : Act → World → Prop} {E : Prop}
theorem wp_appRf (x y : Operand) (ho : o.op = .call { callee := .builtin .append, args := #[x, y], argTypes := #[86, 86] }) {B g n c : Nat} {v : Value} {l m : List RfT} (hx : a.eval x = v) (hown : OwnR w B v l) (hy : a.eval y = .slice (some ⟨g, 0, none⟩) n c) (hn : n = m.length)
 (hm : ∀ r ∈ m, r.1.length = 32) (hu : Arr w g 34 (rfsV m)) (hl : l.length + m.length ≤ 100000000000) (hB : B ≤ w.heap.size)
 (hk : ∀ v' w', OwnR w' B v' (l ++ m) → w.grownBy w' v.ownBlock → (v'.ownBlock = v.ownBlock ∨ v'.ownBlock = some w.heap.size) → K (a.put o.dst v') w') : o.wp Tryd.prog a w K Q := by
 obtain ⟨i0, hi, hz0, hz1, hz2⟩ := info_parts infoRf
 subst hn
 obtain ⟨v', w', hr, h2, h3, h4, h5⟩ := run_append_own_at (P := Tryd.prog) w B 86 o.type 34 i0 _ 34 48 Tryd.underlying86 hi hz0 hz1 hz2 rfl (by decide) v l.length (rfsV l) hown.2 ⟨g, 0, none⟩ m.length c (rfsV m) (by rw [rfsV_len hm]) (fun j u hj => by rw [Addr.add_lit, Nat.zero_add]; exact arr_cell hu hj) (rfsV_one m) (by unfold maxLen; omega) (by omega) hB
 unfold Oper.wp execOp
 simp only [ho, resolve, invoke, builtin, Sem.run_bind, Sem.run_pure, Result.andThen_ok, List.map_toArray, List.map_cons, List.map_nil, hx, hy, hr]
 refine hk v' w' ⟨fun e he => ?_, ?_⟩ h3 h5
 · rcases List.mem_append.1 he with he | he
   · exact hown.1 e he
   · exact hm e he
 · rw [List.length_append, rfsV_app]; exact h2
theorem step_appRf (hgd : o.guard = none) (x y : Operand) (ho : o.op = .call { callee := .builtin .append, args := #[x, y], argTypes := #[86, 86] }) {B g n c : Nat} {v : Value} {l m : List RfT} (hx : a.eval x = v) (hown : OwnR w B v l) (hy : a.eval y = .slice (some ⟨g, 0, none⟩) n c) (hn : n = m.length)
 (hm : ∀ r ∈ m, r.1.length = 32) (hu : Arr w g 34 (rfsV m)) (hl : l.length + m.length ≤ 100000000000) (hB : B ≤ w.heap.size)
 (hk : ∀ v' w', OwnR w' B v' (l ++ m) → w.grownBy w' v.ownBlock → (v'.ownBlock = v.ownBlock ∨ v'.ownBlock = some w.heap.size) → K (a.put o.dst v') w') : if Region.wanted o (yielded ops a.tmps) = true then Oper.wp Tryd.prog o a w K Q else E := by
 rw [if_pos (by simp [Region.wanted, hgd])]
 exact wp_appRf x y ho hx hown hy hn hm hu hl hB hk
theorem build2_run_x (a0 a1 a2 a3 a4 a5 a6 a7 a8 a9 b0 b1 b2 b3 b4 b5 b6 b7 b8 b9 c0 c1 c2 c3 c4 c5 c6 c7 c8 c9 d0 d1 f l : Int) (a0' a1' a2' a3' a4' a5' a6' a7' a8' a9' b0' b1' b2' b3' b4' b5' b6' b7' b8' b9' c0' c1' c2' c3' c4' c5' c6' c7' c8' c9' d0' d1' f' l' : Int) (W : World) :
 (Instr.buildSlice 86 2 #[(0, .agg (refV [a0, a1, a2, a3, a4, a5, a6, a7, a8, a9, b0, b1, b2, b3, b4, b5, b6, b7, b8, b9, c0, c1, c2, c3, c4, c5, c6, c7, c8, c9, d0, d1] f l).toArray), (1, .agg (refV [a0', a1', a2', a3', a4', a5', a6', a7', a8', a9', b0', b1', b2', b3', b4', b5', b6', b7', b8', b9', c0', c1', c2', c3', c4', c5', c6', c7', c8', c9', d0', d1'] f' l').toArray)]).run Tryd.prog W = .ok (.slice (some ⟨W.heap.size, 0, none⟩) 2 2) (W.alloc (.cells (rfsV [([a0, a1, a2, a3, a4, a5, a6, a7, a8, a9, b0, b1, b2, b3, b4, b5, b6, b7, b8, b9, c0, c1, c2, c3, c4, c5, c6, c7, c8, c9, d0, d1], f, l), ([a0', a1', a2', a3', a4', a5', a6', a7', a8', a9', b0', b1', b2', b3', b4', b5', b6', b7', b8', b9', c0', c1', c2', c3', c4', c5', c6', c7', c8', c9', d0', d1'], f', l')]).toArray 34)) := by kernel_rfl
theorem build2_run {hs hs' : List Int} (hh : hs.length = 32) (hh' : hs'.length = 32) (f l f' l' : Int) (W : World) : (Instr.buildSlice 86 2 #[(0, .agg (refV hs f l).toArray), (1, .agg (refV hs' f' l').toArray)]).run Tryd.prog W = .ok (.slice (some ⟨W.heap.size, 0, none⟩) 2 2) (W.alloc (.cells (rfsV [(hs, f, l), (hs', f', l')]).toArray 34)) := by
 match hs, hh, hs', hh' with
 | [a0, a1, a2, a3, a4, a5, a6, a7, a8, a9, b0, b1, b2, b3, b4, b5, b6, b7, b8, b9, c0, c1, c2, c3, c4, c5, c6, c7, c8, c9, d0, d1], _, [a0', a1', a2', a3', a4', a5', a6', a7', a8', a9', b0', b1', b2', b3', b4', b5', b6', b7', b8', b9', c0', c1', c2', c3', c4', c5', c6', c7', c8', c9', d0', d1'], _ => exact build2_run_x a0 a1 a2 a3 a4 a5 a6 a7 a8 a9 b0 b1 b2 b3 b4 b5 b6 b7 b8 b9 c0 c1 c2 c3 c4 c5 c6 c7 c8 c9 d0 d1 f l a0' a1' a2' a3' a4' a5' a6' a7' a8' a9' b0' b1' b2' b3' b4' b5' b6' b7' b8' b9' c0' c1' c2' c3' c4' c5' c6' c7' c8' c9' d0' d1' f' l' W
theorem step_build2 (hgd : o.guard = none) (x y : Operand) (ho : o.op = .buildSlice 86 2 #[(0, x), (1, y)]) {hs hs' : List Int} {f l f' l' : Int} (hh : hs.length = 32) (hh' : hs'.length = 32) (hx : a.eval x = .agg (refV hs f l).toArray) (hy : a.eval y = .agg (refV hs' f' l').toArray)
 (hk : K (a.put o.dst (.slice (some ⟨w.heap.size, 0, none⟩) 2 2)) (w.alloc (.cells (rfsV [(hs, f, l), (hs', f', l')]).toArray 34))) : if Region.wanted o (yielded ops a.tmps) = true then Oper.wp Tryd.prog o a w K Q else E := by
 rw [if_pos (by simp [Region.wanted, hgd])]
 unfold Oper.wp execOp
 simp only [ho, List.map_toArray, List.map_cons, List.map_nil, hx, hy, Sem.run_bind, build2_run hh hh' f l f' l' w, Result.andThen_ok, Sem.run_pure]
 exact hk
end
end Go.Proofs.YtlofoklfggmbiaaDoor

namespace Go.Proofs.YtlofoklfggmbiaaDoor
open Go.RowKit Go.Maps

/-- A chain: its bytes, its sectors. -/
abbrev Chn : Type := List Int × List Nat
def refOf (c : Chn) : RfT := (shaOf c.1, ((c.2.getD 0 0 : Nat) : Int), (c.1.length : Int))
/-- Chains that stand on a disk. -/
structure Chs (D : AD) (ws : List Nat) (C : List Chn) : Prop where
 len : ∀ c ∈ C, c.1.length ≤ 2000
 byt : ∀ c ∈ C, ∀ x ∈ c.1, 0 ≤ x ∧ x ≤ 255
 cnt : ∀ c ∈ C, (c.2.length : Int) = secN (c.1.length : Int)
 pos : ∀ c ∈ C, 0 < c.2.length
 rng : ∀ c ∈ C, ∀ x ∈ c.2, 3 ≤ x ∧ x < 400
 nod : ∀ c ∈ C, c.2.Nodup
 now : ∀ c ∈ C, ∀ t, t < c.2.length → D.now (c.2.getD t 0) = sectK c.1 c.2 t
 off : ∀ c ∈ C, ∀ x ∈ c.2, x ∉ allF 3 0 ws
 fre : 397 ≤ (allF 3 0 ws).length + 5 * C.length
 frr : ∀ x ∈ allF 3 0 ws, 3 ≤ x ∧ x < 400
 frn : (allF 3 0 ws).Nodup
 wt : 0 ≤ D.wt ∧ D.wt ≤ 5 * (C.length : Int)
 wl : ∀ x, ((D.wr x).length : Int) ≤ D.wt
 rd : 0 ≤ D.rd ∧ D.rd ≤ 1000000
 la : D.la.length = 400
theorem secN_few {n : Nat} (h : n ≤ 2000) : ∃ k : Nat, secN (n : Int) = (k : Int) ∧ 1 ≤ k ∧ k ≤ 5 := by
 have h1 : 1 ≤ secN (n : Int) := by unfold secN; rw [if_neg (by omega), if_neg (by omega)]; omega
 have h2 : secN (n : Int) ≤ 5 := by unfold secN; rw [if_neg (by omega), if_neg (by omega)]; omega
 exact ⟨(secN (n : Int)).toNat, by omega, by omega, by omega⟩
theorem getD_mem6 {l : List Nat} {t : Nat} (h : t < l.length) : l.getD t 0 ∈ l := by
 rw [List.getD_eq_getElem?_getD, List.getElem?_eq_getElem h]
 exact List.getElem_mem h
/-- One more. -/
theorem Chs.add {D : AD} {ws ws' : List Nat} {C : List Chn} (h : Chs D ws C) {bs : List Int} {k : Nat} (hl : bs.length ≤ 2000) (hb : ∀ x ∈ bs, 0 ≤ x ∧ x ≤ 255) (hk : secN (bs.length : Int) = (k : Int)) (hC : C.length < 24) (hws : allF 3 0 ws' = (allF 3 0 ws).drop k) : Chs (putAll D bs ((allF 3 0 ws).take k) k) ws' (C ++ [(bs, (allF 3 0 ws).take k)]) := by
 obtain ⟨k', hk', hk1, hk5⟩ := secN_few hl
 obtain rfl : k' = k := by omega
 have hfr := h.fre
 have hlen : ((allF 3 0 ws).take k').length = k' := by rw [List.length_take]; omega
 have hsplit : ∀ x ∈ (allF 3 0 ws).take k', x ∉ (allF 3 0 ws).drop k' := fun x hx hy => by
  have hd : ((allF 3 0 ws).take k' ++ (allF 3 0 ws).drop k').Nodup := by rw [List.take_append_drop]; exact h.frn
  exact (List.nodup_append.1 hd).2.2 x hx x hy rfl
 have hnod : ((allF 3 0 ws).take k').Nodup := h.frn.sublist (List.take_sublist _ _)
 have hwt := h.wt
 refine ⟨fun c hc => ?_, fun c hc => ?_, fun c hc => ?_, fun c hc => ?_, fun c hc => ?_, fun c hc => ?_, fun c hc => ?_, fun c hc => ?_, ?_, ?_, ?_, ?_, fun x => ?_, ?_, ?_⟩
 · rcases List.mem_append.1 hc with hc | hc
   · exact h.len c hc
   · rw [List.mem_singleton.1 hc]; exact hl
 · rcases List.mem_append.1 hc with hc | hc
   · exact h.byt c hc
   · rw [List.mem_singleton.1 hc]; exact hb
 · rcases List.mem_append.1 hc with hc | hc
   · exact h.cnt c hc
   · rw [List.mem_singleton.1 hc]; show ((((allF 3 0 ws).take k').length : Nat) : Int) = _; rw [hlen, hk]
 · rcases List.mem_append.1 hc with hc | hc
   · exact h.pos c hc
   · rw [List.mem_singleton.1 hc]; show 0 < ((allF 3 0 ws).take k').length; omega
 · rcases List.mem_append.1 hc with hc | hc
   · exact h.rng c hc
   · rw [List.mem_singleton.1 hc]; exact fun x hx => h.frr x (List.mem_of_mem_take hx)
 · rcases List.mem_append.1 hc with hc | hc
   · exact h.nod c hc
   · rw [List.mem_singleton.1 hc]; exact hnod
 · rcases List.mem_append.1 hc with hc | hc
   · intro t ht
     rw [putAll_out D bs (by omega) (fun e => h.off c hc _ (getD_mem6 ht) (List.mem_of_mem_take e))]
     exact h.now c hc t ht
   · rw [List.mem_singleton.1 hc]
     intro t ht
     exact putAll_in D bs hnod (by omega) (by rw [hlen] at ht; exact ht)
 · rw [hws]
   rcases List.mem_append.1 hc with hc | hc
   · exact fun x hx e => h.off c hc x hx (List.mem_of_mem_drop e)
   · rw [List.mem_singleton.1 hc]; exact hsplit
 · rw [hws, List.length_drop, List.length_append, List.length_singleton]; omega
 · rw [hws]; exact fun x hx => h.frr x (List.mem_of_mem_drop hx)
 · rw [hws]; exact h.frn.sublist (List.drop_sublist _ _)
 · rw [putAll_wt, List.length_append, List.length_singleton]; omega
 · rw [putAll_wt]
   have := putAll_len D bs ((allF 3 0 ws).take k') x k'
   have := h.wl x
   omega
 · rw [putAll_rd]; exact h.rd
 · rw [putAll_la]; exact h.la
theorem Chs.reads {D : AD} {ws : List Nat} {C : List Chn} (h : Chs D ws C) {j : Nat} (hr : D.rd + (j : Int) ≤ 1000000) : Chs (D.reads j) ws C :=
 ⟨h.len, h.byt, h.cnt, h.pos, h.rng, h.nod, h.now, h.off, h.fre, h.frr, h.frn, h.wt, h.wl, ⟨by have := h.rd; show 0 ≤ D.rd + (j : Int); omega, hr⟩, h.la⟩
theorem Chs.zero {w : World} {B g gw : Nat} (h : Sp w B g gw 3 400 (newW (400 - 3))) : Chs (zeroD 400) (newW (400 - 3)) [] := by
 have ha := allF_new h
 refine ⟨by simp, by simp, by simp, by simp, by simp, by simp, by simp, by simp, ?_, ?_, allF_nodup h, ⟨Int.le_refl _, by simp; exact Int.le_refl _⟩, fun x => Int.le_refl _, ⟨Int.le_refl _, by show (0 : Int) ≤ 1000000; omega⟩, ?_⟩
 · rw [ha, List.length_map, List.length_range]; simp
 · rw [ha]
   intro x hx
   obtain ⟨i, hi, rfl⟩ := List.mem_map.1 hx
   have := List.mem_range.1 hi
   omega
 · show (List.replicate 400 zsec).length = 400
   exact List.length_replicate
end Go.Proofs.YtlofoklfggmbiaaDoor

/- The document's Free, TakeAll, Take. The program's words and the document's list beside one another: pure facts. The document's Take, Copy. The document's Copy. chain: two writers over one space, stepped by turns, and a reader behind one of them. -/
import Derived.Test.YtdalbalphagmfaaGreatDoorSH
import Derived.Test.YtdalbalphagmfaaGreatDoorSG
import Derived.Test.YtdalbalphagmfaaGreatDoorQT
import Derived.Deep.AppendLies
namespace Go.Proofs.YtdalbalphagmfaaGreatDoor
open Go.RowKit

theorem allR_le (fr : Nat) (bs : List Bool) : (allR fr bs).length ≤ bs.length := by
 unfold allR
 rw [List.length_map]
 exact setR_le bs bs.length
theorem allR_mem {fr : Nat} {bs : List Bool} {n : Nat} (h : n ∈ allR fr bs) : fr ≤ n ∧ n - fr < bs.length := by
 unfold allR setR at h
 simp only [List.mem_map, List.mem_filter, List.mem_range] at h
 obtain ⟨a, ⟨h1, _⟩, rfl⟩ := h
 omega
/-- Those are free no more. -/
def clrR (fr : Nat) (bs : List Bool) (l : List Nat) : List Bool := l.foldl (fun b n => b.set (n - fr) false) bs
theorem clrR_len (fr : Nat) (l : List Nat) : ∀ bs : List Bool, (clrR fr bs l).length = bs.length := by
 induction l with
 | nil => intro bs; rfl
 | cons n l ih => intro bs; show (clrR fr (bs.set (n - fr) false) l).length = _; rw [ih, List.length_set]
theorem elemI : Tryz.prog.underlying 23 = some (.slice (Tryz.prog.elem 23)) := by kernel_rfl
theorem sizeI (W : World) : (sizeOf (Tryz.prog.elem 23)).run Tryz.prog W = .ok 1 W := by kernel_rfl
set_option maxRecDepth 100000 in
theorem Row.pre {w : World} {B : Nat} {t : TypeId} {al : Option Addr} {n c : Nat} {xs : List Value} (h : Row w B t (.slice al n c) xs) (k : Nat) (hk : k ≤ xs.length) : Row w B t (.slice al k c) (xs.take k) := by
 rcases h.2 with ⟨hh, hx⟩ | ⟨g, cap, cur, hh, h1, h2, h3, h4, h5, h6⟩
 · injection hh with e1 e2 e3
   subst e1 e3
   obtain rfl : xs = [] := List.eq_nil_of_length_eq_zero hx
   obtain rfl : k = 0 := by simpa using hk
   exact Row.nil _ _ _
 · injection hh with e1 e2 e3
   subst e1 e3
   have hl : (xs.take k).length = k := by rw [List.length_take]; omega
   refine ⟨by rw [hl, Nat.mul_one], .inr ⟨g, c, cur, by rw [hl], h1, h2, by rw [hl]; omega, h4, h5, ?_⟩⟩
   rw [hl, Nat.mul_one, ← h6, List.take_take, Nat.mul_one, Nat.min_eq_left hk]
set_option maxRecDepth 100000 in
theorem sliceI_h {w : World} {B : Nat} {t : TypeId} {al : Option Addr} {n c : Nat} {xs : List Value} (h : Row w B t (.slice al n c) xs) (k : Nat) (hk : k ≤ xs.length) (W : World) : (Instr.sliceAt 23 (.slice al n c) none (some (.int .i64 (k : Int))) none).run Tryz.prog W = .ok (.slice al k c) W := by
 rcases h.2 with ⟨hh, hx⟩ | ⟨g, cap, cur, hh, h1, h2, h3, h4, h5, h6⟩
 · injection hh with e1 e2 e3
   subst e1 e2 e3
   rw [run_sliceAt_slice W _ _ _ _ _ elemI, run_slice_h W _ none 0 0 elemI .i64 k (by omega) (by omega), sizeI]
   simp [Result.andThen, sliced]
 · injection hh with e1 e2 e3
   subst e1 e2 e3
   unfold maxLen at h4
   rw [run_sliceAt_slice W _ _ _ _ _ elemI, run_slice_h W _ (some ⟨g, 0, none⟩) xs.length c elemI .i64 k (by omega) (by omega), sizeI]
   simp [Result.andThen, sliced, Addr.add]
set_option maxRecDepth 100000 in
set_option maxHeartbeats 2000000 in
theorem rtakeAll_no {w : World} {B g gb fr to_ : Nat} {bs : List Bool} (h : Rs w B g gb fr to_ bs) (k : Int) (hk : k < 0 ∨ ((allR fr bs).length : Int) < k) :
 Calls Tryz.prog 30 #[.pointer (some ⟨g, 0, none⟩), .int .i64 k] w fun e w' => e = .returned (.tuple #[.slice none 0 0, .bool false]) ∧ Below w.heap.size w w' := by
 have HL := hide (rlist_calls h)
 clear h
 go_enter Tryz.func30, Tryz.ntmps30
 go_wp2_with fail
 refine (unhide HL).mono ?_
 rintro e w1 ⟨v, rfl, hrow, hb1⟩
 obtain ⟨al, cl, hvl⟩ := hrow.shape
 rw [iV_len] at hvl
 subst hvl
 generalize (allR fr bs).length = m at hk ⊢
 clear hrow
 by_cases h0 : k < 0
 · have g1 : decide (k < 0) = true := decide_eq_true h0
   go_wp2
   go_ret2
   exact ⟨rfl, hb1⟩
 · have g1 : decide (k < 0) = false := decide_eq_false h0
   have g2 : decide (k > (m : Int)) = true := decide_eq_true (by omega)
   have g3 : (m : Int) < k := by omega
   go_wp2
   go_ret2
   exact ⟨rfl, hb1⟩
set_option maxRecDepth 100000 in
set_option maxHeartbeats 4000000 in
theorem rtakeAll_calls {w : World} {B g gb fr to_ : Nat} {bs : List Bool} (h : Rs w B g gb fr to_ bs) (k : Nat) (hk : k ≤ (allR fr bs).length) :
 Calls Tryz.prog 30 #[.pointer (some ⟨g, 0, none⟩), .int .i64 (k : Int)] w fun e w' => ∃ v, e = .returned (.tuple #[v, .bool true]) ∧ Row w' w.heap.size 3 v (iV ((allR fr bs).take k)) ∧ Rs w' B g gb fr to_ (clrR fr bs ((allR fr bs).take k)) ∧ w.grownBy w' (some gb) := by
 have HL := hide (rlist_calls h)
 have hgb : gb < w.heap.size := by
  obtain ⟨c, _, _, _, _, _, _, _, _, h3⟩ := h.view
  have := h.rng
  have := h.len
  exact World.block_lt_of_cell? _ _ (h3 0 (by omega))
 have hm1 := allR_le fr bs
 have hrg := h.rng
 have hln := h.len
 have H := hide h
 obtain ⟨l, hl⟩ : ∃ l, l = allR fr bs := ⟨_, rfl⟩
 have HM : Hid (∀ j, j < l.length → fr ≤ l.getD j 0 ∧ l.getD j 0 - fr < bs.length) := fun j hj => by
  rw [List.getD_eq_getElem?_getD, List.getElem?_eq_getElem hj]
  exact allR_mem (by rw [← hl]; exact List.getElem_mem hj)
 rw [← hl] at HL hk hm1 ⊢
 clear h hl
 go_enter Tryz.func30, Tryz.ntmps30
 go_wp2_with fail
 refine (unhide HL).mono ?_
 rintro e w1 ⟨v, rfl, hrow, hb1⟩
 obtain ⟨al, cl, hvl⟩ := hrow.shape
 rw [iV_len] at hvl
 subst hvl
 obtain ⟨m, hm⟩ : ∃ m, m = l.length := ⟨_, rfl⟩
 rw [← hm] at hrow hk hm1 HM ⊢
 have HMM := hide hm
 have HLN := hide hln
 have HSL := hide (fun W => sliceI_h hrow k (by rw [iV_len, ← hm]; exact hk) W)
 clear hm hln HL
 have g1 : ¬ ((k : Int) < 0) := by omega
 have g2 : ¬ ((m : Int) < (k : Int)) := by omega
 have HROW := hide hrow
 clear hrow
 go_wp2_with fail
 go_loopw [7] (fun iv W => ∃ (j : Nat), j ≤ k ∧ iv = .int .i64 (j : Int) ∧ Rs W B g gb fr to_ (clrR fr bs (l.take j)) ∧ Row W w.heap.size 3 (.slice al m cl) (iV l) ∧ w.grownBy W (some gb)) (fun i _ => k - (intOf i).toNat)
 case atStart => exact ⟨0, by omega, rfl, (unhide H).below hb1, HROW.out, ⟨hb1.os, hb1.tape, hb1.output, hb1.size, fun k hk _ => hb1.block k hk⟩⟩
 case round =>
  obtain ⟨j, hjk, rfl, hrs, hrow, hgr⟩ := hrel
  by_cases hlt : j < k
  · obtain ⟨gl, cl2, hv, hc1, hc2, _, _⟩ := hrow.head (by rw [iV_len, ← HMM.out]; omega)
    injection hv with e1 e2 e3
    subst e1 e3
    obtain ⟨c, c0, _, c2, hLc, hcm, _, hr', _, h3⟩ := hrs.view
    obtain ⟨q, hq⟩ : ∃ q, q = l.getD j 0 := ⟨_, rfl⟩
    obtain ⟨q1, q2⟩ := unhide HM j (by omega)
    rw [← hq] at q1 q2
    have hcj : wr.cell? ⟨gl, j, none⟩ = some (.int .i64 (q : Int)) := by
     rw [hrow.cellAt (by rw [iV_len, ← HMM.out]; omega), hq]
     have : j < l.length := by rw [← HMM.out]; omega
     simp [iV, List.getElem?_map, List.getD_eq_getElem?_getD, List.getElem?_eq_getElem this]
    have hlq := clrR_len fr (l.take j) bs
    obtain ⟨a, ha⟩ : ∃ a, a = q - fr := ⟨_, rfl⟩
    have hca := h3 a (by omega)
    have hfa := hr'.frozenAt a
    have HP := hide (hrs.put (Below.refl _ _) a false)
    have HT : Hid (clrR fr bs (l.take (j + 1)) = (clrR fr bs (l.take j)).set a false) := by
     show _ = _
     unfold clrR
     have : j < l.length := by rw [← HMM.out]; omega
     rw [List.take_succ_eq_append_getElem this, List.foldl_append]
     show List.set _ _ _ = _
     rw [ha, hq, List.getD_eq_getElem?_getD, List.getElem?_eq_getElem this]
     rfl
    rw [hlq] at c2 hLc
    obtain ⟨L, hL⟩ : ∃ L, L = bs.length := ⟨_, rfl⟩
    rw [← hL] at c2 hLc q2
    have g3 : IntKind.i64.wrap ((q : Int) - (fr : Int)) = (q : Int) - (fr : Int) := by rw [IntKind.wrap_i64]; have := HLN.out; omega
    have g4 : ((q : Int) - (fr : Int)).toNat = a := by omega
    have g5 : (0 : Int) ≤ (q : Int) - (fr : Int) := by omega
    have g6 : (q : Int) - (fr : Int) < (L : Int) := by omega
    have HRW := hide hrow
    have HGR := hide hgr
    clear hq h3 hr' hrs hlq ha hL hrow hgr
    go_wp2_with fail
    go_region
    go_wp2
    obtain ⟨P1, P2⟩ := HP.out
    refine ⟨⟨j + 1, by omega, by go_num, by rw [HT.out]; exact P1, ?_, World.grownBy.trans HGR.out P2⟩, by simp [intOf]; omega⟩
    exact (HRW.out).kept P2 (Or.inr fun e => by have := ((HRW.out).lt _ e).1; omega)
  · have he : j = k := by omega
    have HE := hide he
    have hsl := unhide HSL wr
    clear he
    go_wp2
    go_ret2
    have HE' := HE.out
    subst HE'
    refine ⟨_, rfl, ?_, hrs, hgr⟩
    have := hrow.pre j (by rw [iV_len, ← HMM.out]; exact hk)
    unfold iV at this ⊢
    rw [List.map_take]
    exact this
end Go.Proofs.YtdalbalphagmfaaGreatDoor

namespace Go.Proofs.YtdalbalphagmfaaGreatDoor
open Go.RowKit

theorem Tw.all {fr to_ : Nat} {ws : List Nat} {bs : List Bool} (h : Tw fr to_ ws bs) {w : World} {B g gw : Nat} (hs : Sp w B g gw fr to_ ws) : allR fr bs = allF fr 0 ws := by
 rw [hs.all]
 unfold allR setR setB
 rw [h.len]
 congr 1
 exact List.filter_congr fun i hi => by rw [h.at_ i (List.mem_range.1 hi)]
/-- Numbers that are free, each once, taken out of both. -/
theorem Tw.clr {fr to_ : Nat} : ∀ (l : List Nat) {ws : List Nat} {bs : List Bool}, Tw fr to_ ws bs → l.Nodup → (∀ n ∈ l, hasB fr to_ ws (n : Int) = true) → Tw fr to_ (claimAll fr to_ ws l) (clrR fr bs l)
 | [], _, _, h, _, _ => h
 | n :: l, ws, bs, h, hnd, hin => by
   have h0 := hin n (List.mem_cons_self ..)
   have h1 := h.claim (n : Int)
   have e1 : claimR fr to_ bs (n : Int) = bs.set (n - fr) false := by
    unfold claimR
    rw [h.has, if_pos h0, show ((n : Int) - (fr : Int)).toNat = n - fr by omega]
   rw [e1] at h1
   show Tw fr to_ (claimAll fr to_ (claimW fr to_ ws (n : Int)) l) (clrR fr (bs.set (n - fr) false) l)
   refine Tw.clr l h1 (List.nodup_cons.1 hnd).2 fun m hm => ?_
   have hm0 := hin m (List.mem_cons_of_mem _ hm)
   have hne : m ≠ n := fun e => (List.nodup_cons.1 hnd).1 (e ▸ hm)
   have hw := h.wide
   unfold claimW
   rw [if_pos h0]
   unfold hasB at hm0 h0 ⊢
   simp only [Bool.and_eq_true, decide_eq_true_eq] at hm0 h0 ⊢
   refine ⟨hm0.1, ?_⟩
   rw [flip_bit (by omega), if_neg (by omega)]
   exact hm0.2
theorem setR_nodup (bs : List Bool) (n : Nat) : (setR bs n).Nodup := List.Pairwise.filter _ List.nodup_range
theorem allR_nodup (fr : Nat) (bs : List Bool) : (allR fr bs).Nodup := by
 unfold allR
 exact List.Pairwise.map _ (fun a b h => by simpa using h) (setR_nodup bs _)
theorem Tw.takeAll {fr to_ : Nat} {ws : List Nat} {bs : List Bool} (h : Tw fr to_ ws bs) {w : World} {B g gw : Nat} (hs : Sp w B g gw fr to_ ws) (k : Nat) : Tw fr to_ (claimAll fr to_ ws ((allF fr 0 ws).take k)) (clrR fr bs ((allR fr bs).take k)) := by
 rw [h.all hs]
 refine Tw.clr _ h ?_ fun n hn => (hs.mem (List.mem_of_mem_take hn)).1
 have := allR_nodup fr bs
 rw [h.all hs] at this
 exact this.sublist (List.take_sublist _ _)
end Go.Proofs.YtdalbalphagmfaaGreatDoor

namespace Go.Proofs.YtdalbalphagmfaaGreatDoor
open Go.RowKit

end Go.Proofs.YtdalbalphagmfaaGreatDoor

namespace Go.Proofs.YtdalbalphagmfaaGreatDoor
open Go.RowKit

set_option maxRecDepth 100000 in
set_option maxHeartbeats 4000000 in
theorem rcopy_calls {w : World} {B g gb fr to_ : Nat} {bs : List Bool} (h : Rs w B g gb fr to_ bs) :
 Calls Tryz.prog 59 #[.pointer (some ⟨g, 0, none⟩)] w fun e w' => ∃ g2 gb2, e = .returned (.pointer (some ⟨g2, 0, none⟩)) ∧ Rs w' w.heap.size g2 gb2 fr to_ bs ∧ w.heap.size ≤ g2 ∧ Below w.heap.size w w' := by
 obtain ⟨i0, hi, hz0, hz1, hz2⟩ := info_part infoB
 obtain ⟨c, c0, c1, c2, hLc, hcm, hne, hr', hblk, hcells⟩ := h.view
 have HC := hide hcells
 have HRG := hide h.rng
 have HLN := hide h.len
 have hpos : 0 < bs.length := by have := h.rng; have := h.len; omega
 have hmax : bs.length ≤ 65536 := by have := h.rng; have := h.len; omega
 have HR := hide hr'
 obtain ⟨L, hL⟩ : ∃ L, L = bs.length := ⟨_, rfl⟩
 rw [← hL] at c2 hLc hpos hmax
 have HL := hide hL
 clear h hcells hr' hblk hL
 go_enter Tryz.func59, Tryz.ntmps59
 go_wp2_with fail
 go_region
 have hk1 : (w.alloc (.cells #[.int .i64 (fr : Int), .int .i64 (to_ : Int), .slice none 0 0] 57)).drew.heap[w.heap.size]? = some (.cells #[.int .i64 (fr : Int), .int .i64 (to_ : Int), .slice none 0 0] 57 (0, 0)) := heap_alloc_new w _
 have hb1 : Below w.heap.size w (w.alloc (.cells #[.int .i64 (fr : Int), .int .i64 (to_ : Int), .slice none 0 0] 57)).drew := ((Below.refl _ _).alloc (Nat.le_refl _) _).drew
 generalize (w.alloc (.cells #[.int .i64 (fr : Int), .int .i64 (to_ : Int), .slice none 0 0] 57)).drew = w1 at hk1 hb1 ⊢
 have hlt1 : w.heap.size < w1.heap.size := (Array.getElem?_eq_some_iff.1 hk1).1
 have d2 : w1.cell? ⟨g, 2, none⟩ = some (.slice (some ⟨gb, 0, none⟩) L c) := (hb1.cell (p := ⟨g, 2, none⟩) (World.block_lt_of_cell? _ _ c2)).trans c2
 have d3 : w1.cell? ⟨w.heap.size, 2, none⟩ = some (.slice none 0 0) := by rw [cell_of_row w1 w.heap.size 2 _ _ _ hk1]; rfl
 have HNW : Hid (∀ W, Below w1.heap.size w1 W → ∀ j u, (bV bs)[j]? = some u → W.cell? ((⟨gb, 0, none⟩ : Addr).add j) = some u) := fun W hW j u hu => by
  have hj : j < bs.length := by
   have := (List.getElem?_eq_some_iff.1 hu).1
   rw [bV_len] at this
   exact this
  have e : w.cell? ⟨gb, j, none⟩ = some u := by
   rw [HC.out j hj]
   rw [← hu]
   simp [bV, List.getElem?_map, List.getD_eq_getElem?_getD, List.getElem?_eq_getElem hj]
  have hlt := World.block_lt_of_cell? _ _ e
  have e2 := (hb1.cell (p := ⟨gb, j, none⟩) hlt).trans e
  have e3 := (hW.cell (p := ⟨gb, j, none⟩) (World.block_lt_of_cell? _ _ e2)).trans e2
  have ea : (⟨gb, 0, none⟩ : Addr).add j = ⟨gb, j, none⟩ := by rw [Addr.add_lit, Nat.zero_add]
  rw [ea]
  exact e3
 have HX : Hid (∀ W w6, Below w1.heap.size w1 W → W.grownBy w6 (Value.slice none 0 0).ownBlock → w6.cell? ⟨w.heap.size, 2, none⟩ = some (.slice none 0 0) ∧ w6.frozen? ⟨w.heap.size, 2, none⟩ = false ∧ Hid (w6.heap[w.heap.size]? = some (.cells #[.int .i64 (fr : Int), .int .i64 (to_ : Int), .slice none 0 0] 57 (0, 0)) ∧ Below w.heap.size w w6)) := fun W w6 hW hg => by
  have e : w6.heap[w.heap.size]? = some (.cells #[.int .i64 (fr : Int), .int .i64 (to_ : Int), .slice none 0 0] 57 (0, 0)) := by
   rw [hg.block w.heap.size (Nat.lt_of_lt_of_le hlt1 hW.size) (by simp [Value.ownBlock]), hW.block _ hlt1]
   exact hk1
  refine ⟨by rw [cell_of_row w6 w.heap.size 2 _ _ _ e]; rfl, frozen_of_row w6 w.heap.size 2 _ _ e, e, ?_⟩
  exact (hb1.trans (hW.mono hb1.size)).grown hg (Nat.le_trans hb1.size hW.size) (fun b hb => by simp [Value.ownBlock] at hb)
 have HBL := hide (show (bV bs).length = L * 1 by rw [bV_len, HL.out, Nat.mul_one])
 have hsz1 := hlt1
 clear c2 c1 c0 hk1
 go_wp2_with fail
 focus (go_region_law (refine step_append_lies _ (by rfl) _ _ _ (by rfl) (w.heap.size + 1) 4 i0 _ 1 1 Tryz.underlying55 hi hz0 hz1 hz2 rfl (by omega) _ 0 [] (by rfl) (World.ownsRow_nil _ _ _ _) ⟨gb, 0, none⟩ L c (bV bs) (by rfl) HBL.out (unhide HNW _ (Below.drew (Below.refl _ _))) (by intro u hu; simp only [bV, List.mem_map] at hu; obtain ⟨b, _, rfl⟩ := hu; rfl) (by omega) (by unfold maxLen; omega) (by omega) (by simp; omega) _ rfl ?_; intro g6 c6 w6 hr6 hg6 hat6 hlt6; obtain ⟨hc66, hf66, HK6⟩ := unhide HX _ w6 (Below.drew (Below.refl _ _)) hg6))
 all_goals (
  go_wp2
  go_ret
  have hr7 : Row w6 (w.heap.size + 1) 4 (.slice (some ⟨g6, 0, none⟩) L c6) (bV bs) := by
   rw [Nat.zero_add, List.nil_append] at hr6
   unfold Row
   rw [bV_len, ← HL.out]
   exact hr6
  have hge := (hr7.lt g6 rfl).1
  obtain ⟨K1, K2⟩ := HK6.out
  have hgs := grown_sets w6 w.heap.size 2 (.slice (some ⟨g6, 0, none⟩) L c6)
  have hb7 : Below w.heap.size w (w6.setCell ⟨w.heap.size, 2, none⟩ (.slice (some ⟨g6, 0, none⟩) L c6)) := K2.grown hgs K2.size (fun b hb => by injection hb with hb; omega)
  have hd := (Below.refl (w6.setCell ⟨w.heap.size, 2, none⟩ (.slice (some ⟨g6, 0, none⟩) L c6)).heap.size (w6.setCell ⟨w.heap.size, 2, none⟩ (.slice (some ⟨g6, 0, none⟩) L c6))).drew
  have hrs : Rs (w6.setCell ⟨w.heap.size, 2, none⟩ (.slice (some ⟨g6, 0, none⟩) L c6)) w.heap.size w.heap.size g6 fr to_ bs := by
   refine ⟨⟨c6, ?_, ?_⟩, HRG.out, HLN.out⟩
   · rw [heap_setCell_same w6 w.heap.size 2 _ _ _ K1, ← HL.out]
     rfl
   · rw [← HL.out]
     exact (hr7.mono (Nat.le_succ _)).kept hgs (Or.inr fun e => by have := (hr7.lt _ e).1; omega)
  first
  | exact ⟨_, _, rfl, hrs, Nat.le_refl _, hb7⟩
  | exact ⟨_, _, rfl, hrs.below hd, Nat.le_refl _, hb7.drew⟩)
end Go.Proofs.YtdalbalphagmfaaGreatDoor

namespace Go.Proofs.YtdalbalphagmfaaGreatDoor
open Go.RowKit Go.Maps

theorem done_calls {w : World} {g : Nat} {dn : Int} (h36 : w.cell? ⟨g, 36, none⟩ = some (.int .i64 dn)) : Calls Tryz.prog 65 #[.pointer (some ⟨g, 0, none⟩)] w fun e w' => e = .returned (.int .i64 dn) ∧ w' = w := by
 go_enter Tryz.func65, Tryz.ntmps65
 go_wp2
 go_ret
 exact ⟨rfl, rfl⟩
theorem done_enter (v : Value) (W : World) : (callFunc 65 #[v]).run Tryz.prog W = .ok (.enter 65 #[v]) W := by kernel_rfl
theorem Wr.done {w : World} {p pw gn cn : Nat} {rv : Value} {bs : List Int} {ks : List Nat} {j : Nat} (h : Wr w p pw gn cn rv bs ks j) : Calls Tryz.prog 65 #[.pointer (some ⟨pw, 0, none⟩)] w fun e w' => e = .returned (.int .i64 (j : Int)) ∧ w' = w := by
 obtain ⟨_, _, _, _, hV36, _⟩ := writerV_cells (p := p) (shaOf_len bs) ((ks.getD 0 0 : Nat) : Int) (bs.length : Int) (.slice (some ⟨gn, 0, none⟩) ks.length cn) (j : Int) rv
 exact done_calls (arr_cell h.arr hV36)
theorem Wr.pos {w : World} {p pw gn cn : Nat} {rv : Value} {bs : List Int} {ks : List Nat} {j : Nat} (h : Wr w p pw gn cn rv bs ks j) : 1 ≤ ks.length ∧ ks.length ≤ 2185 := by
 have h1 := h.cnt
 have h2 := h.len
 have h3 := secN_hi (bs.length : Int)
 refine ⟨?_, by omega⟩
 unfold secN at h1
 rw [if_neg (by omega), if_neg (by omega)] at h1
 omega
theorem Wr.refs {w : World} {p pw gn cn : Nat} {rv : Value} {bs : List Int} {ks : List Nat} {j : Nat} (h : Wr w p pw gn cn rv bs ks j) : Calls Tryz.prog 63 #[.pointer (some ⟨pw, 0, none⟩)] w fun e w' => e = .returned (.agg (refV (shaOf bs) ((ks.getD 0 0 : Nat) : Int) (bs.length : Int)).toArray) ∧ Below w.heap.size w w' := wref_calls (shaOf_len bs) (writer_ref h.arr)
end Go.Proofs.YtdalbalphagmfaaGreatDoor

/- What Load answers. The document's space in memory; its Has, Claim. The document's Has, Claim, Give. The document's Give. The document's List. The document's New. -/
import Derived.Test.YtdalbalphagmfaaGreatDoorQM
import Derived.Test.YtdalbalphagmfaaGreatDoorQC
import Derived.Test.YtdalbalphagmfaaGreatDoorQV
import Derived.Deep.QuietTactic
import Derived.BigQuiet
namespace Go.Proofs.YtdalbalphagmfaaGreatDoor
open Go.RowKit Go.Maps

/-- A sector that lasts is written. -/
theorem Dk.put {w : World} {p gl gm i : Nat} {V : Nat → Value} {D : AD} {s : List Int} (h : Dk w p gl gm V D) (hi : i < D.la.length) (hs : IsSec s) : Dk (w.setCells gl (i * 512) (u8V s)) p gl gm V { D with la := D.la.set i s } := by
 have hg := grown_setCells w gl (i * 512) (u8V s)
 have hl : (D.la.set i s).length = D.la.length := List.length_set
 obtain ⟨M, hM, h2⟩ := h.map
 have hok := h.ok
 refine ⟨⟨by rw [hl]; exact hok.lo, by rw [hl]; exact hok.hi, fun t ht => ?_, hok.wrs, fun j hj => hok.out j (by rw [hl] at hj; exact hj)⟩, ?_, ?_, ⟨M, hM.kept hg (by simp only [ne_eq, Option.some.injEq]; exact fun e => h.gl_gm e.symm), h2⟩, fun j => (h.row j).kept hg (Or.inr (h.low j)), h.own, h.low⟩
 · rcases List.mem_or_eq_of_mem_set ht with ht | ht
   · exact hok.las t ht
   · rw [ht]; exact hs
 · simp only [hl]
   exact h.blk.keep (hg.block p h.blk.lt (by simp only [ne_eq, Option.some.injEq]; exact h.p_gl))
 · have := owns_set h.las hok.las rfl hi hs
   simp only [hl]
   exact this
theorem Dk.there {w : World} {p gl gm i : Nat} {V : Nat → Value} {D : AD} (h : Dk w p gl gm V D) (hi : i < D.la.length) : w.there gl (i * 512) 512 := owns_there h.las hi
theorem drew_setCells (g : Nat) : ∀ (vs : List Value) (o : Nat) (w : World), w.drew.setCells g o vs = (w.setCells g o vs).drew
 | [], _, _ => rfl
 | v :: r, o, w => by
   rw [World.setCells, World.setCells, ← drew_setCells g r]
   rfl
theorem Dk.drew {w : World} {p gl gm : Nat} {V : Nat → Value} {D : AD} (h : Dk w p gl gm V D) : Dk w.drew p gl gm V D := h.below (Below.drew (Below.refl _ _))
def laidD (xss : List (List Int)) (n k : Nat) : AD := ⟨xss.take k ++ List.replicate (n - k) zsec, fun _ => [], 0, 0, 0⟩
theorem laidD_len {xss : List (List Int)} {n k : Nat} (hn : n = xss.length) (hk : k ≤ n) : (laidD xss n k).la.length = n := by simp [laidD]; omega
theorem laidD_step {xss : List (List Int)} {n k : Nat} (hn : n = xss.length) (hk : k < n) : { laidD xss n k with la := (laidD xss n k).la.set k (xss.getD k []) } = laidD xss n (k + 1) := by
 have h : (laidD xss n k).la.set k (xss.getD k []) = (laidD xss n (k + 1)).la := by
  unfold laidD
  have hkx : k < xss.length := by omega
  have h1 : (xss.take k).length = k := by simp; omega
  show (xss.take k ++ List.replicate (n - k) zsec).set k (xss.getD k []) = xss.take (k + 1) ++ List.replicate (n - (k + 1)) zsec
  rw [List.set_append_right _ _ (by omega), h1, Nat.sub_self, show n - k = (n - (k + 1)) + 1 by omega, List.replicate_succ, List.set_cons_zero, List.take_succ_eq_append_getElem hkx, List.getD_eq_getElem?_getD, List.getElem?_eq_getElem hkx, List.append_assoc]
  rfl
 rw [h]
 rfl
theorem laidD_all {xss : List (List Int)} {n : Nat} (hn : n = xss.length) : laidD xss n n = ⟨xss, fun _ => [], 0, 0, 0⟩ := by
 unfold laidD
 rw [Nat.sub_self, List.take_of_length_le (by omega)]
 simp
set_option maxRecDepth 100000 in
set_option maxHeartbeats 2000000 in
theorem load_walk {w : World} {b off n cap : Nat} {xss : List (List Int)} (hn : n = xss.length) (h2 : 2 ≤ n) (h6 : n ≤ 65536) (hl : n ≤ cap) (hm : cap ≤ 9223372036854775807)
 (hcell : ∀ j, j < n → ∃ u, w.cell? ⟨b, off + j, none⟩ = some u ∧ IsB w u (xss.getD j [])) :
 Calls Tryz.prog 18 #[.slice (some ⟨b, off, none⟩) n cap] w fun e w' => Below w.heap.size w w' ∧
  ((e = .returned (.tuple #[.pointer none, .int .i64 32]) ∧ ∃ j, j < n ∧ (xss.getD j []).length ≠ 512) ∨
   ∃ p gl gm V, e = .returned (.tuple #[.pointer (some ⟨p, 0, none⟩), .int .i64 0]) ∧ (∀ j, j < n → (xss.getD j []).length = 512) ∧ Dk w' p gl gm V ⟨xss, fun _ => [], 0, 0, 0⟩ ∧ w.heap.size ≤ p ∧ w.heap.size ≤ gl ∧ w.heap.size ≤ gm ∧ (∀ i, V i = .slice none 0 0)) := by
 have HN := hide (new_calls (w := w) h2 h6)
 have HC := hide hcell
 have HX := hide hn
 clear hcell hn
 go_enter Tryz.func18, Tryz.ntmps18
 go_wp2_with (go_at_call 34; refine (unhide HN).mono ?_; rintro e w1 ⟨p, gl, gm, V, rfl, hD, hp, hgl, hgm, hV, hb1⟩)
 have hD0 : Dk w1 p gl gm V (laidD xss n 0) := by
  have e : laidD xss n 0 = zeroD n := by unfold laidD zeroD; simp
  rw [e]; exact hD
 have hfin : ∀ w', Dk w' p gl gm V (laidD xss n n) → Dk w' p gl gm V ⟨xss, fun _ => [], 0, 0, 0⟩ := fun w' h => by rw [laidD_all HX.out] at h; exact h
 have HF := hide hfin
 clear hD hfin
 go_loopw [19] (fun i wr => ∃ k : Nat, k ≤ n ∧ i = .int .i64 (k : Int) ∧ Dk wr p gl gm V (laidD xss n k) ∧ (∀ j, j < k → (xss.getD j []).length = 512) ∧ Below w.heap.size w wr) (fun i _ => n - (intOf i).toNat)
 case atStart => exact ⟨0, by omega, rfl, hD0, fun j hj => by omega, hb1⟩
 case round =>
  clear hD0 hb1
  obtain ⟨k, hk, rfl, hD, hall, hnx⟩ := hrel
  have hsz := hnx.size
  by_cases hlt : k < n
  · obtain ⟨u, hu, hB0⟩ := unhide HC k hlt
    have hB := hB0.below hnx
    have hu1 : wr.cell? ⟨b, off + k, none⟩ = some u := (hnx.cell (p := ⟨b, off + k, none⟩) (World.block_lt_of_cell? w _ hu)).trans hu
    by_cases hL : (xss.getD k []).length = 512
    · obtain ⟨bb, bo, bc, rfl, hbc, hbm, hr, hbl⟩ := hB.range (by omega)
      have hbw : bb < w.heap.size := by
       obtain ⟨bb', bo', bc', e1, _, _, _, h'⟩ := hB0.range (by omega)
       injection e1 with e1
       injection e1 with e1
       injection e1 with e1
       omega
      have hsec : IsSec (xss.getD k []) := ⟨hL, hB0.mem⟩
      have hlen := laidD_len (xss := xss) HX.out hk
      have hst := laidD_step HX.out hlt
      have hc0 := hD.cells.1
      have hpl := hD.p_gl
      rw [hlen] at hc0
      have hth := hD.there (i := k) (by rw [hlen]; exact hlt)
      rw [hL] at hu1
      have hcl : (u8V (xss.getD k [])).length = 512 := by rw [u8V_len]; exact hL
      have hinf : (Tryz.prog.info? 119).map (·.size) = some (u8V (xss.getD k [])).length := by rw [hcl]; kernel_rfl
      have hund := Tryz.underlying119
      have hone := u8V_one (xss.getD k [])
      have harr : ∀ W, (Instr.arrayAt 119 (.slice (some ⟨bb, bo, none⟩) 512 bc)).run Tryz.prog W = .ok (.pointer (some ⟨bb, bo, none⟩)) W := arr_at _ _
      have HNEW : Hid (Dk (wr.setCells gl (k * 512) (u8V (xss.getD k []))) p gl gm V (laidD xss n (k + 1))) := by rw [← hst]; exact hD.put (by rw [hlen]; exact hlt) hsec
      have HALL : Hid (∀ j, j < k + 1 → (xss.getD j []).length = 512) := fun j hj => by
       by_cases e : j = k
       · rw [e]; exact hL
       · exact hall j (by omega)
      have hblw : Below w.heap.size w (wr.setCells gl (k * 512) (u8V (xss.getD k []))) := hnx.grown (grown_setCells wr gl _ _) hsz (fun j hj => by injection hj with hj; omega)
      have HB2 := hide hblw
      clear hst hD hB0 hu hlen hsec hall hblw hnx
      generalize u8V (xss.getD k []) = cs at *
      go_wp2_with fail
      have HS : Hid (wr.cell? ⟨p, 0, none⟩ = some (.slice (some ⟨gl, 0, none⟩) n n) ∧ wr.there gl (k * 512) 512 ∧ wr.rangeAt bb bo cs) := ⟨hc0, hth, hr⟩
      have HS2 : Hid ((wr.drew.setCells gl (k * 512) cs).cell? ⟨p, 0, none⟩ = some (.slice (some ⟨gl, 0, none⟩) n n) ∧ (wr.drew.setCells gl (k * 512) cs).there gl (k * 512) 512 ∧ (wr.drew.setCells gl (k * 512) cs).rangeAt bb bo cs) :=
       ⟨(grown_setCells wr.drew gl (k * 512) cs).cell hc0 (by simp only [ne_eq, Option.some.injEq]; exact hpl), World.there_setCells (by simpa using hth) _ _ _, World.rangeAt_setCells_apart (by simpa using hr) _ _ _ (Or.inl (by omega))⟩
      focus (go_region_held3 (fun W => W.cell? ⟨p, 0, none⟩ = some (.slice (some ⟨gl, 0, none⟩) n n) ∧ W.there gl (k * 512) 512 ∧ W.rangeAt bb bo cs) ((first | exact unhide HS | exact unhide HS2)) (fail))
      go_wp2
      go_roundw
      case rel => exact ⟨k + 1, by omega, by go_num, by rw [drew_setCells]; exact HNEW.out.drew, HALL.out, by rw [drew_setCells]; exact HB2.out.drew⟩
      case measure => simp [intOf]; omega
    · obtain ⟨a, m, c, rfl⟩ := hB.shape
      have hm2 := hB.lenEq
      have hm3 : ¬ (m : Int) = 512 := by omega
      have HE : Hid (∃ j, j < n ∧ (xss.getD j []).length ≠ 512) := ⟨k, hlt, hL⟩
      clear hm2 hB hB0
      go_wp2
      go_ret2
      exact ⟨hnx, Or.inl ⟨rfl, HE.out⟩⟩
  · have hkn : k = n := by omega
    have HK := hide hkn
    clear hkn
    go_wp2
    go_ret2
    refine ⟨hnx, Or.inr ⟨p, gl, gm, V, rfl, fun j hj => hall j (by have := HK.out; omega), unhide HF wr (by have := HK.out; subst this; exact hD), hp, hgl, hgm, hV⟩⟩
end Go.Proofs.YtdalbalphagmfaaGreatDoor

namespace Go.Proofs.YtdalbalphagmfaaGreatDoor
open Go.RowKit

def bV (bs : List Bool) : List Value := bs.map Value.bool
theorem bV_len (bs : List Bool) : (bV bs).length = bs.length := by simp [bV]
/-- The document's space in memory. -/
structure Rs (w : World) (B g gb fr to_ : Nat) (bs : List Bool) : Prop where
 blk : ∃ c, w.heap[g]? = some (.cells #[.int .i64 (fr : Int), .int .i64 (to_ : Int), .slice (some ⟨gb, 0, none⟩) bs.length c] 57 (0, 0)) ∧ Row w B 4 (.slice (some ⟨gb, 0, none⟩) bs.length c) (bV bs)
 rng : fr < to_ ∧ to_ ≤ 65536
 len : bs.length = to_ - fr
theorem Rs.below {w w' : World} {B g gb fr to_ : Nat} {bs : List Bool} (h : Rs w B g gb fr to_ bs) (hb : Below w.heap.size w w') : Rs w' B g gb fr to_ bs := by
 obtain ⟨c, h1, h2⟩ := h.blk
 exact ⟨⟨c, by rw [hb.block g (Array.getElem?_eq_some_iff.1 h1).1]; exact h1, h2.out (Out.of_below (B := 0) (S := 0) hb) fun _ _ => Or.inr (Nat.zero_le _)⟩, h.rng, h.len⟩
theorem Rs.view {w : World} {B g gb fr to_ : Nat} {bs : List Bool} (h : Rs w B g gb fr to_ bs) : ∃ c, w.cell? ⟨g, 0, none⟩ = some (.int .i64 (fr : Int)) ∧ w.cell? ⟨g, 1, none⟩ = some (.int .i64 (to_ : Int)) ∧ w.cell? ⟨g, 2, none⟩ = some (.slice (some ⟨gb, 0, none⟩) bs.length c) ∧ bs.length ≤ c ∧ c ≤ 9223372036854775807 ∧ g ≠ gb ∧
 Row w B 4 (.slice (some ⟨gb, 0, none⟩) bs.length c) (bV bs) ∧ w.heap[g]? = some (.cells #[.int .i64 (fr : Int), .int .i64 (to_ : Int), .slice (some ⟨gb, 0, none⟩) bs.length c] 57 (0, 0)) ∧
 ∀ i, i < bs.length → w.cell? ⟨gb, i, none⟩ = some (.bool (bs.getD i false)) := by
 obtain ⟨c0, h1, h2⟩ := h.blk
 obtain ⟨g3, c3, hv, h3, h4, _, _⟩ := h2.head (by rw [bV_len, h.len]; have := h.rng; omega)
 injection hv with e1 _ e3
 subst e3
 rw [bV_len] at h3
 have hne : g ≠ gb := fun e => by
  subst e
  rcases h2.2 with ⟨hh, _⟩ | ⟨g2, cap, cur, hh, _, hg, _⟩
  · cases hh
  · injection hh with e1 _ _
    injection e1 with e1
    injection e1 with e1
    subst e1
    rw [hg] at h1
    simp only [Option.some.injEq, Obj.cells.injEq] at h1
    exact absurd h1.2.1 (by decide)
 refine ⟨c0, cell_of_row w g 0 _ _ _ h1, by rw [cell_of_row w g 1 _ _ _ h1]; rfl, by rw [cell_of_row w g 2 _ _ _ h1]; rfl, h3, h4, hne, h2, h1, fun i hi => ?_⟩
 rw [h2.cellAt (by rw [bV_len]; exact hi)]
 simp [bV, List.getElem?_map, List.getD_eq_getElem?_getD, List.getElem?_eq_getElem hi]
/-- Is it free? -/
def hasR (fr to_ : Nat) (bs : List Bool) (n : Int) : Bool := decide ((fr : Int) ≤ n ∧ n < (to_ : Int)) && bs.getD (n - (fr : Int)).toNat false
set_option maxRecDepth 100000 in
set_option maxHeartbeats 2000000 in
theorem rhas_in {w : World} {B g gb fr to_ : Nat} {bs : List Bool} (h : Rs w B g gb fr to_ bs) (a : Nat) (ha : a < to_ - fr) :
 Calls Tryz.prog 52 #[.pointer (some ⟨g, 0, none⟩), .int .i64 ((fr + a : Nat) : Int)] w fun e w' => e = .returned (.bool (bs.getD a false)) ∧ Below w.heap.size w w' := by
 obtain ⟨c, c0, c1, c2, hL1, hL2, _, _, _, hc⟩ := h.view
 have hr := h.rng
 have hla : a < bs.length := by rw [h.len]; exact ha
 have hca := hc a hla
 obtain ⟨N, hN⟩ : ∃ N : Int, N = ((fr + a : Nat) : Int) := ⟨_, rfl⟩
 have g1 : decide (N ≥ (fr : Int)) = true := decide_eq_true (by omega)
 have g2 : decide (N < (to_ : Int)) = true := decide_eq_true (by omega)
 have g3 : IntKind.i64.wrap (N - (fr : Int)) = N - (fr : Int) := by rw [IntKind.wrap_i64]; omega
 have g4 : (fr : Int) ≤ N := by omega
 have g5 : N < (to_ : Int) := by omega
 have hai : (a : Int) < (bs.length : Int) := by omega
 have g6 : (N - (fr : Int)).toNat = a := by omega
 have g7 : (0 : Int) ≤ N - (fr : Int) := by omega
 have g8 : N - (fr : Int) < (bs.length : Int) := by omega
 rw [← hN]
 obtain ⟨L, hL⟩ : ∃ L, L = bs.length := ⟨_, rfl⟩
 rw [← hL] at c2 hL1 hla hai g8
 generalize bs.getD a false = r at *
 have HSS : Hid (∀ W, Below w.heap.size w W → Below w.heap.size w W ∧ W.cell? ⟨g, 0, none⟩ = some (.int .i64 (fr : Int)) ∧ W.cell? ⟨g, 1, none⟩ = some (.int .i64 (to_ : Int)) ∧ W.cell? ⟨g, 2, none⟩ = some (.slice (some ⟨gb, 0, none⟩) L c) ∧ W.cell? ⟨gb, a, none⟩ = some (.bool r)) := fun W hW =>
  ⟨hW, (hW.cell (p := ⟨g, 0, none⟩) (World.block_lt_of_cell? _ _ c0)).trans c0, (hW.cell (p := ⟨g, 1, none⟩) (World.block_lt_of_cell? _ _ c1)).trans c1, (hW.cell (p := ⟨g, 2, none⟩) (World.block_lt_of_cell? _ _ c2)).trans c2, (hW.cell (p := ⟨gb, a, none⟩) (World.block_lt_of_cell? _ _ hca)).trans hca⟩
 clear hc h hN hL
 go_enter Tryz.func52, Tryz.ntmps52
 go_wp2_with fail
 focus (go_region_held3 (fun W => Below w.heap.size w W ∧ W.cell? ⟨g, 0, none⟩ = some (.int .i64 (fr : Int)) ∧ W.cell? ⟨g, 1, none⟩ = some (.int .i64 (to_ : Int)) ∧ W.cell? ⟨g, 2, none⟩ = some (.slice (some ⟨gb, 0, none⟩) L c) ∧ W.cell? ⟨gb, a, none⟩ = some (.bool r))
  ((refine unhide HSS _ ?_; repeat (first | assumption | exact Below.refl _ _ | refine Below.drew ?_)))
  (first | fail))
 go_wp2
 go_ret
 exact ⟨rfl, (Below.refl _ _).drew⟩
end Go.Proofs.YtdalbalphagmfaaGreatDoor

namespace Go.Proofs.YtdalbalphagmfaaGreatDoor
open Go.RowKit

theorem drewn_below (w : World) (n : Nat) : Below w.heap.size w (w.drewN n) := by
 refine ⟨rfl, by simp, rfl, Nat.le_refl _, fun _ _ => rfl⟩
set_option maxRecDepth 100000 in
set_option maxHeartbeats 2000000 in
theorem rhas_out {w : World} {B g gb fr to_ : Nat} {bs : List Bool} (h : Rs w B g gb fr to_ bs) (n : Int) (hn : n < (fr : Int) ∨ (to_ : Int) ≤ n) :
 Calls Tryz.prog 52 #[.pointer (some ⟨g, 0, none⟩), .int .i64 n] w fun e w' => e = .returned (.bool false) ∧ Below w.heap.size w w' := by
 obtain ⟨c, c0, c1, _⟩ := h.view
 have hr := h.rng
 clear h
 by_cases hA : n < (fr : Int)
 · have g1 : decide (n ≥ (fr : Int)) = false := decide_eq_false (by omega)
   have g2 : ¬ ((fr : Int) ≤ n) := by omega
   clear hn hr
   go_enter Tryz.func52, Tryz.ntmps52
   go_wp2_with fail
   go_quiet (fail)
   go_wp2
   go_ret
   exact ⟨rfl, drewn_below w nq⟩
 · have g1 : decide (n ≥ (fr : Int)) = true := decide_eq_true (by omega)
   have g2 : (fr : Int) ≤ n := by omega
   have g3 : decide (n < (to_ : Int)) = false := decide_eq_false (by omega)
   have g4 : ¬ (n < (to_ : Int)) := by omega
   have g5 : (to_ : Int) ≤ n := by omega
   clear hn hr
   go_enter Tryz.func52, Tryz.ntmps52
   go_wp2_with fail
   go_quiet (fail)
   go_wp2
   go_ret
   exact ⟨rfl, drewn_below w nq⟩
theorem rhas_calls {w : World} {B g gb fr to_ : Nat} {bs : List Bool} (h : Rs w B g gb fr to_ bs) (n : Int) :
 Calls Tryz.prog 52 #[.pointer (some ⟨g, 0, none⟩), .int .i64 n] w fun e w' => e = .returned (.bool (hasR fr to_ bs n)) ∧ Below w.heap.size w w' := by
 by_cases hn : (fr : Int) ≤ n ∧ n < (to_ : Int)
 · obtain ⟨a, rfl⟩ : ∃ a : Nat, n = ((fr + a : Nat) : Int) := ⟨(n - fr).toNat, by omega⟩
   unfold hasR
   rw [decide_eq_true hn, show (((fr + a : Nat) : Int) - (fr : Int)).toNat = a by omega]
   exact rhas_in h a (by omega)
 · unfold hasR
   rw [decide_eq_false hn]
   exact rhas_out h n (by omega)
/-- One is written. -/
theorem Rs.put {w W : World} {B g gb fr to_ : Nat} {bs : List Bool} (h : Rs w B g gb fr to_ bs) (hW : Below w.heap.size w W) (a : Nat) (b : Bool) : Rs (W.setCell ⟨gb, a, none⟩ (.bool b)).drew B g gb fr to_ (bs.set a b) ∧ w.grownBy (W.setCell ⟨gb, a, none⟩ (.bool b)).drew (some gb) := by
 suffices H : Rs (W.setCell ⟨gb, a, none⟩ (.bool b)) B g gb fr to_ (bs.set a b) ∧ w.grownBy (W.setCell ⟨gb, a, none⟩ (.bool b)) (some gb) from
  have hd := (Below.refl (W.setCell ⟨gb, a, none⟩ (.bool b)).heap.size (W.setCell ⟨gb, a, none⟩ (.bool b))).drew
  ⟨H.1.below hd, World.grownBy.trans H.2 ⟨hd.os, hd.tape, hd.output, hd.size, fun k hk _ => hd.block k hk⟩⟩
 obtain ⟨c, _, _, _, _, _, hne, hr, hb, _⟩ := (h.below hW).view
 obtain ⟨s1, s2⟩ := hr.set a (.bool b)
 have e1 : (bV bs).set a (.bool b) = bV (bs.set a b) := by
  unfold bV
  rw [List.map_set]
 rw [e1] at s1
 have hb2 : (W.setCell ⟨gb, a, none⟩ (.bool b)).heap[g]? = some (.cells #[.int .i64 (fr : Int), .int .i64 (to_ : Int), .slice (some ⟨gb, 0, none⟩) bs.length c] 57 (0, 0)) := by
  rw [s2.block g (Array.getElem?_eq_some_iff.1 hb).1 (by simpa using hne)]; exact hb
 refine ⟨⟨⟨c, by rw [List.length_set]; exact hb2, by rw [List.length_set]; exact s1⟩, h.rng, by rw [List.length_set]; exact h.len⟩, ?_⟩
 exact World.grownBy.trans ⟨hW.os, hW.tape, hW.output, hW.size, fun k hk _ => hW.block k hk⟩ s2
/-- What Claim leaves. -/
def claimR (fr to_ : Nat) (bs : List Bool) (n : Int) : List Bool := if hasR fr to_ bs n = true then bs.set (n - (fr : Int)).toNat false else bs
set_option maxRecDepth 100000 in
set_option maxHeartbeats 2000000 in
theorem rclaim_calls {w : World} {B g gb fr to_ : Nat} {bs : List Bool} (h : Rs w B g gb fr to_ bs) (n : Int) :
 Calls Tryz.prog 23 #[.pointer (some ⟨g, 0, none⟩), .int .i64 n] w fun e w' => e = .returned (.bool (hasR fr to_ bs n)) ∧ Rs w' B g gb fr to_ (claimR fr to_ bs n) ∧ w.grownBy w' (some gb) := by
 have HH := hide (rhas_calls h n)
 unfold claimR
 cases hb : hasR fr to_ bs n with
 | false =>
   rw [hb] at HH
   have H := hide h
   clear h hb
   go_enter Tryz.func23, Tryz.ntmps23
   go_wp2_with fail
   refine (unhide HH).mono ?_
   rintro e w1 ⟨rfl, hb1⟩
   go_wp2
   go_ret
   exact ⟨rfl, by simpa using (unhide H).below hb1, ⟨hb1.os, hb1.tape, hb1.output, hb1.size, fun k hk _ => hb1.block k hk⟩⟩
 | true =>
   rw [hb] at HH
   have hn : (fr : Int) ≤ n ∧ n < (to_ : Int) := by
    unfold hasR at hb
    simp only [Bool.and_eq_true, decide_eq_true_eq] at hb
    exact hb.1
   have hr := h.rng
   have hl := h.len
   obtain ⟨a, ha⟩ : ∃ a : Nat, a = (n - (fr : Int)).toNat := ⟨_, rfl⟩
   have g6 : (n - (fr : Int)).toNat = a := ha.symm
   rw [g6]
   have g3 : IntKind.i64.wrap (n - (fr : Int)) = n - (fr : Int) := by rw [IntKind.wrap_i64]; omega
   have g7 : (0 : Int) ≤ n - (fr : Int) := by omega
   have g8 : n - (fr : Int) < (bs.length : Int) := by omega
   have hla : a < bs.length := by omega
   have HV : Hid (∀ W, Below w.heap.size w W → ∃ c, W.cell? ⟨g, 0, none⟩ = some (.int .i64 (fr : Int)) ∧ W.cell? ⟨g, 2, none⟩ = some (.slice (some ⟨gb, 0, none⟩) bs.length c) ∧ bs.length ≤ c ∧ c ≤ 9223372036854775807 ∧ W.cell? ⟨gb, a, none⟩ = some (.bool (bs.getD a false)) ∧ W.frozen? ⟨gb, a, none⟩ = false) := fun W hW => by
    obtain ⟨c, c0, _, c2, h1, h2, _, hr, _, h3⟩ := (h.below hW).view
    exact ⟨c, c0, c2, h1, h2, h3 a hla, hr.frozenAt _⟩
   have HE : Hid (∀ W, Below w.heap.size w W → Rs (W.setCell ⟨gb, a, none⟩ (.bool false)).drew B g gb fr to_ (bs.set a false) ∧ w.grownBy (W.setCell ⟨gb, a, none⟩ (.bool false)).drew (some gb)) := fun W hW => h.put hW a false
   obtain ⟨L, hL⟩ : ∃ L, L = bs.length := ⟨_, rfl⟩
   rw [← hL] at HV g8 hla
   clear h hb hn hr hl ha hL
   go_enter Tryz.func23, Tryz.ntmps23
   go_wp2_with fail
   refine (unhide HH).mono ?_
   rintro e w1 ⟨rfl, hb1⟩
   obtain ⟨c, c0, c2, h1, h2, h3, h4⟩ := unhide HV w1 hb1
   obtain ⟨E1, E2⟩ := unhide HE w1 hb1
   have HE1 := hide E1
   have HE2 := hide E2
   clear E1 E2
   go_wp2_with fail
   go_region
   go_wp2
   go_ret
   exact ⟨rfl, by simpa using unhide HE1, unhide HE2⟩
end Go.Proofs.YtdalbalphagmfaaGreatDoor

namespace Go.Proofs.YtdalbalphagmfaaGreatDoor
open Go.RowKit

end Go.Proofs.YtdalbalphagmfaaGreatDoor

namespace Go.Proofs.YtdalbalphagmfaaGreatDoor
open Go.RowKit

/-- The free ones among the first n. -/
def setR (bs : List Bool) (n : Nat) : List Nat := (List.range n).filter fun i => bs.getD i false
theorem setR_succ (bs : List Bool) (n : Nat) : setR bs (n + 1) = setR bs n ++ (if bs.getD n false = true then [n] else []) := by
 unfold setR
 rw [List.range_succ, List.filter_append, List.filter_cons, List.filter_nil]
theorem setR_le (bs : List Bool) (n : Nat) : (setR bs n).length ≤ n := by
 have := List.length_filter_le (fun i => bs.getD i false) (List.range n)
 rw [List.length_range] at this
 exact this
/-- What List tells. -/
def allR (fr : Nat) (bs : List Bool) : List Nat := (setR bs bs.length).map (fr + ·)
set_option maxRecDepth 100000 in
set_option maxHeartbeats 4000000 in
theorem rlist_calls {w : World} {B g gb fr to_ : Nat} {bs : List Bool} (h : Rs w B g gb fr to_ bs) :
 Calls Tryz.prog 13 #[.pointer (some ⟨g, 0, none⟩)] w fun e w' => ∃ v, e = .returned v ∧ Row w' w.heap.size 3 v (iV (allR fr bs)) ∧ Below w.heap.size w w' := by
 obtain ⟨i0, hi, hz0, hz1, hz2⟩ := info_part infoI
 have HV : Hid (∀ W, Below w.heap.size w W → ∃ c, W.cell? ⟨g, 0, none⟩ = some (.int .i64 (fr : Int)) ∧ W.cell? ⟨g, 2, none⟩ = some (.slice (some ⟨gb, 0, none⟩) bs.length c) ∧ bs.length ≤ c ∧ c ≤ 9223372036854775807 ∧ ∀ i, i < bs.length → W.cell? ⟨gb, i, none⟩ = some (.bool (bs.getD i false))) := fun W hW => by
  obtain ⟨c, c0, _, c2, h1, h2, _, _, _, h3⟩ := (h.below hW).view
  exact ⟨c, c0, c2, h1, h2, h3⟩
 have hr := h.rng
 have hl := h.len
 have hLb : bs.length ≤ 65536 := by omega
 have hfr : fr ≤ 65536 := by omega
 unfold allR
 obtain ⟨L, hL⟩ : ∃ L, L = bs.length := ⟨_, rfl⟩
 rw [← hL] at HV hLb ⊢
 clear h hl hL hr
 go_enter Tryz.func13, Tryz.ntmps13
 go_wp2_with fail
 go_loopw [3, 4] (fun lv iv W => ∃ (i : Nat) (acc : List Nat), i ≤ L ∧ iv = .int .i64 (i : Int) ∧ acc.length ≤ 65536 ∧ Hid (acc = (setR bs i).map (fr + ·)) ∧ Row W w.heap.size 3 lv (iV acc) ∧ Below w.heap.size w W) (fun _ i _ => L - (intOf i).toNat)
 case atStart => exact ⟨0, [], by omega, rfl, by simp, by show _ = _; rfl, Row.nil _ _ _, Below.refl _ _⟩
 case round =>
  obtain ⟨i, acc, hiL, rfl, hak, HA, hrow, hb⟩ := hrel
  obtain ⟨c, c0, c2, hLc, hcm, hcells⟩ := unhide HV wr hb
  by_cases hlt : i < L
  · have hci := hcells i hlt
    have hsz := hb.size
    have HS := hide (setR_succ bs i)
    have hsl := setR_le bs (i + 1)
    obtain ⟨r, hr⟩ : ∃ r, r = bs.getD i false := ⟨_, rfl⟩
    rw [← hr] at hci HS
    have HSL := hide hsl
    clear hcells hr hsl
    obtain ⟨al, cl, hvl⟩ := hrow.shape
    rw [iV_len] at hvl
    obtain ⟨m, hm⟩ : ∃ m, m = acc.length := ⟨_, rfl⟩
    rw [← hm] at hvl hak
    subst hvl
    have HM := hide hm
    clear hm
    cases r with
    | false =>
      go_wp2
      go_roundw
      case rel => exact ⟨i + 1, acc, by omega, by go_num, by rw [← HM.out]; exact hak, by show _ = _; rw [HS.out, HA.out]; simp, hrow, hb⟩
      case measure => simp [intOf]; omega
    | true =>
      have g1 : IntKind.i64.wrap ((fr : Int) + (i : Int)) = ((fr + i : Nat) : Int) := by rw [IntKind.wrap_i64]; omega
      have HIL := hide (iV_len acc)
      have hle : (acc ++ [fr + i]).length ≤ 65536 := by
       have e1 := HA.out
       have e2 := HS.out
       have e3 := HSL.out
       rw [e2] at e3
       rw [e1]
       simp at e3 ⊢
       omega
      go_wp2_with (at_builtin; refine wpList_append_own _ rfl _ _ 23 rfl w.heap.size 3 i0 (.int .i64 0) 1 8 Tryz.underlying23 hi hz0 hz1 hz2 rfl (by decide) _ _ _ rfl (World.ownsRow.alloc hrow _) ⟨wr.heap.size, 0, none⟩ 1 1 [.int .i64 ((fr + i : Nat) : Int)] rfl rfl (cell_one_new _ _ _) (by intro u hu; simp at hu; subst hu; rfl) (by have := HIL.out; have := HM.out; unfold maxLen; omega) (by have := HIL.out; have := HM.out; omega) (by simp; omega) ?_; intro v3 w3 hr3 hg3 _)
      have hE : (iV acc ++ [Value.int .i64 ((fr + i : Nat) : Int)]) = iV (acc ++ [fr + i]) := by simp [iV]
      have hr4 : Row w3 w.heap.size 3 v3 (iV (acc ++ [fr + i])) := by
       rw [← hE]
       unfold Row
       rw [List.length_append]
       exact hr3
      have hb3 : Below w.heap.size w w3 := (hb.alloc hsz _).grown hg3 (by simp; omega) fun b hb => (hrow.lt b hb).1
      refine ⟨⟨i + 1, acc ++ [fr + i], by omega, by go_num, hle, ?_, hr4, hb3⟩, by simp [intOf]; omega⟩
      show _ = _
      rw [HS.out, HA.out]
      simp
  · have he : i = L := by omega
    have HE := hide he
    clear he hcells
    go_wp2
    go_ret
    exact ⟨_, rfl, by rw [← HE.out, ← HA.out]; exact hrow, hb⟩
end Go.Proofs.YtdalbalphagmfaaGreatDoor

namespace Go.Proofs.YtdalbalphagmfaaGreatDoor
open Go.RowKit

theorem infoB : (Tryz.prog.info? 4).map (fun i => (i.zero, i.size, i.bytes)) = some (some (.bool false), 1, 1) := by kernel_rfl
set_option maxRecDepth 100000 in
set_option maxHeartbeats 4000000 in
theorem rnew_calls {w : World} (fr to_ : Nat) (h1 : fr < to_) (h2 : to_ ≤ 65536) :
 Calls Tryz.prog 21 #[.int .i64 (fr : Int), .int .i64 (to_ : Int)] w fun e w' => ∃ g gb, e = .returned (.tuple #[.pointer (some ⟨g, 0, none⟩), .int .i64 0]) ∧ Rs w' w.heap.size g gb fr to_ (List.replicate (to_ - fr) true) ∧ w.heap.size ≤ g ∧ Below w.heap.size w w' := by
 obtain ⟨i0, hi, hz0, hz1, hz2⟩ := info_part infoB
 have q1 : ¬ ((fr : Int) < 0) := by omega
 have q2 : ¬ (to_ ≤ fr) := by omega
 have q3 : ¬ (65536 < (to_ : Int)) := by omega
 have q4 : ¬ ((to_ : Int) ≤ (fr : Int)) := by omega
 go_enter Tryz.func21, Tryz.ntmps21
 go_wp2_with fail
 go_loopw [7] (fun iv W => ∃ (i : Nat) (lv : Value), i ≤ to_ - fr ∧ iv = .int .i64 ((fr + i : Nat) : Int) ∧ W.heap[w.heap.size]? = some (.cells #[.int .i64 (fr : Int), .int .i64 (to_ : Int), lv] 57 (0, 0)) ∧ Row W (w.heap.size + 1) 4 lv (bV (List.replicate i true)) ∧ Below w.heap.size w W) (fun i _ => to_ - (intOf i).toNat)
 case atStart => exact ⟨0, .slice none 0 0, by omega, by simp, heap_alloc_new w _, Row.nil _ _ _, (Below.refl _ _).alloc (Nat.le_refl _) _⟩
 case round =>
  obtain ⟨i, lv, hil, rfl, hblk, hrow, hb⟩ := hrel
  have hgs : w.heap.size < wr.heap.size := (Array.getElem?_eq_some_iff.1 hblk).1
  have hc2 : wr.cell? ⟨w.heap.size, 2, none⟩ = some lv := by rw [cell_of_row wr w.heap.size 2 _ _ _ hblk]; rfl
  have hf2 := frozen_of_row wr w.heap.size 2 _ _ hblk
  have HBK := hide hblk
  have HB := hide hb
  clear hblk
  by_cases hlt : i < to_ - fr
  · have g1 : ((fr + i : Nat) : Int) < (to_ : Int) := by omega
    obtain ⟨N, hN⟩ : ∃ N : Int, N = ((fr + i : Nat) : Int) := ⟨_, rfl⟩
    have g2 : IntKind.i64.wrap (N + 1) = N + 1 := by rw [IntKind.wrap_i64]; omega
    rw [← hN] at g1 ⊢
    have HN := hide hN
    clear hN
    obtain ⟨al, cl, hvl⟩ := hrow.shape
    rw [bV_len, List.length_replicate] at hvl
    subst hvl
    have HIL := hide (show (bV (List.replicate i true)).length = i by rw [bV_len, List.length_replicate])
    have HX : Hid (∀ (v3 : Value) (w3 : World), w3.ownsRow (w.heap.size + 1) 4 1 v3 ((bV (List.replicate i true)).length + 1) (bV (List.replicate i true) ++ [.bool true]) → (wr.alloc (.cells #[.bool true] 4)).grownBy w3 (Value.slice al i cl).ownBlock → (∃ a c, v3 = .slice a (i + 1) c) ∧ w3.cell? ⟨w.heap.size, 2, none⟩ = some (.slice al i cl) ∧ w3.frozen? ⟨w.heap.size, 2, none⟩ = false ∧ Hid (w3.heap[w.heap.size]? = some (.cells #[.int .i64 (fr : Int), .int .i64 (to_ : Int), .slice al i cl] 57 (0, 0))) ∧ Hid (Row w3 (w.heap.size + 1) 4 v3 (bV (List.replicate (i + 1) true))) ∧ Hid (Below w.heap.size w w3)) := fun v3 w3 hr3 hg3 => by
     have hr4 : Row w3 (w.heap.size + 1) 4 v3 (bV (List.replicate (i + 1) true)) := by
      rw [List.replicate_succ']
      unfold Row bV
      rw [List.map_append, List.length_append]
      exact hr3
     have hk : w3.heap[w.heap.size]? = some (.cells #[.int .i64 (fr : Int), .int .i64 (to_ : Int), .slice al i cl] 57 (0, 0)) := by
      rw [hg3.block w.heap.size (by simp; omega) (fun e => by have := (hrow.lt _ e.symm).1; omega)]
      rw [(World.grownBy_alloc wr _ none).block w.heap.size hgs (by simp)]
      exact HBK.out
     obtain ⟨a, c, e⟩ := hr4.shape
     refine ⟨⟨a, c, by rw [e, bV_len, List.length_replicate]⟩, by rw [cell_of_row w3 w.heap.size 2 _ _ _ hk]; rfl, frozen_of_row w3 w.heap.size 2 _ _ hk, hk, hr4, ?_⟩
     exact ((HB.out).alloc (HB.out).size _).grown hg3 (by simp; have := (HB.out).size; omega) fun b hb => by have := (hrow.lt b hb).1; omega
    go_wp2_with (at_builtin; refine wpList_append_own _ rfl _ _ 55 rfl (w.heap.size + 1) 4 i0 (.bool false) 1 1 Tryz.underlying55 hi hz0 hz1 hz2 rfl (by decide) _ _ _ rfl (World.ownsRow.alloc hrow _) ⟨wr.heap.size, 0, none⟩ 1 1 [.bool true] rfl rfl (cell_one_new _ _ _) (by intro u hu; simp at hu; subst hu; rfl) (by have := HIL.out; unfold maxLen; omega) (by have := HIL.out; omega) (by simp; omega) ?_; intro v3 w3 hr3 hg3 _; obtain ⟨⟨a3, c3, rfl⟩, k1, k2, HK, HR4, HB3⟩ := unhide HX v3 w3 hr3 hg3; clear hr3 hg3)
    go_roundw
    case rel =>
     refine ⟨i + 1, .slice a3 (i + 1) c3, by omega, ?_, ?_, ?_, ?_⟩
     · rw [HN.out]; congr 1
     · rw [heap_setCell_same w3 w.heap.size 2 _ _ _ HK.out]; rfl
     · exact (HR4.out).kept (grown_sets w3 w.heap.size 2 _) (Or.inr fun e => by have := ((HR4.out).lt _ e).1; omega)
     · exact (HB3.out).grown (grown_sets w3 w.heap.size 2 _) (HB3.out).size (fun b hb => by injection hb with hb; omega)
    case measure => have := HN.out; simp [intOf]; omega
  · have he : i = to_ - fr := by omega
    have g1 : ¬ (((fr + i : Nat) : Int) < (to_ : Int)) := by omega
    have g2 : (to_ : Int) ≤ ((fr + i : Nat) : Int) := by omega
    generalize ((fr + i : Nat) : Int) = N at g1 g2 ⊢
    have HE := hide he
    clear he
    go_wp2
    go_ret2
    have HE' := HE.out
    subst HE'
    obtain ⟨gb, cb, hv, _, _, _, _⟩ := hrow.head (by rw [bV_len, List.length_replicate]; omega)
    subst hv
    refine ⟨_, rfl, ⟨gb, ⟨cb, ?_, ?_⟩, ⟨h1, h2⟩, by rw [List.length_replicate]⟩, Nat.le_refl _, hb⟩
    · have := HBK.out
      rw [bV_len] at this
      exact this
    · have := hrow.mono (Nat.le_succ w.heap.size)
      rw [bV_len] at this
      exact this
end Go.Proofs.YtdalbalphagmfaaGreatDoor

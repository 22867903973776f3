/- does: calls whose answers are not looked at. -/
import Derived.Test.YtifmfnkpogconaaDoorAny4
import Derived.Deep.DeepCutAuto
namespace Go.Proofs.YtifmfnkpogconaaDoor
open Go.RowKit

theorem grown_trans {a b c : World} {row : Option Nat} (h : a.grownBy b row) (k : b.grownBy c row) : a.grownBy c row := h.trans k
theorem grown_of_below {a b : World} {row : Option Nat} (h : Below a.heap.size a b) : a.grownBy b row := ⟨h.os, h.tape, h.output, h.size, fun k hk _ => h.block k hk⟩
theorem below_of_grown {a b : World} {g B : Nat} (h : a.grownBy b (some g)) (hB : B ≤ g) (hs : B ≤ a.heap.size) : Below B a b := ⟨h.os, h.tape, h.output, h.size, fun k hk => h.block k (by omega) (fun e => by injection e with e; omega)⟩
/-- A space, changed by one call. -/
def Moved (w w' : World) (B g gw fr to_ : Nat) : Prop := ∃ ws, Sp w' B g gw fr to_ ws ∧ w.grownBy w' (some gw)
theorem take_moves {w : World} {B g gw fr to_ : Nat} {ws : List Nat} (h : Sp w B g gw fr to_ ws) (hT : Tz w) : Calls Tryd.prog 18 #[.pointer (some ⟨g, 0, none⟩)] w fun e w' => ∃ r, e = .returned r ∧ Hid (Moved w w' B g gw fr to_) := (take_calls h hT).mono fun e w' hd => by
  rcases hd with ⟨_, e1, e2⟩ | ⟨a, b, e0, e1, e2, e3⟩
  · exact ⟨_, e1, ws, e2 ▸ h, e2 ▸ grown_of_below (Below.refl _ _)⟩
  · exact ⟨_, e1, _, e2, e3⟩
theorem all_moves {w : World} {B g gw fr to_ : Nat} {ws : List Nat} (h : Sp w B g gw fr to_ ws) (hT : Tz w) (N : Int) : Calls Tryd.prog 19 #[.pointer (some ⟨g, 0, none⟩), .int .i64 N] w fun e w' => ∃ r, e = .returned r ∧ Hid (Moved w w' B g gw fr to_) := by
  by_cases hn : 0 ≤ N ∧ N ≤ ((freeN ws : Nat) : Int)
  · obtain ⟨k, rfl⟩ : ∃ k : Nat, N = (k : Int) := ⟨N.toNat, by omega⟩
    exact (takeAll_calls h hT k (by omega)).mono fun e w' ⟨v, e1, e2, e3, e4⟩ => ⟨_, e1, _, e3, e4⟩
  · exact (takeAll_no h N (by omega)).mono fun e w' ⟨e1, e2⟩ => ⟨_, e1, ws, e2 ▸ h, e2 ▸ grown_of_below (Below.refl _ _)⟩
theorem claim_moves {w : World} {B g gw fr to_ : Nat} {ws : List Nat} (h : Sp w B g gw fr to_ ws) (N : Int) : Calls Tryd.prog 20 #[.pointer (some ⟨g, 0, none⟩), .int .i64 N] w fun e w' => ∃ r, e = .returned r ∧ Hid (Moved w w' B g gw fr to_) := (claim_calls h N).mono fun _ _ ⟨e1, e2, e3⟩ => ⟨_, e1, _, e2, e3⟩
theorem give_moves {w : World} {B g gw fr to_ : Nat} {ws : List Nat} (h : Sp w B g gw fr to_ ws) (N : Int) : Calls Tryd.prog 21 #[.pointer (some ⟨g, 0, none⟩), .int .i64 N] w fun e w' => ∃ r, e = .returned r ∧ Hid (Moved w w' B g gw fr to_) := (give_calls h N).mono fun _ _ ⟨e1, e2, e3⟩ => ⟨_, e1, _, e2, e3⟩
set_option maxRecDepth 100000 in
set_option maxHeartbeats 4000000 in
theorem does_calls {w0 w : World} {gW gs g gw fr to_ : Nat} {ws : List Nat} {v : Value} {os : List OpI} {vR vL vK vN : Value} (hb : Below w0.heap.size w0 w) (ho : IsOps w0 v os) (hT : Tz w0) (h : Sp w w0.heap.size g gw fr to_ ws)
    (hW : w.heap[gW]? = some (.cells #[.slice (some ⟨gs, 0, none⟩) 1 1, vR, vL, vK, vN] 34 (0, 0))) (hS : w.heap[gs]? = some (.cells #[.pointer (some ⟨g, 0, none⟩)] 35 (0, 0))) :
    Calls Tryd.prog 27 #[.pointer (some ⟨gW, 0, none⟩), v] w fun e w' => (∃ r, e = .returned r) ∧ Moved w w' w0.heap.size g gw fr to_ := by
  have hG : 0 < w0.heap.size := World.block_lt_of_cell? _ _ (hT 0 (by decide))
  obtain ⟨av, cv, hv, hvc, hvm, hvo⟩ := ho.val
  subst hv
  obtain ⟨hgw, cs, mk, hty⟩ := h.words
  have HFC : Hid (∀ W, w.grownBy W (some gw) → W.cell? ⟨gW, 0, none⟩ = some (.slice (some ⟨gs, 0, none⟩) 1 1) ∧ W.cell? ⟨gs, 0, none⟩ = some (.pointer (some ⟨g, 0, none⟩)) ∧ Tz W ∧ Below w0.heap.size w0 W) := fun W hg => by
    have hc : Ch 0 (fun t => t = 71) w W := Ch.of_grown hg (Nat.zero_le _) hty rfl
    have hbW := hb.trans (below_of_grown hg hgw hb.size)
    exact ⟨cell_of_row W gW 0 _ _ _ (hc.cells hW (by decide)), cell_of_row W gs 0 _ _ _ (hc.cells hS (by decide)), hT.keep hbW hG, hbW⟩
  obtain ⟨L, hL⟩ : ∃ L, L = os.length := ⟨_, rfl⟩
  rw [← hL] at hvc hvo ⊢
  have HCL : Hid (∀ W, Below w0.heap.size w0 W → ∀ k, k < L → ∃ b off, av = some ⟨b, off, none⟩ ∧ W.cell? ⟨b, off + k * 3, none⟩ = some (.int .i64 (os.getD k .nul).K) ∧ W.cell? ⟨b, off + k * 3 + 1, none⟩ = some (.int .i64 (os.getD k .nul).O) ∧ W.cell? ⟨b, off + k * 3 + 2, none⟩ = some (.int .i64 (os.getD k .nul).N)) := fun W hW k hk => by
    obtain ⟨b, off, e1, e2⟩ := hvo (by omega)
    obtain ⟨f1, f2, f3⟩ := e2 k hk
    exact ⟨b, off, e1, (hW.cell (p := ⟨b, _, none⟩) (World.block_lt_of_cell? _ _ f1)).trans f1, (hW.cell (p := ⟨b, _, none⟩) (World.block_lt_of_cell? _ _ f2)).trans f2, (hW.cell (p := ⟨b, _, none⟩) (World.block_lt_of_cell? _ _ f3)).trans f3⟩
  have HM0 : Hid (Moved w w w0.heap.size g gw fr to_) := ⟨ws, h, grown_of_below (Below.refl _ _)⟩
  clear hb ho hT h hW hS hvo hL hty hG hgw
  go_enter Tryd.func27, Tryd.ntmps27
  go_wp2
  go_loopw [4] (fun iv wr => ∃ (k : Nat), k ≤ L ∧ k ≤ 100 ∧ iv = .int .i64 (k : Int) ∧ Hid (Moved w wr w0.heap.size g gw fr to_)) (fun i _ => 100 - (intOf i).toNat)
  case atStart => exact ⟨0, by omega, by omega, rfl, HM0⟩
  case round =>
    clear HM0
    obtain ⟨k, hkL, hk1, rfl, HM⟩ := hrel
    by_cases hlt : k < L ∧ k < 100
    · obtain ⟨hlt1, hlt2⟩ := hlt
      obtain ⟨ws', hs, hg⟩ := HM.out
      obtain ⟨c0, c1, hTz, hbW⟩ := unhide HFC wr hg
      obtain ⟨b, off, rfl, f1, f2, f3⟩ := unhide HCL wr hbW k hlt1
      generalize os.getD k .nul = o at *
      obtain ⟨K, O, N⟩ := o
      have hb0 := alloc_below wr (.cells #[.int .i64 K, .int .i64 O, .int .i64 N] 39)
      have hO := heap_alloc_new wr (.cells #[.int .i64 K, .int .i64 O, .int .i64 N] 39)
      have hlI : (k : Int) < (L : Int) := by omega
      have hl1 : (k : Int) < 100 := by omega
      have HB0 := hide hb0
      have HO := hide hO
      have HS := hide hs
      have HG := hide hg
      have HTZ := hide hTz
      clear hb0 hO hs hg hTz hbW HM
      go_upto_region 4 with fail
      have c0' := ((HB0.out).cell (p := ⟨gW, 0, none⟩) (World.block_lt_of_cell? _ _ c0)).trans c0
      have c1' := ((HB0.out).cell (p := ⟨gs, 0, none⟩) (World.block_lt_of_cell? _ _ c1)).trans c1
      generalize wr.alloc (.cells #[.int .i64 K, .int .i64 O, .int .i64 N] 39) = W0 at *
      have HG0 : Hid (w.grownBy W0 (some gw)) := (HG.out).trans (grown_of_below HB0.out)
      have HS0 := hide ((HS.out).below HB0.out)
      have HT0 := hide ((HTZ.out).below HB0.out)
      generalize wr.heap.size = gO at *
      have d0 : W0.cell? ⟨gO, 0, none⟩ = some (.int .i64 K) := cell_of_row W0 _ 0 _ _ _ HO.out
      have d2 : W0.cell? ⟨gO, 2, none⟩ = some (.int .i64 N) := by rw [cell_of_row W0 _ 2 _ _ _ HO.out]; rfl
      clear HB0 HS HG HTZ c0 c1 f1 f2 f3
      by_cases k1 : K = 1
      · subst k1
        have HC : Hid (Calls Tryd.prog 18 #[.pointer (some ⟨g, 0, none⟩)] W0 fun e w' => ∃ r, e = .returned r ∧ Hid (Moved w w' w0.heap.size g gw fr to_)) := (take_moves HS0.out HT0.out).mono fun e w' ⟨r, e1, hm⟩ => by
          obtain ⟨ws2, m1, m2⟩ := hm.out
          exact ⟨r, e1, ws2, m1, (HG0.out).trans m2⟩
        go_wp2_with fail
        refine (unhide HC).mono ?_
        rintro e w2 ⟨r, rfl, HM2⟩
        go_wp2
        exact ⟨⟨k + 1, by omega, by omega, by go_num, HM2⟩, by simp [intOf]; omega⟩
      by_cases k2 : K = 2
      · subst k2
        have HSS : Hid (∀ W, W0.grownBy W (some gw) → W0.grownBy W (some gw) ∧ W.cell? ⟨gW, 0, none⟩ = some (.slice (some ⟨gs, 0, none⟩) 1 1) ∧ W.cell? ⟨gs, 0, none⟩ = some (.pointer (some ⟨g, 0, none⟩)) ∧ W.cell? ⟨gO, 2, none⟩ = some (.int .i64 N)) := fun W hW => by
          obtain ⟨x1, x2, _, _⟩ := unhide HFC W ((HG0.out).trans hW)
          obtain ⟨_, cs2, mk2, hty2⟩ := (HS0.out).words
          have hc : Ch 0 (fun t => t = 71) W0 W := Ch.of_grown hW (Nat.zero_le _) hty2 rfl
          exact ⟨hW, x1, x2, by rw [cell_of_row W _ 2 _ _ _ (hc.cells HO.out (by decide))]; rfl⟩
        have HC : Hid (∀ W, Below W0.heap.size W0 W → Calls Tryd.prog 19 #[.pointer (some ⟨g, 0, none⟩), .int .i64 N] W fun e w' => ∃ r, e = .returned r ∧ Hid (Moved w w' w0.heap.size g gw fr to_) ∧ W0.grownBy w' (some gw)) := fun W hW => (all_moves ((HS0.out).below hW) ((HT0.out).below hW) N).mono fun e w' ⟨r, e1, hm⟩ => by
          obtain ⟨ws2, m1, m2⟩ := hm.out
          exact ⟨r, e1, ⟨ws2, m1, (HG0.out).trans ((grown_of_below hW).trans m2)⟩, (grown_of_below hW).trans m2⟩
        go_wp2_with fail
        focus (go_region_held3 (fun W => W0.grownBy W (some gw) ∧ W.cell? ⟨gW, 0, none⟩ = some (.slice (some ⟨gs, 0, none⟩) 1 1) ∧ W.cell? ⟨gs, 0, none⟩ = some (.pointer (some ⟨g, 0, none⟩)) ∧ W.cell? ⟨gO, 2, none⟩ = some (.int .i64 N))
          ((refine unhide HSS _ ?_; repeat (first | assumption | exact grown_of_below (Below.refl _ _) | exact grown_of_below ((Below.refl _ _).drew))))
          (first
            | (go_at_call 19; refine (unhide HC _ (by first | assumption | exact (Below.refl _ _).drew)).mono ?_; rintro e w2 ⟨r, rfl, HM2, hgg2⟩)))
        go_wp2
        exact ⟨⟨k + 1, by omega, by omega, by go_num, HM2⟩, by simp [intOf]; omega⟩
      by_cases k3 : K = 3
      · subst k3
        have HSS : Hid (∀ W, W0.grownBy W (some gw) → W0.grownBy W (some gw) ∧ W.cell? ⟨gW, 0, none⟩ = some (.slice (some ⟨gs, 0, none⟩) 1 1) ∧ W.cell? ⟨gs, 0, none⟩ = some (.pointer (some ⟨g, 0, none⟩)) ∧ W.cell? ⟨gO, 2, none⟩ = some (.int .i64 N)) := fun W hW => by
          obtain ⟨x1, x2, _, _⟩ := unhide HFC W ((HG0.out).trans hW)
          obtain ⟨_, cs2, mk2, hty2⟩ := (HS0.out).words
          have hc : Ch 0 (fun t => t = 71) W0 W := Ch.of_grown hW (Nat.zero_le _) hty2 rfl
          exact ⟨hW, x1, x2, by rw [cell_of_row W _ 2 _ _ _ (hc.cells HO.out (by decide))]; rfl⟩
        have HC : Hid (∀ W, Below W0.heap.size W0 W → Calls Tryd.prog 20 #[.pointer (some ⟨g, 0, none⟩), .int .i64 N] W fun e w' => ∃ r, e = .returned r ∧ Hid (Moved w w' w0.heap.size g gw fr to_) ∧ W0.grownBy w' (some gw)) := fun W hW => (claim_moves ((HS0.out).below hW) N).mono fun e w' ⟨r, e1, hm⟩ => by
          obtain ⟨ws2, m1, m2⟩ := hm.out
          exact ⟨r, e1, ⟨ws2, m1, (HG0.out).trans ((grown_of_below hW).trans m2)⟩, (grown_of_below hW).trans m2⟩
        go_wp2_with fail
        focus (go_region_held3 (fun W => W0.grownBy W (some gw) ∧ W.cell? ⟨gW, 0, none⟩ = some (.slice (some ⟨gs, 0, none⟩) 1 1) ∧ W.cell? ⟨gs, 0, none⟩ = some (.pointer (some ⟨g, 0, none⟩)) ∧ W.cell? ⟨gO, 2, none⟩ = some (.int .i64 N))
          ((refine unhide HSS _ ?_; repeat (first | assumption | exact grown_of_below (Below.refl _ _) | exact grown_of_below ((Below.refl _ _).drew))))
          (first
            | (go_at_call 20; refine (unhide HC _ (by first | assumption | exact (Below.refl _ _).drew)).mono ?_; rintro e w2 ⟨r, rfl, HM2, hgg2⟩)))
        go_wp2
        exact ⟨⟨k + 1, by omega, by omega, by go_num, HM2⟩, by simp [intOf]; omega⟩
      by_cases k4 : K = 4
      · subst k4
        have HSS : Hid (∀ W, W0.grownBy W (some gw) → W0.grownBy W (some gw) ∧ W.cell? ⟨gW, 0, none⟩ = some (.slice (some ⟨gs, 0, none⟩) 1 1) ∧ W.cell? ⟨gs, 0, none⟩ = some (.pointer (some ⟨g, 0, none⟩)) ∧ W.cell? ⟨gO, 2, none⟩ = some (.int .i64 N)) := fun W hW => by
          obtain ⟨x1, x2, _, _⟩ := unhide HFC W ((HG0.out).trans hW)
          obtain ⟨_, cs2, mk2, hty2⟩ := (HS0.out).words
          have hc : Ch 0 (fun t => t = 71) W0 W := Ch.of_grown hW (Nat.zero_le _) hty2 rfl
          exact ⟨hW, x1, x2, by rw [cell_of_row W _ 2 _ _ _ (hc.cells HO.out (by decide))]; rfl⟩
        have HC : Hid (∀ W, Below W0.heap.size W0 W → Calls Tryd.prog 21 #[.pointer (some ⟨g, 0, none⟩), .int .i64 N] W fun e w' => ∃ r, e = .returned r ∧ Hid (Moved w w' w0.heap.size g gw fr to_) ∧ W0.grownBy w' (some gw)) := fun W hW => (give_moves ((HS0.out).below hW) N).mono fun e w' ⟨r, e1, hm⟩ => by
          obtain ⟨ws2, m1, m2⟩ := hm.out
          exact ⟨r, e1, ⟨ws2, m1, (HG0.out).trans ((grown_of_below hW).trans m2)⟩, (grown_of_below hW).trans m2⟩
        go_wp2_with fail
        focus (go_region_held3 (fun W => W0.grownBy W (some gw) ∧ W.cell? ⟨gW, 0, none⟩ = some (.slice (some ⟨gs, 0, none⟩) 1 1) ∧ W.cell? ⟨gs, 0, none⟩ = some (.pointer (some ⟨g, 0, none⟩)) ∧ W.cell? ⟨gO, 2, none⟩ = some (.int .i64 N))
          ((refine unhide HSS _ ?_; repeat (first | assumption | exact grown_of_below (Below.refl _ _) | exact grown_of_below ((Below.refl _ _).drew))))
          (first
            | (go_at_call 21; refine (unhide HC _ (by first | assumption | exact (Below.refl _ _).drew)).mono ?_; rintro e w2 ⟨r, rfl, HM2, hgg2⟩)))
        go_wp2
        exact ⟨⟨k + 1, by omega, by omega, by go_num, HM2⟩, by simp [intOf]; omega⟩
      · have b1 := eq_nat K 1 k1
        have b2 := eq_nat K 2 k2
        have b3 := eq_nat K 3 k3
        have b4 := eq_nat K 4 k4
        have HMZ : Hid (Moved w W0 w0.heap.size g gw fr to_) := ⟨_, HS0.out, HG0.out⟩
        clear k1 k2 k3 k4
        go_wp2
        exact ⟨⟨k + 1, by omega, by omega, by go_num, HMZ⟩, by simp [intOf]; omega⟩
    · have hcond : ((L : Int) ≤ (k : Int)) ∨ ((k : Int) < (L : Int) ∧ (100 : Int) ≤ (k : Int)) := by omega
      rcases hcond with hcd | ⟨hcd, hcd2⟩
      all_goals (
        go_wp2
        refine bodyPost_end (results_none rfl _ _ _) rfl ?_
        exact ⟨⟨_, rfl⟩, HM.out⟩)
end Go.Proofs.YtifmfnkpogconaaDoor

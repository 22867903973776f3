/- The document's New. -/
import Derived.Test.YtifmfnkpogconaaDoorRsList
namespace Go.Proofs.YtifmfnkpogconaaDoor
open Go.RowKit

theorem infoB : (Tryd.prog.info? 4).map (fun i => (i.zero, i.size, i.bytes)) = some (some (.bool false), 1, 1) := by kernel_rfl
set_option maxRecDepth 100000 in
set_option maxHeartbeats 2000000 in
theorem rnew_no {w : World} (fr to_ : Int) (h : fr < 0 ∨ to_ ≤ fr ∨ 65536 < to_) :
    Calls Tryd.prog 30 #[.int .i64 fr, .int .i64 to_] w fun e w' => e = .returned (.tuple #[.pointer none, .int .i64 40]) ∧ Below w.heap.size w w' := by
  obtain ⟨b1, e1⟩ : ∃ b, decide (fr < 0) = b := ⟨_, rfl⟩
  obtain ⟨b2, e2⟩ : ∃ b, decide (fr ≥ to_) = b := ⟨_, rfl⟩
  obtain ⟨b3, e3⟩ : ∃ b, decide (to_ > 65536) = b := ⟨_, rfl⟩
  have hb : (b1 || (b2 || b3)) = true := by
    rw [← e1, ← e2, ← e3]
    simp only [Bool.or_eq_true, decide_eq_true_eq]
    omega
  clear h
  go_enter Tryd.func30, Tryd.ntmps30
  cases b1 <;> cases b2 <;> cases b3 <;> first | (exact absurd hb (by decide)) | skip
  all_goals (go_wp2; go_ret2; exact ⟨rfl, Below.refl _ _⟩)
set_option maxRecDepth 100000 in
set_option maxHeartbeats 4000000 in
theorem rnew_calls {w : World} (fr to_ : Nat) (h1 : fr < to_) (h2 : to_ ≤ 65536) :
    Calls Tryd.prog 30 #[.int .i64 (fr : Int), .int .i64 (to_ : Int)] w fun e w' => ∃ g gb, e = .returned (.tuple #[.pointer (some ⟨g, 0, none⟩), .int .i64 0]) ∧ Rs w' w.heap.size g gb fr to_ (List.replicate (to_ - fr) true) ∧ w.heap.size ≤ g ∧ Below w.heap.size w w' := by
  obtain ⟨i0, hi, hz0, hz1, hz2⟩ := info_part infoB
  have q1 : ¬ ((fr : Int) < 0) := by omega
  have q2 : ¬ (to_ ≤ fr) := by omega
  have q3 : ¬ (65536 < (to_ : Int)) := by omega
  have q4 : ¬ ((to_ : Int) ≤ (fr : Int)) := by omega
  go_enter Tryd.func30, Tryd.ntmps30
  go_wp2_with fail
  go_loopw [7] (fun iv W => ∃ (i : Nat) (lv : Value), i ≤ to_ - fr ∧ iv = .int .i64 ((fr + i : Nat) : Int) ∧ W.heap[w.heap.size]? = some (.cells #[.int .i64 (fr : Int), .int .i64 (to_ : Int), lv] 68 (0, 0)) ∧ Row W (w.heap.size + 1) 4 lv (bV (List.replicate i true)) ∧ Below w.heap.size w W) (fun i _ => to_ - (intOf i).toNat)
  case atStart => exact ⟨0, .slice none 0 0, by omega, by simp, heap_alloc_new w _, Row.nil _ _ _, (Below.refl _ _).alloc (Nat.le_refl _) _⟩
  case round =>
    obtain ⟨i, lv, hil, rfl, hblk, hrow, hb⟩ := hrel
    have hgs : w.heap.size < wr.heap.size := (Array.getElem?_eq_some_iff.1 hblk).1
    have hc2 : wr.cell? ⟨w.heap.size, 2, none⟩ = some lv := by rw [cell_of_row wr w.heap.size 2 _ _ _ hblk]; rfl
    have hf2 := frozen_of_row wr w.heap.size 2 _ _ hblk
    have HBK := hide hblk
    have HB := hide hb
    clear hblk
    by_cases hlt : i < to_ - fr
    · have g1 : ((fr + i : Nat) : Int) < (to_ : Int) := by omega
      obtain ⟨N, hN⟩ : ∃ N : Int, N = ((fr + i : Nat) : Int) := ⟨_, rfl⟩
      have g2 : IntKind.i64.wrap (N + 1) = N + 1 := by rw [IntKind.wrap_i64]; omega
      rw [← hN] at g1 ⊢
      have HN := hide hN
      clear hN
      obtain ⟨al, cl, hvl⟩ := hrow.shape
      rw [bV_len, List.length_replicate] at hvl
      subst hvl
      have HIL := hide (show (bV (List.replicate i true)).length = i by rw [bV_len, List.length_replicate])
      have HX : Hid (∀ (v3 : Value) (w3 : World), w3.ownsRow (w.heap.size + 1) 4 1 v3 ((bV (List.replicate i true)).length + 1) (bV (List.replicate i true) ++ [.bool true]) → (wr.alloc (.cells #[.bool true] 4)).grownBy w3 (Value.slice al i cl).ownBlock → (∃ a c, v3 = .slice a (i + 1) c) ∧ w3.cell? ⟨w.heap.size, 2, none⟩ = some (.slice al i cl) ∧ w3.frozen? ⟨w.heap.size, 2, none⟩ = false ∧ Hid (w3.heap[w.heap.size]? = some (.cells #[.int .i64 (fr : Int), .int .i64 (to_ : Int), .slice al i cl] 68 (0, 0))) ∧ Hid (Row w3 (w.heap.size + 1) 4 v3 (bV (List.replicate (i + 1) true))) ∧ Hid (Below w.heap.size w w3)) := fun v3 w3 hr3 hg3 => by
        have hr4 : Row w3 (w.heap.size + 1) 4 v3 (bV (List.replicate (i + 1) true)) := by
          rw [List.replicate_succ']
          unfold Row bV
          rw [List.map_append, List.length_append]
          exact hr3
        have hk : w3.heap[w.heap.size]? = some (.cells #[.int .i64 (fr : Int), .int .i64 (to_ : Int), .slice al i cl] 68 (0, 0)) := by
          rw [hg3.block w.heap.size (by simp; omega) (fun e => by have := (hrow.lt _ e.symm).1; omega)]
          rw [(World.grownBy_alloc wr _ none).block w.heap.size hgs (by simp)]
          exact HBK.out
        obtain ⟨a, c, e⟩ := hr4.shape
        refine ⟨⟨a, c, by rw [e, bV_len, List.length_replicate]⟩, by rw [cell_of_row w3 w.heap.size 2 _ _ _ hk]; rfl, frozen_of_row w3 w.heap.size 2 _ _ hk, hk, hr4, ?_⟩
        exact ((HB.out).alloc (HB.out).size _).grown hg3 (by simp; have := (HB.out).size; omega) fun b hb => by have := (hrow.lt b hb).1; omega
      go_wp2_with (at_builtin; refine wpList_append_own _ rfl _ _ 48 rfl (w.heap.size + 1) 4 i0 (.bool false) 1 1 Tryd.underlying48 hi hz0 hz1 hz2 rfl (by decide) _ _ _ rfl (World.ownsRow.alloc hrow _) ⟨wr.heap.size, 0, none⟩ 1 1 [.bool true] rfl rfl (cell_one_new _ _ _) (by intro u hu; simp at hu; subst hu; rfl) (by have := HIL.out; unfold maxLen; omega) (by have := HIL.out; omega) (by simp; omega) ?_; intro v3 w3 hr3 hg3 _; obtain ⟨⟨a3, c3, rfl⟩, k1, k2, HK, HR4, HB3⟩ := unhide HX v3 w3 hr3 hg3; clear hr3 hg3)
      go_roundw
      case rel =>
        refine ⟨i + 1, .slice a3 (i + 1) c3, by omega, ?_, ?_, ?_, ?_⟩
        · rw [HN.out]; congr 1
        · rw [heap_setCell_same w3 w.heap.size 2 _ _ _ HK.out]; rfl
        · exact (HR4.out).kept (grown_sets w3 w.heap.size 2 _) (Or.inr fun e => by have := ((HR4.out).lt _ e).1; omega)
        · exact (HB3.out).grown (grown_sets w3 w.heap.size 2 _) (HB3.out).size (fun b hb => by injection hb with hb; omega)
      case measure => have := HN.out; simp [intOf]; omega
    · have he : i = to_ - fr := by omega
      have g1 : ¬ (((fr + i : Nat) : Int) < (to_ : Int)) := by omega
      have g2 : (to_ : Int) ≤ ((fr + i : Nat) : Int) := by omega
      generalize ((fr + i : Nat) : Int) = N at g1 g2 ⊢
      have HE := hide he
      clear he
      go_wp2
      go_ret2
      have HE' := HE.out
      subst HE'
      obtain ⟨gb, cb, hv, _, _, _, _⟩ := hrow.head (by rw [bV_len, List.length_replicate]; omega)
      subst hv
      refine ⟨_, rfl, ⟨gb, ⟨cb, ?_, ?_⟩, ⟨h1, h2⟩, by rw [List.length_replicate]⟩, Nat.le_refl _, hb⟩
      · have := HBK.out
        rw [bV_len] at this
        exact this
      · have := hrow.mono (Nat.le_succ w.heap.size)
        rw [bV_len] at this
        exact this
end Go.Proofs.YtifmfnkpogconaaDoor

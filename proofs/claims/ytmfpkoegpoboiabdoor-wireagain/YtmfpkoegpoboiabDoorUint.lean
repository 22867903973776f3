/- What wire.Uint answers: the number's groups of seven bits, in new memory. -/
import Derived.Test.YtmfpkoegpoboiabDoorProg
import Derived.Test.YtmfpkoegpoboiabDoorPlain
import Derived.WalkKit
import Derived.WalkSpells
namespace Go.Proofs.YtmfpkoegpoboiabDoor
open Go.RowKit

theorem info8 : (Tryd.prog.info? 5).map (fun i => (i.zero, i.size, i.bytes)) = some (some (.int .u8 0), 1, 1) := by kernel_rfl

theorem one_u8 (x : Int) : ∀ u ∈ [Value.int .u8 x], u.oneCell' = true := by intro u hu; simp at hu; subst hu; rfl

set_option maxHeartbeats 400000 in
theorem uint_calls (V : Int) (w : World) (h0 : 0 ≤ V) (h1 : V < 2 * 128 ^ 9) :
    Calls Tryd.prog 30 #[.int .u64 V] w fun e w' => ∃ v, e = .returned v ∧
      w'.ownsRow w.heap.size 5 1 v (uBytes V).length ((uBytes V).map (Value.int .u8)) ∧ Below w.heap.size w w' := by
  obtain ⟨i0, hi, hz0, hz1, hz2⟩ := info_parts info8
  have hmk : ∀ w : World, (Instr.makeSlice 23 (.int .i64 0) (.int .i64 10)).run Tryd.prog w = .ok (.slice (some ⟨w.heap.size, 0, none⟩) 0 10) (w.alloc (.cells #[.int .u8 0, .int .u8 0, .int .u8 0, .int .u8 0, .int .u8 0, .int .u8 0, .int .u8 0, .int .u8 0, .int .u8 0, .int .u8 0] 5)) := fun _ => by kernel_rfl
  have H1 : Hid (V < 2 * 128 ^ 9) := h1
  clear h1
  go_enter Tryd.func30, Tryd.ntmps30
  go_wp2
  clear hmk
  go_loopw [0, 3] (fun v b wr => ∃ (f : Nat) (x : Int) (pre : List Int), v = .int .u64 x ∧ 0 ≤ x ∧ Hid (x < 2 * 128 ^ f) ∧ Hid (uBytes V = pre ++ uB f x) ∧ Hid (pre.length + f = 9) ∧ pre.length ≤ 9 ∧
      wr.ownsRow w.heap.size 5 1 b pre.length (pre.map (Value.int .u8)) ∧ Below w.heap.size w wr)
    (fun v _ _ => (intOf v).toNat)
  case atStart =>
    exact ⟨9, V, [], rfl, h0, H1, rfl, rfl, by simp, World.ownsRow_made _ _ 10 (Nat.le_refl _) (by unfold maxLen; omega) (by simp), (Below.refl _ _).alloc (Nat.le_refl _) _⟩
  case round =>
    obtain ⟨f, x, pre, rfl, hx0, HX, HE, HF, hp9, hown, hnx⟩ := hrel
    have hsz := hnx.size
    by_cases hlt : 128 ≤ x
    · have hor : bits .or .u8 (x % 256) 128 = x % 128 + 128 := by rw [or128 (by omega) (by omega)]; omega
      go_wp2_with (first
        | (at_builtin; refine wpList_append_own _ rfl _ _ 23 rfl w.heap.size 5 i0 (.int .u8 0) 1 1 Tryd.underlying23 hi hz0 hz1 hz2 rfl (by decide) _ _ _ rfl (hown.alloc _) ⟨wr.heap.size, 0, none⟩ 1 1 [.int .u8 (x % 128 + 128)] rfl rfl (cell_one_new _ _ _) (one_u8 _) (by unfold maxLen; omega) (by omega) (by simp; omega) ?_; intro v' w3 hown' hgrow hnil))
      obtain ⟨g, rfl⟩ := top_pos HX.out hlt
      have HL := HF.out
      go_roundw
      case rel =>
        exact ⟨g, x / 128, pre ++ [x % 128 + 128], rfl, by omega, top_step HX.out, by show uBytes V = _; rw [HE.out, uB_more (by omega)]; simp, by show _ = _; simp; omega, by simp; omega, by simpa using hown',
          (hnx.alloc hsz _).grown hgrow (by simp; omega) (fun k hk => (hown.lt k hk).1)⟩
      case measure => simp [intOf]; omega
    · go_wp2_with (first
        | (at_builtin; refine wpList_append_own _ rfl _ _ 23 rfl w.heap.size 5 i0 (.int .u8 0) 1 1 Tryd.underlying23 hi hz0 hz1 hz2 rfl (by decide) _ _ _ rfl (hown.alloc _) ⟨wr.heap.size, 0, none⟩ 1 1 [.int .u8 x] rfl rfl (cell_one_new _ _ _) (one_u8 _) (by unfold maxLen; omega) (by omega) (by simp; omega) ?_; intro v' w3 hown' hgrow hnil))
      go_ret
      refine ⟨_, rfl, ?_, (hnx.alloc hsz _).grown hgrow (by simp; omega) (fun k hk => (hown.lt k hk).1)⟩
      rw [HE.out, uB_last (by omega)]
      simpa using hown'
end Go.Proofs.YtmfpkoegpoboiabDoor

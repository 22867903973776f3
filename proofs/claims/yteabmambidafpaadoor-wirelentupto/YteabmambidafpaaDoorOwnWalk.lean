/- WireOwn's walk. -/
import Derived.Test.YteabmambidafpaaDoorKept
import Derived.Test.YteabmambidafpaaDoorStand
namespace Go.Proofs.YteabmambidafpaaDoor
open Go.RowKit

theorem rdB_lens {xs : List Int} (A N : Int) : (rdB xs A N).1.length ≤ xs.length := by
  unfold rdB
  repeat' split
  all_goals first
    | (simp; done)
    | (simp; omega)
theorem XA_ok {V : Int} {xs ys : List Int} {at_ : Int} (hV0 : 0 ≤ V) (hV1 : V < 2 * 128 ^ 9) (hx : ∀ x ∈ xs, 0 ≤ x ∧ x ≤ 255) (hy : ∀ x ∈ ys, 0 ≤ x ∧ x ≤ 255) (hxl : xs.length ≤ 140737488351232) (hyl : ys.length ≤ 140737488351232) :
    ∀ k, k < 5 → (XA V xs ys at_ k).length ≤ 140737488355000 ∧ ∀ x ∈ XA V xs ys at_ k, 0 ≤ x ∧ x ≤ 255 := by
  intro k hk
  match k, hk with
  | 0, _ => exact ⟨Nat.le_trans (uBytes_le V) (by decide), uBytes_bytes hV0 hV1⟩
  | 1, _ => exact ⟨by show (fB V 8).length ≤ _; rw [fB_len]; decide, fB_bytes V 8⟩
  | 2, _ => exact ⟨by show (fB (V % 256) 1).length ≤ _; rw [fB_len]; decide, fB_bytes _ 1⟩
  | 3, _ => exact ⟨Nat.le_trans (bB_len xs) (by omega), bB_bytes (by omega) hx⟩
  | 4, _ => exact ⟨Nat.le_trans (rdB_lens _ _) (by omega), rdB_mems hy _ _⟩
theorem below_out {a w w' : World} {B S : Nat} (h : Below a.heap.size a w) (ho : Out B S w w') (hB : a.heap.size ≤ B) : Below a.heap.size a w' := h.trans (ho.below hB h.size)
/-- Lists that are written full, and what was lengthened. -/
structure Stands (w : World) (B B2 S gl cl : Nat) (us ms : List Value) (vm : Value) (L : Nat → Nat) (X : Nat → List Value) : Prop where
  ul : us.length = 5
  ml : ms.length = 3 * 5
  l : Row w B 23 (.slice (some ⟨gl, 0, none⟩) 5 cl) us
  m : Row w B2 23 vm ms
  r : Lines w B S 5 (fun k => us.getD k undef) (Rf L X 5) 5
  lg : Long3 w B S (fun k => us.getD k undef) L ms 5
theorem Stands.below {w w' : World} {B B2 S gl cl : Nat} {us ms : List Value} {vm : Value} {L : Nat → Nat} {X : Nat → List Value} (h : Stands w B B2 S gl cl us ms vm L X) (hb : Below w.heap.size w w') : Stands w' B B2 S gl cl us ms vm L X :=
  ⟨h.ul, h.ml, h.l.grown (below_grown hb), h.m.grown (below_grown hb), h.r.below hb, h.lg.lines fun _ _ hr => hr.grown (below_grown hb)⟩
theorem getD_at {us : List Value} (h : us.length = 5) : ∀ k, k < 5 → us[k]? = some (us.getD k undef) := fun k hk => by
  rw [List.getD_eq_getElem?_getD, List.getElem?_eq_getElem (by omega)]; rfl
theorem Stands.calls {w : World} {B B2 S gl cl : Nat} {us ms : List Value} {vm : Value} {L : Nat → Nat} {X : Nat → List Value} (h : Stands w B B2 S gl cl us ms vm L X) (hL : ∀ k, k < 5 → L k ≤ 140737488355000) :
    Calls Tryd.prog 10 #[.slice (some ⟨gl, 0, none⟩) 5 cl, vm] w fun e w' => e = .returned (.bool true) ∧ w' = w :=
  stand_calls (by decide) (by decide) h.ul (getD_at h.ul) hL h.l h.ml h.m h.r h.lg
theorem fills {w : World} {B S gl cl : Nat} {us : List Value} {L : Nat → Nat} {X : Nat → List Value} (hus : us.length = 5) (hL : ∀ k, k < 5 → (X k).length = L k) (hLm : ∀ k, k < 5 → L k ≤ 140737488355000) (hBS : B ≤ S) (hSw : S ≤ w.heap.size)
    (hl : Row w B 23 (.slice (some ⟨gl, 0, none⟩) 5 cl) us) (hR : Lines w B S 5 (fun k => us.getD k undef) X 5) :
    Calls Tryd.prog 9 #[.slice (some ⟨gl, 0, none⟩) 5 cl] w fun e w' => ∃ vm ms, e = .returned vm ∧ Stands w' B w.heap.size S gl cl us ms vm L X ∧ Out B S w w' := by
  refine (filled_calls (by decide) hus (getD_at hus) hL hLm hBS hSw hl hR).mono ?_
  rintro e w' ⟨vm, ms, rfl, h1, h2, h3, h4, h5, h6⟩
  exact ⟨vm, ms, rfl, ⟨hus, h1, h3, h2, h4, h5⟩, h6⟩
theorem same_yes' {w : World} {va vb : Value} {xs : List Int} (ha : IsB w va xs) (hb : IsB w vb xs) : Calls Tryd.prog 12 #[va, vb] w fun e w' => e = .returned (.bool true) ∧ w' = w := by
  have := same_calls ha hb
  rwa [decide_eq_true rfl] at this

set_option maxRecDepth 100000 in
set_option maxHeartbeats 4000000 in
theorem own_walk {w : World} {V : Int} {vb va : Value} {xs ys : List Int} (at_ : Int) (hV0 : 0 ≤ V) (hV1 : V < 2 * 128 ^ 9) (hb : IsB w vb xs) (ha : IsB w va ys) (hxl : xs.length ≤ 140737488351232) (hyl : ys.length ≤ 140737488351232) (hT : Tab w) :
    Calls Tryd.prog 3 #[.int .u64 V, vb, va, .int .i64 at_] w fun e w' => e = .returned (.bool true) ∧ Below w.heap.size w w' := by
  obtain ⟨ab, nb, cb, rfl⟩ := hb.shape
  obtain ⟨aa, na, ca, rfl⟩ := ha.shape
  have hX := XA_ok (at_ := at_) hV0 hV1 hb.mem ha.mem hxl hyl
  have HX := hide hX
  have HAN : Hid (∀ W, Below w.heap.size w W → Calls Tryd.prog 7 #[.int .u64 V, .slice ab nb cb, .slice aa na ca, .int .i64 at_] W fun e w' => ∃ g us, e = .returned (.slice (some ⟨g, 0, none⟩) 5 5) ∧ us.length = 5 ∧ Row w' W.heap.size 23 (.slice (some ⟨g, 0, none⟩) 5 5) us ∧
      Lines w' W.heap.size w'.heap.size 5 (fun k => us.getD k undef) (fun k => (XA V xs ys at_ k).map (Value.int .u8)) 5 ∧ Below W.heap.size W w') := fun W hW => answers_calls hV0 hV1 (hb.below hW) hxl (ha.below hW) (by omega) at_
  have HST : Hid (∀ W, Below w.heap.size w W → Calls Tryd.prog 13 #[] W fun e w' => e = .returned (.bool true) ∧ Below W.heap.size W w') := fun W hW => started_calls W (hT.below hW)
  have HJB := hide (join_one (W := w) hb (by omega))
  have HB := hide hb
  have HA := hide ha
  have HYL := hide hyl
  generalize XA V xs ys at_ = X at *
  clear hX hb ha hT hV1 hxl hyl
  go_enter Tryd.func3, Tryd.ntmps3
  go_wp2_with fail
  refine (unhide HJB).mono ?_
  rintro e w1 ⟨ai, ni, ci, rfl, hi1, hb1⟩
  have HJA := hide (join_one ((unhide HA).below hb1) (by have := HYL.out; omega))
  go_wp2_with fail
  refine (unhide HJA).mono ?_
  rintro e w2 ⟨ax, nx, cx, rfl, hx2, hb2⟩
  have hB2 := below_aft hb1 hb2
  go_wp2_with fail
  refine (unhide HAN w2 hB2).mono ?_
  rintro e w3 ⟨g3, us3, rfl, hl3, hr3, hR3, hb3⟩
  go_wp2_with fail
  refine (kept_calls (by decide) hl3 (getD_at hl3) (unhide HX) hr3 hR3).mono ?_
  rintro e w4 ⟨vk, rfl, hk4, hb4⟩
  obtain ⟨gk, ck, rfl⟩ := hk4.head (by decide)
  have hS4 : w3.heap.size ≤ w4.heap.size := hb4.size
  go_wp2_with fail
  refine (fills (L := fun k => (X k).length) hl3 (fun k hk => by simp) (fun k hk => (unhide HX k hk).1) hb3.size hS4 (hr3.grown (below_grown hb4)) (hR3.below hb4)).mono ?_
  rintro e w5 ⟨vm, ms, rfl, hSt5, ho5⟩
  have hk5 := hk4.outs ho5 (Nat.le_refl _)
  have hB5 := below_out (below_aft hB2 (below_aft hb3 hb4)) ho5 hB2.size
  have h15 := below_out (below_aft hb2 (below_aft hb3 hb4)) ho5 hb2.size
  have h25 := below_out (below_aft hb3 hb4) ho5 (Nat.le_refl _)
  have HI5 := hide (hi1.below h15).isB
  have HX5 := hide (hx2.below h25).isB
  have hSt5' := hide hSt5
  have hk5' := hide hk5
  clear hSt5 hk5 hk4 hR3 hr3 hi1 hx2 h15 h25 ho5
  go_wp2_with fail
  refine (unhide HAN w5 hB5).mono ?_
  rintro e w6 ⟨g6, us6, rfl, hl6, hr6, hR6, hb6⟩
  have hB6 := below_aft hB5 hb6
  go_wp2_with fail
  refine (((unhide hSt5').below hb6).calls (fun k hk => (unhide HX k hk).1)).mono ?_
  rintro e w6' ⟨rfl, hw6'⟩
  obtain rfl := hw6'.symm
  clear hw6'
  go_wp2_with fail
  refine (sameAll_calls (by decide) (hR6.reads hr6 hl6 (getD_at hl6) (fun k hk => (unhide HX k hk).2)) ((unhide hk5').below hb6).reads).mono ?_
  rintro e w7 ⟨rfl, hb7⟩
  have h57 := below_aft hb6 hb7
  have hB7 := below_aft hB6 hb7
  go_wp2_with fail
  refine (same_yes' ((unhide HB).below hB7) ((unhide HI5).below h57)).mono ?_
  rintro e w7' ⟨rfl, hw7'⟩
  obtain rfl := hw7'.symm
  clear hw7'
  go_wp2_with fail
  refine (same_yes' ((unhide HA).below hB7) ((unhide HX5).below h57)).mono ?_
  rintro e w7' ⟨rfl, hw7'⟩
  obtain rfl := hw7'.symm
  clear hw7'
  go_wp2_with fail
  refine (fills (L := fun k => (X k).length) hl6 (fun k hk => by simp) (fun k hk => (unhide HX k hk).1) hb6.size hb7.size (hr6.grown (below_grown hb7)) (hR6.below hb7)).mono ?_
  rintro e w8 ⟨vm8, ms8, rfl, hSt8, ho8⟩
  have h58 := below_out h57 ho8 (Nat.le_refl _)
  have hB8 := below_aft hB5 h58
  clear hR6 hr6 ho8 hB7 h57 hb7 hB6
  have hSt8' := hide hSt8
  clear hSt8
  go_wp2_with fail
  refine (unhide HAN w8 hB8).mono ?_
  rintro e w9 ⟨g9, us9, rfl, hl9, hr9, hR9, hb9⟩
  have hB9 := below_aft hB8 hb9
  go_wp2_with fail
  refine (unhide HST w9 hB9).mono ?_
  rintro e w10 ⟨rfl, hb10⟩
  have h8 := below_aft hb9 hb10
  have h5 := below_aft h58 h8
  have h0 := below_aft hB5 h5
  go_wp2_with fail
  refine (((unhide hSt5').below h5).calls (fun k hk => (unhide HX k hk).1)).mono ?_
  rintro e w6' ⟨rfl, hw6'⟩
  obtain rfl := hw6'.symm
  clear hw6'
  go_wp2_with fail
  refine (((unhide hSt8').below h8).calls (fun k hk => (unhide HX k hk).1)).mono ?_
  rintro e w6' ⟨rfl, hw6'⟩
  obtain rfl := hw6'.symm
  clear hw6'
  go_wp2_with fail
  refine (sameAll_calls (by decide) ((hR9.below hb10).reads (hr9.grown (below_grown hb10)) hl9 (getD_at hl9) (fun k hk => (unhide HX k hk).2)) ((unhide hk5').below h5).reads).mono ?_
  rintro e w11 ⟨rfl, hb11⟩
  have h51 := below_aft h5 hb11
  have h01 := below_aft h0 hb11
  go_wp2_with fail
  refine (same_yes' ((unhide HB).below h01) ((unhide HI5).below h51)).mono ?_
  rintro e w7' ⟨rfl, hw7'⟩
  obtain rfl := hw7'.symm
  clear hw7'
  go_wp2_with fail
  refine (same_yes' ((unhide HA).below h01) ((unhide HX5).below h51)).mono ?_
  rintro e w7' ⟨rfl, hw7'⟩
  obtain rfl := hw7'.symm
  clear hw7'
  go_wp2
  go_ret
  exact ⟨rfl, h01⟩
end Go.Proofs.YteabmambidafpaaDoor

/- WireLent's walk. -/
import Derived.Test.YteabmambidafpaaDoorSettle
import Derived.Test.YteabmambidafpaaDoorWants
import Derived.Test.YteabmambidafpaaDoorOwnWalk
namespace Go.Proofs.YteabmambidafpaaDoor
open Go.RowKit

/-- Five lists of bytes, each in a block of its own, from lo on and below hi. -/
structure Fam5 (W : World) (lo hi g : Nat) (us : List Value) (X : Nat → List Int) : Prop where
  ul : us.length = 5
  l : Row W lo 23 (.slice (some ⟨g, 0, none⟩) 5 5) us
  r : Lines W lo hi 5 (fun k => us.getD k undef) (fun k => (X k).map (Value.int .u8)) 5
  lt : g < hi
theorem Fam5.kp {A : Nat → Prop} {W W' : World} {lo hi g : Nat} {us : List Value} {X : Nat → List Int} (h : Fam5 W lo hi g us X) (ho : Kp A W W') (hA : ∀ k, lo ≤ k → k < hi → A k) : Fam5 W' lo hi g us X :=
  ⟨h.ul, h.l.kp ho fun k hk => by simp [Value.ownBlock] at hk; subst hk; exact hA g (h.l.lt g rfl).1 h.lt, h.r.kp ho hA, h.lt⟩
theorem Fam5.below {W W' : World} {lo hi g : Nat} {us : List Value} {X : Nat → List Int} (h : Fam5 W lo hi g us X) (ho : Below W.heap.size W W') : Fam5 W' lo hi g us X :=
  ⟨h.ul, h.l.grown (below_grown ho), h.r.below ho, h.lt⟩
theorem Fam5.at {W : World} {lo hi g : Nat} {us : List Value} {X : Nat → List Int} (h : Fam5 W lo hi g us X) (hX : ∀ k, k < 5 → ∀ x ∈ X k, 0 ≤ x ∧ x ≤ 255) {j : Nat} (hj : j < 5) : ∃ a m c, us.getD j undef = .slice a m c ∧ W.cell? ⟨g, j, none⟩ = some (.slice a m c) ∧ Own8 W lo (.slice a m c) (X j) := by
  have ho := (h.r.row j hj).own8 (hX j hj)
  obtain ⟨a, m, c, hv⟩ := ho.isB.shape
  exact ⟨a, m, c, hv, by rw [h.l.cellAt (by rw [h.ul]; exact hj), getD_at h.ul j hj, hv], by rw [← hv]; exact ho⟩
theorem Fam5.reads {W : World} {lo hi g : Nat} {us : List Value} {X : Nat → List Int} (h : Fam5 W lo hi g us X) (hX : ∀ k, k < 5 → ∀ x ∈ X k, 0 ≤ x ∧ x ≤ 255) : Reads W g X 5 := h.r.reads h.l h.ul (getD_at h.ul) hX
theorem Fam5.cross {W W2 : World} {lo hi g lo2 hi2 g2 : Nat} {us us2 : List Value} {X X2 : Nat → List Int} (h : Fam5 W lo hi g us X) (h2 : Fam5 W2 lo2 hi2 g2 us2 X2) (hd : hi ≤ lo2 ∨ hi2 ≤ lo) {i j : Nat} (hi5 : i < 5) (hj5 : j < 5) : Ap (us.getD i undef) (us2.getD j undef) := by
  unfold Ap
  cases e : (us.getD i undef).ownBlock with
  | none => exact Or.inl rfl
  | some k =>
    refine Or.inr fun e2 => ?_
    have a1 := ((h.r.row i hi5).lt k e).1
    have a2 := h.r.hi i hi5 k e
    have b1 := ((h2.r.row j hj5).lt k e2.symm).1
    have b2 := h2.r.hi j hj5 k e2.symm
    omega
/-- No list of the book lies where one of these does, from the j-th on. -/
def Free (U : Nat → Value) (n j : Nat) (us : List Value) : Prop := ∀ q, j ≤ q → q < 5 → ∀ k, k < n → Ap (U k) (us.getD q undef)
theorem Free.add {U : Nat → Value} {n j j' : Nat} {us : List Value} {v : Value} (h : Free U n j us) (hj : j ≤ j') (ha : ∀ q, j' ≤ q → q < 5 → Ap v (us.getD q undef)) : Free (upd U n v) (n + 1) j' us := by
  intro q hq h5 k hk
  by_cases e : k = n
  · subst e; rw [upd_same]; exact ha q hq h5
  · rw [upd_other _ _ e]; exact h q (by omega) h5 k (by omega)
theorem Bk.free {w w' : World} {B gB M n lo hi g : Nat} {A : Nat → Prop} {U : Nat → Value} {X X2 : Nat → List Int} {us : List Value} (h : Bk w B gB M A n U X) (h2 : Fam5 w' lo hi g us X2) (hlo : w.heap.size ≤ lo) : Free U n 0 us := by
  intro q _ h5 k hk
  unfold Ap
  cases e : (U k).ownBlock with
  | none => exact Or.inl rfl
  | some b =>
    refine Or.inr fun e2 => ?_
    have a2 := h.lines.hi k hk b e
    have b1 := ((h2.r.row q h5).lt b e2.symm).1
    omega
theorem Bk.new {w w' : World} {B gB M n lo : Nat} {A : Nat → Prop} {U : Nat → Value} {X : Nat → List Int} {v : Value} {xs : List Int} (h : Bk w B gB M A n U X) (hv : Own8 w' lo v xs) (hlo : w.heap.size ≤ lo) : ∀ k, k < n → Ap (U k) v := by
  intro k hk
  unfold Ap
  cases e : (U k).ownBlock with
  | none => exact Or.inl rfl
  | some b =>
    refine Or.inr fun e2 => ?_
    have a2 := h.lines.hi k hk b e
    have b1 := (hv.1.lt b e2.symm).1
    omega
theorem ans5 {w : World} {V : Int} {vb va : Value} {xs ys : List Int} (hV0 : 0 ≤ V) (hV1 : V < 2 * 128 ^ 9) (hb : IsB w vb xs) (hxl : xs.length ≤ 140737488351232) (ha : IsB w va ys) (hyl : ys.length ≤ 140737488355328) (at_ : Int) :
    Calls Tryd.prog 7 #[.int .u64 V, vb, va, .int .i64 at_] w fun e w' => ∃ g us, e = .returned (.slice (some ⟨g, 0, none⟩) 5 5) ∧ Fam5 w' w.heap.size w'.heap.size g us (XA V xs ys at_) ∧ Below w.heap.size w w' := by
  refine (answers_calls hV0 hV1 hb hxl ha hyl at_).mono ?_
  rintro e w' ⟨g, us, rfl, h1, h2, h3, h4⟩
  exact ⟨g, us, rfl, ⟨h1, h2, h3, (h2.lt g rfl).2⟩, h4⟩
theorem XA_small {V : Int} {xs ys : List Int} {at_ : Int} (hxl : xs.length ≤ 1048576) (hyl : ys.length ≤ 1048576) : ∀ k, k < 5 → (XA V xs ys at_ k).length ≤ 1048600 := by
  intro k hk
  match k, hk with
  | 0, _ => exact Nat.le_trans (uBytes_le V) (by decide)
  | 1, _ => show (fB V 8).length ≤ _; rw [fB_len]; decide
  | 2, _ => show (fB (V % 256) 1).length ≤ _; rw [fB_len]; decide
  | 3, _ => exact Nat.le_trans (bB_len xs) (by omega)
  | 4, _ => exact Nat.le_trans (rdB_lens _ _) (by omega)

theorem keep_fam {W : World} {B gB M n lo hi g j : Nat} {A : Nat → Prop} {U : Nat → Value} {X X2 : Nat → List Int} {us : List Value} (hb : Bk W B gB M A n U X) (hf : Fam5 W lo hi g us X2) (hB : B ≤ lo) (hX : ∀ k, k < 5 → (X2 k).length ≤ M ∧ ∀ x ∈ X2 k, 0 ≤ x ∧ x ≤ 255) (hM : M ≤ 140737488355328) (hn : n ≤ 100000) (hj : j < 5) (hfr : Free U n j us) :
    ∃ a m c, W.cell? ⟨g, j, none⟩ = some (.slice a m c) ∧ Calls Tryd.prog 19 #[.pointer (some ⟨gB, 0, none⟩), .slice a m c] W fun e w' => (∃ r, e = .returned r) ∧ Bk w' B gB M A (n + 1) (upd U n (us.getD j undef)) (upd X n (X2 j)) ∧ Kp A W w' := by
  obtain ⟨a, m, c, h1, h2, h3⟩ := hf.at (fun k hk => (hX k hk).2) hj
  refine ⟨a, m, c, h2, ?_⟩
  have hap := fun k hk => hfr j (Nat.le_refl _) hj k hk
  rw [h1] at hap ⊢
  exact keep_calls hb (h3.mono hB) (hX j hj).1 hM hn hap
theorem keep_new {W W' : World} {B gB M n : Nat} {A : Nat → Prop} {U : Nat → Value} {X : Nat → List Int} {v : Value} {xs : List Int} (hb : Bk W B gB M A n U X) (hbe : Below W.heap.size W W') (hv : Own8 W' W.heap.size v xs) (hl : xs.length ≤ M) (hM : M ≤ 140737488355328) (hn : n ≤ 100000) :
    Calls Tryd.prog 19 #[.pointer (some ⟨gB, 0, none⟩), v] W' fun e w' => (∃ r, e = .returned r) ∧ (∃ U' X', Bk w' B gB M A (n + 1) U' X') ∧ Kp A W w' := by
  refine (keep_calls (hb.widen (A' := A) hbe fun g hg => Or.inl hg) (hv.mono hb.low.2.1) hl hM hn (hb.new hv (Nat.le_refl _))).mono ?_
  rintro e w' ⟨h1, h2, h3⟩
  exact ⟨h1, ⟨_, _, h2⟩, (Kp.of_below hbe).trans h3⟩
/-- A book, and which lists have not come into it yet. -/
def Pend (W : World) (B gB : Nat) (A : Nat → Prop) (n jx jy : Nat) (ux ua uy ut : List Value) : Prop := ∃ U X, Bk W B gB 1048600 A n U X ∧ Free U n jx ux ∧ Free U n jx ua ∧ Free U n jy uy ∧ Free U n jy ut
set_option maxRecDepth 100000 in
set_option maxHeartbeats 4000000 in
theorem lent_walk {w : World} {V V2 : Int} {vb vc va : Value} {xs zs ys : List Int} (at_ : Int) (hV0 : 0 ≤ V) (hV1 : V < 2 * 128 ^ 9) (hW0 : 0 ≤ V2) (hW1 : V2 < 2 * 128 ^ 9) (hb : IsB w vb xs) (hc : IsB w vc zs) (ha : IsB w va ys) (hxl : xs.length ≤ 1048576) (hzl : zs.length ≤ 1048576) (hyl : ys.length ≤ 1048576) (hT : Tab w) :
    Calls Tryd.prog 5 #[.int .u64 V, vb, .int .u64 V2, vc, va, .int .i64 at_] w fun e w' => e = .returned (.bool true) ∧ Below w.heap.size w w' := by
  obtain ⟨ab, nb, cb, rfl⟩ := hb.shape
  obtain ⟨ac, nc, cc, rfl⟩ := hc.shape
  obtain ⟨aa, na, ca, rfl⟩ := ha.shape
  have hX1 := XA_ok (at_ := at_) hV0 hV1 hb.mem ha.mem (by omega) (by omega)
  have hX2 := XA_ok (at_ := at_) hW0 hW1 hc.mem ha.mem (by omega) (by omega)
  have HX1 : Hid (∀ k, k < 5 → (XA V xs ys at_ k).length ≤ 1048600 ∧ ∀ x ∈ XA V xs ys at_ k, 0 ≤ x ∧ x ≤ 255) := fun k hk => ⟨XA_small hxl hyl k hk, (hX1 k hk).2⟩
  have HX2 : Hid (∀ k, k < 5 → (XA V2 zs ys at_ k).length ≤ 1048600 ∧ ∀ x ∈ XA V2 zs ys at_ k, 0 ≤ x ∧ x ≤ 255) := fun k hk => ⟨XA_small hzl hyl k hk, (hX2 k hk).2⟩
  have HA1 : Hid (∀ W, Below w.heap.size w W → Calls Tryd.prog 7 #[.int .u64 V, .slice ab nb cb, .slice aa na ca, .int .i64 at_] W fun e w' => ∃ g us, e = .returned (.slice (some ⟨g, 0, none⟩) 5 5) ∧ Fam5 w' W.heap.size w'.heap.size g us (XA V xs ys at_) ∧ Below W.heap.size W w') := fun W hW => ans5 hV0 hV1 (hb.below hW) (by omega) (ha.below hW) (by omega) at_
  have HA2 : Hid (∀ W, Below w.heap.size w W → Calls Tryd.prog 7 #[.int .u64 V2, .slice ac nc cc, .slice aa na ca, .int .i64 at_] W fun e w' => ∃ g us, e = .returned (.slice (some ⟨g, 0, none⟩) 5 5) ∧ Fam5 w' W.heap.size w'.heap.size g us (XA V2 zs ys at_) ∧ Below W.heap.size W w') := fun W hW => ans5 hW0 hW1 (hc.below hW) (by omega) (ha.below hW) (by omega) at_
  have HW1 : Hid (∀ W, Below w.heap.size w W → Calls Tryd.prog 18 #[.int .u64 V, .slice ab nb cb, .slice aa na ca, .int .i64 at_] W fun e w' => ∃ g, e = .returned (.slice (some ⟨g, 0, none⟩) 5 5) ∧ Was w' W.heap.size (.slice (some ⟨g, 0, none⟩) 5 5) (XA V xs ys at_) 5 ∧ Below W.heap.size W w') := fun W hW => wants_calls hV0 hV1 (hb.below hW) (by omega) (ha.below hW) (by omega) at_
  have HW2 : Hid (∀ W, Below w.heap.size w W → Calls Tryd.prog 18 #[.int .u64 V2, .slice ac nc cc, .slice aa na ca, .int .i64 at_] W fun e w' => ∃ g, e = .returned (.slice (some ⟨g, 0, none⟩) 5 5) ∧ Was w' W.heap.size (.slice (some ⟨g, 0, none⟩) 5 5) (XA V2 zs ys at_) 5 ∧ Below W.heap.size W w') := fun W hW => wants_calls hW0 hW1 (hc.below hW) (by omega) (ha.below hW) (by omega) at_
  have HST : Hid (∀ W, Below w.heap.size w W → Calls Tryd.prog 13 #[] W fun e w' => e = .returned (.bool true) ∧ Below W.heap.size W w') := fun W hW => started_calls W (hT.below hW)
  have HU : Hid (∀ W : World, Calls Tryd.prog 20 #[.int .u64 V] W fun e w' => ∃ a n c, e = .returned (.slice a n c) ∧ Own8 w' W.heap.size (.slice a n c) (uBytes V) ∧ Below W.heap.size W w') := fun W => uint_own W hV0 hV1
  have hv8 : (V2 / 2 ^ (8 * 8) != 0) = false := by
    have : V2 / 2 ^ (8 * 8) = 0 := by omega
    rw [this]; rfl
  have HF : Hid (∀ W : World, Calls Tryd.prog 21 #[.int .u64 V2, .int .i64 8] W fun e w' => ∃ a m c, e = .returned (.tuple #[.slice a m c, .int .i64 0]) ∧ Own8 w' W.heap.size (.slice a m c) (fB V2 8) ∧ Below W.heap.size W w') := fun W => fixed_own 8 rfl W hW0 (by decide) (by decide) hv8
  have HB : Hid (∀ W : World, Below w.heap.size w W → Calls Tryd.prog 22 #[.slice ab nb cb] W fun e w' => ∃ a n c, e = .returned (.slice a n c) ∧ Own8 w' W.heap.size (.slice a n c) (bB xs) ∧ Below W.heap.size W w') := fun W hW => bytes_own (hb.below hW) (by omega)
  have HUL : Hid ((uBytes V).length ≤ 1048600) := Nat.le_trans (uBytes_le V) (by decide)
  have HFL : Hid ((fB V2 8).length ≤ 1048600) := by show _ ≤ _; rw [fB_len]; decide
  have HBL : Hid ((bB xs).length ≤ 1048600) := Nat.le_trans (bB_len xs) (by omega)
  generalize XA V xs ys at_ = X1 at *
  generalize XA V2 zs ys at_ = X2 at *
  generalize uBytes V = uV at *
  generalize fB V2 8 = fV at *
  generalize bB xs = bV at *
  clear hX1 hX2 hb hc ha hT hV1 hW1 hxl hzl hyl hv8
  go_enter Tryd.func5, Tryd.ntmps5
  have hb1 : Below w.heap.size w (w.alloc (.cells #[.slice none 0 0, .slice none 0 0] 45)) := (Below.refl _ _).alloc (Nat.le_refl _) _
  have hgb : (w.alloc (.cells #[.slice none 0 0, .slice none 0 0] 45)).heap[w.heap.size]? = some (.cells #[.slice none 0 0, .slice none 0 0] 45 (0, 0)) := heap_alloc_new w _
  have hs1 : (w.alloc (.cells #[.slice none 0 0, .slice none 0 0] 45)).heap.size = w.heap.size + 1 := by simp
  go_wp2_with fail
  refine (unhide HW1 _ hb1).mono ?_
  rintro e w2 ⟨g1, rfl, hone, hb2⟩
  rw [hs1] at hone
  have hB2 := below_aft hb1 hb2
  have hgb2 : w2.heap[w.heap.size]? = some (.cells #[.slice none 0 0, .slice none 0 0] 45 (0, 0)) := by rw [hb2.block w.heap.size (by rw [hs1]; omega)]; exact hgb
  have hs2 := hb2.size
  rw [hs1] at hs2
  clear hb2 hgb hb1 hs1
  go_wp2_with fail
  refine (unhide HW2 _ hB2).mono ?_
  rintro e w3 ⟨g2, rfl, htwo, hb3⟩
  have hB3 := below_aft hB2 hb3
  have hs3 := hb3.size
  have hone3 := hone.below hb3
  have hgb3 : w3.heap[w.heap.size]? = some (.cells #[.slice none 0 0, .slice none 0 0] 45 (0, 0)) := by rw [hb3.block w.heap.size (by omega)]; exact hgb2
  have hbk : Bk w3 w3.heap.size w.heap.size 1048600 (fun g => g < w3.heap.size ∧ g ≠ w.heap.size) 0 (fun _ => undef) (fun _ => []) :=
    ⟨⟨_, _, [], [], hgb3, rfl, rfl, Row.nil _ _ _, Row.nil _ _ _, Or.inl rfl, (fun g hg => by cases hg), (fun g hg => by cases hg), (fun k hk => by omega), (fun k hk => by omega)⟩, ⟨fun k hk => by omega, fun k hk => by omega, fun j k hj => by omega⟩, fun k hk => by omega, ⟨by omega, Nat.le_refl _, fun h => h.2 rfl⟩, fun g hg => hg.1⟩
  obtain ⟨gB, hgBe⟩ : ∃ gB, gB = w.heap.size := ⟨_, rfl⟩
  have HTW : Hid (∀ W, Below w3.heap.size w3 W ∨ Kp (fun g => g < w3.heap.size ∧ g ≠ w.heap.size) w3 W → Reads W g1 X1 5 ∧ Reads W g2 X2 5 ∧ Below w.heap.size w W) := fun W hW => by
    have hK : Kp (fun g => g < w3.heap.size ∧ g ≠ w.heap.size) w3 W := hW.elim Kp.of_below id
    refine ⟨(hone3.kp (Nat.le_refl _) hK fun k h1 h2 => ⟨h2, by omega⟩).reads, (htwo.kp (Nat.le_refl _) hK fun k h1 h2 => ⟨h2, by omega⟩).reads, hB3.trans (hK.below hB3.size fun k hk => ⟨by omega, by omega⟩)⟩
  generalize hA0 : (fun g => g < w3.heap.size ∧ g ≠ w.heap.size) = A0 at *
  rw [← hgBe] at hbk
  have HOLD : Hid (∀ k, A0 k → k < w3.heap.size) := hbk.old
  have HA0 : Hid (∀ k, k < w.heap.size → A0 k) := fun k hk => by rw [← hA0]; exact ⟨by omega, by omega⟩
  rw [← hgBe]
  have HBK := hide hbk
  have HGB := hide hgBe
  clear hbk hone hone3 htwo hgb2 hgb3 hb3 hA0 hs2 hs3 hB2 hgBe
  go_wp2_with fail
  go_loopw [16] (fun iv W => ∃ (i : Nat), i ≤ 3 ∧ iv = .int .i64 (i : Int) ∧ (∃ U X, Bk W w3.heap.size gB 1048600 A0 (20 * i) U X) ∧ Kp A0 w3 W) (fun i _ => 3 - (intOf i).toNat)
  case atStart => exact ⟨0, by omega, rfl, ⟨_, _, HBK.out⟩, Kp.refl _ _⟩
  case round =>
    obtain ⟨i, hi3, rfl, ⟨U, X, hbk⟩, hkp⟩ := hrel
    obtain ⟨hr1, hr2, hBw⟩ := unhide HTW wr (Or.inr hkp)
    by_cases hlt : i < 3
    · have hsB := hbk.low.2.1
      go_wp2_with fail
      refine (unhide HA1 wr hBw).mono ?_
      rintro e w4 ⟨gx, ux, rfl, hx4, hb4⟩
      have hBw4 := below_aft hBw hb4
      go_wp2_with fail
      refine (unhide HA1 w4 hBw4).mono ?_
      rintro e w5 ⟨ga, ua, rfl, ha5, hb5⟩
      have hBw5 := below_aft hBw4 hb5
      go_wp2_with fail
      refine (unhide HA2 w5 hBw5).mono ?_
      rintro e w6 ⟨gy, uy, rfl, hy6, hb6⟩
      have hBw6 := below_aft hBw5 hb6
      go_wp2_with fail
      refine (unhide HA2 w6 hBw6).mono ?_
      rintro e w7 ⟨gt, ut, rfl, ht7, hb7⟩
      have hBw7 := below_aft hBw6 hb7
      have s4 := hb4.size
      have s5 := hb5.size
      have s6 := hb6.size
      have s7 := hb7.size
      have b67 := hb7
      have b57 := below_aft hb6 b67
      have b47 := below_aft hb5 b57
      have b37 := below_aft hb4 b47
      have hx7 := hx4.below b47
      have ha7 := ha5.below b57
      have hy7 := hy6.below b67
      have HRD : Hid (∀ W, Below w7.heap.size w7 W → Reads W g1 X1 5 ∧ Reads W g2 X2 5) := fun W hW =>
        have h := unhide HTW W (Or.inr (hkp.trans (Kp.of_below (below_aft b37 hW))))
        ⟨h.1, h.2.1⟩
      have HSA : Hid (∀ W, Below w7.heap.size w7 W → Calls Tryd.prog 11 #[.slice (some ⟨gx, 0, none⟩) 5 5, .slice (some ⟨g1, 0, none⟩) 5 5] W fun e w' => e = .returned (.bool true) ∧ Below W.heap.size W w') := fun W hW => sameAll_calls (by decide) ((hx7.below hW).reads fun k hk => (unhide HX1 k hk).2) (unhide HRD W hW).1
      have HSB : Hid (∀ W, Below w7.heap.size w7 W → Calls Tryd.prog 11 #[.slice (some ⟨ga, 0, none⟩) 5 5, .slice (some ⟨g1, 0, none⟩) 5 5] W fun e w' => e = .returned (.bool true) ∧ Below W.heap.size W w') := fun W hW => sameAll_calls (by decide) ((ha7.below hW).reads fun k hk => (unhide HX1 k hk).2) (unhide HRD W hW).1
      have HSC : Hid (∀ W, Below w7.heap.size w7 W → Calls Tryd.prog 11 #[.slice (some ⟨gy, 0, none⟩) 5 5, .slice (some ⟨g2, 0, none⟩) 5 5] W fun e w' => e = .returned (.bool true) ∧ Below W.heap.size W w') := fun W hW => sameAll_calls (by decide) ((hy7.below hW).reads fun k hk => (unhide HX2 k hk).2) (unhide HRD W hW).2
      have HSD : Hid (∀ W, Below w7.heap.size w7 W → Calls Tryd.prog 11 #[.slice (some ⟨gt, 0, none⟩) 5 5, .slice (some ⟨g2, 0, none⟩) 5 5] W fun e w' => e = .returned (.bool true) ∧ Below W.heap.size W w') := fun W hW => sameAll_calls (by decide) ((ht7.below hW).reads fun k hk => (unhide HX2 k hk).2) (unhide HRD W hW).2
      have fx := hide (hbk.free hx7 (Nat.le_refl _))
      have fa := hide (hbk.free ha7 s4)
      have fy := hide (hbk.free hy7 (Nat.le_trans s4 s5))
      have ft := hide (hbk.free ht7 (Nat.le_trans s4 (Nat.le_trans s5 s6)))
      have cxa : Hid (∀ i j, i < 5 → j < 5 → Ap (ux.getD i undef) (ua.getD j undef)) := fun i j h1 h2 => hx7.cross ha7 (by omega) h1 h2
      have cxy : Hid (∀ i j, i < 5 → j < 5 → Ap (ux.getD i undef) (uy.getD j undef)) := fun i j h1 h2 => hx7.cross hy7 (by omega) h1 h2
      have cxt : Hid (∀ i j, i < 5 → j < 5 → Ap (ux.getD i undef) (ut.getD j undef)) := fun i j h1 h2 => hx7.cross ht7 (by omega) h1 h2
      have cay : Hid (∀ i j, i < 5 → j < 5 → Ap (ua.getD i undef) (uy.getD j undef)) := fun i j h1 h2 => ha7.cross hy7 (by omega) h1 h2
      have cat : Hid (∀ i j, i < 5 → j < 5 → Ap (ua.getD i undef) (ut.getD j undef)) := fun i j h1 h2 => ha7.cross ht7 (by omega) h1 h2
      have cyt : Hid (∀ i j, i < 5 → j < 5 → Ap (uy.getD i undef) (ut.getD j undef)) := fun i j h1 h2 => hy7.cross ht7 (by omega) h1 h2
      have cxx : Hid (∀ i j, i < 5 → j < 5 → i ≠ j → Ap (ux.getD i undef) (ux.getD j undef)) := fun i j h1 h2 h3 => hx7.r.apart i j h1 h2 h3
      have caa : Hid (∀ i j, i < 5 → j < 5 → i ≠ j → Ap (ua.getD i undef) (ua.getD j undef)) := fun i j h1 h2 h3 => ha7.r.apart i j h1 h2 h3
      have cyy : Hid (∀ i j, i < 5 → j < 5 → i ≠ j → Ap (uy.getD i undef) (uy.getD j undef)) := fun i j h1 h2 h3 => hy7.r.apart i j h1 h2 h3
      have ctt : Hid (∀ i j, i < 5 → j < 5 → i ≠ j → Ap (ut.getD i undef) (ut.getD j undef)) := fun i j h1 h2 h3 => ht7.r.apart i j h1 h2 h3
      obtain ⟨A1, hA1⟩ : ∃ A1 : Nat → Prop, A1 = fun g => A0 g ∨ (wr.heap.size ≤ g ∧ g < w7.heap.size) := ⟨_, rfl⟩
      have hbk7 : Bk w7 w3.heap.size gB 1048600 A1 (20 * i) U X := hbk.widen b37 (fun g hg => by rw [hA1] at hg; exact hg)
      have HF5 : Hid (∀ W, Kp A1 w7 W → Fam5 W wr.heap.size w4.heap.size gx ux X1 ∧ Fam5 W w4.heap.size w5.heap.size ga ua X1 ∧ Fam5 W w5.heap.size w6.heap.size gy uy X2 ∧ Fam5 W w6.heap.size w7.heap.size gt ut X2) := fun W hW =>
        ⟨hx7.kp hW (fun k h1 h2 => by rw [hA1]; exact Or.inr ⟨by omega, by omega⟩), ha7.kp hW (fun k h1 h2 => by rw [hA1]; exact Or.inr ⟨by omega, by omega⟩), hy7.kp hW (fun k h1 h2 => by rw [hA1]; exact Or.inr ⟨by omega, by omega⟩), ht7.kp hW (fun k h1 h2 => by rw [hA1]; exact Or.inr ⟨by omega, by omega⟩)⟩
      have HK7 : Hid (∀ W, Kp A1 w7 W → Kp A0 w3 W) := fun W hW => (hkp.trans (Kp.of_below b37)).trans ⟨hW.os, hW.tape, hW.output, hW.size, fun k hk ha => hW.block k hk (by rw [hA1]; exact Or.inl ha)⟩
      have HNA : Hid (∀ (W : World) U X n, Bk W w3.heap.size gB 1048600 A1 n U X → Bk W w3.heap.size gB 1048600 A0 n U X) := fun W U X n h => h.widen (Below.refl _ _) (fun g hg => Or.inl (by rw [hA1]; exact Or.inl hg))
      have HBK7 := hide hbk7
      have hsW : w3.heap.size ≤ w4.heap.size ∧ w3.heap.size ≤ w5.heap.size ∧ w3.heap.size ≤ w6.heap.size := ⟨by omega, by omega, by omega⟩
      have HSW := hide hsW
      clear hsW hbk7 hbk hx7 ha7 hy7 ht7 hx4 ha5 hy6 hb4 hb5 hb6 hb7 hBw4 hBw5 hBw6 hr1 hr2 b37 b47 b57 b67 hA1 s4 s5 s6 s7 hkp
      go_wp2_with fail
      refine (unhide HSA w7 (Below.refl _ _)).mono ?_
      rintro e w8 ⟨rfl, hb8⟩
      go_wp2_with fail
      refine (unhide HSB w8 hb8).mono ?_
      rintro e w9 ⟨rfl, hb9⟩
      have hb9' := below_aft hb8 hb9
      go_wp2_with fail
      refine (unhide HSC w9 hb9').mono ?_
      rintro e w10 ⟨rfl, hb10⟩
      have hb10' := below_aft hb9' hb10
      go_wp2_with fail
      refine (unhide HSD w10 hb10').mono ?_
      rintro e w11 ⟨rfl, hb11⟩
      have hb11' := below_aft hb10' hb11
      have hk11 : Kp A1 w7 w11 := Kp.of_below hb11'
      have HB11 := hide ((unhide HBK7).widen (A' := A1) hb11' (fun g hg => Or.inl hg))
      clear hb8 hb9 hb9' hb10 hb10' hb11 hb11' HSA HSB HSC HSD
      go_wp2_with fail
      go_loopw [21] (fun jv W => ∃ (j : Nat), j ≤ 5 ∧ jv = .int .i64 (j : Int) ∧ Pend W w3.heap.size gB A1 (20 * i + 2 * j) j 0 ux ua uy ut ∧ Kp A1 w7 W) (fun j _ => 5 - (intOf j).toNat)
      case atStart => exact ⟨0, by omega, rfl, ⟨_, _, HB11.out, fx.out, fa.out, fy.out, ft.out⟩, hk11⟩
      case round =>
        clear hk11
        obtain ⟨j, hj5, rfl, ⟨U, X, hbk, f1, f2, f3, f4⟩, hk⟩ := hrel
        by_cases hj : j < 5
        · obtain ⟨a, m, c, hcx, hK⟩ := keep_fam hbk (unhide HF5 _ hk).1 hsB (unhide HX1) (by decide) (by omega) hj f1
          have HK := hide hK
          clear hK
          go_wp2_with fail
          refine (unhide HK).mono ?_
          rintro e w12 ⟨⟨r12, rfl⟩, hb12, hk12⟩
          have hk12' := hk.trans hk12
          have f1' := f1.add (v := ux.getD j undef) (Nat.le_succ j) fun q h1 h2 => unhide cxx j q hj h2 (by omega)
          have f2' := f2.add (v := ux.getD j undef) (Nat.le_refl j) fun q h1 h2 => unhide cxa j q hj h2
          have f3' := f3.add (v := ux.getD j undef) (Nat.le_refl 0) fun q h1 h2 => unhide cxy j q hj h2
          have f4' := f4.add (v := ux.getD j undef) (Nat.le_refl 0) fun q h1 h2 => unhide cxt j q hj h2
          obtain ⟨a', m', c', hca, hK'⟩ := keep_fam hb12 (unhide HF5 _ hk12').2.1 HSW.out.1 (unhide HX1) (by decide) (by omega) hj f2'
          have HK' := hide hK'
          clear hK' hcx hk hk12 hbk f1 f2 f3 f4
          go_wp2_with fail
          refine (unhide HK').mono ?_
          rintro e w13 ⟨⟨r13, rfl⟩, hb13, hk13⟩
          have hk13' := hk12'.trans hk13
          have g1' := f1'.add (v := ua.getD j undef) (Nat.le_refl _) fun q h1 h2 => (unhide cxa q j h2 hj).symm
          have g2' := f2'.add (v := ua.getD j undef) (Nat.le_succ j) fun q h1 h2 => unhide caa j q hj h2 (by omega)
          have g3' := f3'.add (v := ua.getD j undef) (Nat.le_refl 0) fun q h1 h2 => unhide cay j q hj h2
          have g4' := f4'.add (v := ua.getD j undef) (Nat.le_refl 0) fun q h1 h2 => unhide cat j q hj h2
          have HP13 : Hid (Pend w13 w3.heap.size gB A1 (20 * i + 2 * (j + 1)) (j + 1) 0 ux ua uy ut) := by
            have e : 20 * i + 2 * (j + 1) = 20 * i + 2 * j + 1 + 1 := by omega
            show Pend _ _ _ _ _ _ _ _ _ _ _
            rw [e]
            exact ⟨_, _, hb13, g1', g2', g3', g4'⟩
          clear hb13 g1' g2' g3' g4' f1' f2' f3' f4' hb12 hk12' hk13 hca
          go_wp2
          go_roundw
          case rel => exact ⟨j + 1, by omega, by go_num, HP13.out, hk13'⟩
          case measure => simp [intOf]; omega
        · have hje : j = 5 := by omega
          have HP : Hid (Pend wr w3.heap.size gB A1 (20 * i + 2 * 5 + 2 * 0) 5 0 ux ua uy ut) := by
            show Pend _ _ _ _ _ _ _ _ _ _ _
            rw [hje] at hbk f1 f2 f3 f4
            exact ⟨U, X, hbk, f1, f2, f3, f4⟩
          clear hbk f1 f2 f3 f4 hje
          go_wp2
          go_loopw [22] (fun jv W => ∃ (j : Nat), j ≤ 5 ∧ jv = .int .i64 (j : Int) ∧ Pend W w3.heap.size gB A1 (20 * i + 2 * 5 + 2 * j) 5 j ux ua uy ut ∧ Kp A1 w7 W) (fun j _ => 5 - (intOf j).toNat)
          case atStart => exact ⟨0, by omega, rfl, HP.out, hk⟩
          case round =>
            clear hk hj hj5
            obtain ⟨j, hj5, rfl, ⟨U, X, hbk, f1, f2, f3, f4⟩, hk⟩ := hrel
            by_cases hj : j < 5
            · obtain ⟨a, m, c, hcx, hK⟩ := keep_fam hbk (unhide HF5 _ hk).2.2.1 HSW.out.2.1 (unhide HX2) (by decide) (by omega) hj f3
              have HK := hide hK
              clear hK
              go_wp2_with fail
              refine (unhide HK).mono ?_
              rintro e w12 ⟨⟨r12, rfl⟩, hb12, hk12⟩
              have hk12' := hk.trans hk12
              have f3' := f3.add (v := uy.getD j undef) (Nat.le_succ j) fun q h1 h2 => unhide cyy j q hj h2 (by omega)
              have f4' := f4.add (v := uy.getD j undef) (Nat.le_refl j) fun q h1 h2 => unhide cyt j q hj h2
              obtain ⟨a', m', c', hca, hK'⟩ := keep_fam hb12 (unhide HF5 _ hk12').2.2.2 HSW.out.2.2 (unhide HX2) (by decide) (by omega) hj f4'
              have HK' := hide hK'
              clear hK' hcx hk hk12 hbk f1 f2 f3 f4
              go_wp2_with fail
              refine (unhide HK').mono ?_
              rintro e w13 ⟨⟨r13, rfl⟩, hb13, hk13⟩
              have hk13' := hk12'.trans hk13
              have g3' := f3'.add (v := ut.getD j undef) (Nat.le_refl _) fun q h1 h2 => (unhide cyt q j h2 hj).symm
              have g4' := f4'.add (v := ut.getD j undef) (Nat.le_succ j) fun q h1 h2 => unhide ctt j q hj h2 (by omega)
              have HP13 : Hid (Pend w13 w3.heap.size gB A1 (20 * i + 2 * 5 + 2 * (j + 1)) 5 (j + 1) ux ua uy ut) := by
                have e : 20 * i + 2 * 5 + 2 * (j + 1) = 20 * i + 2 * 5 + 2 * j + 1 + 1 := by omega
                show Pend _ _ _ _ _ _ _ _ _ _ _
                rw [e]
                exact ⟨_, _, hb13, fun q h1 h2 => by omega, fun q h1 h2 => by omega, g3', g4'⟩
              clear hb13 g3' g4' f3' f4' hb12 hk12' hk13 hca
              go_wp2
              go_roundw
              case rel => exact ⟨j + 1, by omega, by go_num, HP13.out, hk13'⟩
              case measure => simp [intOf]; omega
            · have hje : j = 5 := by omega
              have HBE := hide (unhide HNA _ _ _ _ hbk)
              rw [hje] at HBE
              have HKE := hide (unhide HK7 _ hk)
              clear hbk f1 f2 f3 f4 hk hje
              go_wp2
              go_roundw
              case rel =>
                refine ⟨i + 1, by omega, by go_num, ⟨U, X, ?_⟩, HKE.out⟩
                have e : 20 * (i + 1) = 20 * i + 2 * 5 + 2 * 5 := by omega
                rw [e]
                exact HBE.out
              case measure => simp [intOf]; omega
    · have hie : i = 3 := by omega
      have HBK3 := hide hbk
      rw [hie] at HBK3
      clear hbk hr1 hr2 hBw hie
      go_wp2
      go_loopw [23] (fun iv W => ∃ (i : Nat), i ≤ 4 ∧ iv = .int .i64 (i : Int) ∧ (∃ U X, Bk W w3.heap.size gB 1048600 A0 (60 + 3 * i) U X) ∧ Kp A0 w3 W) (fun i _ => 4 - (intOf i).toNat)
      case atStart => exact ⟨0, by omega, rfl, ⟨U, X, HBK3.out⟩, hkp⟩
      case round =>
        clear hkp hi3 hlt
        obtain ⟨i, hi4, rfl, ⟨U, X, hbk⟩, hkp⟩ := hrel
        obtain ⟨hr1, hr2, hBw⟩ := unhide HTW wr (Or.inr hkp)
        have HBKi := hide hbk
        clear hbk hr2
        by_cases hlt : i < 4
        · clear hr1
          go_wp2_with fail
          refine (unhide HU wr).mono ?_
          rintro e w4 ⟨a4, n4, c4, rfl, hO4, hb4⟩
          have HK4 := hide (keep_new (unhide HBKi) hb4 hO4 HUL.out (by decide) (by omega))
          clear hO4 hb4
          go_wp2_with fail
          refine (unhide HK4).mono ?_
          rintro e w5 ⟨⟨r5, rfl⟩, ⟨U5, X5, hb5⟩, hk5⟩
          have hkp5 := hkp.trans hk5
          go_wp2_with fail
          refine (unhide HF w5).mono ?_
          rintro e w6 ⟨a6, n6, c6, rfl, hO6, hb6⟩
          have HK6 := hide (keep_new hb5 hb6 hO6 HFL.out (by decide) (by omega))
          clear hO6 hb6 hb5 hk5 hkp
          go_wp2_with fail
          refine (unhide HK6).mono ?_
          rintro e w7 ⟨⟨r7, rfl⟩, ⟨U7, X7, hb7⟩, hk7⟩
          have hkp7 := hkp5.trans hk7
          have hB7 := (unhide HTW w7 (Or.inr hkp7)).2.2
          clear hkp5 hk7
          go_wp2_with fail
          refine (unhide HB w7 hB7).mono ?_
          rintro e w8 ⟨a8, n8, c8, rfl, hO8, hb8⟩
          have HK8 := hide (keep_new hb7 hb8 hO8 HBL.out (by decide) (by omega))
          clear hO8 hb8 hb7
          go_wp2_with fail
          refine (unhide HK8).mono ?_
          rintro e w9 ⟨⟨r9, rfl⟩, ⟨U9, X9, hb9⟩, hk9⟩
          have hkp9 := hkp7.trans hk9
          have HB9 := hide hb9
          clear hb9 hkp7 hk9
          go_wp2
          go_roundw
          case rel =>
            refine ⟨i + 1, by omega, by go_num, ⟨U9, X9, ?_⟩, hkp9⟩
            have e : 60 + 3 * (i + 1) = 60 + 3 * i + 1 + 1 + 1 := by omega
            rw [e]
            exact HB9.out
          case measure => simp [intOf]; omega
        · have HSE := hide (settle_calls (unhide HBKi) (by decide) (by omega) (by omega))
          have hlow := (unhide HBKi).low.2.1
          have HR1 := hide hr1
          have hsz3 := hB3.size
          clear hr1 hi4
          go_wp2_with fail
          refine (unhide HSE).mono ?_
          rintro e w4 ⟨rfl, hb4⟩
          have hB4 : Below w.heap.size w w4 := hBw.trans (hb4.mono hsz3)
          have hk4 : Kp A0 w3 w4 := hkp.trans ⟨hb4.os, hb4.tape, hb4.output, hb4.size, fun k hk ha => hb4.block k (unhide HOLD k ha)⟩
          go_wp2_with fail
          refine (unhide HA1 w4 hB4).mono ?_
          rintro e w5 ⟨gx, ux, rfl, hx5, hb5⟩
          have hr5 := (unhide HTW w5 (Or.inr (hk4.trans (Kp.of_below hb5)))).1
          have hB5 := below_aft hB4 hb5
          go_wp2_with fail
          refine (sameAll_calls (by decide) (hx5.reads fun k hk => (unhide HX1 k hk).2) hr5).mono ?_
          rintro e w6 ⟨rfl, hb6⟩
          have hB6 := below_aft hB5 hb6
          go_wp2_with fail
          refine (unhide HST w6 hB6).mono ?_
          rintro e w7 ⟨rfl, hb7⟩
          have hB7 := below_aft hB6 hb7
          go_wp2
          go_ret
          exact ⟨rfl, hB7⟩
end Go.Proofs.YteabmambidafpaaDoor

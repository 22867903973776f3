/- What Encode answers. -/
import Derived.Test.YthhjlopgpmaokabDoorKC
namespace Go.Proofs.YthhjlopgpmaokabDoor
open Go.RowKit Go.Maps

/-- The bytes that Encode hands out. -/
def encR (r : JR) : List Int := if encE r = 0 then encL r else []
theorem encR_no {r : JR} (h : encE r ≠ 0) : encR r = [] := by unfold encR; rw [if_neg h]
theorem encR_yes {r : JR} (h : encE r = 0) : encR r = encL r := by unfold encR; rw [if_pos h]
theorem encE_num {r : JR} (h : r.n < 0 ∨ 1099511627776 < r.n) : encE r = 171 := by unfold encE; rw [if_pos h]
theorem encE_refs {r : JR} (h : ¬ (r.n < 0 ∨ 1099511627776 < r.n)) (hm : mayRs r.rs = false) : encE r = 172 := by unfold encE; rw [if_neg h, hm]; rfl
theorem encE_zero {r : JR} (h : ¬ (r.n < 0 ∨ 1099511627776 < r.n)) (hm : mayRs r.rs = true) : encE r = 0 := by unfold encE; rw [if_neg h, if_pos hm]
/-- A part of a block of cells that are bytes. -/
theorem isB_part {w : World} {g k c : Nat} {t : TypeId} {cs : List Value} {xs : List Int} (h : Arr w g t cs) (hp : ∀ j u, (xs.map (Value.int .u8))[j]? = some u → cs[k + j]? = some u) (hb : By8 xs) (hc : xs.length ≤ c) (hm : c ≤ 1000000) : IsB w (.slice (some ⟨g, k, none⟩) xs.length c) xs := by
  refine ⟨bytes_mem hb, some ⟨g, k, none⟩, c, rfl, hc, by omega, (fun h => by cases h), fun _ => ⟨g, k, rfl, fun j hj => ?_⟩⟩
  rw [h.cell]
  refine hp j _ ?_
  rw [List.getElem?_map, List.getElem?_eq_getElem hj, List.getD_eq_getElem?_getD, List.getElem?_eq_getElem hj]
  rfl
theorem rfsB_step {l : List JF} {k : Nat} (hk : k < l.length) : rfsB (l.take (k + 1)) = rfsB (l.take k) ++ ((l.getD k .nul).h ++ (fB (l.getD k .nul).f 4 ++ fB (l.getD k .nul).l 4)) := by
  rw [List.take_succ_eq_append_getElem hk, rfsB_snoc, List.getD_eq_getElem?_getD, List.getElem?_eq_getElem hk]
  rfl
theorem fits_no {V : Int} {n : Nat} (h0 : 0 ≤ V) (h1 : V < 2 ^ (8 * n)) : (V / 2 ^ (8 * n) != 0) = false := by
  rw [Int.ediv_eq_zero_of_lt h0 h1]; rfl
def E8 (w1 W : World) (B : Nat) (v : Value) (xs : List Int) : Prop := Own8 W B v xs ∧ B ≤ W.heap.size ∧ Below B w1 W
theorem E8.below {w1 W W2 : World} {B : Nat} {v : Value} {xs : List Int} (h : E8 w1 W B v xs) (hb : Below W.heap.size W W2) : E8 w1 W2 B v xs :=
  ⟨h.1.below hb, Nat.le_trans h.2.1 hb.size, h.2.2.trans (hb.mono h.2.1)⟩
theorem E8.app {w1 W W2 : World} {B : Nat} {v v2 : Value} {xs ys : List Int} (h : E8 w1 W B v xs) (ho : Own8 W2 B v2 ys) (hg : W.grownBy W2 v.ownBlock) : E8 w1 W2 B v2 ys :=
  ⟨ho, Nat.le_trans h.2.1 hg.size, h.2.2.grown hg h.2.1 (fun j hj => (World.ownsRow.lt h.1.1 j hj).1)⟩
theorem E8.call {w1 W W2 : World} {B : Nat} {v v2 : Value} {xs ys : List Int} (h : E8 w1 W B v xs) (ho : Own8 W2 B v2 ys) (hb : Below B W W2) : E8 w1 W2 B v2 ys :=
  ⟨ho, Nat.le_trans h.2.1 hb.size, h.2.2.trans hb⟩
theorem E8.set {w1 W W2 : World} {B g : Nat} {v : Value} {xs : List Int} (h : E8 w1 W B v xs) (hg : W.grownBy W2 (some g)) (hne : v.ownBlock ≠ some g) (hb : B ≤ g) : E8 w1 W2 B v xs :=
  ⟨h.1.kept hg (Or.inr hne), Nat.le_trans h.2.1 hg.size, jbelow_grown h.2.2 hg h.2.1 hb⟩
theorem jenc_facts {w w1 : World} {r : JR} {v : Value} (hr : r.Ok) (hv : IsJ w v r.rs) (ht : Tab w) (hA : Arr w1 w.heap.size 52 (jrV r v)) (hb : Below w.heap.size w w1) (hs : w1.heap.size = w.heap.size + 1) :
    ∀ W, Below (w.heap.size + 1) w1 W → W.cell? ⟨w.heap.size, 0, none⟩ = some (.int .i64 r.n) ∧ W.cell? ⟨w.heap.size, 33, none⟩ = some v ∧ IsB W (.slice (some ⟨w.heap.size, 1, none⟩) 32 32) r.p ∧ IsJ W v r.rs ∧ Tab W := fun W hW => by
  have hA2 : Arr W w.heap.size 52 (jrV r v) := hA.keep (hW.block _ (by omega))
  have hwb : Below w1.heap.size w1 W := by rw [hs]; exact hW
  refine ⟨hA2.cell 0, (hA2.cell 33).trans (jrV_v hr.len v), ?_, (hv.below hb).below hwb, (ht.below hb).below hwb⟩
  have := isB_part (c := 32) hA2 (jrV_p (v := v)) hr.by8 (by have := hr.len; omega) (by omega)
  rw [hr.len] at this
  exact this
set_option maxRecDepth 100000 in
set_option maxHeartbeats 4000000 in
theorem jenc_num {w : World} {r : JR} {v : Value} (hbad : r.n < 0 ∨ 1099511627776 < r.n) :
    Calls Tryd.prog 30 #[.agg (jrV r v).toArray] w fun e w' => e = .returned (.tuple #[.slice none 0 0, .int .i64 171]) ∧ Below w.heap.size w w' := by
  have hc0 : (jrV r v)[0]? = some (.int .i64 r.n) := rfl
  generalize jrV r v = cs at *
  generalize r.n = n at *
  have HC := hide hc0
  clear hc0
  by_cases hneg : n < 0
  · clear hbad
    go_enter Tryd.func30, Tryd.ntmps30
    go_wp2_with (first | (refine wpList_boxJ rfl 52 (.tmp 0) rfl rfl ?_; intro w1 hA hb hs; have c0 := (hA.cell 0).trans HC.out; have HB := hide hb; clear hA hb hs))
    go_ret2
    exact ⟨rfl, HB.out⟩
  · have hd : decide (n < 0) = false := by simp; omega
    have hg : 1099511627776 < n := by omega
    clear hbad
    go_enter Tryd.func30, Tryd.ntmps30
    go_wp2_with (first | (refine wpList_boxJ rfl 52 (.tmp 0) rfl rfl ?_; intro w1 hA hb hs; have c0 := (hA.cell 0).trans HC.out; have HB := hide hb; clear hA hb hs))
    go_ret2
    exact ⟨rfl, HB.out⟩
set_option maxRecDepth 100000 in
set_option maxHeartbeats 4000000 in
theorem jenc_refs {w : World} {r : JR} {v : Value} (hr : r.Ok) (hv : IsJ w v r.rs) (ht : Tab w) (hn : ¬ (r.n < 0 ∨ 1099511627776 < r.n)) (hm : mayRs r.rs = false) :
    Calls Tryd.prog 30 #[.agg (jrV r v).toArray] w fun e w' => e = .returned (.tuple #[.slice none 0 0, .int .i64 172]) ∧ Below w.heap.size w w' := by
  have HF : Hid (∀ w1, Arr w1 w.heap.size 52 (jrV r v) → Below w.heap.size w w1 → w1.heap.size = w.heap.size + 1 → w1.cell? ⟨w.heap.size, 0, none⟩ = some (.int .i64 r.n) ∧ w1.cell? ⟨w.heap.size, 33, none⟩ = some v ∧ IsJ w1 v r.rs) := hide (fun w1 hA hb hs => by
    obtain ⟨f1, f2, _, f4, _⟩ := jenc_facts hr hv ht hA hb hs w1 (Below.refl _ _)
    exact ⟨f1, f2, f4⟩)
  obtain ⟨va, vc, hvs⟩ := hv.shape
  have HMY : Hid (∀ W, IsJ W v r.rs → Calls Tryd.prog 40 #[v] W fun e w' => e = .returned (.bool false) ∧ Below W.heap.size W w') := hide (fun W h => by have := refsMay_calls h; rw [hm] at this; exact this)
  subst hvs
  have hd : decide (r.n < 0) = false := by simp; omega
  have hg : decide (1099511627776 < r.n) = false := by simp; omega
  generalize r.rs.length = rn at *
  generalize jrV r (.slice va rn vc) = cs at *
  generalize r.n = n at *
  generalize r.rs = rs at *
  clear hr hv ht hn hm
  go_enter Tryd.func30, Tryd.ntmps30
  go_wp2_with (first | (refine wpList_boxJ rfl 52 (.tmp 0) rfl rfl ?_; intro w1 hA hb hs; obtain ⟨c0, c33, hj⟩ := unhide HF w1 hA hb hs; have HB := hide hb; have HJ := hide hj; clear hA hb hs hj) | fail)
  refine (unhide HMY _ HJ.out).mono ?_
  rintro e w2 ⟨rfl, hb2⟩
  have HB2 := hide (below_then HB.out hb2)
  clear hb2
  go_wp2
  go_ret2
  exact ⟨rfl, HB2.out⟩
theorem addE {w1 W : World} {B n : Nat} {u : Value} {xs : List Int} {V : Int} (h : E8 w1 W B u xs) (h0 : 0 ≤ V) (h1 : 1 ≤ n) (h8 : n ≤ 8) (hv : V < 2 ^ (8 * n)) (hl : xs.length ≤ 100000) :
    Calls Tryd.prog 53 #[u, .int .u64 V, .int .i64 (n : Int)] W fun e w' => ∃ v', e = .returned v' ∧ E8 w1 w' B v' (xs ++ fB V n) ∧ W.grownBy w' u.ownBlock :=
  (addNum_calls h.1 h.2.1 h0 h1 h8 (fits_no h0 hv) hl).mono fun _ _ ⟨v', h1, h2, h3⟩ => ⟨v', h1, h.app h2 h3, h3⟩
theorem E8.shape {w1 W : World} {B : Nat} {u : Value} {xs : List Int} (h : E8 w1 W B u xs) : ∃ a c, u = .slice a xs.length c := by
  obtain ⟨a, n, c, rfl⟩ := h.1.shape
  have := h.1.isB.lenEq
  subst this
  exact ⟨a, c, rfl⟩
theorem E8.shapeN {w1 W : World} {B n : Nat} {u : Value} {xs : List Int} (h : E8 w1 W B u xs) (hl : xs.length = n) : ∃ a c, u = .slice a n c := by
  subst hl
  exact h.shape
theorem E8.ne {w1 W : World} {B : Nat} {u : Value} {xs : List Int} (h : E8 w1 W B u xs) {g : Nat} (hg : W.heap.size ≤ g) : u.ownBlock ≠ some g := fun e => by
  have := (World.ownsRow.lt h.1.1 g e).2
  omega
theorem E8.neA {w1 W : World} {B : Nat} {u : Value} {xs : List Int} (h : E8 w1 W B u xs) {g : Nat} {cs : List Value} (hA : Arr W g 73 cs) : some g ≠ u.ownBlock := fun e => by
  rcases h.1.1.2 with ⟨rfl, _⟩ | ⟨g', cap, cur, rfl, _, hgg, _⟩
  · cases e
  · simp only [Value.ownBlock, Option.some.injEq] at e
    subst e
    unfold Arr at hA
    rw [hgg] at hA
    simp only [Option.some.injEq, Obj.cells.injEq] at hA
    exact absurd hA.2.1 (by decide)
theorem arr_grown {w w' : World} {g : Nat} {t : TypeId} {cs : List Value} {row : Option Nat} (h : Arr w g t cs) (hg : w.grownBy w' row) (hne : some g ≠ row) : Arr w' g t cs := h.keep (hg.block g h.lt hne)
set_option maxRecDepth 100000 in
set_option maxHeartbeats 8000000 in
theorem jenc_good {w : World} {r : JR} {v : Value} (hr : r.Ok) (hv : IsJ w v r.rs) (ht : Tab w) (he : encE r = 0) :
    Calls Tryd.prog 30 #[.agg (jrV r v).toArray] w fun e w' => ∃ u, e = .returned (.tuple #[u, .int .i64 0]) ∧ Own8 w' w.heap.size u (encL r) ∧ Below w.heap.size w w' := by
  obtain ⟨hn0, hn1, hm1, hm8, hrr⟩ := encE_ok he
  have hm : mayRs r.rs = true := by
    unfold encE at he
    rw [if_neg (by omega)] at he
    by_cases h : mayRs r.rs = true
    · exact h
    · rw [if_neg h] at he; cases he
  obtain ⟨i0, hi, hz0, hz1, hz2⟩ := info_parts info8
  obtain ⟨va, vc, hvs⟩ := hv.shape
  obtain ⟨_, va', vc', hvs', hlc, hcm, _, hcell⟩ := id hv
  rw [hvs] at hvs'
  injection hvs' with f1 _ f3
  subst f1 f3
  obtain ⟨b, o, hva, hrng⟩ := hcell (by omega)
  have HF : Hid (∀ w1, Arr w1 w.heap.size 52 (jrV r v) → Below w.heap.size w w1 → w1.heap.size = w.heap.size + 1 → ∀ W, Below (w.heap.size + 1) w1 W → W.cell? ⟨w.heap.size, 0, none⟩ = some (.int .i64 r.n) ∧ W.cell? ⟨w.heap.size, 33, none⟩ = some v ∧ IsB W (.slice (some ⟨w.heap.size, 1, none⟩) 32 32) r.p ∧ IsJ W v r.rs ∧ Tab W) := hide (fun w1 hA hb hs => jenc_facts hr hv ht hA hb hs)
  have HRG : Hid (∀ w1, Below w.heap.size w w1 → ∀ W, Below (w.heap.size + 1) w1 W → ∀ j, j < r.rs.length → W.rangeAt b (o + j * 34) (jfV (r.rs.getD j .nul))) := hide (fun w1 hb W hW j hj k u hu => by
    have h1 := hrng j hj k u hu
    have hlt := World.block_lt_of_cell? w _ h1
    have h2 : w1.cell? ⟨b, o + j * 34 + k, none⟩ = some u := (hb.cell (p := ⟨b, o + j * 34 + k, none⟩) hlt).trans h1
    exact (hW.cell (p := ⟨b, o + j * 34 + k, none⟩) (Nat.lt_succ_of_lt hlt)).trans h2)
  have HMY : Hid (∀ W, IsJ W v r.rs → Calls Tryd.prog 40 #[v] W fun e w' => e = .returned (.bool true) ∧ Below W.heap.size W w') := hide (fun W h => by have := refsMay_calls h; rw [hm] at this; exact this)
  have HFIN : Hid (∀ w1 W u xs, Below w.heap.size w w1 → w1.heap.size = w.heap.size + 1 → E8 w1 W (w.heap.size + 1) u xs → Own8 W w.heap.size u xs ∧ Below w.heap.size w W) := hide (fun w1 W u xs hb hs h => ⟨h.1.mono (by omega), hb.trans (h.2.2.mono (by omega))⟩)
  subst hva
  subst hvs
  have HOK := hide hr.refs
  have HRR := hide hrr
  have hwn : IntKind.u64.wrap r.n = r.n := by rw [IntKind.wrap_u64]; omega
  have hlen45 := hd45_len hr.len
  have hlen44 : (hd44 r).length = 44 := by simp [hd44, hd12, fB_len, hr.len]
  have hlen12 : (hd12 r).length = 12 := by simp [hd12, fB_len]
  have HENC : Hid (encL r = hd45 r ++ rfsB r.rs ++ List.replicate (508 - (hd45 r ++ rfsB r.rs).length) 0 ++ fB (sumOf [hd45 r ++ rfsB r.rs ++ List.replicate (508 - (hd45 r ++ rfsB r.rs).length) 0]) 4) := hide rfl
  have HD12 : Hid (hd12 r = [119, 111, 114, 107] ++ fB r.n 8) := hide rfl
  have HD44 : Hid (hd44 r = hd12 r ++ r.p) := hide rfl
  have HD45 : Hid (hd45 r = hd44 r ++ [(r.rs.length : Int)]) := hide rfl
  have hpl := hr.len
  have HLB := hide (rfsB_len (l := r.rs) (fun x hx => (hr.refs x hx).len))
  have HBY : Hid (By8 (hd45 r ++ rfsB r.rs ++ List.replicate (508 - (hd45 r ++ rfsB r.rs).length) 0)) := hide (encB_by hr hm8)
  have HLE : Hid ((hd45 r ++ rfsB r.rs ++ List.replicate (508 - (hd45 r ++ rfsB r.rs).length) 0).length = 508) := hide (encB_len hr hm8)
  have HST : Hid (∀ k, k < r.rs.length → rfsB (r.rs.take (k + 1)) = rfsB (r.rs.take k) ++ ((r.rs.getD k .nul).h ++ (fB (r.rs.getD k .nul).f 4 ++ fB (r.rs.getD k .nul).l 4))) := hide (fun k hk => rfsB_step hk)
  have HTL : Hid (∀ k, k ≤ r.rs.length → (rfsB (r.rs.take k)).length ≤ 320) := hide (fun k hk => by rw [rfsB_len (fun x hx => (hr.refs x (List.mem_of_mem_take hx)).len), List.length_take]; omega)
  have HALL : Hid (rfsB (r.rs.take r.rs.length) = rfsB r.rs) := hide (by rw [List.take_length])
  generalize encL r = EL at *
  generalize hd45 r = h45 at *
  generalize hd44 r = h44 at *
  generalize hd12 r = h12 at *
  generalize jrV r (.slice (some ⟨b, o, none⟩) r.rs.length vc) = cs at *
  generalize r.n = n at *
  generalize r.p = p at *
  generalize r.rs = rs at *
  obtain ⟨m, hm'⟩ : ∃ m, m = rs.length := ⟨_, rfl⟩
  rw [← hm'] at hm1 hm8 HF HRG HMY HD45 HST HTL HALL hlc
  have HM := hide hm'
  have hw8 : IntKind.u8.wrap (m : Int) = m := by rw [IntKind.wrap_u8]; omega
  have hd0 : decide (n < 0) = false := by simp; omega
  have hd1 : decide (1099511627776 < n) = false := by simp; omega
  obtain ⟨B, hB⟩ : ∃ B, B = w.heap.size + 1 := ⟨_, rfl⟩
  rw [← hB] at HF HRG HFIN
  have HBB := hide hB
  clear hr hv ht he hm hrng hrr hm' hcell hB
  go_enter Tryd.func30, Tryd.ntmps30
  go_wp2_with (first | (refine wpList_boxJ rfl 52 (.tmp 0) rfl rfl ?_; intro w1 hA hb hs; rw [← HBB.out] at hs; have HK := hide (unhide HF w1 hA hb hs); have HRW := hide (unhide HRG w1 hb); obtain ⟨c0, c33, _, hj, _⟩ := unhide HK w1 (Below.refl _ _); have HB1 := hide hb; have HS1 := hide hs; have HJ := hide hj; clear hA hb hs hj) | fail)
  refine (unhide HMY _ HJ.out).mono ?_
  rintro e w2 ⟨rfl, hb2⟩
  rw [HS1.out] at hb2
  have hs2 : B ≤ w2.heap.size := by have := hb2.size; rw [HS1.out] at this; exact this
  have HB2 := hide hb2
  clear hb2 HMY HJ c0 c33
  obtain ⟨c0, c33, _, _, _⟩ := unhide HK w2 HB2.out
  go_wp2_with (first
    | (at_make; refine wpList_make_own _ rfl _ _ 48 rfl B 5 i0 (.int .u8 0) 1 Tryd.underlying48 hi hz0 hz1 .i64 .i64 _ 512 rfl rfl rfl (by rw [hz2]; decide) (by unfold maxLen; decide) hs2 ?_; intro w3 ho3 hg3
       have HE3 : Hid (E8 w1 w3 B (.slice (some ⟨w2.heap.size, 0, none⟩) 0 512) []) := hide ⟨⟨ho3, by simp⟩, Nat.le_trans hs2 hg3.size, HB2.out.grown hg3 hs2 (fun j hj => by cases hj)⟩
       clear ho3 hg3)
    | (at_builtin; refine wpList_appT rfl (.tmp 19) _ rfl (ys := [119, 111, 114, 107]) rfl HE3.out.1 rfl rfl (by decide) (by decide) HE3.out.2.1 ?_; intro v4 w4 ho4 hg4
       have hE4 := HE3.out.app ho4 hg4
       obtain ⟨d0, _, _, _, _⟩ := unhide HK w4 hE4.2.2
       obtain ⟨a4, n4, c4, rfl⟩ := ho4.shape
       have HE4 := hide hE4
       clear ho4 hg4 hE4 HE3)
    | fail)
  refine (addE (n := 8) HE4.out hn0 (by decide) (by decide) (by show n < 18446744073709551616; omega) (by simp)).mono ?_
  rintro e w5 ⟨v5, rfl, hE5, _⟩
  rw [show [] ++ [119, 111, 114, 107] ++ fB n 8 = h12 from HD12.out.symm] at hE5
  obtain ⟨_, e33, hp5, _, _⟩ := unhide HK w5 hE5.2.2
  have HI5 := hide hp5
  obtain ⟨a5, c5, rfl⟩ := hE5.shapeN hlen12
  have HE5 := hide hE5
  have hl5 : h12.length + p.length ≤ 140737488355328 := by omega
  clear hp5 hE5 HE4 d0 c0 c33
  have HL44 := hide hlen44
  have HL45 := hide hlen45
  go_wp2_with (first
    | (at_builtin; refine wpList_appB rfl (.tmp 26) (.tmp 28) rfl rfl HE5.out.1 rfl HI5.out hl5 HE5.out.2.1 ?_; intro v6 w6 ho6 hg6
       have hE6 := HE5.out.app ho6 hg6
       rw [← HD44.out] at hE6
       obtain ⟨_, f33, _, _, _⟩ := unhide HK w6 hE6.2.2
       obtain ⟨a6, c6, rfl⟩ := hE6.shapeN HL44.out
       have hba := jalloc_below w6 (.cells #[.int .u8 (m : Int)] 5)
       have HE6 := hide (hE6.below hba)
       have HI6 := hide (isB_lit w6 [(m : Int)] (by intro x hx; simp at hx; omega) (by simp))
       have hl6 : h44.length + [(m : Int)].length ≤ 140737488355328 := by rw [HL44.out]; simp
       clear ho6 hg6 hE6 hba)
    | (at_builtin; refine wpList_appB rfl (.tmp 30) (.tmp 35) rfl rfl HE6.out.1 rfl HI6.out hl6 HE6.out.2.1 ?_; intro v7 w7 ho7 hg7
       have hE7 := HE6.out.app ho7 hg7
       rw [← HD45.out] at hE7
       obtain ⟨_, g33, _, _, _⟩ := unhide HK w7 hE7.2.2
       obtain ⟨a7, c7, rfl⟩ := hE7.shapeN HL45.out
       have HE7 : Hid (E8 w1 w7 B (.slice a7 45 c7) (h45 ++ rfsB (rs.take 0))) := hide (by rw [List.take_zero]; show E8 _ _ _ _ (h45 ++ []); rw [List.append_nil]; exact hE7)
       clear ho7 hg7 hE7)
    | fail)
  clear HE5 HI5 hl5 HE6 HI6 hl6 e33 f33
  go_loopw [4, 40] (fun bv i W => ∃ (k mm c : Nat) (a : Option Addr), k ≤ m ∧ i = .int .i64 k ∧ bv = .slice a mm c ∧ Hid (E8 w1 W B bv (h45 ++ rfsB (rs.take k)))) (fun _ i _ => m - (intOf i).toNat)
  case atStart => exact ⟨0, _, _, _, Nat.zero_le _, rfl, rfl, HE7⟩
  case round =>
    clear HE7
    obtain ⟨k, mm, c, a, hk, rfl, rfl, HE⟩ := hrel
    by_cases hlt : k < m
    · have hr := unhide HRW wr HE.out.2.2 k hlt
      have hkl : k < rs.length := by rw [← HM.out]; exact hlt
      have hrok : (rs.getD k .nul).Ok := jf_get (P := JF.Ok) HOK.out hkl
      have hrge := jf_get (P := fun x => 0 ≤ x.f ∧ x.f < 65536 ∧ 0 ≤ x.l ∧ x.l ≤ 262144) HRR.out hkl
      have HSTK := hide (unhide HST k hlt)
      have HTLK := hide (unhide HTL k (by omega))
      generalize rs.getD k .nul = rk at *
      have hinf := infoJof hrok
      have hlen : z34J.length = (jfV rk).length := by rw [jfV_len hrok]; decide
      have hone := jfV_one rk
      have HP : Hid (∀ W g, Arr W g 73 (jfV rk) → W.cell? ⟨g, 32, none⟩ = some (.int .i64 rk.f) ∧ W.cell? ⟨g, 33, none⟩ = some (.int .i64 rk.l) ∧ IsB W (.slice (some ⟨g, 0, none⟩) 32 32) rk.h) := hide (fun W g hA => by
        obtain ⟨c32, c33⟩ := jfV_f hrok.len
        refine ⟨(hA.cell 32).trans c32, (hA.cell 33).trans c33, ?_⟩
        have := isB_part (k := 0) (c := 32) hA jfV_h hrok.by8 (by have := hrok.len; omega) (by omega)
        rw [hrok.len] at this
        exact this)
      have hhl := hrok.len
      obtain ⟨g0, g1, g2, g3⟩ := hrge
      have hwf : IntKind.u64.wrap rk.f = rk.f := by rw [IntKind.wrap_u64]; omega
      have hwl : IntKind.u64.wrap rk.l = rk.l := by rw [IntKind.wrap_u64]; omega
      have hlx : (h45 ++ rfsB (rs.take k)).length + rk.h.length ≤ 140737488355328 := by rw [List.length_append, HL45.out, hhl]; have := HTLK.out; omega
      have HLX : Hid ((h45 ++ rfsB (rs.take k) ++ rk.h).length ≤ 400 ∧ (h45 ++ rfsB (rs.take k) ++ rk.h ++ fB rk.f 4).length ≤ 500) := hide (by have q1 := HTLK.out; have q2 := HL45.out; constructor <;> simp only [List.length_append, fB_len] <;> omega)
      have HNX : Hid (h45 ++ rfsB (rs.take k) ++ rk.h ++ fB rk.f 4 ++ fB rk.l 4 = h45 ++ rfsB (rs.take (k + 1))) := hide (by rw [HSTK.out]; simp [List.append_assoc])
      generalize h45 ++ rfsB (rs.take k) = xs at *
      generalize rk.f = ff at *
      generalize rk.l = fl at *
      generalize rk.h = fh at *
      generalize jfV rk = rc at *
      clear hrok HSTK HTLK hkl
      go_wp2_with (first
        | (refine wpList_loadJ rfl 73 (.tmp 42) rfl b (o + k * 34) rfl rc _ hr Tryd.underlying73 rfl hinf ?_)
        | (refine wpList_allocJ rfl 73 rfl infoJ ?_)
        | (refine wpList_storeJ rfl (.tmp 6) (.tmp 43) 73 rfl rfl rfl (Arr.new wr z34J 73) hinf hlen hone ?_; intro w2' hA2 hg2
           have hE2 := (HE.out.below (jalloc_below wr _)).set hg2 (HE.out.ne (Nat.le_refl _)) HE.out.2.1
           obtain ⟨_, _, p3⟩ := unhide HP _ _ hA2
           have HI2 := hide p3
           have HE2 := hide hE2
           have HA2 := hide hA2
           clear hA2 hg2 hE2 p3)
        | (at_builtin; refine wpList_appB rfl (.tmp 44) (.tmp 46) rfl rfl HE2.out.1 rfl HI2.out hlx HE2.out.2.1 ?_; intro v3 w3 ho3 hg3
           have hE3 := HE2.out.app ho3 hg3
           have hA3 := arr_grown HA2.out hg3 (HE2.out.neA HA2.out)
           obtain ⟨q1, _, _⟩ := unhide HP _ _ hA3
           obtain ⟨a3, n3, c3, rfl⟩ := ho3.shape
           have HE3 := hide hE3
           have HA3 := hide hA3
           clear ho3 hg3 hE3 hA3 HE2 HA2 HI2)
        | fail)
      refine (addE (n := 4) HE3.out g0 (by decide) (by decide) (by show ff < 4294967296; omega) (by have := HLX.out.1; omega)).mono ?_
      rintro e w4 ⟨v4, rfl, hE4, hg4⟩
      have hA4 := arr_grown HA3.out hg4 (HE3.out.neA HA3.out)
      obtain ⟨_, q2, _⟩ := unhide HP _ _ hA4
      obtain ⟨a4, n4, c4, rfl⟩ := hE4.1.shape
      have HE4 := hide hE4
      clear hE4 hg4 hA4 HE3 HA3 q1
      go_wp2_with fail
      refine (addE (n := 4) HE4.out g2 (by decide) (by decide) (by show fl < 4294967296; omega) (by have := HLX.out.2; omega)).mono ?_
      rintro e w5 ⟨v5, rfl, hE5, hg5⟩
      rw [HNX.out] at hE5
      obtain ⟨a5, n5, c5, rfl⟩ := hE5.1.shape
      have HE5 := hide hE5
      clear hE5 hg5 HE4 q2
      go_wp2
      go_roundw
      case rel => exact ⟨k + 1, _, _, _, by omega, by go_num, rfl, HE5⟩
      case measure => simp [intOf]; omega
    · have HKM : Hid (k = m) := hide (by omega)
      have hE9 : E8 w1 wr B (.slice a mm c) (h45 ++ rfsB rs) := by have := HE.out; rw [HKM.out, HALL.out] at this; exact this
      have hmm := hE9.1.isB.lenEq
      have HMM : Hid (mm = 45 + 40 * m) := hide (by have q1 := HL45.out; have q2 := HLB.out; have q3 := HM.out; rw [List.length_append] at hmm; omega)
      obtain ⟨z, hz⟩ : ∃ z : Nat, (508 : Int) - (mm : Int) = (z : Int) := ⟨508 - mm, by have := HMM.out; omega⟩
      have hzz : IntKind.i64.wrap ((508 : Int) - (mm : Int)) = (z : Int) := by rw [hz]; exact IntWalk.i64_in _ (by omega)
      have hz0' : 0 < z := by have := HMM.out; omega
      have HZ : Hid (508 - (h45 ++ rfsB rs).length = z) := hide (by rw [← hmm]; omega)
      have hlz : (h45 ++ rfsB rs).length + z ≤ 1000000 := by rw [← hmm]; omega
      have HE9 := hide hE9
      rw [HZ.out] at HENC HBY HLE
      clear hmm hE9 HE
      go_wp2_with (first
        | (at_builtin; refine wpList_app0 rfl (.tmp 59) (.tmp 62) rfl (k := z) rfl HE9.out.1 rfl hz0' hlz HE9.out.2.1 ?_; intro v3 w3 ho3 hg3
           have hE3 := HE9.out.app ho3 hg3
           obtain ⟨a3, c3, rfl⟩ := hE3.shapeN HLE.out
           have hbl := jalloc_below w3 (.cells #[.slice a3 508 c3] 48)
           obtain ⟨_, _, _, _, ht3⟩ := unhide HK w3 hE3.2.2
           have HBBs := hide (isBB_one hE3.1.isB)
           have HT3 := hide (ht3.below hbl)
           have HE3 := hide (hE3.below hbl)
           clear ho3 hg3 hE3 hbl ht3 HE9)
        | fail)
      refine (sum_calls HBBs.out HT3.out).mono ?_
      rintro e w4 ⟨rfl, hw4⟩
      obtain rfl := hw4.symm
      have hsm : 0 ≤ sumOf [h45 ++ rfsB rs ++ List.replicate z 0] ∧ sumOf [h45 ++ rfsB rs ++ List.replicate z 0] < 4294967296 := by
        have h1 : crcAll 4294967295 [h45 ++ rfsB rs ++ List.replicate z 0] < 2 ^ 32 := crcAll_lt (by decide) (fun xs hxs => by rw [List.mem_singleton.1 hxs]; exact HBY.out)
        have h2 := Nat.xor_lt_two_pow (n := 32) (x := 4294967295) (by decide) h1
        unfold sumOf
        generalize 4294967295 ^^^ crcAll 4294967295 [h45 ++ rfsB rs ++ List.replicate z 0] = q at h2 ⊢
        omega
      have hws : IntKind.u64.wrap (sumOf [h45 ++ rfsB rs ++ List.replicate z 0]) = sumOf [h45 ++ rfsB rs ++ List.replicate z 0] := by rw [IntKind.wrap_u64]; omega
      generalize sumOf [h45 ++ rfsB rs ++ List.replicate z 0] = sm at *
      generalize h45 ++ rfsB rs ++ List.replicate z 0 = xs at *
      obtain ⟨hs0, hs1⟩ := hsm
      clear HBBs HT3
      go_wp2_with fail
      refine (addE (n := 4) HE3.out hs0 (by decide) (by decide) (by show sm < 4294967296; exact hs1) (by have := HLE.out; omega)).mono ?_
      rintro e w5 ⟨v5, rfl, hE5, hg5⟩
      rw [← HENC.out] at hE5
      have HE5 := hide (unhide HFIN _ _ _ _ HB1.out HS1.out hE5)
      obtain ⟨a5, n5, c5, rfl⟩ := hE5.1.shape
      clear hE5 hg5 HE3
      go_wp2
      go_ret2
      exact ⟨_, rfl, HE5.out⟩
/-- What Encode answers. -/
theorem jenc_calls {w : World} {r : JR} {v : Value} (hr : r.Ok) (hv : IsJ w v r.rs) (ht : Tab w) :
    Calls Tryd.prog 30 #[.agg (jrV r v).toArray] w fun e w' => ∃ u, e = .returned (.tuple #[u, .int .i64 (encE r)]) ∧ Own8 w' w.heap.size u (encR r) ∧ Below w.heap.size w w' := by
  by_cases hn : r.n < 0 ∨ 1099511627776 < r.n
  · have e1 := encE_num hn
    rw [encR_no (by rw [e1]; decide), e1]
    exact (jenc_num hn).mono fun _ _ ⟨h1, h2⟩ => ⟨_, h1, Own8.nil _ _, h2⟩
  · cases hm : mayRs r.rs with
    | false =>
      have e1 := encE_refs hn hm
      rw [encR_no (by rw [e1]; decide), e1]
      exact (jenc_refs hr hv ht hn hm).mono fun _ _ ⟨h1, h2⟩ => ⟨_, h1, Own8.nil _ _, h2⟩
    | true =>
      have e1 := encE_zero hn hm
      rw [encR_yes e1, e1]
      exact jenc_good hr hv ht e1
end Go.Proofs.YthhjlopgpmaokabDoor

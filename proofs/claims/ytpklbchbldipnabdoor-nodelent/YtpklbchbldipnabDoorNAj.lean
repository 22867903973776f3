/- What Cut, Laid, Same and Intact answer. Told. -/
import Derived.Test.YtpklbchbldipnabDoorNA
import Derived.Deep.QuietTactic
import Derived.BigQuiet
import Derived.WalkSmall
import Derived.Test.YtpklbchbldipnabDoorNAi
namespace Go.Proofs.YtpklbchbldipnabDoor
open Go.RowKit

theorem lit_below (w : World) (o : Obj) : Below w.heap.size w (w.alloc o) := (Below.refl _ _).alloc (Nat.le_refl _) _
set_option maxHeartbeats 400000 in
theorem cut_calls {w : World} {a : Option Addr} {n cap : Nat} {xs : List Int} (h : IsB w (.slice a n cap) xs) (k : Nat) (hk : k ≤ 1000000000) :
    Calls Tryd.prog 15 #[.slice a n cap, .int .i64 (k : Int)] w fun e w' => (∃ m, e = .returned (.slice a m cap) ∧ m ≤ n ∧ IsB w (.slice a m cap) (xs.take k)) ∧ w' = w := by
  have hn := h.lenEq
  have hr := h.room
  by_cases hlt : k < n
  · have hi := h.cut (k := k) (by omega)
    have hkI : (k : Int) < (n : Int) := by omega
    have hkc : (k : Int) ≤ (cap : Int) := by omega
    have hk0 : (0 : Int) ≤ (k : Int) := by omega
    obtain ⟨ad, had⟩ : ∃ ad, a = some ad := by
      obtain ⟨_, a', cp', hv, _, _, _, hc⟩ := h
      obtain ⟨b, off, ha, _⟩ := hc (by omega)
      injection hv with e1
      exact ⟨_, e1.trans ha⟩
    subst had
    have HI := hide hi
    clear hn h hi
    go_enter Tryd.func15, Tryd.ntmps15
    go_wp2
    go_ret
    exact ⟨⟨k, rfl, by omega, unhide HI⟩, rfl⟩
  · have hi : IsB w (.slice a n cap) (xs.take k) := by rw [List.take_of_length_le (by omega)]; exact h
    have hkI : ¬ (k : Int) < (n : Int) := by omega
    have HI := hide hi
    clear hn h hi
    go_enter Tryd.func15, Tryd.ntmps15
    go_wp2
    go_ret
    exact ⟨⟨n, rfl, by omega, unhide HI⟩, rfl⟩

def marks : List Int := [201, 202, 203] ++ List.replicate 70 206
theorem marks_len : marks.length = 73 := by decide
/-- A copy with marks behind it, in memory of its own. -/
structure IsLaid (w : World) (B g n cap : Nat) (xs : List Int) : Prop where
  mem : ∀ x ∈ xs, 0 ≤ x ∧ x ≤ 255
  len : n = xs.length
  own : w.ownsRow B 5 1 (.slice (some ⟨g, 0, none⟩) (n + 73) cap) (n + 73) ((xs ++ marks).map (Value.int .u8))
theorem IsLaid.below {w w' : World} {B g n cap : Nat} {xs : List Int} (h : IsLaid w B g n cap xs) (hb : Below w.heap.size w w') : IsLaid w' B g n cap xs := ⟨h.mem, h.len, owns_below h.own hb⟩
theorem IsLaid.kept {w w' : World} {B g n cap : Nat} {xs : List Int} {row : Option Nat} (h : IsLaid w B g n cap xs) (hg : w.grownBy w' row) (hne : some g ≠ row) : IsLaid w' B g n cap xs := ⟨h.mem, h.len, h.own.kept hg (Or.inr hne)⟩
theorem IsLaid.lt {w : World} {B g n cap : Nat} {xs : List Int} (h : IsLaid w B g n cap xs) : B ≤ g ∧ g < w.heap.size := h.own.lt g rfl
theorem IsLaid.room {w : World} {B g n cap : Nat} {xs : List Int} (h : IsLaid w B g n cap xs) : n + 73 ≤ cap ∧ cap ≤ 9223372036854775807 := by
  obtain ⟨g', cap', hv, h1, h2, _⟩ := owns_shape h.own (by omega)
  injection hv with e1 e2 e3
  subst e3
  exact ⟨h1, h2⟩
theorem IsLaid.cell {w : World} {B g n cap : Nat} {xs : List Int} (h : IsLaid w B g n cap xs) (j : Nat) (hj : j < n + 73) : w.cell? ⟨g, j, none⟩ = some (.int .u8 ((xs ++ marks).getD j 0)) := by
  have hl : j < (xs ++ marks).length := by rw [List.length_append, marks_len, ← h.len]; exact hj
  rw [h.own.cellAt j (by omega), List.getElem?_map, List.getElem?_eq_getElem hl, List.getD_eq_getElem?_getD, List.getElem?_eq_getElem hl]
  rfl
theorem IsLaid.isB {w : World} {B g n cap : Nat} {xs : List Int} (h : IsLaid w B g n cap xs) : IsB w (.slice (some ⟨g, 0, none⟩) n cap) xs := by
  have hr := h.room
  have hl := h.len
  refine ⟨bytes_mem h.mem, some ⟨g, 0, none⟩, cap, by rw [hl], by omega, hr.2, (fun e => by cases e), fun _ => ⟨g, 0, rfl, fun j hj => ?_⟩⟩
  rw [Nat.zero_add, h.cell j (by omega), List.getD_eq_getElem?_getD, List.getD_eq_getElem?_getD, List.getElem?_append_left (by omega)]
theorem IsLaid.mark {w : World} {B g n cap : Nat} {xs : List Int} (h : IsLaid w B g n cap xs) (j : Nat) (hj : j < 73) : w.cell? ⟨g, n + j, none⟩ = some (.int .u8 (marks.getD j 0)) := by
  rw [h.cell (n + j) (by omega), List.getD_eq_getElem?_getD, List.getElem?_append_right (by rw [h.len]; omega), h.len, Nat.add_sub_cancel_left, ← List.getD_eq_getElem?_getD]

theorem laid_last {w : World} {B n : Nat} {v : Value} {xs : List Int} (hm : ∀ x ∈ xs, 0 ≤ x ∧ x ≤ 255) (hn : n = xs.length) (h : Own8 w B v (xs ++ [201, 202, 203] ++ List.replicate 70 206)) :
    ∃ g c, v = .slice (some ⟨g, 0, none⟩) (n + 73) c ∧ n + 73 ≤ c ∧ c ≤ 9223372036854775807 ∧ IsLaid w B g n c xs := by
  have h1 := h.1
  have e : xs ++ [201, 202, 203] ++ List.replicate 70 206 = xs ++ marks := by rw [marks, List.append_assoc]
  have e2 : (xs ++ marks).length = n + 73 := by rw [List.length_append, marks_len, ← hn]
  rw [e, e2] at h1
  obtain ⟨g, c, rfl, hc1, hc2, hg, _⟩ := owns_shape h1 (by omega)
  exact ⟨g, c, rfl, hc1, hc2, hm, hn, h1⟩
set_option maxRecDepth 100000 in
set_option maxHeartbeats 1000000 in
/-- Laid: the bytes, in new memory, with marks behind them. -/
theorem laid_calls {w : World} {a : Option Addr} {n cap : Nat} {xs : List Int} (h : IsB w (.slice a n cap) xs) (hl : xs.length ≤ 140737488350000) :
    Calls Tryd.prog 14 #[.slice a n cap] w fun e w' => ∃ g c, e = .returned (.slice (some ⟨g, 0, none⟩) n c) ∧ IsLaid w' w.heap.size g n c xs ∧ Below w.heap.size w w' := by
  have hn := h.lenEq
  have HX := hide h
  have HL := hide hl
  have HN := hide hn
  have h3 := isB_lit
  have HLIT : Hid (∀ W : World, IsB (W.alloc (.cells #[.int .u8 201, .int .u8 202, .int .u8 203] 5)) (.slice (some ⟨W.heap.size, 0, none⟩) 3 3) [201, 202, 203]) := fun W => isB_lit W [201, 202, 203] (by decide) (by decide)
  have HLIT1 : Hid (∀ W : World, IsB (W.alloc (.cells #[.int .u8 206] 5)) (.slice (some ⟨W.heap.size, 0, none⟩) 1 1) [206]) := fun W => isB_lit W [206] (by decide) (by decide)
  have hn3 : n ≤ 140737488350000 := by omega
  clear h hl hn h3
  go_enter Tryd.func14, Tryd.ntmps14
  go_wp2_with (first
    | (at_builtin; refine wpList_appB rfl (.tmp 5) (.tmp 6) rfl (v := .slice none 0 0) rfl (Own8.nil w w.heap.size) rfl (unhide HX) (by have := HL.out; simp; omega) (Nat.le_refl _) ?_; intro v1 w1 hown1 hgrow1; have hB1 := (Below.refl w.heap.size w).grown hgrow1 (Nat.le_refl _) (fun k hk => (by simp [Value.ownBlock] at hk)); have hsz1 := hB1.size; rw [List.nil_append] at hown1; clear hgrow1)
    | (at_builtin; refine wpList_appB rfl (.tmp 8) (.tmp 9) rfl rfl (hown1.below (lit_below _ _)) rfl (unhide HLIT w1) (by have := HL.out; simp; omega) (by simp; omega) ?_; intro v2 w2 hown2 hgrow2; have hB2 := (hB1.alloc hsz1 (.cells #[.int .u8 201, .int .u8 202, .int .u8 203] 5)).grown hgrow2 (by simp; omega) (fun k hk => (hown1.1.lt k hk).1); clear hgrow2 hown1))
  clear hB1 hsz1
  go_loopw [3, 4] (fun v i wr => ∃ k : Nat, k ≤ 70 ∧ i = .int .i64 (k : Int) ∧ Own8 wr w.heap.size v (xs ++ [201, 202, 203] ++ List.replicate k 206) ∧ Below w.heap.size w wr) (fun _ i _ => 70 - (intOf i).toNat)
  case atStart => exact ⟨0, by omega, rfl, by rw [List.replicate_zero, List.append_nil]; exact hown2, hB2⟩
  case round =>
    clear hown2 hB2
    obtain ⟨k, hk, rfl, hown, hnx⟩ := hrel
    have hsz := hnx.size
    by_cases hlt : k < 70
    · go_wp2_with (at_builtin; refine wpList_appB rfl (.tmp 15) (.tmp 16) rfl rfl (hown.below (lit_below _ _)) rfl (unhide HLIT1 wr) (by have := HL.out; simp; omega) (by simp; omega) ?_; intro v3 w3 hown3 hgrow3; have hB3 := (hnx.alloc hsz (.cells #[.int .u8 206] 5)).grown hgrow3 (by simp; omega) (fun k hk => (hown.1.lt k hk).1); clear hgrow3)
      go_roundw
      case rel => exact ⟨k + 1, by omega, by go_num, by rw [List.replicate_succ', ← List.append_assoc]; exact hown3, hB3⟩
      case measure => simp [intOf]; omega
    · have hk70 : k = 70 := by omega
      rw [hk70] at hown
      obtain ⟨g, c, rfl, hc1, hc2, hL⟩ := laid_last (unhide HX).mem HN.out hown
      have HO := hide hL
      have hnc : (n : Int) ≤ (c : Int) := by omega
      have hn0 : (0 : Int) ≤ (n : Int) := by omega
      clear hk70 hown hL
      go_wp2
      go_ret
      exact ⟨g, c, rfl, unhide HO, hnx⟩

set_option maxHeartbeats 1000000 in
/-- Same, of like bytes. -/
theorem same_calls {w : World} {va vb : Value} {xs : List Int} (ha : IsB w va xs) (hb : IsB w vb xs) :
    Calls Tryd.prog 9 #[va, vb] w fun e w' => e = .returned (.bool true) ∧ ∃ k, w' = w.drewN k := by
  obtain ⟨_, aa, ca, rfl, hla, hma, _, hca⟩ := ha
  obtain ⟨_, ab, cb, rfl, hlb, hmb, _, hcb⟩ := hb
  by_cases h0 : 0 < xs.length
  · obtain ⟨ga, oa, rfl, hcella⟩ := hca h0
    obtain ⟨gb, ob, rfl, hcellb⟩ := hcb h0
    obtain ⟨n, hn⟩ : ∃ n, n = xs.length := ⟨_, rfl⟩
    rw [← hn] at hcella hcellb hla hlb ⊢
    have HA := hide hcella
    have HB := hide hcellb
    clear hca hcb hcella hcellb hn h0
    go_enter Tryd.func9, Tryd.ntmps9
    go_wp2
    go_loopw [5] (fun i wr => ∃ k m : Nat, k ≤ n ∧ i = .int .i64 (k : Int) ∧ wr = w.drewN m) (fun i _ => n - (intOf i).toNat)
    case atStart => exact ⟨0, 0, by omega, rfl, rfl⟩
    case round =>
      obtain ⟨k, m, hk, rfl, rfl⟩ := hrel
      by_cases hlt : k < n
      · have h1 := unhide HA k hlt
        have h2 := unhide HB k hlt
        have hkI : (k : Int) < (n : Int) := by omega
        have hk0 : (0 : Int) ≤ (k : Int) := by omega
        go_wp2
        go_quiet (fail)
        go_wp2
        go_roundw
        case rel => exact ⟨k + 1, _, by omega, by go_num, rfl⟩
        case measure => simp [intOf]; omega
      · go_wp2
        go_ret
        exact ⟨rfl, m, rfl⟩
  · obtain rfl : xs = [] := List.eq_nil_of_length_eq_zero (by omega)
    clear hca hcb h0 hla hlb
    go_enter Tryd.func9, Tryd.ntmps9
    go_wp2
    refine wp_loop_rounds 1 ?_
    rw [rounds_succ]
    go_wp2
    go_ret
    exact ⟨rfl, 0, rfl⟩

theorem below_same {w w' : World} (h : ∃ k, w' = w.drewN k) : Below w.heap.size w w' := by
  obtain ⟨k, rfl⟩ := h
  first
    | exact below_drewN (Below.refl _ _) k
    | exact below_drewN (Below.refl _ _)
set_option maxHeartbeats 1000000 in
/-- Intact, of what is. -/
theorem intact_calls {w : World} {B g n cap : Nat} {vb : Value} {xs : List Int} (h : IsLaid w B g n cap xs) (hb : IsB w vb xs) (hl : n ≤ 140737488350000) :
    Calls Tryd.prog 22 #[.slice (some ⟨g, 0, none⟩) n cap, vb] w fun e w' => e = .returned (.bool true) ∧ ∃ k, w' = w.drewN k := by
  have HS := hide (same_calls h.isB hb)
  have h0 := h.mark 0 (by decide)
  have h1 := h.mark 1 (by decide)
  have h2 := h.mark 2 (by decide)
  have h3 := h.mark 3 (by decide)
  have hr := h.room
  have hn4 : (n : Int) + 4 ≤ (cap : Int) := by omega
  simp only [marks, List.replicate, List.cons_append, List.nil_append, List.getD_eq_getElem?_getD, List.getElem?_cons_succ, List.getElem?_cons_zero, Option.getD_some, Nat.add_zero] at h0 h1 h2 h3
  clear h hb
  go_enter Tryd.func22, Tryd.ntmps22
  go_wp2_with (go_at_call 9; refine (unhide HS).mono ?_; rintro e w1 ⟨rfl, k, rfl⟩)
  go_ret
  exact ⟨rfl, k, rfl⟩
end Go.Proofs.YtpklbchbldipnabDoor

namespace Go.Proofs.YtpklbchbldipnabDoor
open Go.RowKit Go.Maps Classical

theorem nb_d : nbL [100] = true := (nameB_L _).2 (by rw [toL_mkS, nmL_iff]; decide)
theorem nb_f : nbL [102] = true := (nameB_L _).2 (by rw [toL_mkS, nmL_iff]; decide)
theorem two_chk : chkL nbL twoL = 0 := by
  have h1 : chk1 nbL none e2d = 0 := by
    unfold chk1
    rw [show e2d.nm = [100] from rfl, nb_d]
    decide
  have h2 : chk1 nbL (some e2d.nm) e2f = 0 := by
    unfold chk1
    rw [show e2f.nm = [102] from rfl, nb_f]
    decide
  unfold chkL
  rw [if_neg (by decide)]
  show chkF nbL none [e2d, e2f] = 0
  rw [chkF, if_neg (by rw [h1]; decide), chkF, if_neg (by rw [h2]; decide)]
  rfl
theorem two_chkR : chkL nbL [e2f, e2d] = 83 := by
  have h1 : chk1 nbL none e2f = 0 := by
    unfold chk1
    rw [show e2f.nm = [102] from rfl, nb_f]
    decide
  have h2 : chk1 nbL (some e2f.nm) e2d = 83 := by
    unfold chk1
    rw [show e2d.nm = [100] from rfl, nb_d]
    decide
  unfold chkL
  rw [if_neg (by decide), chkF, if_neg (by rw [h1]; decide), chkF, if_pos (by rw [h2]; decide), h2]
theorem two_encR : encR twoL = encL twoL := by unfold encR; rw [if_pos two_chk]
theorem two_dec : decL nbL (encR twoL) = (twoL, 0) := by
  rw [two_encR]
  exact dec_enc nbL_le (fun e he => (twoL_ok e he).ok) two_chk
theorem check_enter (v : Value) (W : World) : (callFunc 16 #[v]).run Tryd.prog W = .ok (.enter 16 #[v]) W := by kernel_rfl
section
variable {ops : Array Oper} {o : Oper} {a : Act} {Q : Exit → Act → World → Prop} {w : World} {K : Act → World → Prop} {E : Prop}
theorem step_bls2 (hw : Region.wanted o (yielded ops a.tmps) = true) (t : TypeId) (n : Nat) (x y : Operand) (ho : o.op = .buildSlice t n #[(0, x), (1, y)]) {v v2 u : Value} {w' : World} (hx : a.eval x = v) (hy : a.eval y = v2) (hrun : (Instr.buildSlice t n #[(0, v), (1, v2)]).run Tryd.prog w = .ok u w')
    (hk : K (a.put o.dst u) w') : if Region.wanted o (yielded ops a.tmps) = true then Oper.wp Tryd.prog o a w K Q else E := by
  rw [if_pos hw]
  unfold Oper.wp execOp
  simp only [ho, List.map_toArray, List.map_cons, List.map_nil, hx, hy, Sem.run_bind, hrun, Result.andThen_ok, Sem.run_pure]
  exact hk
end
theorem IsEn.range1 {w : World} {g : Nat} (h : IsEn w (.slice (some ⟨g, 0, none⟩) 2 2) twoL) : w.rangeAt g 0 (enV e2d) ∧ w.rangeAt g 68 (enV e2f) := by
  obtain ⟨b, o, ha, hr⟩ := h.spot (by decide)
  injection ha with ha
  injection ha with h1 h2
  subst h1 h2
  have r0 := hr 0 (by decide)
  have r1 := hr 1 (by decide)
  exact ⟨r0, r1⟩
set_option maxRecDepth 100000 in
set_option maxHeartbeats 4000000 in
theorem ntold_calls {w : World} (hT : Tabs w) : Calls Tryd.prog 6 #[] w fun e w' => e = .returned (.bool true) ∧ Below w.heap.size w w' := by
  have HT := hide hT
  have HC1 := hide two_chk
  have HC2 := hide two_chkR
  have HDC := hide two_dec
  have HR2 : Hid (∀ e ∈ [e2f, e2d], EnOk e) := fun e he => twoL_ok e (by simp only [List.mem_cons, List.not_mem_nil, or_false] at he; unfold twoL; rcases he with rfl | rfl <;> simp)
  have hkl := keyR_len twoL
  have hke := key_eql (keyR twoL) (keyR twoL) hkl hkl
  rw [decide_eq_true rfl] at hke
  have hkg := key_guard
  have HIK := hide (infoKof hkl)
  have HZK : Hid (z32.length = ((keyR twoL).map (Value.int .u8)).length) := by show _ = _; rw [z32_len, List.length_map, hkl]
  clear hT hkl
  go_enter Tryd.func6, Tryd.ntmps6
  go_wp2_with fail
  refine (two_calls w).mono ?_
  rintro e w1 ⟨g, rfl, hg, hE1, hb1⟩
  have HE : Hid (∀ W, Below w1.heap.size w1 W → IsEn W (.slice (some ⟨g, 0, none⟩) 2 2) twoL) := fun W hW => hE1.below hW
  have HTT : Hid (∀ W, Below w1.heap.size w1 W → Tabs W) := fun W hW => HT.out.below (hb1.trans (hW.mono hb1.size))
  have HRE := hide (rencode_calls hE1)
  rw [HC1.out] at HRE
  have HB1 := hide hb1
  clear hE1 hb1 hg
  go_wp2_with fail
  refine (unhide HRE).mono ?_
  rintro e w2 ⟨u2, rfl, ho2, hb2⟩
  have HEN := hide (encode_calls (unhide HE w2 hb2))
  rw [HC1.out] at HEN
  go_wp2_with fail
  refine (unhide HEN).mono ?_
  rintro e w3 ⟨u3, rfl, ho3, hb3⟩
  have hb13 := hb2.trans (hb3.mono hb2.size)
  have ho2' := ho2.below hb3
  have HDE := hide (decode_calls ho2'.isB)
  rw [HDC.out] at HDE
  go_wp2_with fail
  refine (unhide HDE).mono ?_
  rintro e w4 ⟨u4, rfl, ho4, hb4⟩
  have hb14 := hb13.trans (hb4.mono hb13.size)
  have HKE := hide (keyOf_calls (unhide HE w4 hb14) (unhide HTT w4 hb14))
  rw [HC1.out] at HKE
  have HI2 : Hid (∀ W, Below w4.heap.size w4 W → IsB W u2 (encR twoL)) := fun W hW => (ho2'.below hb4).isB.below hW
  have HI3 : Hid (∀ W, Below w4.heap.size w4 W → IsB W u3 (encR twoL)) := fun W hW => (ho3.below hb4).isB.below hW
  have HI4 : Hid (∀ W, Below w4.heap.size w4 W → IsEn W u4 twoL) := fun W hW => ho4.isEn.below hW
  have HB14 := hide hb14
  obtain ⟨a4, c4, hu4⟩ := ho4.shape
  subst hu4
  obtain ⟨a2, n2, c2, hu2⟩ := ho2.shape
  subst hu2
  obtain ⟨a3, n3, c3, hu3⟩ := ho3.shape
  subst hu3
  clear HRE HEN HDE ho2 hb2 ho3 hb3 hb13 ho2' ho4 hb4 hb14
  go_wp2_with (first
    | (go_at_call 11; refine (unhide HKE).mono ?_; rintro e w5 ⟨rfl, hb5⟩)
    | (refine wpList_allocZ rfl 32 rfl infoK ?_)
    | (refine wpList_storeArr2 (cs' := (keyR twoL).map (Value.int .u8)) rfl (.tmp 8) (.tmp 32) 32 rfl rfl rfl (Arr.new w5 z32 32) HIK.out HZK.out (u8_one _) ?_; intro w6 hA6 hw6))
  have hb6 : Below w4.heap.size w4 w6 := hb5.trans ((hw6.below _ _ (lit_blw _ _) (Nat.le_refl _)).mono hb5.size)
  have hb16 := HB14.out.trans (hb6.mono HB14.out.size)
  have HKR := hide (rkeyOf_calls (unhide HE w6 hb16))
  rw [HC1.out] at HKR
  obtain ⟨g8, hg8⟩ : ∃ g8, w5.heap.size = g8 := ⟨_, rfl⟩
  rw [hg8] at hA6
  rw [hg8]
  clear HKE hw6 hb5 hg8
  go_wp2_with (first
    | (go_at_call 19; refine (unhide HKR).mono ?_; rintro e w7 ⟨rfl, hb7⟩)
    | (refine wpList_allocZ rfl 32 rfl infoK ?_)
    | (refine wpList_storeArr2 (cs' := (keyR twoL).map (Value.int .u8)) rfl (.tmp 10) (.tmp 37) 32 rfl rfl rfl (Arr.new w7 z32 32) HIK.out HZK.out (u8_one _) ?_; intro w8 hA8 hw8; have hb68 : Below w6.heap.size w6 w8 := hb7.trans ((hw8.below _ _ (lit_blw _ _) (Nat.le_refl _)).mono hb7.size); have hb8 := hb6.trans (hb68.mono hb6.size); have HA68 := hide (hA6.below hb68); have HA8 := hide hA8; have HSB := hide (same_calls (unhide HI3 w8 hb8) (unhide HI2 w8 hb8)); clear hw8 hA6 hb7 hA8)
    | (go_at_call 9; refine (unhide HSB).mono ?_; rintro e w9 ⟨rfl, hw9⟩; have hb9 := below_same hw9; have hb49 := hb8.trans (hb9.mono hb8.size); have hb19 := HB14.out.trans (hb49.mono HB14.out.size); have hse := esame_calls (unhide HI4 w9 hb49) (unhide HE w9 hb19); rw [decide_eq_true rfl] at hse; have HSE := hide hse; clear hse)
    | (go_at_call 10; refine (unhide HSE).mono ?_; rintro e w10 ⟨rfl, hb10⟩; have hb810 := hb9.trans (hb10.mono hb9.size); have hb410 := hb49.trans (hb10.mono hb49.size); have hb110 := HB14.out.trans (hb410.mono HB14.out.size); have HCH := hide (check_calls (unhide HE w10 hb110)); rw [HC1.out] at HCH)
    | (refine wpList_load_on rfl 32 (.tmp 8) rfl g8 0 rfl ((keyR twoL).map (Value.int .u8)) _ (HA68.out.below hb810).range Tryd.underlying32 rfl HIK.out ?_)
    | (refine wpList_load_on rfl 32 (.tmp 10) rfl w7.heap.size 0 rfl ((keyR twoL).map (Value.int .u8)) _ (HA8.out.below hb810).range Tryd.underlying32 rfl HIK.out ?_)
    | (go_at_call 16; refine (unhide HCH).mono ?_; rintro e w11 ⟨rfl, hb11⟩))
  have hb111 := hb110.trans (hb11.mono hb110.size)
  have hbw11 := HB1.out.trans (hb111.mono HB1.out.size)
  have HS8 : Hid (∀ W, Below w11.heap.size w11 W → W.rangeAt g 0 (enV e2d) ∧ W.rangeAt g 68 (enV e2f)) := fun W hW => (unhide HE W (hb111.trans (hW.mono hb111.size))).range1
  refine wp_region_held_drew (S := fun W => W.rangeAt g 0 (enV e2d) ∧ W.rangeAt g 68 (enV e2f)) (by kernel_rfl) (unhide HS8 _ (Below.refl _ _).drew) (fun hHeld => ?_)
  refine wpAnyH_take (i := 0) (v := .bool true) rfl (by kernel_rfl) (by kernel_rfl) (by kernel_rfl) (fun _ _ _ h => h) (Or.inl ⟨by rfl, fun w hSw => by obtain ⟨hS1, hS2⟩ := hSw; go_simp⟩) (by assumption) ?_
  simp only [List.getElem_toArray, List.getElem_cons_zero, Act.put, List.setIfInBounds_toArray, List.set_cons_zero, List.set_cons_succ]
  refine wpAnyH_take (i := 1) (v := .bool true) rfl (by kernel_rfl) (by kernel_rfl) (by kernel_rfl) (fun _ _ _ h => h) (Or.inl ⟨by rfl, fun w hSw => by obtain ⟨hS1, hS2⟩ := hSw; go_simp⟩) (by assumption) ?_
  simp only [List.getElem_toArray, List.getElem_cons_succ, List.getElem_cons_zero, Act.put, List.setIfInBounds_toArray, List.set_cons_zero, List.set_cons_succ]
  refine wpAnyH_take (i := 2) (v := .slice (some ⟨g, 0, none⟩) 2 2) rfl (by kernel_rfl) (by kernel_rfl) (by kernel_rfl) (fun _ _ _ h => h) (Or.inl ⟨by rfl, fun w hSw => by obtain ⟨hS1, hS2⟩ := hSw; go_simp⟩) (by assumption) ?_
  simp only [List.getElem_toArray, List.getElem_cons_succ, List.getElem_cons_zero, Act.put, List.setIfInBounds_toArray, List.set_cons_zero, List.set_cons_succ]
  refine wpAnyH_take (i := 3) (v := .pointer (some ⟨g, 68, none⟩)) rfl (by kernel_rfl) (by kernel_rfl) (by kernel_rfl) (fun _ _ _ h => h) (Or.inl ⟨by rfl, fun w hSw => by obtain ⟨hS1, hS2⟩ := hSw; go_simp⟩) (by assumption) ?_
  simp only [List.getElem_toArray, List.getElem_cons_succ, List.getElem_cons_zero, Act.put, List.setIfInBounds_toArray, List.set_cons_zero, List.set_cons_succ]
  refine wpAnyH_take (i := 4) (v := .agg (enV e2f).toArray) rfl (by kernel_rfl) (by kernel_rfl) (by kernel_rfl) (fun _ _ _ h => h) (yieldsIf_load_mid (by rfl) _ _ rfl _ _ rfl _ _ (fun w hSw => hSw.2) Tryd.underlying38 rfl (infoEof e2f_ok.ok)) (by assumption) ?_
  simp only [List.getElem_toArray, List.getElem_cons_succ, List.getElem_cons_zero, Act.put, List.setIfInBounds_toArray, List.set_cons_zero, List.set_cons_succ]
  refine wpAnyH_take (i := 5) (v := .slice (some ⟨g, 0, none⟩) 2 2) rfl (by kernel_rfl) (by kernel_rfl) (by kernel_rfl) (fun _ _ _ h => h) (Or.inl ⟨by rfl, fun w hSw => by obtain ⟨hS1, hS2⟩ := hSw; go_simp⟩) (by assumption) ?_
  simp only [List.getElem_toArray, List.getElem_cons_succ, List.getElem_cons_zero, Act.put, List.setIfInBounds_toArray, List.set_cons_zero, List.set_cons_succ]
  refine wpAnyH_take (i := 6) (v := .pointer (some ⟨g, 0, none⟩)) rfl (by kernel_rfl) (by kernel_rfl) (by kernel_rfl) (fun _ _ _ h => h) (Or.inl ⟨by rfl, fun w hSw => by obtain ⟨hS1, hS2⟩ := hSw; go_simp⟩) (by assumption) ?_
  simp only [List.getElem_toArray, List.getElem_cons_succ, List.getElem_cons_zero, Act.put, List.setIfInBounds_toArray, List.set_cons_zero, List.set_cons_succ]
  refine wpAnyH_take (i := 7) (v := .agg (enV e2d).toArray) rfl (by kernel_rfl) (by kernel_rfl) (by kernel_rfl) (fun _ _ _ h => h) (yieldsIf_load_mid (by rfl) _ _ rfl _ _ rfl _ _ (fun w hSw => hSw.1) Tryd.underlying38 rfl (infoEof e2d_ok.ok)) (by assumption) ?_
  simp only [List.getElem_toArray, List.getElem_cons_succ, List.getElem_cons_zero, Act.put, List.setIfInBounds_toArray, List.set_cons_zero, List.set_cons_succ]
  refine wpAnyH_ready (rs := [8]) (by kernel_rfl) (by simp) (AllReadyH.cons rfl (fun K hK => ?_) AllReadyH.nil)
  refine step_bls2 (by rfl) 22 2 (.tmp 73) (.tmp 76) rfl (v := .agg (enV e2f).toArray) (v2 := .agg (enV e2d).toArray) (u := .slice (some ⟨_, 0, none⟩) 2 2) rfl rfl (bTwoR _) ?_
  refine hK.out _ _ (unhide HS8 _ (below_then (Below.refl _ _).drew (lit_blw _ _))) (fun hH2 => ?_)
  clear hK K
  simp only [List.getElem_toArray, List.getElem_cons_succ, List.getElem_cons_zero, Act.put, List.setIfInBounds_toArray, List.set_cons_zero, List.set_cons_succ]
  refine wpAnyH_ready (rs := [9]) (by kernel_rfl) (by simp) (AllReadyH.cons rfl (fun K hK => ?_) AllReadyH.nil)
  refine step_call1GC (by rfl) 16 check_enter (.tmp 77) _ rfl rfl (check_calls (isEn_lit _ [e2f, e2d] HR2.out (by decide))) ?_
  rintro e w20 ⟨rfl, hb20⟩
  rw [HC2.out]
  refine ⟨_, rfl, ?_⟩
  refine hK.out _ _ (unhide HS8 _ (below_then (below_then (Below.refl _ _).drew (lit_blw _ _)) hb20)) (fun hH3 => ?_)
  clear hK K
  simp only [List.getElem_toArray, List.getElem_cons_succ, List.getElem_cons_zero, Act.put, List.setIfInBounds_toArray, List.set_cons_zero, List.set_cons_succ]
  refine wpAnyH_take (i := 10) (v := .bool true) rfl (by kernel_rfl) (by kernel_rfl) (by kernel_rfl) (fun _ _ _ h => h) (Or.inl ⟨by rfl, fun w hSw => by obtain ⟨hS1, hS2⟩ := hSw; go_simp⟩) (by assumption) ?_
  simp only [List.getElem_toArray, List.getElem_cons_succ, List.getElem_cons_zero, Act.put, List.setIfInBounds_toArray, List.set_cons_zero, List.set_cons_succ]
  refine wpAnyH_take (i := 11) (v := .bool true) rfl (by kernel_rfl) (by kernel_rfl) (by kernel_rfl) (fun _ _ _ h => h) (Or.inl ⟨by rfl, fun w hSw => by obtain ⟨hS1, hS2⟩ := hSw; go_simp⟩) (by assumption) ?_
  simp only [List.getElem_toArray, List.getElem_cons_succ, List.getElem_cons_zero, Act.put, List.setIfInBounds_toArray, List.set_cons_zero, List.set_cons_succ]
  refine wpAnyH_take (i := 12) (v := .bool true) rfl (by kernel_rfl) (by kernel_rfl) (by kernel_rfl) (fun _ _ _ h => h) (Or.inl ⟨by rfl, fun w hSw => by obtain ⟨hS1, hS2⟩ := hSw; go_simp⟩) (by assumption) ?_
  simp only [List.getElem_toArray, List.getElem_cons_succ, List.getElem_cons_zero, Act.put, List.setIfInBounds_toArray, List.set_cons_zero]
  refine wpAnyH_done (by kernel_rfl) ?_ _
  go_wp2
  go_ret
  exact ⟨rfl, hbw11.trans ((below_then (below_then (Below.refl _ _).drew (lit_blw _ _)) hb20).mono hbw11.size)⟩
end Go.Proofs.YtpklbchbldipnabDoor

/- chain: the bytes of a piece's sector. -/
import Derived.Test.YtlofoklfggmbiaaDoorQE
import Derived.Deep.RegionHeld3
namespace Go.Proofs.YtlofoklfggmbiaaDoor
open Go.RowKit Go.Maps

section
variable {ops : Array Oper} {rest : List Oper} {o : Oper} {a : Act} {Q : Exit → Act → World → Prop} {w : World} {K : Act → World → Prop} {E : Prop}
theorem step_call1C (hgd : o.guard = none) (f : Nat) (hf : ∀ (v : Value) (W : World), (callFunc f #[v]).run Tryd.prog W = .ok (.enter f #[v]) W) (x : Operand) (ts : Array TypeId) (ho : o.op = .call { callee := .value (.func f), args := #[x], argTypes := ts }) {v : Value} (hx : a.eval x = v)
 {Post : Ending → World → Prop} (hc : Calls Tryd.prog f #[v] w Post) (hk : ∀ e w2, Post e w2 → ∃ r, e = .returned r ∧ K (a.put o.dst r) w2) :
 if Region.wanted o (yielded ops a.tmps) = true then Oper.wp Tryd.prog o a w K Q else E := by
 rw [if_pos (by simp [Region.wanted, hgd])]
 have hrun : (execOp a.eval o).run Tryd.prog w = .ok (.enter f #[v]) w := by
  have h1 := hf v w
  unfold execOp
  have hfv : a.eval (.func f) = .func (.func f) #[] #[] := rfl
  simp [ho, hx, hfv, resolve, invoke, Deferred.ofValue, h1]
 unfold Oper.wp
 rw [hrun]
 refine hc.mono ?_
 intro e w2 hp
 obtain ⟨r, rfl, hK⟩ := hk e w2 hp
 exact hK
theorem step_call3C (hgd : o.guard = none) (f : Nat) (hf : ∀ (v u z : Value) (W : World), (callFunc f #[v, u, z]).run Tryd.prog W = .ok (.enter f #[v, u, z]) W) (x y t : Operand) (ts : Array TypeId) (ho : o.op = .call { callee := .value (.func f), args := #[x, y, t], argTypes := ts }) {v u z : Value} (hx : a.eval x = v) (hy : a.eval y = u) (ht : a.eval t = z)
 {Post : Ending → World → Prop} (hc : Calls Tryd.prog f #[v, u, z] w Post) (hk : ∀ e w2, Post e w2 → ∃ r, e = .returned r ∧ K (a.put o.dst r) w2) :
 if Region.wanted o (yielded ops a.tmps) = true then Oper.wp Tryd.prog o a w K Q else E := by
 rw [if_pos (by simp [Region.wanted, hgd])]
 have hrun : (execOp a.eval o).run Tryd.prog w = .ok (.enter f #[v, u, z]) w := by
  have h1 := hf v u z w
  unfold execOp
  have hfv : a.eval (.func f) = .func (.func f) #[] #[] := rfl
  simp [ho, hx, hy, ht, hfv, resolve, invoke, Deferred.ofValue, h1]
 unfold Oper.wp
 rw [hrun]
 refine hc.mono ?_
 intro e w2 hp
 obtain ⟨r, rfl, hK⟩ := hk e w2 hp
 exact hK
theorem buildSlC_run (W : World) (ua : Option Addr) (un uc : Nat) : (Instr.buildSlice 52 1 #[(0, .slice ua un uc)]).run Tryd.prog W = .ok (.slice (some ⟨W.heap.size, 0, none⟩) 1 1) (W.alloc (.cells #[.slice ua un uc] 26)) := by kernel_rfl
theorem step_buildSlC (hgd : o.guard = none) (x : Operand) (ho : o.op = .buildSlice 52 1 #[(0, x)]) {ua : Option Addr} {un uc : Nat} (hx : a.eval x = .slice ua un uc)
 (hk : K (a.put o.dst (.slice (some ⟨w.heap.size, 0, none⟩) 1 1)) (w.alloc (.cells #[.slice ua un uc] 26))) : if Region.wanted o (yielded ops a.tmps) = true then Oper.wp Tryd.prog o a w K Q else E := by
 rw [if_pos (by simp [Region.wanted, hgd])]
 unfold Oper.wp execOp
 simp only [ho, List.map_toArray, List.map_cons, List.map_nil, hx, Sem.run_bind, buildSlC_run w, Result.andThen_ok, Sem.run_pure]
 exact hk
end
theorem arr_cell {w : World} {g j : Nat} {t : TypeId} {cs : List Value} {v : Value} (h : Arr w g t cs) (hj : cs[j]? = some v) : w.cell? ⟨g, j, none⟩ = some v := (h.cell j).trans hj
theorem isB_pre {w : World} {g n cap : Nat} {t : TypeId} {xs : List Int} (h : Arr w g t (xs.map (Value.int .u8))) (hb : ∀ x ∈ xs, 0 ≤ x ∧ x ≤ 255) (hn : n ≤ xs.length) (hc : n ≤ cap) (hm : cap ≤ 9223372036854775807) : IsB w (.slice (some ⟨g, 0, none⟩) n cap) (xs.take n) := by
 have hl : (xs.take n).length = n := by rw [List.length_take]; omega
 refine ⟨bytes_mem (fun x hx => hb x (List.mem_of_mem_take hx)), some ⟨g, 0, none⟩, cap, by rw [hl], by rw [hl]; exact hc, hm, (fun h => by cases h), fun _ => ⟨g, 0, rfl, fun j hj => ?_⟩⟩
 rw [hl] at hj
 have h1 := h.cell (0 + j)
 rw [h1, Nat.zero_add, List.getElem?_map, List.getElem?_eq_getElem (by omega), List.getD_eq_getElem?_getD, List.getElem?_take, if_pos hj, List.getElem?_eq_getElem (by omega)]
 rfl
theorem zeros_bytes (n : Nat) : ∀ x ∈ List.replicate n (0 : Int), 0 ≤ x ∧ x ≤ 255 := fun x hx => by rw [List.eq_of_mem_replicate hx]; decide
theorem hdL_bytes {hs ps : List Int} (hh : ∀ x ∈ hs, 0 ≤ x ∧ x ≤ 255) (hp : ∀ x ∈ ps, 0 ≤ x ∧ x ≤ 255) (place next : Int) : ∀ x ∈ hdL hs place next ps, 0 ≤ x ∧ x ≤ 255 := fun x hx => by
 unfold hdL hd28 hd12 hd8 at hx
 simp only [List.mem_append] at hx
 rcases hx with ((((((hx | hx) | hx) | hx) | hx) | hx) | hx) | hx
 · exact fB_bytes _ _ x hx
 · exact fB_bytes _ _ x hx
 · exact zeros_bytes _ x hx
 · exact fB_bytes _ _ x hx
 · exact hh x (List.mem_of_mem_take hx)
 · exact zeros_bytes _ x hx
 · exact hp x hx
 · exact zeros_bytes _ x hx
theorem sumOf_lt {xss : List (List Int)} (hx : ∀ xs ∈ xss, ∀ x ∈ xs, 0 ≤ x ∧ x ≤ 255) : 0 ≤ sumOf xss ∧ sumOf xss < 4294967296 := by
 have h := Nat.xor_lt_two_pow (show 4294967295 < 2 ^ 32 by decide) (crcAll_lt (r := 4294967295) (by decide) hx)
 unfold sumOf
 omega
theorem arrFull {w : World} {base g n : Nat} {t : TypeId} {xs : List Value} (h : w.ownsRow base t 1 (.slice (some ⟨g, 0, none⟩) n n) n xs) : Arr w g t xs := by
 rcases h.2 with ⟨hv, _⟩ | ⟨g', cap, cur, hv, hb, hg, _, _, hs, ht⟩
 · cases hv
 · injection hv with e1 e2 e3
   injection e1 with e1
   injection e1 with e1
   subst e1 e3
   unfold Arr
   rw [hg]
   have hl : cur.toList = xs := by
    rw [← ht, List.take_of_length_le]
    simp only [Array.length_toList]
    omega
   rw [← hl]
theorem lay_enter (v u z : Value) (W : World) : (callFunc 89 #[v, u, z]).run Tryd.prog W = .ok (.enter 89 #[v, u, z]) W := by kernel_rfl
theorem sumw_enter (v : Value) (W : World) : (callFunc 90 #[v]).run Tryd.prog W = .ok (.enter 90 #[v]) W := by kernel_rfl
set_option maxRecDepth 100000 in
set_option maxHeartbeats 2000000 in
theorem csector_calls {w : World} {pa : Option Addr} {pn pc : Nat} {ps hs : List Int} {place next : Int} (hp : IsB w (.slice pa pn pc) ps) (hpl : ps.length ≤ 480) (hh : hs.length = 32) (hhb : ∀ x ∈ hs, 0 ≤ x ∧ x ≤ 255) (hn0 : 0 ≤ next) (hn1 : next < 4294967296) (hp0 : 0 ≤ place) (hp1 : place < 4294967296) (ht : Tab w) :
 Calls Tryd.prog 66 #[.slice pa pn pc, .agg (hs.map (Value.int .u8)).toArray, .int .i64 place, .int .i64 next] w fun e w' => ∃ g, e = .returned (.slice (some ⟨g, 0, none⟩) 512 512) ∧ Arr w' g 5 ((secL hs place next ps).map (Value.int .u8)) ∧ w.heap.size ≤ g ∧ Below w.heap.size w w' := by
 have hb0 := (Below.refl w.heap.size w).alloc (Nat.le_refl _) (.cells (hs.map (Value.int .u8)).toArray 32)
 have hA0 := Arr.new w (hs.map (Value.int .u8)) 32
 obtain ⟨i0, hi, hz0, hz1, hz2⟩ := info_parts info8
 go_enter Tryd.func66, Tryd.ntmps66
 go_wp2_with (at_make; refine wpList_make_full _ rfl _ _ 26 rfl (w.alloc (.cells (hs.map (Value.int .u8)).toArray 32)).heap.size 5 i0 (.int .u8 0) 1 Tryd.underlying26 hi hz0 hz1 .i64 .i64 _ _ 512 rfl rfl rfl rfl (by rw [hz2]; omega) (by unfold maxLen; omega) (Nat.le_refl _) ?_; intro w1 hown hg1)
 have e1 : (w.alloc (.cells (hs.map (Value.int .u8)).toArray 32)).heap.size = w.heap.size + 1 := by simp
 rw [made8, e1] at hown
 have hA1 := arrFull hown
 have hb1 : Below w.heap.size w w1 := hb0.trans ((Below.refl _ _).grown hg1 (by rw [e1]; omega) (fun k hk => by cases hk))
 have hK1 : Arr w1 w.heap.size 32 (hs.map (Value.int .u8)) := hA0.keep (hg1.block _ hA0.lt (fun e => by cases e))
 have hA1 : Arr w1 (w.heap.size + 1) 5 (lz0.map (Value.int .u8)) := by unfold lz0; rw [List.map_replicate]; exact hA1
 have hpn : pn = ps.length := hp.lenEq
 subst hpn
 clear hown hg1 hA0 hb0 e1 hi hz0 hz1 hz2
 obtain ⟨g0, hg0⟩ : ∃ g0, g0 = w.heap.size := ⟨_, rfl⟩
 obtain ⟨g, hg⟩ : ∃ g, g = w.heap.size + 1 := ⟨_, rfl⟩
 have HW : Hid (∀ a b : World, Below w.heap.size w a → Below g a b → Below w.heap.size w b) := hide (fun a b h1 h2 => h1.trans (h2.mono (by omega)))
 have HWK : Hid (∀ (a b : World) (cs : List Value), Arr a g0 32 cs → Below g a b → Arr b g0 32 cs) := hide (fun a b cs h1 h2 => h1.keep (h2.block g0 (by omega)))
 rw [← hg] at hA1 ⊢
 rw [← hg0] at hK1 ⊢
 have HG := hide hg
 have HG0 := hide hg0
 clear hg hg0
 have n0 : next / 2 ^ (8 * 4) = 0 := Int.ediv_eq_zero_of_lt hn0 (by omega)
 have n1 : ((ps.length : Nat) : Int) / 2 ^ (8 * 2) = 0 := Int.ediv_eq_zero_of_lt (by omega) (by omega)
 have n2 : place / 2 ^ (8 * 4) = 0 := Int.ediv_eq_zero_of_lt hp0 (by omega)
 have l0 : (lz0.map (Value.int .u8)).length = 512 := by rw [List.length_map]; unfold lz0; rw [List.length_replicate]
 refine (lay_calls (sz := 4) hA1 hn0 (by decide) (by decide) n0 (by decide) (by rw [l0]; decide)).mono ?_
 rintro e w2 ⟨rfl, hA2, hb2⟩
 rw [splice_map] at hA2
 have l1 : ((splice lz0 0 (fB next 4)).map (Value.int .u8)).length = 512 := by rw [List.length_map, length_splice _ _ _ (by rw [fB_len]; decide)]; rfl
 have HB2 := hide (unhide HW _ _ hb1 hb2)
 have HK2 := hide (unhide HWK _ _ _ hK1 hb2)
 have HL2 := hide (lay_calls (sz := 2) (off := 4) (dl := 508) (cap := 508) hA2 (show (0 : Int) ≤ (ps.length : Int) by omega) (by decide) (by decide) n1 (by decide) (by rw [l1]; decide))
 clear hA1 hb1 hK1 hA2 hb2 l0
 have hpb : (ps.length : Int) < 18446744073709551616 := by omega
 go_wp2_with fail
 refine (unhide HL2).mono ?_
 rintro e w3 ⟨rfl, hA3, hb3⟩
 rw [splice_map] at hA3
 have l2 : ((splice (splice lz0 0 (fB next 4)) 4 (fB (ps.length : Int) 2)).map (Value.int .u8)).length = 512 := by rw [List.length_map, length_splice _ _ _ (by rw [fB_len, ← List.length_map (f := Value.int .u8), l1]; decide), ← List.length_map (f := Value.int .u8), l1]
 have HB3 := hide (unhide HW _ _ HB2.out hb3)
 have HK3 := hide (unhide HWK _ _ _ HK2.out hb3)
 have HL3 := hide (lay_calls (sz := 4) (off := 8) (dl := 504) (cap := 504) hA3 hp0 (by decide) (by decide) n2 (by decide) (by rw [l2]; decide))
 clear hA3 hb3 HB2 HK2 HL2 l1
 go_wp2_with fail
 refine (unhide HL3).mono ?_
 rintro e w4 ⟨rfl, hA4, hb4⟩
 rw [splice_map] at hA4
 have l3 : (((splice (splice (splice lz0 0 (fB next 4)) 4 (fB (ps.length : Int) 2)) 8 (fB place 4))).map (Value.int .u8)).length = 512 := by rw [List.length_map, length_splice _ _ _ (by rw [fB_len, ← List.length_map (f := Value.int .u8), l2]; decide), ← List.length_map (f := Value.int .u8), l2]
 have HB4 := hide (unhide HW _ _ HB3.out hb4)
 have HK4 := unhide HWK _ _ _ HK3.out hb4
 have HA4 : Hid (w4.drew.heap[g]? = some (.cells (((lz3 place next ps.length).map (Value.int .u8))).toArray 5 (0, 0))) := hide hA4
 have F1 : Hid (((hs.take 8).map (Value.int .u8)).length = Nat.min 8 500) := hide (by rw [List.length_map, List.length_take, hh]; rfl)
 have F2 : Hid (∀ j z, ((hs.take 8).map (Value.int .u8))[j]? = some z → w4.drew.cell? (Addr.add ⟨g0, 0, none⟩ j) = some z) := hide (fun j z hj => by
  rw [Addr.add_lit, Nat.zero_add]
  have hj2 : j < 8 := by
   rcases Nat.lt_or_ge j 8 with h | h
   · exact h
   · rw [List.getElem?_eq_none (by rw [F1.out]; exact h)] at hj; cases hj
  rw [List.map_take, List.getElem?_take, if_pos hj2] at hj
  exact arr_cell (w := w4.drew) HK4 hj)
 have F3 : Hid (12 + ((hs.take 8).map (Value.int .u8)).length ≤ ((lz3 place next ps.length).map (Value.int .u8)).length) := hide (by rw [F1.out]; have h := l3; unfold lz3 lz2 lz1; rw [h]; decide)
 have F4 : Hid (∀ z ∈ (hs.take 8).map (Value.int .u8), z.oneCell' = true) := hide (fun z hz => by obtain ⟨y, _, rfl⟩ := List.mem_map.1 hz; rfl)
 have HBD : Hid (Below g w4 w4.drew) := hide (Below.refl _ _).drew
 have L3 : Hid ((lz3 place next ps.length).length = 512) := hide (by have h := l3; rw [List.length_map] at h; exact h)
 clear hA4 hb4 HB3 HK3 HL3 l2 l3 HK4
 go_wp2_with fail
 refine wp_region_held_drew (S := fun _ => True) (by kernel_rfl) (trivial) (fun hHeld => ?_)
 refine wpAnyH_take (i := 0) (v := .slice (some ⟨g, 0, none⟩) 512 512) rfl (by kernel_rfl) (by kernel_rfl) (by kernel_rfl) (fun _ _ _ h => h) (Or.inl ⟨by rfl, fun w hSw => by go_simp⟩) (by assumption) ?_
 simp only [fGa, fGz, Act.put, fSa, fSz, fSs]
 refine wpAnyH_take (i := 1) (v := .slice (some ⟨g, 12, none⟩) 500 500) rfl (by kernel_rfl) (by kernel_rfl) (by kernel_rfl) (fun _ _ _ h => h) (Or.inl ⟨by rfl, fun w hSw => by go_simp⟩) (by assumption) ?_
 simp only [fGa, fGs, fGz, Act.put, fSa, fSz, fSs]
 refine wpAnyH_take (i := 2) (v := .slice (some ⟨g0, 0, none⟩) 8 32) rfl (by kernel_rfl) (by kernel_rfl) (by kernel_rfl) (fun _ _ _ h => h) (Or.inl ⟨by rfl, fun w hSw => by go_simp⟩) (by assumption) ?_
 simp only [fGa, fGs, fGz, Act.put, fSa, fSz, fSs]
 refine wpAnyH_ready (rs := [3]) (by kernel_rfl) (by simp) (AllReadyH.cons rfl (fun K hK => ?_) AllReadyH.nil)
 refine step_copy_splice (by rfl) (.tmp 28) (.tmp 29) 26 26 rfl 5 Tryd.underlying26 infoS8 (some ⟨g, 12, none⟩) (some ⟨g0, 0, none⟩) 500 500 8 32 rfl rfl g 12 _ 5 HA4.out _ F1.out (fun _ => ⟨rfl, _, rfl, F2.out⟩) F3.out F4.out g w4 HBD.out (Nat.le_refl _) ?_
 intro w5 hg5 hb5
 refine hK.out _ _ (trivial) (fun hHeld2 => ?_)
 clear hK K
 simp only [fGa, fGs, fGz, Act.put, fSa, fSz, fSs]
 refine wpAnyH_done (by kernel_rfl) ?_ _
 clear hHeld hHeld2
 rw [splice_map] at hg5
 have L4 : Hid ((lz4 hs place next ps.length).length = 512) := hide (by unfold lz4; rw [length_splice _ _ _ (by rw [L3.out, List.length_take, hh]; decide)]; exact L3.out)
 have HB5 := hide (unhide HW _ _ HB4.out hb5)
 have HA5 : Hid (w5.heap[g]? = some (.cells ((lz4 hs place next ps.length).map (Value.int .u8)).toArray 5 (0, 0))) := hide hg5.out
 clear hg5 hb5 HBD F1 F2 F3 F4 HA4 HB4 L3
 have hp5 := hp.below HB5.out
 have F1 : Hid ((ps.map (Value.int .u8)).length = Nat.min ps.length 484) := hide (by rw [List.length_map]; exact (Nat.min_eq_left (by omega)).symm)
 have F2 : Hid (0 < (ps.map (Value.int .u8)).length → ∃ ad, pa = some ad ∧ ∀ j z, (ps.map (Value.int .u8))[j]? = some z → w5.cell? (ad.add j) = some z) := hide (fun hpos => by
  rw [List.length_map] at hpos
  obtain ⟨_, a', c', hv, _, _, _, hc⟩ := hp5
  injection hv with e1 e2 e3
  obtain ⟨b2, off2, ha2, hcell⟩ := hc hpos
  refine ⟨_, e1.trans ha2, fun j z hj => ?_⟩
  rw [List.getElem?_map] at hj
  rcases Nat.lt_or_ge j ps.length with h | h
  · rw [List.getElem?_eq_getElem h] at hj
    injection hj with hj
    rw [Addr.add_lit, hcell j h, List.getD_eq_getElem?_getD, List.getElem?_eq_getElem h, ← hj]
    rfl
  · rw [List.getElem?_eq_none h] at hj; cases hj)
 have F3 : Hid (28 + (ps.map (Value.int .u8)).length ≤ ((lz4 hs place next ps.length).map (Value.int .u8)).length) := hide (by rw [List.length_map, List.length_map, L4.out]; omega)
 have F4 : Hid (∀ z ∈ ps.map (Value.int .u8), z.oneCell' = true) := hide (fun z hz => by obtain ⟨y, _, rfl⟩ := List.mem_map.1 hz; rfl)
 clear hp5
 go_wp2_with (refine wpList_copy_splice rfl (.tmp 32) (.tmp 33) 26 26 rfl 5 Tryd.underlying26 infoS8 (some ⟨g, 28, none⟩) pa 484 484 ps.length pc rfl rfl g 28 _ 5 HA5.out _ F1.out (fun hpos => ⟨rfl, F2.out hpos⟩) F3.out F4.out g w5 (Below.refl _ _) (Nat.le_refl _) ?_; intro w6 hg6 hb6)
 rw [splice_map] at hg6
 have L5 : Hid ((lz5 hs place next ps).length = 512) := hide (by rw [lz_end hh _ _ hpl, List.length_append, hdL_len hh _ _ hpl, List.length_replicate])
 have HB6 := hide (unhide HW _ _ HB5.out hb6)
 have hA6 : Arr w6 g 5 ((lz5 hs place next ps).map (Value.int .u8)) := hg6.out
 clear hg6 hb6 F1 F2 F3 F4 HA5 HB5 L4
 have hby : ∀ x ∈ lz5 hs place next ps, 0 ≤ x ∧ x ≤ 255 := fun x hx => by
  rw [lz_end hh _ _ hpl] at hx
  rcases List.mem_append.1 hx with hx | hx
  · exact hdL_bytes hhb (fun y hy => hp.mem y hy) _ _ x hx
  · exact zeros_bytes _ x hx
 have hbs : ∀ x ∈ hdL hs place next ps, 0 ≤ x ∧ x ≤ 255 := hdL_bytes hhb (fun y hy => hp.mem y hy) _ _
 have hsm := sumOf_lt (xss := [hdL hs place next ps]) (fun xs hxs => by rw [List.mem_singleton.1 hxs]; exact hbs)
 have hA6d : Arr w6.drew g 5 ((lz5 hs place next ps).map (Value.int .u8)) := hA6
 have hI6 : IsB w6.drew (.slice (some ⟨g, 0, none⟩) 508 512) (hdL hs place next ps) := by
  have h := isB_pre (n := 508) (cap := 512) hA6d hby (by rw [L5.out]; decide) (by decide) (by decide)
  rw [lz_take hh _ _ hpl] at h
  exact h
 have HSUM := hide (sum_calls (isBB_one hI6) ((ht.below HB6.out).below ((Below.refl w6.heap.size w6).drew.alloc (by simp) _)))
 have hA7 := hA6d.alloc (.cells #[.slice (some ⟨g, 0, none⟩) 508 512] 26)
 have HE : Hid (splice (lz5 hs place next ps) 508 (fB (sumOf [hdL hs place next ps]) 4) = secL hs place next ps) := hide (lz_sum hh _ _ hpl)
 generalize sumOf [hdL hs place next ps] = sm at *
 have hws : IntKind.u64.wrap sm = sm := by rw [IntKind.wrap_u64]; omega
 have HLAY := hide (lay_calls (sz := 4) (off := 508) (dl := 4) (cap := 4) hA7 hsm.1 (by decide) (by decide) (Int.ediv_eq_zero_of_lt hsm.1 (by omega)) (by decide) (by rw [List.length_map, L5.out]; decide))
 have hb7 : Below g w6 (w6.drew.alloc (.cells #[.slice (some ⟨g, 0, none⟩) 508 512] 26)) := (Below.refl _ _).drew.alloc (Nat.le_of_lt hA6d.lt) _
 have HB7 := hide (unhide HW _ _ HB6.out hb7)
 clear hA6 hA6d hA7 hI6 hby hbs hb7 HB6
 go_wp2_with fail
 refine wp_region_held_drew (S := fun _ => True) (by kernel_rfl) (trivial) (fun hHeld => ?_)
 refine wpAnyH_take (i := 0) (v := .slice (some ⟨g, 0, none⟩) 512 512) rfl (by kernel_rfl) (by kernel_rfl) (by kernel_rfl) (fun _ _ _ h => h) (Or.inl ⟨by rfl, fun w hSw => by go_simp⟩) (by assumption) ?_
 simp only [fGa, fGz, Act.put, fSa, fSz, fSs]
 refine wpAnyH_take (i := 1) (v := .slice (some ⟨g, 508, none⟩) 4 4) rfl (by kernel_rfl) (by kernel_rfl) (by kernel_rfl) (fun _ _ _ h => h) (Or.inl ⟨by rfl, fun w hSw => by go_simp⟩) (by assumption) ?_
 simp only [fGa, fGs, fGz, Act.put, fSa, fSz, fSs]
 refine wpAnyH_take (i := 2) (v := .slice (some ⟨g, 0, none⟩) 512 512) rfl (by kernel_rfl) (by kernel_rfl) (by kernel_rfl) (fun _ _ _ h => h) (Or.inl ⟨by rfl, fun w hSw => by go_simp⟩) (by assumption) ?_
 simp only [fGa, fGs, fGz, Act.put, fSa, fSz, fSs]
 refine wpAnyH_take (i := 3) (v := .slice (some ⟨g, 0, none⟩) 508 512) rfl (by kernel_rfl) (by kernel_rfl) (by kernel_rfl) (fun _ _ _ h => h) (Or.inl ⟨by rfl, fun w hSw => by go_simp⟩) (by assumption) ?_
 simp only [fGa, fGs, fGz, Act.put, fSa, fSz, fSs]
 refine wpAnyH_ready (rs := [4]) (by kernel_rfl) (by simp) (AllReadyH.cons rfl (fun K hK => ?_) AllReadyH.nil)
 refine step_buildSlC (by rfl) (.tmp 38) rfl rfl ?_
 refine hK.out _ _ (trivial) (fun hHeld2 => ?_)
 clear hK K
 simp only [fGa, fGs, fGz, Act.put, fSa, fSz, fSs]
 refine wpAnyH_ready (rs := [5]) (by kernel_rfl) (by simp) (AllReadyH.cons rfl (fun K hK => ?_) AllReadyH.nil)
 refine step_call1C (by rfl) 90 sumw_enter (.tmp 39) _ rfl rfl (unhide HSUM) ?_
 rintro e w8 ⟨rfl, hw8⟩
 obtain rfl := hw8.symm
 refine ⟨_, rfl, ?_⟩
 refine hK.out _ _ (trivial) (fun hHeld3 => ?_)
 clear hK K
 simp only [fGa, fGs, fGz, Act.put, fSa, fSz, fSs]
 refine wpAnyH_take (i := 6) (v := .int .u64 sm) rfl (by kernel_rfl) (by kernel_rfl) (by kernel_rfl) (fun _ _ _ h => h) (Or.inl ⟨by rfl, fun w hSw => by go_simp⟩) (by assumption) ?_
 simp only [fGa, fGs, fGz, Act.put, fSa, fSz, fSs]
 refine wpAnyH_ready (rs := [7]) (by kernel_rfl) (by simp) (AllReadyH.cons rfl (fun K hK => ?_) AllReadyH.nil)
 refine step_call3C (by rfl) 89 lay_enter (.tmp 36) (.tmp 41) (.const (.int .i64 4)) _ rfl rfl rfl rfl (unhide HLAY) ?_
 rintro e w9 ⟨rfl, hA9, hb9⟩
 refine ⟨_, rfl, ?_⟩
 refine hK.out _ _ (trivial) (fun hHeld4 => ?_)
 clear hK K
 simp only [fGa, fGs, fGz, Act.put, fSa, fSz, fSs]
 refine wpAnyH_done (by kernel_rfl) ?_ _
 clear hHeld hHeld2 hHeld3 hHeld4
 rw [splice_map, HE.out] at hA9
 have HA9 := hide hA9
 have HB9 := hide (unhide HW _ _ HB7.out hb9)
 have hgw : w.heap.size ≤ g := by have := HG.out; omega
 clear hA9 hb9
 go_wp2
 go_ret
 exact ⟨g, rfl, HA9.out, hgw, HB9.out⟩
end Go.Proofs.YtlofoklfggmbiaaDoor

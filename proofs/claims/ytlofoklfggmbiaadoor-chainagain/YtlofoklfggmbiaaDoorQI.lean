/- chain: whether bytes are a piece's sector; the document's. -/
import Derived.Test.YtlofoklfggmbiaaDoorQH
namespace Go.Proofs.YtlofoklfggmbiaaDoor
open Go.RowKit Go.Maps

section
variable {ops : Array Oper} {rest : List Oper} {o : Oper} {a : Act} {Q : Exit → Act → World → Prop} {w : World} {K : Act → World → Prop} {E : Prop}
theorem step_call2C (hgd : o.guard = none) (f : Nat) (hf : ∀ (v u : Value) (W : World), (callFunc f #[v, u]).run Tryd.prog W = .ok (.enter f #[v, u]) W) (x y : Operand) (ts : Array TypeId) (ho : o.op = .call { callee := .value (.func f), args := #[x, y], argTypes := ts }) {v u : Value} (hx : a.eval x = v) (hy : a.eval y = u)
 {Post : Ending → World → Prop} (hc : Calls Tryd.prog f #[v, u] w Post) (hk : ∀ e w2, Post e w2 → ∃ r, e = .returned r ∧ K (a.put o.dst r) w2) :
 if Region.wanted o (yielded ops a.tmps) = true then Oper.wp Tryd.prog o a w K Q else E := by
 rw [if_pos (by simp [Region.wanted, hgd])]
 have hrun : (execOp a.eval o).run Tryd.prog w = .ok (.enter f #[v, u]) w := by
  have h1 := hf v u w
  unfold execOp
  have hfv : a.eval (.func f) = .func (.func f) #[] #[] := rfl
  simp [ho, hx, hy, hfv, resolve, invoke, Deferred.ofValue, h1]
 unfold Oper.wp
 rw [hrun]
 refine hc.mono ?_
 intro e w2 hp
 obtain ⟨r, rfl, hK⟩ := hk e w2 hp
 exact hK
theorem step_call4C (hgd : o.guard = none) (f : Nat) (hf : ∀ (v u z q : Value) (W : World), (callFunc f #[v, u, z, q]).run Tryd.prog W = .ok (.enter f #[v, u, z, q]) W) (x y t s : Operand) (ts : Array TypeId) (ho : o.op = .call { callee := .value (.func f), args := #[x, y, t, s], argTypes := ts }) {v u z q : Value} (hx : a.eval x = v) (hy : a.eval y = u) (ht : a.eval t = z) (hs : a.eval s = q)
 {Post : Ending → World → Prop} (hc : Calls Tryd.prog f #[v, u, z, q] w Post) (hk : ∀ e w2, Post e w2 → ∃ r, e = .returned r ∧ K (a.put o.dst r) w2) :
 if Region.wanted o (yielded ops a.tmps) = true then Oper.wp Tryd.prog o a w K Q else E := by
 rw [if_pos (by simp [Region.wanted, hgd])]
 have hrun : (execOp a.eval o).run Tryd.prog w = .ok (.enter f #[v, u, z, q]) w := by
  have h1 := hf v u z q w
  unfold execOp
  have hfv : a.eval (.func f) = .func (.func f) #[] #[] := rfl
  simp [ho, hx, hy, ht, hs, hfv, resolve, invoke, Deferred.ofValue, h1]
 unfold Oper.wp
 rw [hrun]
 refine hc.mono ?_
 intro e w2 hp
 obtain ⟨r, rfl, hK⟩ := hk e w2 hp
 exact hK
end
abbrev okNext (le place next : Int) : Prop := (place = secN le - 1 ∧ next = 0) ∨ (place ≠ secN le - 1 ∧ 1 ≤ next ∧ next < 65536)
abbrev SoundP (bs hs : List Int) (le place next : Int) : Prop := bs.length = 512 ∧ (0 ≤ place ∧ place < secN le) ∧ okNext le place next ∧ bs = secL hs place next ((bs.drop 28).take (cntI le place).toNat)
theorem isB_mid {w : World} {bb bo n cap q c : Nat} {xs : List Int} (h : IsB w (.slice (some ⟨bb, bo, none⟩) n cap) xs) (hq : q + c ≤ n) (hqc : q < cap) : IsB w (.slice (some ⟨bb, bo + q, none⟩) c (cap - q)) ((xs.drop q).take c) := by
 have h1 := h.sub (q := q) (t := q + c) (by omega) hq
 rw [show q + c - q = c by omega] at h1
 have e : subA (some ⟨bb, bo, none⟩) cap q = some ⟨bb, bo + q, none⟩ := by unfold subA; rw [if_neg (by omega), Option.map_some, Addr.add_lit]
 rw [e] at h1
 exact h1
theorem arr_range {w : World} {g : Nat} {t : TypeId} {cs ds : List Value} (h : Arr w g t (cs ++ ds)) : w.rangeAt g 0 cs := fun j v hv => by
 rw [h.cell, Nat.zero_add, List.getElem?_append_left]
 · exact hv
 · rcases Nat.lt_or_ge j cs.length with h | h
   · exact h
   · rw [List.getElem?_eq_none h] at hv; cases hv
theorem piece_enter (v u z : Value) (W : World) : (callFunc 74 #[v, u, z]).run Tryd.prog W = .ok (.enter 74 #[v, u, z]) W := by kernel_rfl
theorem sector4_enter (v u z q : Value) (W : World) : (callFunc 66 #[v, u, z, q]).run Tryd.prog W = .ok (.enter 66 #[v, u, z, q]) W := by kernel_rfl
theorem equal_enter (v u : Value) (W : World) : (callFunc 73 #[v, u]).run Tryd.prog W = .ok (.enter 73 #[v, u]) W := by kernel_rfl
set_option maxRecDepth 100000 in
set_option maxHeartbeats 4000000 in
theorem sound_calls {w : World} {ba : Option Addr} {bn bc : Nat} {bs hs : List Int} {fi le place next : Int} (hb : IsB w (.slice ba bn bc) bs) (hh : hs.length = 32) (hhb : ∀ x ∈ hs, 0 ≤ x ∧ x ≤ 255) (ht : Tab w) :
 Calls Tryd.prog 37 #[.slice ba bn bc, .agg (refV hs fi le).toArray, .int .i64 place, .int .i64 next] w fun e w' => e = .returned (.bool (decide (SoundP bs hs le place next))) ∧ Below w.heap.size w w' := by
 have hbn : bn = bs.length := hb.lenEq
 subst hbn
 have hb0 := (Below.refl w.heap.size w).alloc (Nat.le_refl _) (.cells (refV hs fi le).toArray 34)
 have hA0 := Arr.new w (refV hs fi le) 34
 have hc33 : (w.alloc (.cells (refV hs fi le).toArray 34)).cell? ⟨w.heap.size, 33, none⟩ = some (.int .i64 le) := arr_cell hA0 (refV_33 hh fi le)
 have HB := hide hb
 have HB0 := hide hb0
 obtain ⟨r, hr⟩ : ∃ r, r = decide (SoundP bs hs le place next) := ⟨_, rfl⟩
 rw [← hr]
 have HR := hide hr
 clear hr
 by_cases h1 : bs.length = 512
 · by_cases h2 : place < 0
   · obtain rfl : r = false := by rw [HR.out, decide_eq_false_iff_not]; exact fun h => by have := h.2.1; omega
     clear HR
     have h3 : ¬ ((bs.length : Nat) : Int) ≠ 512 := by omega
     have h4 : decide (((bs.length : Nat) : Int) ≠ 512) = false := by simp; omega
     clear hb hA0 hb0
     rw [h1] at *
     go_enter Tryd.func37, Tryd.ntmps37
     go_wp2
     go_ret
     exact ⟨rfl, HB0.out⟩
   · have hp0 : 0 ≤ place := by omega
     have hs0 := secN_lo le
     have hs9 := secN_hi le
     have h4 : decide (((bs.length : Nat) : Int) ≠ 512) = false := by simp; omega
     have h6 : decide (place < 0) = false := by simpa using h2
     have HSN := hide (fun W => chSectors_calls le W)
     by_cases h5 : place < secN le
     · obtain ⟨hk0, hk1, hk2, hk3⟩ := cnt_ok hp0 h5
       obtain ⟨c, hc⟩ : ∃ c : Nat, cntI le place = (c : Int) := ⟨(cntI le place).toNat, by omega⟩
       have hc4 : c ≤ 480 := by omega
       obtain ⟨bb, bo, rfl, hbc, hbm⟩ : ∃ bb bo, ba = some ⟨bb, bo, none⟩ ∧ 512 ≤ bc ∧ bc ≤ 9223372036854775807 := by
        obtain ⟨_, a', c', hv, h7, h8, _, h9⟩ := hb
        injection hv with e1 e2 e3
        obtain ⟨bb, bo, ha, _⟩ := h9 (by omega)
        exact ⟨bb, bo, e1.trans ha, by omega, by omega⟩
       have HTW := hide (show (place = secN le - 1 ∧ next = 0) ∨ (place ≠ secN le - 1 ∧ 1 ≤ next ∧ next < 65536) → r = decide (bs = secL hs place next ((bs.drop 28).take c)) from fun hn => by
        rw [HR.out, decide_eq_decide]
        exact ⟨fun h => by have := h.2.2.2; rw [hc] at this; exact this, fun h => ⟨h1, ⟨hp0, h5⟩, hn, by rw [hc]; exact h⟩⟩)
       have HNT := hide (show ¬ ((place = secN le - 1 ∧ next = 0) ∨ (place ≠ secN le - 1 ∧ 1 ≤ next ∧ next < 65536)) → r = false from fun hn => by rw [HR.out, decide_eq_false_iff_not]; exact fun h => hn h.2.2.1)
       clear HR
       generalize hsn : secN le = sn at *
       have HSE := hide hsn
       have hwr : IntKind.i64.wrap (sn - 1) = sn - 1 := IntWalk.i64_in _ (by omega)
       have h7 : decide (place ≥ sn) = false := by simp; omega
       have h8 : ¬ place ≥ sn := by omega
       have HK := hide (And.intro hp0 (And.intro h5 (And.intro hc4 hc)))
       have h1x : bs.length = 512 := h1
       have HL0 := hide h1x
       clear hb hA0 hb0 hsn hc h1x
       rw [h1] at *
       go_enter Tryd.func37, Tryd.ntmps37
       go_wp2_with fail
       refine (unhide HSN _).mono ?_
       rintro e w1 ⟨rfl, hw1⟩
       obtain rfl := hw1.symm
       go_wp2_with fail
       refine (unhide HSN _).mono ?_
       rintro e w2 ⟨rfl, hw2⟩
       obtain rfl := hw2.symm
       by_cases hlast : place = sn - 1
       · have hl1 : (place == sn - 1) = true := by simpa using hlast
         by_cases hn0 : next = 0
         · --
           have hr2 := unhide HTW (by omega)
           have hnx0 : 0 ≤ next := by omega
           have hnx1 : next < 4294967296 := by omega
           have HR2 := hide hr2
           clear hr2 HTW HNT
           have hn3 : decide (next ≠ 0) = false := by simp [hn0]
           go_wp2_with fail
           obtain ⟨w1, hw1e⟩ : ∃ w1, w1 = w.alloc (.cells (refV hs fi le).toArray 34) := ⟨_, rfl⟩
           obtain ⟨g0, hg0⟩ : ∃ g0, g0 = w.heap.size := ⟨_, rfl⟩
           have hA1 : Arr w1 g0 34 (refV hs fi le) := by rw [hw1e, hg0]; exact Arr.new _ _ _
           have hbw : Below w.heap.size w w1 := by rw [hw1e]; exact HB0.out
           rw [← hw1e, ← hg0]
           have HBZ : Hid (∀ W, Below w1.heap.size w1 W → Below w.heap.size w W) := hide (fun W hW => hbw.trans (hW.mono hbw.size))
           have HSS : Hid (∀ W, Below w1.heap.size w1 W → (fun W => W.rangeAt g0 0 (refV hs fi le) ∧ W.rangeAt g0 0 (hs.map (Value.int .u8))) W) := hide (fun W hW => ⟨(arr_range (ds := []) (by rw [List.append_nil]; exact hA1.below hW)), arr_range (hA1.below hW)⟩)
           have hiR : (Tryd.prog.info? 34).map (·.size) = some (refV hs fi le).length := by rw [refV_len hh]; kernel_rfl
           have hiK : (Tryd.prog.info? 32).map (·.size) = some (hs.map (Value.int .u8)).length := by rw [List.length_map, hh]; kernel_rfl
           have HPI : Hid (∀ W, Below w1.heap.size w1 W → Calls Tryd.prog 74 #[.slice (some ⟨bb, bo, none⟩) 512 bc, .agg (refV hs fi le).toArray, .int .i64 place] W fun e w' => e = .returned (.slice (some ⟨bb, bo + 28, none⟩) c (bc - 28)) ∧ Below w1.heap.size w1 w') := hide (fun W hW => (pieceIn_calls (w := W) hh hp0 (by rw [HSE.out]; exact h5) HK.out.2.2.2 hbc hbm).mono (fun e w' h => ⟨h.1, hW.trans (h.2.mono hW.size)⟩))
           have hpc : ∀ W, Below w1.heap.size w1 W → IsB W (.slice (some ⟨bb, bo + 28, none⟩) c (bc - 28)) ((bs.drop 28).take c) := fun W hW => isB_mid (HB.out.below (HBZ.out W hW)) (by omega) (by omega)
           have hpl : ((bs.drop 28).take c).length ≤ 480 := by rw [List.length_take, List.length_drop]; have := HK.out.2.2.1; omega
           have HSC : Hid (∀ W, Below w1.heap.size w1 W → Calls Tryd.prog 66 #[.slice (some ⟨bb, bo + 28, none⟩) c (bc - 28), .agg (hs.map (Value.int .u8)).toArray, .int .i64 place, .int .i64 next] W fun e w' => ∃ g, e = .returned (.slice (some ⟨g, 0, none⟩) 512 512) ∧ Arr w' g 5 ((secL hs place next ((bs.drop 28).take c)).map (Value.int .u8)) ∧ W.heap.size ≤ g ∧ Below W.heap.size W w') := hide (fun W hW => csector_calls (hpc W hW) hpl hh hhb hnx0 hnx1 hp0 (by omega) (ht.below (HBZ.out W hW)))
           have hsl := secL_len hh place next hpl
           have hsb : ∀ x ∈ secL hs place next ((bs.drop 28).take c), 0 ≤ x ∧ x ≤ 255 := fun x hx => by
            unfold secL at hx
            rcases List.mem_append.1 hx with hx | hx
            · exact hdL_bytes hhb (hpc w1 (Below.refl _ _)).mem _ _ x hx
            · exact fB_bytes _ _ x hx
           have HEQ : Hid (∀ W g3, Below w1.heap.size w1 W → Arr W g3 5 ((secL hs place next ((bs.drop 28).take c)).map (Value.int .u8)) → Calls Tryd.prog 73 #[.slice (some ⟨bb, bo, none⟩) 512 bc, .slice (some ⟨g3, 0, none⟩) 512 512] W fun e w' => e = .returned (.bool r) ∧ w' = W) := hide (fun W g3 hW hA => by
            have h9 := isB_pre (n := 512) (cap := 512) hA hsb (by rw [hsl]; exact Nat.le_refl _) (Nat.le_refl _) (by decide)
            rw [List.take_of_length_le (by rw [hsl]; exact Nat.le_refl _)] at h9
            rw [HR2.out]
            exact equal_calls (HB.out.below (HBZ.out W hW)) h9)
           generalize secL hs place next ((bs.drop 28).take c) = sl at *
           generalize (bs.drop 28).take c = pl at *
           have HA1 := hide hA1
           have HW1 := hide hw1e
           have HG0 := hide hg0
           clear hA1 hw1e hg0 hbw hpc hpl hsl hsb
           refine wp_region_held_drew (S := fun W => W.rangeAt g0 0 (refV hs fi le) ∧ W.rangeAt g0 0 (hs.map (Value.int .u8))) (by kernel_rfl) (unhide HSS _ (Below.refl _ _).drew) (fun hHeld => ?_)
           refine wpAnyH_take (i := 0) (v := .slice (some ⟨bb, bo, none⟩) 512 bc) rfl (by kernel_rfl) (by kernel_rfl) (by kernel_rfl) (fun _ _ _ h => h) (Or.inl ⟨by rfl, fun w hSw => by obtain ⟨hS1, hS2⟩ := hSw; go_simp⟩) (by assumption) ?_
           simp only [fGa, fGz, Act.put, fSa, fSz, fSs]
           refine wpAnyH_take (i := 1) (v := .slice (some ⟨bb, bo, none⟩) 512 bc) rfl (by kernel_rfl) (by kernel_rfl) (by kernel_rfl) (fun _ _ _ h => h) (Or.inl ⟨by rfl, fun w hSw => by obtain ⟨hS1, hS2⟩ := hSw; go_simp⟩) (by assumption) ?_
           simp only [fGa, fGs, fGz, Act.put, fSa, fSz, fSs]
           refine wpAnyH_take (i := 2) (v := .agg (refV hs fi le).toArray) rfl (by kernel_rfl) (by kernel_rfl) (by kernel_rfl) (fun _ _ _ h => h) (yieldsIf_load_mid (by rfl) _ _ rfl _ _ rfl _ _ (fun w hSw => hSw.1) Tryd.underlying34 rfl hiR) (by assumption) ?_
           simp only [fGa, fGs, fGz, Act.put, fSa, fSz, fSs]
           refine wpAnyH_take (i := 3) (v := .int .i64 place) rfl (by kernel_rfl) (by kernel_rfl) (by kernel_rfl) (fun _ _ _ h => h) (Or.inl ⟨by rfl, fun w hSw => by obtain ⟨hS1, hS2⟩ := hSw; go_simp⟩) (by assumption) ?_
           simp only [fGa, fGs, fGz, Act.put, fSa, fSz, fSs]
           refine wpAnyH_take (i := 5) (v := .pointer (some ⟨g0, 0, none⟩)) rfl (by kernel_rfl) (by kernel_rfl) (by kernel_rfl) (fun _ _ _ h => h) (Or.inl ⟨by rfl, fun w hSw => by obtain ⟨hS1, hS2⟩ := hSw; go_simp⟩) (by assumption) ?_
           simp only [fGa, fGs, fGz, Act.put, fSa, fSz, fSs]
           refine wpAnyH_take (i := 6) (v := .agg (hs.map (Value.int .u8)).toArray) rfl (by kernel_rfl) (by kernel_rfl) (by kernel_rfl) (fun _ _ _ h => h) (yieldsIf_load_mid (by rfl) _ _ rfl _ _ rfl _ _ (fun w hSw => hSw.2) Tryd.underlying32 rfl hiK) (by assumption) ?_
           simp only [fGa, fGs, fGz, Act.put, fSa, fSz, fSs]
           refine wpAnyH_take (i := 7) (v := .int .i64 place) rfl (by kernel_rfl) (by kernel_rfl) (by kernel_rfl) (fun _ _ _ h => h) (Or.inl ⟨by rfl, fun w hSw => by obtain ⟨hS1, hS2⟩ := hSw; go_simp⟩) (by assumption) ?_
           simp only [fGa, fGs, fGz, Act.put, fSa, fSz, fSs]
           refine wpAnyH_take (i := 8) (v := .int .i64 next) rfl (by kernel_rfl) (by kernel_rfl) (by kernel_rfl) (fun _ _ _ h => h) (Or.inl ⟨by rfl, fun w hSw => by obtain ⟨hS1, hS2⟩ := hSw; go_simp⟩) (by assumption) ?_
           simp only [fGa, fGs, fGz, Act.put, fSa, fSz, fSs]
           refine wpAnyH_ready (rs := [4]) (by kernel_rfl) (by simp) (AllReadyH.cons rfl (fun K hK => ?_) AllReadyH.nil)
           refine step_call3C (by rfl) 74 piece_enter (.tmp 48) (.tmp 49) (.tmp 50) _ rfl rfl rfl rfl (unhide HPI _ (Below.refl _ _).drew) ?_
           rintro e w2 ⟨rfl, hb2⟩
           refine ⟨_, rfl, ?_⟩
           refine hK.out _ _ (unhide HSS _ hb2) (fun hHeld2 => ?_)
           clear hK K
           simp only [fGa, fGs, fGz, Act.put, fSa, fSz, fSs]
           refine wpAnyH_ready (rs := [9]) (by kernel_rfl) (by simp) (AllReadyH.cons rfl (fun K hK => ?_) AllReadyH.nil)
           refine step_call4C (by rfl) 66 sector4_enter (.tmp 51) (.tmp 53) (.tmp 54) (.tmp 55) _ rfl rfl rfl rfl rfl (unhide HSC _ hb2) ?_
           rintro e w3 ⟨g3, rfl, hA3, hg3, hb3⟩
           refine ⟨_, rfl, ?_⟩
           have hb3b := hb2.trans (hb3.mono hb2.size)
           refine hK.out _ _ (unhide HSS _ hb3b) (fun hHeld3 => ?_)
           clear hK K
           simp only [fGa, fGs, fGz, Act.put, fSa, fSz, fSs]
           refine wpAnyH_ready (rs := [10]) (by kernel_rfl) (by simp) (AllReadyH.cons rfl (fun K hK => ?_) AllReadyH.nil)
           refine step_call2C (by rfl) 73 equal_enter (.tmp 47) (.tmp 56) _ rfl rfl rfl (unhide HEQ _ _ hb3b hA3) ?_
           rintro e w4 ⟨rfl, hw4⟩
           obtain rfl := hw4.symm
           refine ⟨_, rfl, ?_⟩
           refine hK.out _ _ (hHeld3) (fun hHeld4 => ?_)
           clear hK K
           simp only [fGa, fGs, fGz, Act.put, fSa, fSz, fSs]
           refine wpAnyH_take (i := 11) (v := .bool r) rfl (by kernel_rfl) (by kernel_rfl) (by kernel_rfl) (fun _ _ _ h => h) (Or.inl ⟨by rfl, fun w hSw => by obtain ⟨hS1, hS2⟩ := hSw; go_simp⟩) (by assumption) ?_
           simp only [fGa, fGs, fGz, Act.put, fSa, fSz, fSs]
           refine wpAnyH_done (by kernel_rfl) ?_ _
           have HB4 := hide (unhide HBZ _ hb3b)
           clear hHeld hHeld2 hHeld3 hHeld4 hb2 hA3 hg3 hb3 hb3b
           go_wp2
           go_ret
           exact ⟨rfl, HB4.out⟩
         · obtain rfl := unhide HNT (fun h => by omega)
           have hn1 : decide (next ≠ 0) = true := by simpa using hn0
           go_wp2
           go_ret
           exact ⟨rfl, HB0.out⟩
       · have hl1 : (place == sn - 1) = false := by simpa using hlast
         by_cases hn1 : next < 1
         · obtain rfl := unhide HNT (fun h => by omega)
           go_wp2
           go_ret
           exact ⟨rfl, HB0.out⟩
         · by_cases hn2 : 65536 ≤ next
           · obtain rfl := unhide HNT (fun h => by omega)
             have hn3 : decide (next < 1) = false := by simpa using hn1
             go_wp2
             go_ret
             exact ⟨rfl, HB0.out⟩
           · --
             have hr2 := unhide HTW (by omega)
             have hnx0 : 0 ≤ next := by omega
             have hnx1 : next < 4294967296 := by omega
             have HR2 := hide hr2
             clear hr2 HTW HNT
             have hn3 : decide (next < 1) = false := by simpa using hn1
             have hn4 : ¬ next ≥ 65536 := by omega
             go_wp2_with fail
             obtain ⟨w1, hw1e⟩ : ∃ w1, w1 = w.alloc (.cells (refV hs fi le).toArray 34) := ⟨_, rfl⟩
             obtain ⟨g0, hg0⟩ : ∃ g0, g0 = w.heap.size := ⟨_, rfl⟩
             have hA1 : Arr w1 g0 34 (refV hs fi le) := by rw [hw1e, hg0]; exact Arr.new _ _ _
             have hbw : Below w.heap.size w w1 := by rw [hw1e]; exact HB0.out
             rw [← hw1e, ← hg0]
             have HBZ : Hid (∀ W, Below w1.heap.size w1 W → Below w.heap.size w W) := hide (fun W hW => hbw.trans (hW.mono hbw.size))
             have HSS : Hid (∀ W, Below w1.heap.size w1 W → (fun W => W.rangeAt g0 0 (refV hs fi le) ∧ W.rangeAt g0 0 (hs.map (Value.int .u8))) W) := hide (fun W hW => ⟨(arr_range (ds := []) (by rw [List.append_nil]; exact hA1.below hW)), arr_range (hA1.below hW)⟩)
             have hiR : (Tryd.prog.info? 34).map (·.size) = some (refV hs fi le).length := by rw [refV_len hh]; kernel_rfl
             have hiK : (Tryd.prog.info? 32).map (·.size) = some (hs.map (Value.int .u8)).length := by rw [List.length_map, hh]; kernel_rfl
             have HPI : Hid (∀ W, Below w1.heap.size w1 W → Calls Tryd.prog 74 #[.slice (some ⟨bb, bo, none⟩) 512 bc, .agg (refV hs fi le).toArray, .int .i64 place] W fun e w' => e = .returned (.slice (some ⟨bb, bo + 28, none⟩) c (bc - 28)) ∧ Below w1.heap.size w1 w') := hide (fun W hW => (pieceIn_calls (w := W) hh hp0 (by rw [HSE.out]; exact h5) HK.out.2.2.2 hbc hbm).mono (fun e w' h => ⟨h.1, hW.trans (h.2.mono hW.size)⟩))
             have hpc : ∀ W, Below w1.heap.size w1 W → IsB W (.slice (some ⟨bb, bo + 28, none⟩) c (bc - 28)) ((bs.drop 28).take c) := fun W hW => isB_mid (HB.out.below (HBZ.out W hW)) (by omega) (by omega)
             have hpl : ((bs.drop 28).take c).length ≤ 480 := by rw [List.length_take, List.length_drop]; have := HK.out.2.2.1; omega
             have HSC : Hid (∀ W, Below w1.heap.size w1 W → Calls Tryd.prog 66 #[.slice (some ⟨bb, bo + 28, none⟩) c (bc - 28), .agg (hs.map (Value.int .u8)).toArray, .int .i64 place, .int .i64 next] W fun e w' => ∃ g, e = .returned (.slice (some ⟨g, 0, none⟩) 512 512) ∧ Arr w' g 5 ((secL hs place next ((bs.drop 28).take c)).map (Value.int .u8)) ∧ W.heap.size ≤ g ∧ Below W.heap.size W w') := hide (fun W hW => csector_calls (hpc W hW) hpl hh hhb hnx0 hnx1 hp0 (by omega) (ht.below (HBZ.out W hW)))
             have hsl := secL_len hh place next hpl
             have hsb : ∀ x ∈ secL hs place next ((bs.drop 28).take c), 0 ≤ x ∧ x ≤ 255 := fun x hx => by
              unfold secL at hx
              rcases List.mem_append.1 hx with hx | hx
              · exact hdL_bytes hhb (hpc w1 (Below.refl _ _)).mem _ _ x hx
              · exact fB_bytes _ _ x hx
             have HEQ : Hid (∀ W g3, Below w1.heap.size w1 W → Arr W g3 5 ((secL hs place next ((bs.drop 28).take c)).map (Value.int .u8)) → Calls Tryd.prog 73 #[.slice (some ⟨bb, bo, none⟩) 512 bc, .slice (some ⟨g3, 0, none⟩) 512 512] W fun e w' => e = .returned (.bool r) ∧ w' = W) := hide (fun W g3 hW hA => by
              have h9 := isB_pre (n := 512) (cap := 512) hA hsb (by rw [hsl]; exact Nat.le_refl _) (Nat.le_refl _) (by decide)
              rw [List.take_of_length_le (by rw [hsl]; exact Nat.le_refl _)] at h9
              rw [HR2.out]
              exact equal_calls (HB.out.below (HBZ.out W hW)) h9)
             generalize secL hs place next ((bs.drop 28).take c) = sl at *
             generalize (bs.drop 28).take c = pl at *
             have HA1 := hide hA1
             have HW1 := hide hw1e
             have HG0 := hide hg0
             clear hA1 hw1e hg0 hbw hpc hpl hsl hsb
             refine wp_region_held_drew (S := fun W => W.rangeAt g0 0 (refV hs fi le) ∧ W.rangeAt g0 0 (hs.map (Value.int .u8))) (by kernel_rfl) (unhide HSS _ (Below.refl _ _).drew) (fun hHeld => ?_)
             refine wpAnyH_take (i := 0) (v := .slice (some ⟨bb, bo, none⟩) 512 bc) rfl (by kernel_rfl) (by kernel_rfl) (by kernel_rfl) (fun _ _ _ h => h) (Or.inl ⟨by rfl, fun w hSw => by obtain ⟨hS1, hS2⟩ := hSw; go_simp⟩) (by assumption) ?_
             simp only [fGa, fGz, Act.put, fSa, fSz, fSs]
             refine wpAnyH_take (i := 1) (v := .slice (some ⟨bb, bo, none⟩) 512 bc) rfl (by kernel_rfl) (by kernel_rfl) (by kernel_rfl) (fun _ _ _ h => h) (Or.inl ⟨by rfl, fun w hSw => by obtain ⟨hS1, hS2⟩ := hSw; go_simp⟩) (by assumption) ?_
             simp only [fGa, fGs, fGz, Act.put, fSa, fSz, fSs]
             refine wpAnyH_take (i := 2) (v := .agg (refV hs fi le).toArray) rfl (by kernel_rfl) (by kernel_rfl) (by kernel_rfl) (fun _ _ _ h => h) (yieldsIf_load_mid (by rfl) _ _ rfl _ _ rfl _ _ (fun w hSw => hSw.1) Tryd.underlying34 rfl hiR) (by assumption) ?_
             simp only [fGa, fGs, fGz, Act.put, fSa, fSz, fSs]
             refine wpAnyH_take (i := 3) (v := .int .i64 place) rfl (by kernel_rfl) (by kernel_rfl) (by kernel_rfl) (fun _ _ _ h => h) (Or.inl ⟨by rfl, fun w hSw => by obtain ⟨hS1, hS2⟩ := hSw; go_simp⟩) (by assumption) ?_
             simp only [fGa, fGs, fGz, Act.put, fSa, fSz, fSs]
             refine wpAnyH_take (i := 5) (v := .pointer (some ⟨g0, 0, none⟩)) rfl (by kernel_rfl) (by kernel_rfl) (by kernel_rfl) (fun _ _ _ h => h) (Or.inl ⟨by rfl, fun w hSw => by obtain ⟨hS1, hS2⟩ := hSw; go_simp⟩) (by assumption) ?_
             simp only [fGa, fGs, fGz, Act.put, fSa, fSz, fSs]
             refine wpAnyH_take (i := 6) (v := .agg (hs.map (Value.int .u8)).toArray) rfl (by kernel_rfl) (by kernel_rfl) (by kernel_rfl) (fun _ _ _ h => h) (yieldsIf_load_mid (by rfl) _ _ rfl _ _ rfl _ _ (fun w hSw => hSw.2) Tryd.underlying32 rfl hiK) (by assumption) ?_
             simp only [fGa, fGs, fGz, Act.put, fSa, fSz, fSs]
             refine wpAnyH_take (i := 7) (v := .int .i64 place) rfl (by kernel_rfl) (by kernel_rfl) (by kernel_rfl) (fun _ _ _ h => h) (Or.inl ⟨by rfl, fun w hSw => by obtain ⟨hS1, hS2⟩ := hSw; go_simp⟩) (by assumption) ?_
             simp only [fGa, fGs, fGz, Act.put, fSa, fSz, fSs]
             refine wpAnyH_take (i := 8) (v := .int .i64 next) rfl (by kernel_rfl) (by kernel_rfl) (by kernel_rfl) (fun _ _ _ h => h) (Or.inl ⟨by rfl, fun w hSw => by obtain ⟨hS1, hS2⟩ := hSw; go_simp⟩) (by assumption) ?_
             simp only [fGa, fGs, fGz, Act.put, fSa, fSz, fSs]
             refine wpAnyH_ready (rs := [4]) (by kernel_rfl) (by simp) (AllReadyH.cons rfl (fun K hK => ?_) AllReadyH.nil)
             refine step_call3C (by rfl) 74 piece_enter (.tmp 48) (.tmp 49) (.tmp 50) _ rfl rfl rfl rfl (unhide HPI _ (Below.refl _ _).drew) ?_
             rintro e w2 ⟨rfl, hb2⟩
             refine ⟨_, rfl, ?_⟩
             refine hK.out _ _ (unhide HSS _ hb2) (fun hHeld2 => ?_)
             clear hK K
             simp only [fGa, fGs, fGz, Act.put, fSa, fSz, fSs]
             refine wpAnyH_ready (rs := [9]) (by kernel_rfl) (by simp) (AllReadyH.cons rfl (fun K hK => ?_) AllReadyH.nil)
             refine step_call4C (by rfl) 66 sector4_enter (.tmp 51) (.tmp 53) (.tmp 54) (.tmp 55) _ rfl rfl rfl rfl rfl (unhide HSC _ hb2) ?_
             rintro e w3 ⟨g3, rfl, hA3, hg3, hb3⟩
             refine ⟨_, rfl, ?_⟩
             have hb3b := hb2.trans (hb3.mono hb2.size)
             refine hK.out _ _ (unhide HSS _ hb3b) (fun hHeld3 => ?_)
             clear hK K
             simp only [fGa, fGs, fGz, Act.put, fSa, fSz, fSs]
             refine wpAnyH_ready (rs := [10]) (by kernel_rfl) (by simp) (AllReadyH.cons rfl (fun K hK => ?_) AllReadyH.nil)
             refine step_call2C (by rfl) 73 equal_enter (.tmp 47) (.tmp 56) _ rfl rfl rfl (unhide HEQ _ _ hb3b hA3) ?_
             rintro e w4 ⟨rfl, hw4⟩
             obtain rfl := hw4.symm
             refine ⟨_, rfl, ?_⟩
             refine hK.out _ _ (hHeld3) (fun hHeld4 => ?_)
             clear hK K
             simp only [fGa, fGs, fGz, Act.put, fSa, fSz, fSs]
             refine wpAnyH_take (i := 11) (v := .bool r) rfl (by kernel_rfl) (by kernel_rfl) (by kernel_rfl) (fun _ _ _ h => h) (Or.inl ⟨by rfl, fun w hSw => by obtain ⟨hS1, hS2⟩ := hSw; go_simp⟩) (by assumption) ?_
             simp only [fGa, fGs, fGz, Act.put, fSa, fSz, fSs]
             refine wpAnyH_done (by kernel_rfl) ?_ _
             have HB4 := hide (unhide HBZ _ hb3b)
             clear hHeld hHeld2 hHeld3 hHeld4 hb2 hA3 hg3 hb3 hb3b
             go_wp2
             go_ret
             exact ⟨rfl, HB4.out⟩
     · obtain rfl : r = false := by rw [HR.out, decide_eq_false_iff_not]; exact fun h => h5 h.2.1.2
       clear HR
       generalize secN le = sn at *
       have h7 : place ≥ sn := by omega
       clear hb hA0 hb0
       rw [h1] at *
       go_enter Tryd.func37, Tryd.ntmps37
       go_wp2_with fail
       refine (unhide HSN _).mono ?_
       rintro e w1 ⟨rfl, hw1⟩
       obtain rfl := hw1.symm
       go_wp2
       go_ret
       exact ⟨rfl, HB0.out⟩
 · obtain rfl : r = false := by rw [HR.out, decide_eq_false_iff_not]; exact fun h => h1 h.1
   clear HR
   have h4 : ¬ ((bs.length : Nat) : Int) = 512 := by omega
   clear hb hA0 hb0
   go_enter Tryd.func37, Tryd.ntmps37
   go_wp2
   go_ret
   exact ⟨rfl, HB0.out⟩
end Go.Proofs.YtlofoklfggmbiaaDoor

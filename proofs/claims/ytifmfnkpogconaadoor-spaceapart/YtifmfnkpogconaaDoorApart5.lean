/- SpaceApart's walk, the call. -/
import Derived.Test.YtifmfnkpogconaaDoorApart4
import Derived.Test.YtifmfnkpogconaaDoorMakes4
namespace Go.Proofs.YtifmfnkpogconaaDoor
open Go.RowKit

theorem num4_zero (w : World) : Calls Tryd.prog 17 #[.int .i64 0] w fun e w' => e = .returned (.int .i64 0) ∧ w' = w := num4_calls 0 w
set_option maxRecDepth 100000 in
set_option maxHeartbeats 4000000 in
theorem apart_walk {w : World} (x y : Int) {va vs : Value} {oa os : List OpI} (ha : IsOps w va oa) (ho : IsOps w vs os) (hT : Tz w) : Calls Tryd.prog 8 #[.int .i64 x, .int .i64 y, va, vs] w fun e w' => e = .returned (.bool true) ∧ Below w.heap.size w w' := by
  have hG : 0 < w.heap.size := World.block_lt_of_cell? _ _ (hT 0 (by decide))
  have hf1 : pl x 60000 < 60000 := pl_lt (by decide)
  have hm1 : pl y 300 < 300 := pl_lt (by decide)
  have HP1 : Hid (Calls Tryd.prog 15 #[.int .i64 x, .int .i64 60000] w fun e w' => e = .returned (.int .i64 ((pl x 60000 : Nat) : Int)) ∧ w' = w) := place4_calls x 60000 (by decide) (by decide) w
  have HP2 : Hid (Calls Tryd.prog 15 #[.int .i64 y, .int .i64 300] w fun e w' => e = .returned (.int .i64 ((pl y 300 : Nat) : Int)) ∧ w' = w) := place4_calls y 300 (by decide) (by decide) w
  generalize pl x 60000 = f at *
  generalize pl y 300 = m at *
  obtain ⟨t, ht⟩ : ∃ t, t = f + (1 + m) := ⟨_, rfl⟩
  have HTT : Hid ((f : Int) + (1 + (m : Int)) = (t : Int)) := by show _ = _; omega
  have hft : f < t := by omega
  have ht6 : t ≤ 65536 := by omega
  have HN : Hid (Calls Tryd.prog 16 #[.int .i64 (f : Int), .int .i64 ((f : Int) + (1 + (m : Int)))] w fun e w' => ∃ g gw, e = .returned (.tuple #[.pointer (some ⟨g, 0, none⟩), .int .i64 0]) ∧ Hid (Sp w' w.heap.size g gw f t (newW (t - f)) ∧ Below w.heap.size w w')) := by
    show Calls _ _ _ _ _
    rw [HTT.out]
    exact (spNew_calls f t hft ht6).mono fun e w' ⟨g, gw, e1, e2, _, e4⟩ => ⟨g, gw, e1, e2, e4⟩
  have HN0 : Hid (∀ W, Calls Tryd.prog 17 #[.int .i64 0] W fun e w' => e = .returned (.int .i64 0) ∧ w' = W) := num4_zero
  have HTZ := hide hT
  have HA := hide ha
  have HO := hide ho
  clear hT ha ho ht
  go_enter Tryd.func8, Tryd.ntmps8
  go_wp2_with fail
  refine (unhide HP1).mono ?_
  rintro e w1 ⟨rfl, hw1⟩
  obtain rfl := hw1.symm
  clear hw1
  go_wp2_with fail
  refine (unhide HP2).mono ?_
  rintro e w1 ⟨rfl, hw1⟩
  obtain rfl := hw1.symm
  clear hw1
  go_wp2_with fail
  refine (unhide HN).mono ?_
  rintro e w1 ⟨g, gw, rfl, HS1⟩
  go_wp2_with fail
  refine (unhide HN0 w1).mono ?_
  rintro e w2 ⟨rfl, hw2⟩
  obtain rfl := hw2.symm
  clear hw2
  go_wp2_with fail
  obtain ⟨hsp, hb1⟩ := HS1.out
  have k1 := heap_alloc_new w1 (.cells #[.pointer (some ⟨g, 0, none⟩)] 35)
  have b1 := alloc_below w1 (.cells #[.pointer (some ⟨g, 0, none⟩)] 35)
  have z1 : (w1.alloc (.cells #[.pointer (some ⟨g, 0, none⟩)] 35)).heap.size = w1.heap.size + 1 := by simp
  generalize w1.alloc (.cells #[.pointer (some ⟨g, 0, none⟩)] 35) = w3 at *
  have k2 := heap_alloc_new w3 (.cells #[.slice (some ⟨w1.heap.size, 0, none⟩) 1 1, .slice none 0 0, .slice none 0 0, .slice none 0 0, .int .i64 0] 34)
  have b2 := alloc_below w3 (.cells #[.slice (some ⟨w1.heap.size, 0, none⟩) 1 1, .slice none 0 0, .slice none 0 0, .slice none 0 0, .int .i64 0] 34)
  generalize w3.alloc (.cells #[.slice (some ⟨w1.heap.size, 0, none⟩) 1 1, .slice none 0 0, .slice none 0 0, .slice none 0 0, .int .i64 0] 34) = w4 at *
  rw [z1] at k2
  have hlo := hb1.size
  generalize w1.heap.size + 1 = gW at *
  have k1' : w4.heap[w1.heap.size]? = some (.cells #[.pointer (some ⟨g, 0, none⟩)] 35 (0, 0)) := (b2.block _ (Array.getElem?_eq_some_iff.1 k1).1).trans k1
  have hbw4 : Below w.heap.size w w4 := (hb1.trans (b1.mono hb1.size)).trans (b2.mono (Nat.le_trans hb1.size b1.size))
  have hsp4 := (hsp.below b1).below b2
  generalize w1.heap.size = gs at *
  have HD1 := hide (does_calls hbw4 HA.out HTZ.out hsp4 k2 k1')
  have HF1 : Hid (∀ w5, Moved w4 w5 w.heap.size g gw f t → ∃ ws, Below w.heap.size w w5 ∧ Sp w5 w.heap.size g gw f t ws ∧ w5.heap[gW]? = some (.cells #[.slice (some ⟨gs, 0, none⟩) 1 1, .slice none 0 0, .slice none 0 0, .slice none 0 0, .int .i64 0] 34 (0, 0)) ∧ w5.heap[gs]? = some (.cells #[.pointer (some ⟨g, 0, none⟩)] 35 (0, 0))) := fun w5 hm => by
    obtain ⟨ws, m1, m2⟩ := hm
    obtain ⟨q1, cs, mk, q2⟩ := hsp4.words
    have hc : Ch w.heap.size (fun t => t = 71) w4 w5 := Ch.of_grown m2 q1 q2 rfl
    exact ⟨ws, hbw4.trans (hc.below hbw4.size), m1, hc.cells k2 (by decide), hc.cells k1' (by decide)⟩
  clear hsp hb1 k1 b1 z1 k2 b2 k1' hbw4 hsp4 HS1 HN HP1 HP2 HN0
  refine (unhide HD1).mono ?_
  rintro e w5 ⟨⟨r5, rfl⟩, hm5⟩
  obtain ⟨ws, hb5, hs5, e5, e6⟩ := unhide HF1 w5 hm5
  have HT5 : Hid (∀ W, Below w.heap.size w W → Tz W) := fun W hW => (HTZ.out).keep hW hG
  have HL5 := hide (list_calls hs5 (unhide HT5 w5 hb5))
  have HI : Hid (∀ w6 v1 w7 g2 gw2, Row w6 w5.heap.size 3 v1 (iV (allF f 0 ws)) → Below w5.heap.size w5 w6 → Sp w7 w6.heap.size g2 gw2 f t ws → Below w6.heap.size w6 w7 → Ap4 w w7 gW gs g g gw g2 gw2 f t ws ws v1 (allF f 0 ws) (.slice none 0 0) []) := fun w6 v1 w7 g2 gw2 hr hb6 hc7 hb7 => by
    have hbb : Below w5.heap.size w5 w7 := hb6.trans (hb7.mono hb6.size)
    have hc : Ch 0 (fun _ => False) w5 w7 := Ch.of_below hbb
    have hz : w.heap.size ≤ w6.heap.size := Nat.le_trans hb5.size hb6.size
    obtain ⟨_, _, _, q2⟩ := hs5.words
    have hlt := (Array.getElem?_eq_some_iff.1 q2).1
    have hge := hc7.words.1
    exact ⟨hb5.trans (hbb.mono hb5.size), hc.cells e5 id, hc.cells e6 id, hlo, hs5.below hbb, hc7.mono hz, by have := hb6.size; omega, (hr.below hb7).mono hb5.size, Row.nil _ _ _⟩
  have HC6 : Hid (∀ w6, Below w5.heap.size w5 w6 → Calls Tryd.prog 24 #[.pointer (some ⟨g, 0, none⟩)] w6 fun e w7 => ∃ g2 gw2, e = .returned (.pointer (some ⟨g2, 0, none⟩)) ∧ Hid (Sp w7 w6.heap.size g2 gw2 f t ws ∧ Below w6.heap.size w6 w7)) := fun w6 hb6 => (spCopy_calls (hs5.below hb6)).mono fun e w7 ⟨g2, gw2, e1, e2, _, e4⟩ => ⟨g2, gw2, e1, e2, e4⟩
  clear hm5 hs5 e5 e6 HF1 HD1 hb5
  go_wp2_with fail
  refine (unhide HL5).mono ?_
  rintro e w6 ⟨v1, rfl, hr6, hb6⟩
  obtain ⟨av1, cv1, hv1⟩ := hr6.shape
  rw [iV_len] at hv1
  obtain ⟨n1, hn1⟩ : ∃ n1, n1 = (allF f 0 ws).length := ⟨_, rfl⟩
  rw [← hn1] at hv1
  subst hv1
  have HN1 := hide hn1
  have HR6 := hide hr6
  have HB6 := hide hb6
  clear hr6 hb6 hn1
  go_wp2_with fail
  refine (unhide HC6 w6 HB6.out).mono ?_
  rintro e w7 ⟨g2, gw2, rfl, HS7⟩
  have HA7 := hide (unhide HI w6 _ w7 g2 gw2 HR6.out HB6.out (HS7.out).1 (HS7.out).2)
  clear HI HC6 HL5 HR6 HB6 HS7
  have HL8 := hide (list_calls (HA7.out).c (unhide HT5 w7 (HA7.out).bel))
  go_wp2_with fail
  refine (unhide HL8).mono ?_
  rintro e w8 ⟨v8, rfl, hr8, hb8⟩
  have HA8 := hide ((HA7.out).below hb8)
  have HS8 := hide (same_calls hr8 (HA8.out).r1)
  clear hr8 hb8 HL8 HA7
  go_wp2_with fail
  refine (unhide HS8).mono ?_
  rintro e w9 ⟨rfl, hb9⟩
  have HA9 := hide ((HA8.out).below hb9)
  have HF9 := hide (from_calls (HA9.out).c)
  clear hb9 HA8 HS8
  go_wp2_with fail
  refine (unhide HF9).mono ?_
  rintro e w10 ⟨rfl, hb10⟩
  have HA10 := hide ((HA9.out).below hb10)
  have HF10 := hide (to_calls (HA10.out).c)
  rw [← HTT.out] at HF10
  clear hb10 HA9 HF9
  go_wp2_with fail
  refine (unhide HF10).mono ?_
  rintro e w11 ⟨rfl, hb11⟩
  have HA11 := hide ((HA10.out).below hb11)
  have HF11 := hide (free_calls (HA11.out).c)
  rw [← freeN_allF f ws, ← HN1.out] at HF11
  clear hb11 HA10 HF10
  go_wp2_with fail
  refine (unhide HF11).mono ?_
  rintro e w12 ⟨rfl, hw12⟩
  obtain rfl := hw12.symm
  clear hw12 HF11
  have y1 := cell_of_row w11 gW 0 _ _ _ (HA11.out).blkW
  have y2 := cell_of_row w11 gs 0 _ _ _ (HA11.out).blkS
  have y3 := frozen_of_row w11 gs 0 _ _ (HA11.out).blkS
  simp only [List.getElem?_toArray, List.getElem?_cons_zero] at y1 y2
  have HA13 := hide ((HA11.out).store g2)
  have HD13 := hide (does_calls (HA13.out).bel HO.out HTZ.out (HA13.out).c (HA13.out).blkW (HA13.out).blkS)
  clear HA11
  go_wp2_with fail
  refine (unhide HD13).mono ?_
  rintro e w14 ⟨⟨r14, rfl⟩, hm14⟩
  obtain ⟨ws2, hA14⟩ := (HA13.out).moveC hm14
  have HA14 := hide hA14
  clear hA14 hm14 HD13 HA13 y1 y2 y3
  have HL14 := hide (list_calls (HA14.out).s (unhide HT5 w14 (HA14.out).bel))
  go_wp2_with fail
  refine (unhide HL14).mono ?_
  rintro e w15 ⟨v15, rfl, hr15, hb15⟩
  have HA15 := hide ((HA14.out).below hb15)
  have HS15 := hide (same_calls hr15 (HA15.out).r1)
  clear hr15 hb15 HL14 HA14
  go_wp2_with fail
  refine (unhide HS15).mono ?_
  rintro e w16 ⟨rfl, hb16⟩
  have HA16 := hide ((HA15.out).below hb16)
  have HF16 := hide (free_calls (HA16.out).s)
  rw [← freeN_allF f ws, ← HN1.out] at HF16
  clear hb16 HA15 HS15
  go_wp2_with fail
  refine (unhide HF16).mono ?_
  rintro e w17 ⟨rfl, hw17⟩
  obtain rfl := hw17.symm
  clear hw17 HF16
  have HL17 := hide (list_calls (HA16.out).c (unhide HT5 _ (HA16.out).bel))
  go_wp2_with fail
  refine (unhide HL17).mono ?_
  rintro e w18 ⟨v18, rfl, hr18, hb18⟩
  have HA18 := hide (((HA16.out).below hb18).set2 (hr18.mono (HA16.out).bel.size))
  clear hr18 hb18 HL17 HA16
  have y1 := cell_of_row w18 gW 0 _ _ _ (HA18.out).blkW
  have y2 := cell_of_row w18 gs 0 _ _ _ (HA18.out).blkS
  have y3 := frozen_of_row w18 gs 0 _ _ (HA18.out).blkS
  simp only [List.getElem?_toArray, List.getElem?_cons_zero] at y1 y2
  have HA19 := hide ((HA18.out).store g)
  have HD19 := hide (does_calls (HA19.out).bel HO.out HTZ.out (HA19.out).s (HA19.out).blkW (HA19.out).blkS)
  clear HA18
  go_wp2_with fail
  refine (unhide HD19).mono ?_
  rintro e w20 ⟨⟨r20, rfl⟩, hm20⟩
  obtain ⟨ws3, hA20⟩ := (HA19.out).moveS hm20
  have HA20 := hide hA20
  clear hA20 hm20 HD19 HA19 y1 y2 y3
  have HD20 := hide (does_calls (HA20.out).bel HA.out HTZ.out (HA20.out).s (HA20.out).blkW (HA20.out).blkS)
  go_wp2_with fail
  refine (unhide HD20).mono ?_
  rintro e w21 ⟨⟨r21, rfl⟩, hm21⟩
  obtain ⟨ws4, hA21⟩ := (HA20.out).moveS hm21
  have HA21 := hide hA21
  clear hA21 hm21 HD20 HA20
  have HL21 := hide (list_calls (HA21.out).c (unhide HT5 w21 (HA21.out).bel))
  go_wp2_with fail
  refine (unhide HL21).mono ?_
  rintro e w22 ⟨v22, rfl, hr22, hb22⟩
  have HA22 := hide ((HA21.out).below hb22)
  have HS22 := hide (same_calls hr22 (HA22.out).r2)
  clear hr22 hb22 HL21 HA21
  go_wp2_with fail
  refine (unhide HS22).mono ?_
  rintro e w23 ⟨rfl, hb23⟩
  have HA23 := hide ((HA22.out).below hb23)
  have HS23 := hide (started_calls (unhide HT5 w23 (HA23.out).bel))
  clear hb23 HA22 HS22
  go_wp2_with fail
  refine (unhide HS23).mono ?_
  rintro e w24 ⟨rfl, hb24⟩
  go_wp2
  go_ret
  exact ⟨rfl, ((HA23.out).bel).trans (hb24.mono (HA23.out).bel.size)⟩
end Go.Proofs.YtifmfnkpogconaaDoor

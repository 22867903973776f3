/- ChainAgain: the walk. -/
import Derived.Test.YtlofoklfggmbiaaDoorUB
import Derived.Test.YtlofoklfggmbiaaDoorUC
import Derived.Deep.DeepCutAuto
import Derived.Deep.CutRange
namespace Go.Proofs.YtlofoklfggmbiaaDoor
open Go.RowKit Go.Maps

section
variable {w W : World} {S p gl gm m g gw gk N : Nat} {V : Nat → Value} {D : AD} {ws : List Nat} {room rv bv : Value} {xs : List Int} {us : List Value} {C : List Chn}
theorem Ag.shape8 (h : Ag w W S p gl gm V D m g gw ws gk room xs N rv bv us C) : ∃ a c, rv = .slice a C.length c ∧ C.length ≤ c ∧ c ≤ 9223372036854775807 := by
 obtain ⟨a, c, h1, h2, h3⟩ := h.rr.shapeA
 rw [List.length_map] at h1 h2
 exact ⟨a, c, h1, h2, h3⟩
theorem Ag.shape9 (h : Ag w W S p gl gm V D m g gw ws gk room xs N rv bv us C) : ∃ a c, bv = .slice a C.length c ∧ C.length ≤ c ∧ c ≤ 9223372036854775807 := by
 have hl := h.ul
 rcases h.bb.2 with ⟨e, h1⟩ | ⟨g, cap, cur, e, hB, hg, hle, hm, _⟩
 · exact ⟨none, 0, by rw [e, ← hl, h1], by omega, by omega⟩
 · exact ⟨_, cap, by rw [e, hl], by omega, by simpa [maxLen] using hm⟩
theorem Ag.head9 {a9 : Option Addr} {n9 c9 : Nat} (h : Ag w W S p gl gm V D m g gw ws gk room xs N rv (.slice a9 n9 c9) us C) (h0 : 0 < C.length) : ∃ g9, a9 = some ⟨g9, 0, none⟩ := by
 have hl := h.ul
 rcases h.bb.2 with ⟨e, h1⟩ | ⟨g, cap, cur, e, _⟩
 · omega
 · injection e with e1 _ _
   exact ⟨g, e1⟩
end
/-- What stands behind so many chains. -/
def AgL (w W : World) (S p gl gm m g gw gk : Nat) (rv bv : Value) (n : Nat) : Prop := ∃ V D ws room xs N us C, Ag w W S p gl gm V D m g gw ws gk room xs N rv bv us C ∧ Chs D ws C ∧ C.length = n ∧ D.rd = 0
theorem IsBB.at {w : World} {la : Option Addr} {ln lc : Nat} {xss : List (List Int)} (h : IsBB w (.slice la ln lc) xss) {i : Nat} (hi : i < ln) : ∃ b off, la = some ⟨b, off, none⟩ ∧ ∃ a n c, w.cell? ⟨b, off + i, none⟩ = some (.slice a n c) ∧ IsB w (.slice a n c) (xss.getD i []) := by
 obtain ⟨a, cap, e, h1, h2, h3⟩ := h.val
 injection e with e1 e2 e3
 subst e1 e2 e3
 obtain ⟨b, off, q1, q2⟩ := h3 (by omega)
 obtain ⟨u, q3, q4⟩ := q2 i hi
 obtain ⟨a, n, c, rfl⟩ := q4.shape
 exact ⟨b, off, q1, a, n, c, q3, q4⟩
section
variable {w W W' : World} {S p gl gm m g gw gk N : Nat} {V : Nat → Value} {D : AD} {ws : List Nat} {room rv bv : Value} {xs : List Int} {us : List Value} {C : List Chn} {bs : List Int} {g2 R c k : Nat}
theorem Ag.argUp {vb : Value} (h : Ag w W S p gl gm V D m g gw ws gk room xs N rv bv us C) (hu : Up (fun b => b = gk ∨ room.ownBlock = some b) W W') (hb : IsB w vb bs) : IsB W' vb bs :=
 hb.below (by
  rw [h.sw]
  exact h.bel.trans (hu.below h.sz (fun b e => by
   rcases e with rfl | e
   · exact h.lo.2.2
   · exact (h.tyO e).2)))
theorem ag_lendA {vb : Value} (h : Ag w W S p gl gm V D m g gw ws gk room xs N rv bv us C) (hb : IsB w vb bs) (hl : bs.length ≤ 2000) :
 Calls Tryd.prog 33 #[.pointer (some ⟨gk, 0, none⟩), vb] W fun e w' => ∃ g2 R c, e = .returned (.slice (some ⟨g2, 0, none⟩) bs.length c) ∧ Hid (Ag w w' S p gl gm V D m g gw ws gk (.slice (some ⟨g2, 0, none⟩) R c) (lentL bs R) bs.length rv bv us C ∧ bs.length ≤ R ∧ Up (fun b => b = gk ∨ room.ownBlock = some b) W w') := ag_lend h (fun _ hu => h.argUp hu hb) hl
theorem as_begin {pw gn cn : Nat} {rw_ : Value} {ks : List Nat} {ys : List Int} (hb : Below W.heap.size W W') {W2 : World} (hW : Wr W p pw gn cn rw_ bs ks 0) (hf : ∀ x, Fw pw gn rw_ x → ¬ Ft p gl gm V x ∧ x ≠ gk ∧ x ≠ g2) (hl : S ≤ pw) (hu : Up (fun b => b = gk ∨ b = g2) W' W2) (h2 : Ag w W2 S p gl gm V D m g gw ws gk room ys N rv bv us C) : As w W2 S p gl gm V D m g gw ws gk room ys N rv bv us C pw gn cn rw_ bs ks 0 :=
 ⟨h2, (hW.up (F := fun _ => False) (Up.of_below hb) (fun _ _ h => h)).up hu (fun b hb e => by
   rcases e with e | e
   · exact (hf b hb).2.1 e
   · exact (hf b hb).2.2 e), fun x hx => (hf x hx).1, hl⟩
theorem As.cell36 {pw gn cn j : Nat} {rw_ : Value} {ks : List Nat} (h : As w W S p gl gm V D m g gw ws gk room xs N rv bv us C pw gn cn rw_ bs ks j) : cellN W ⟨pw, 36, none⟩ = j := by
 obtain ⟨_, _, _, _, hV36, _⟩ := writerV_cells (p := p) (shaOf_len bs) ((ks.getD 0 0 : Nat) : Int) (bs.length : Int) (.slice (some ⟨gn, 0, none⟩) ks.length cn) (j : Int) rw_
 unfold cellN
 rw [arr_cell h.wr.arr hV36]
 simp
end
theorem min_two (x : Nat) : ∃ y : Nat, (∀ w : World, (Builtin.min_ #[3, 3] 3 #[.int .i64 (x : Int), .int .i64 2000]).run Tryd.prog w = .ok (.int .i64 (y : Int)) w) ∧ y ≤ x ∧ y ≤ 2000 := by
 by_cases h : 2000 < x
 · exact ⟨2000, fun w => by simp [Builtin.min_, Builtin.min2]; omega, by omega, by omega⟩
 · exact ⟨x, fun w => by simp [Builtin.min_, Builtin.min2]; omega, by omega, by omega⟩
theorem IsB.capC {w : World} {a : Option Addr} {n c : Nat} {xs : List Int} (h : IsB w (.slice a n c) xs) : n ≤ c ∧ c ≤ 9223372036854775807 := by
 obtain ⟨_, a', c', hv, h1, h2, _⟩ := h
 injection hv with e1 e2 e3
 subst e3
 omega
set_option maxRecDepth 100000 in
set_option maxHeartbeats 80000000 in
theorem again_walk {w : World} {la : Option Addr} {ln lc : Nat} {xss : List (List Int)} (hl : IsBB w (.slice la ln lc) xss) (hT : TT w) :
 Calls Tryd.prog 6 #[.slice la ln lc] w fun e w' => e = .returned (.bool true) ∧ Below w.heap.size w w' := by
 have HND := hide (new_calls (w := w) (n := 400) (by omega) (by omega))
 have HNS : Hid (∀ W, Calls Tryd.prog 29 #[.int .i64 3, .int .i64 400] W fun e w' => ∃ g gw, e = .returned (.tuple #[.pointer (some ⟨g, 0, none⟩), .int .i64 0]) ∧ Sp w' W.heap.size g gw 3 400 (newW (400 - 3)) ∧ W.heap.size ≤ g ∧ Below W.heap.size W w') := hide (fun W => spNew_calls (w := W) 3 400 (by omega) (by omega))
 have HNUM := hide (fun n W => num6_calls n W)
 have HT := hide hT
 have HL := hide hl
 clear hl hT
 go_enter Tryd.func6, Tryd.ntmps6
 go_wp2_with fail
 refine (unhide HND).mono ?_
 rintro e w1 ⟨p, gl, gm, V, rfl, hD1, hp1, hgl1, hgm1, hV1, hb1⟩
 have HF1 : Hid (∀ x, Ft p gl gm V x → w.heap.size ≤ x) := hide (fun x hx => by
  rcases hx with rfl | rfl | rfl | ⟨i, hi⟩
  · exact hp1
  · exact hgl1
  · exact hgm1
  · rw [hV1 i] at hi; simp [Value.ownBlock] at hi)
 have HD1 := hide hD1
 have HB1 := hide hb1
 clear hD1 hb1 HND hp1 hgl1 hgm1 hV1
 go_wp2_with fail
 refine (unhide HNS w1).mono ?_
 rintro e w2 ⟨g, gw, rfl, hS2, hg2, hb2⟩
 have HS2 := hide hS2
 have HG2 := hide (And.intro hg2 hb2)
 clear HNS hS2 hg2 hb2
 obtain ⟨S, hS⟩ : ∃ S, w.heap.size = S := ⟨_, rfl⟩
 have HS := hide hS
 obtain ⟨m, hm⟩ : ∃ m, w1.heap.size = m := ⟨_, rfl⟩
 obtain ⟨gk, hgk⟩ : ∃ gk, w2.heap.size = gk := ⟨_, rfl⟩
 have HAG : Hid (AgL w (w2.alloc (.cells #[.slice none 0 0, .int .i64 0] 85)) S p gl gm m g gw gk (.slice none 0 0) (.slice none 0 0) 0) := hide (by
  obtain ⟨q1, q2⟩ := HG2.out
  have hSp := HS2.out
  rw [hm] at hSp
  have b1 := HB1.out
  have b2 : Below w2.heap.size w2 (w2.alloc (.cells #[.slice none 0 0, .int .i64 0] 85)) := (Below.refl _ _).alloc (Nat.le_refl _) _
  have hA := Arr.new w2 [.slice none 0 0, .int .i64 0] 85
  rw [hgk] at hA
  have s1 := b1.size
  have s2 := q2.size
  obtain ⟨_, q3, _⟩ := hSp.cellsG
  refine ⟨V, zeroD 400, newW (400 - 3), .slice none 0 0, [], 0, [], [], ⟨(HD1.out.below q2).below b2, hSp.below b2, ⟨hA, ⟨World.ownsRow_nil _ _ _ _, by simp⟩, Nat.le_refl _, by simp⟩, OwnR.nil _ _, World.ownsRow_nil _ _ _ _, rfl, fun i c h => by simp at h, fun b hb => by rw [← hS]; exact HF1.out b hb, ⟨by omega, by omega, by omega⟩, HT.out, ?_, hS⟩, Chs.zero hSp, rfl, rfl⟩
  rw [← hS]
  exact below_then (below_then b1 q2) b2)
 clear HS2 HG2 HD1 HB1 HF1 hS
 go_wp2_with (first
  | (go_at_call 10; refine (unhide HNUM _ _).mono ?_; rintro e wn ⟨rfl, hwn⟩; obtain rfl := hwn.symm; clear hwn))
 generalize w2.alloc _ = w3 at HAG ⊢
 clear hgk hm
 go_loopw [8, 9, 10] (fun rvv bvv iv W => ∃ (i : Nat), i ≤ 12 ∧ i ≤ ln ∧ iv = .int .i64 (i : Int) ∧ Hid (AgL w W S p gl gm m g gw gk rvv bvv (2 * i))) (fun _ _ iv _ => 12 - (intOf iv).toNat)
 case atStart => exact ⟨0, by omega, by omega, rfl, HAG⟩
 case round =>
  clear HAG
  obtain ⟨i, hi, hiL, rfl, HI⟩ := hrel
  by_cases hlt : i < ln ∧ i < 12
  · obtain ⟨hlt1, hlt2⟩ := hlt
    have hl1i : (i : Int) < (ln : Int) := by omega
    have hl2i : (i : Int) < 12 := by omega
    obtain ⟨V, D, ws, room, xs, N, us, C, hAG, hCH, hCL, hRD⟩ := HI.out
    have HRD := hide hRD
    clear hRD
    obtain ⟨b0, off, rfl, a, n, c, hcl, hB⟩ := HL.out.at hlt1
    have hcr : wr.cell? ⟨b0, off + i, none⟩ = some (.slice a n c) := by
     rw [hAG.bel.cell (p := ⟨b0, off + i, none⟩) (by have := World.block_lt_of_cell? _ _ hcl; rw [HS.out] at this; exact this)]
     exact hcl
    have hBl := hB.lenEq
    obtain ⟨hnc, hc9⟩ := hB.capC
    obtain ⟨mn, hmin, hmn1, hmn2⟩ := min_two n
    obtain ⟨xa, hxa⟩ : ∃ xa, subA a c 0 = xa := ⟨_, rfl⟩
    obtain ⟨bs, hbs⟩ : ∃ bs, (xss.getD i []).take mn = bs := ⟨_, rfl⟩
    have hslc : ∀ W : World, (Instr.sliceAt 26 (.slice a n c) none (some (.int .i64 (mn : Int))) none).run Tryd.prog W = .ok (.slice xa mn c) W := fun W => by rw [← hxa]; exact slice_h a n c mn (by omega) W
    have hbI : IsB w (.slice xa mn c) bs := by
     have q := hB.sub (q := 0) (t := mn) (by omega) (by omega)
     rw [List.drop_zero, Nat.sub_zero, Nat.sub_zero, hxa, hbs] at q
     exact q
    have HBI := hide hbI
    have HMN : Hid (mn = bs.length) := hide hbI.lenEq
    have HAG := hide hAG
    have HCH := hide hCH
    have HCL := hide hCL
    clear HI hB hBl hbI hxa hbs hcl hAG hCH hCL
    go_wp2_with fail
    go_region
    have HAG1 := hide (HAG.out.below (Below.drew (Below.refl _ _)))
    generalize wr.drew = w4 at HAG1 ⊢
    clear HAG hcr hslc hmin hnc hc9 hmn1
    obtain ⟨k, hk, hk1, hk5⟩ := secN_few hmn2
    rw [HMN.out] at hk
    have HKS := hide hk
    have HC24 : Hid (C.length ≤ 24) := hide (by have := HCL.out; omega)
    have HBL : Hid (bs.length ≤ 2000) := hide (by have := HMN.out; omega)
    clear hk
    go_wp2_with fail
    refine (ag_lendA HAG1.out HBI.out HBL.out).mono ?_
    rintro e w5 ⟨g2, R, c2, rfl, H5⟩
    clear HAG1
    go_wp2_with fail
    refine (ag_newW H5.out.1 HCH.out HC24.out H5.out.2.1 HBL.out HKS.out hk5).mono ?_
    rintro e w6 ⟨pw, gn, cn, rw_, rfl, H6⟩
    have HR5 := hide H5.out.2.1
    clear H5
    go_wp2_with (first
     | (go_at_call 10; refine (unhide HNUM _ _).mono ?_; rintro e wn ⟨rfl, hwn⟩; obtain rfl := hwn.symm; clear hwn))
    refine (ag_back H6.out.1 HR5.out (H6.out.1.arg HBI.out)).mono ?_
    rintro e w7 ⟨rfl, hb7⟩
    have HB7 := hide hb7
    clear hb7
    go_wp2_with fail
    refine (ag_wipe (H6.out.1.below HB7.out)).mono ?_
    rintro e w8 ⟨⟨r8, rfl⟩, H8⟩
    obtain ⟨ks, hks⟩ : ∃ ks, (allF 3 0 ws).take k = ks := ⟨_, rfl⟩
    have HKL : Hid (ks.length = k) := hide (by rw [← hks]; exact Ag.take_len HCH.out HC24.out hk5)
    have HAS : Hid (∃ ys, As w w8 S p gl gm V D m g gw (claimAll 3 400 ws ks) gk (.slice (some ⟨g2, 0, none⟩) R c2) ys bs.length u8 u9 us C pw gn cn rw_ bs ks 0) := hide (by
     obtain ⟨⟨ys, q1⟩, q2⟩ := H8.out
     obtain ⟨_, q4, q5, _, q7⟩ := H6.out
     rw [hks] at q1 q4
     exact ⟨ys, as_begin HB7.out q4 q5 q7 q2 q1⟩)
    have HAF : Hid (allF 3 0 (claimAll 3 400 ws ks) = (allF 3 0 ws).drop k) := hide (by have q := H6.out.2.2.2.1; rw [hks] at q; exact q)
    have HKK := hide hks
    clear H6 H8 HB7 hks
    go_wp2_with fail
    go_loopw [14] (fun dv W => ∃ (j : Nat), j ≤ k ∧ dv = .bool (decide (j = k)) ∧ Hid (∃ ys rw' V', As w W S p gl gm V' D m g gw (claimAll 3 400 ws ks) gk (.slice (some ⟨g2, 0, none⟩) R c2) ys bs.length u8 u9 us C pw gn cn rw' bs ks j)) (fun _ W => k - cellN W ⟨pw, 36, none⟩)
    case atStart =>
     refine ⟨0, by omega, by rw [decide_eq_false (by omega)], hide ?_⟩
     obtain ⟨ys, q⟩ := HAS.out
     exact ⟨ys, _, _, q⟩
    case round =>
     clear HAS
     obtain ⟨j, hj, rfl, HJ⟩ := hrel
     by_cases hjk : j = k
     · have hdj : decide (j = k) = true := decide_eq_true hjk
       rw [hdj]
       obtain ⟨D1, hD1⟩ : ∃ D1, putAll D bs ks k = D1 := ⟨_, rfl⟩
       obtain ⟨ws1, hws1⟩ : ∃ ws1, claimAll 3 400 ws ks = ws1 := ⟨_, rfl⟩
       have HCH1 : Hid (Chs D1 ws1 (C ++ [(bs, ks)]) ∧ (C ++ [(bs, ks)]).length ≤ 24) := hide (by
        have q := HCH.out.add HBL.out HBI.out.mem HKS.out (by have := HCL.out; omega) HAF.out
        rw [HKK.out, hD1, hws1] at q
        exact ⟨q, by rw [List.length_append, List.length_singleton]; have := HCL.out; omega⟩)
       have HRD1 : Hid (D1.rd = 0) := hide (by rw [← hD1, putAll_rd]; exact HRD.out)
       obtain ⟨ys, rw', V', q⟩ := HJ.out
       rw [hjk] at q
       have HWB : Hid (Wb wr p pw (shaOf bs) ((ks.getD 0 0 : Nat) : Int) (bs.length : Int)) := hide ⟨_, _, _, q.wr.arr⟩
       have hag := q.ag
       rw [hD1, hws1] at hag
       have HA1 := hide hag
       have HLP := hide q.lo
       clear q hag HJ hdj hjk hj hD1 hws1 HAF
       go_wp2_with fail
       refine (ag_lendA HA1.out HBI.out HBL.out).mono ?_
       rintro e wa ⟨g3, R3, c3, rfl, Ha⟩
       have HWBa := hide (HWB.out.up Ha.out.2.2 (HA1.out.deskF HWB.out.ty (by decide) (by decide)))
       clear HA1 HWB
       go_wp2_with fail
       refine (ag_put Ha.out.1 HCH1.out.1 HCH1.out.2 Ha.out.2.1 HBL.out HKS.out hk5).mono ?_
       rintro e wb ⟨g4, c4, V4, rfl, Hb⟩
       have HR3 := hide Ha.out.2.1
       obtain ⟨ks2, hks2⟩ : ∃ ks2, (allF 3 0 ws1).take k = ks2 := ⟨_, rfl⟩
       obtain ⟨D2, hD2⟩ : ∃ D2, putAll D1 bs ks2 k = D2 := ⟨_, rfl⟩
       obtain ⟨ws2, hws2⟩ : ∃ ws2, claimAll 3 400 ws1 ks2 = ws2 := ⟨_, rfl⟩
       obtain ⟨q1, q2, q3⟩ := Hb.out
       have HWBb := hide (HWBa.out.up q3 (fun e => by
        rcases e with e | e
        · exact absurd (HWBa.out.ty.one (e ▸ Ha.out.1.tyG.2)) (by decide)
        · exact Ha.out.1.diskF HWBa.out.ty (by decide) (by decide) e))
       have HCH2 : Hid (Chs D2 ws2 (C ++ [(bs, ks)] ++ [(bs, ks2)])) := hide (by
        rw [hks2] at q2
        have z := HCH1.out.1.add HBL.out HBI.out.mem HKS.out (by rw [List.length_append, List.length_singleton]; have := HCL.out; omega) q2
        rw [hks2, hD2, hws2] at z
        exact z)
       have HRD2 : Hid (D2.rd = 0) := hide (by rw [← hD2, putAll_rd]; exact HRD1.out)
       rw [hks2, hD2, hws2] at q1
       have HAb := hide q1
       have hsl := shaOf_len bs
       obtain ⟨rV, hrV⟩ : ∃ rV, refV (shaOf bs) ((ks2.getD 0 0 : Nat) : Int) (bs.length : Int) = rV := ⟨_, rfl⟩
       have hiR : (Tryd.prog.info? 34).map (·.size) = some rV.length := by rw [← hrV]; exact infoRef hsl _ _
       have hzl : zRef.length = rV.length := by rw [← hrV, refV_len hsl]; rfl
       have h1R : ∀ u ∈ rV, u.oneCell' = true := by rw [← hrV]; exact refV_one _ _ _
       obtain ⟨gW, hgW⟩ : ∃ gW, wb.heap.size = gW := ⟨_, rfl⟩
       obtain ⟨wc, hwc⟩ : ∃ wc, wb.alloc (.cells zRef.toArray 34) = wc := ⟨_, rfl⟩
       have hAc : Arr wc gW 34 zRef := by rw [← hwc, ← hgW]; exact Arr.new wb _ _
       have HBc : Hid (Below gW wb wc) := hide (by rw [← hwc, ← hgW]; exact (Below.refl _ _).alloc (Nat.le_refl _) _)
       have HWC := hide hwc
       have HGW := hide hgW
       have HRV := hide hrV
       rw [hks2, hrV]
       clear Ha Hb HWBa HCH1 HCH q1 q2 q3 hks2 hD2 hws2 hsl hrV hgW hwc
       go_wp2_with (first
        | (refine wpList_allocRef rfl rfl ?_; rw [HWC.out, HGW.out])
        | (refine wpList_storeArr2 (cs' := rV) rfl (.tmp 15) (.tmp 111) 34 rfl rfl rfl hAc hiR hzl h1R ?_; intro wd hAd hWrd
           have hbd : Below wb.heap.size wb wd := (by rw [HGW.out]; exact hWrd.below _ _ HBc.out (Nat.le_refl _))
           have HAd := hide hAd
           have HBd := hide hbd
           clear hAd hWrd hbd hAc))
       obtain ⟨KV, hKV⟩ : ∃ KV, (shaOf bs).map (Value.int .u8) = KV := ⟨_, rfl⟩
       obtain ⟨BL, hBL⟩ : ∃ BL : Int, (bs.length : Int) = BL := ⟨_, rfl⟩
       obtain ⟨RW, hRW⟩ : ∃ RW, refV (shaOf bs) ((ks.getD 0 0 : Nat) : Int) (bs.length : Int) = RW := ⟨_, rfl⟩
       have hiK : (Tryd.prog.info? 32).map (·.size) = some KV.length := by rw [← hKV, List.length_map, shaOf_len]; exact infoK6
       have hfld : ∀ W : World, (Instr.field 34 (.agg RW.toArray) 0).run Tryd.prog W = .ok (.agg KV.toArray) W := fun W => by rw [← hRW, ← hKV]; exact fieldHash_run (shaOf_len bs) _ _ W
       have hkn : ∀ W : World, (binOp .neq 32 (.agg KV.toArray) (.agg KV.toArray)).run Tryd.prog W = .ok (.bool false) W := fun W => by
        rw [← hKV, key_neq _ _ (shaOf_len bs) (shaOf_len bs), decide_eq_true rfl]
        rfl
       have hkg := key_guard
       have hbm : (BL != (mn : Int)) = false := by rw [← hBL, HMN.out]; simp
       have HS20 : Hid (∀ W, Below wd.heap.size wd W → W.rangeAt gW 0 KV ∧ W.cell? ⟨gW, 33, none⟩ = some (.int .i64 BL)) := hide (fun W hW => by
        have z := HAd.out.below hW
        rw [← HRV.out] at z
        refine ⟨arr_range (ds := [.int .i64 ((ks2.getD 0 0 : Nat) : Int), .int .i64 (bs.length : Int)]) (by rw [← hKV]; exact z), ?_⟩
        rw [← hBL]
        exact arr_cell z (refV_33 (shaOf_len bs) _ _))
       have HAGd := hide (HAb.out.below HBd.out)
       have HWBd := hide (HWBb.out.up (F := fun _ => False) (Up.of_below HBd.out) (fun h => h))
       have HBK20 : Hid (∀ W, Below wd.heap.size wd W → Calls Tryd.prog 34 #[.pointer (some ⟨gk, 0, none⟩), .slice xa mn c] W fun e w' => e = .returned (.bool true) ∧ Below W.heap.size W w') := hide (fun W hW => ag_back (HAGd.out.below hW) HR3.out ((HAGd.out.below hW).arg HBI.out))
       have HRFg : Hid (∀ W, Wb W p pw (shaOf bs) ((ks.getD 0 0 : Nat) : Int) (bs.length : Int) → Calls Tryd.prog 31 #[.pointer (some ⟨pw, 0, none⟩)] W fun e w' => e = .returned (.agg RW.toArray) ∧ Below W.heap.size W w') := hide (fun W hW => by
        obtain ⟨_, _, _, z⟩ := hW
        rw [← hRW]
        exact wref_calls (shaOf_len bs) (writer_ref z))
       have HRF20 : Hid (∀ W, Below wd.heap.size wd W → Calls Tryd.prog 31 #[.pointer (some ⟨pw, 0, none⟩)] W fun e w' => e = .returned (.agg RW.toArray) ∧ Below W.heap.size W w') := hide (fun W hW => unhide HRFg W (HWBd.out.up (F := fun _ => False) (Up.of_below hW) (fun h => h)))
       have HRW := hide hRW
       clear hKV hBL hRW HBc HWC hzl h1R
       have hz0 : Below wd.heap.size wd wd.drew := (Below.refl _ _).drew
       refine wp_region_held_drew (S := fun W => W.rangeAt gW 0 KV ∧ W.cell? ⟨gW, 33, none⟩ = some (.int .i64 BL)) (by kernel_rfl) (unhide HS20 _ hz0) (fun hHeld => ?_)
       refine wpAnyH_take (i := 0) (v := .int .i64 0) rfl (by kernel_rfl) (by kernel_rfl) (by kernel_rfl) (fun _ _ _ h => h) (Or.inl ⟨by rfl, fun w hSw => by obtain ⟨hS1, hS2⟩ := hSw; go_simp⟩) (by assumption) ?_
       simp only [fGa, fGz, Act.put, fSa, fSz, fSs]
       refine wpAnyH_ready (rs := [1]) (by kernel_rfl) (by simp) (AllReadyH.cons rfl (fun K hK => ?_) AllReadyH.nil)
       refine step_call1C (by rfl) 10 num6_enter (.tmp 114) _ rfl rfl (num6_calls 0 _) ?_
       rintro e wn ⟨rfl, hwn⟩
       obtain rfl := hwn.symm
       clear hwn
       refine ⟨_, rfl, ?_⟩
       refine hK.out _ _ (unhide HS20 _ hz0) (fun hJ0 => ?_)
       clear hK K
       simp only [fGa, fGs, fGz, Act.put, fSa, fSz, fSs]
       refine wpAnyH_take (i := 2) (v := .bool false) rfl (by kernel_rfl) (by kernel_rfl) (by kernel_rfl) (fun _ _ _ h => h) (Or.inl ⟨by rfl, fun w hSw => by obtain ⟨hS1, hS2⟩ := hSw; go_simp⟩) (by assumption) ?_
       simp only [fGa, fGs, fGz, Act.put, fSa, fSz, fSs]
       refine wpAnyH_take (i := 3) (v := .bool false) rfl (by kernel_rfl) (by kernel_rfl) (by kernel_rfl) (fun _ _ _ h => h) (Or.inl ⟨by rfl, fun w hSw => by obtain ⟨hS1, hS2⟩ := hSw; go_simp⟩) (by assumption) ?_
       simp only [fGa, fGs, fGz, Act.put, fSa, fSz, fSs]
       refine wpAnyH_take (i := 4) (v := .pointer (some ⟨gk, 0, none⟩)) rfl (by kernel_rfl) (by kernel_rfl) (by kernel_rfl) (fun _ _ _ h => h) (Or.inl ⟨by rfl, fun w hSw => by obtain ⟨hS1, hS2⟩ := hSw; go_simp⟩) (by assumption) ?_
       simp only [fGa, fGs, fGz, Act.put, fSa, fSz, fSs]
       refine wpAnyH_take (i := 5) (v := .slice (xa) mn c) rfl (by kernel_rfl) (by kernel_rfl) (by kernel_rfl) (fun _ _ _ h => h) (Or.inl ⟨by rfl, fun w hSw => by obtain ⟨hS1, hS2⟩ := hSw; go_simp⟩) (by assumption) ?_
       simp only [fGa, fGs, fGz, Act.put, fSa, fSz, fSs]
       refine wpAnyH_ready (rs := [6]) (by kernel_rfl) (by simp) (AllReadyH.cons rfl (fun K hK => ?_) AllReadyH.nil)
       refine step_call2GC (by rfl) 34 desk_back_enter (.tmp 118) (.tmp 119) _ rfl rfl rfl (unhide HBK20 _ hz0) ?_
       rintro e we ⟨rfl, hbe⟩
       have hz1 : Below wd.heap.size wd we := hz0.trans (hbe.mono hz0.size)
       refine ⟨_, rfl, ?_⟩
       refine hK.out _ _ (unhide HS20 _ hz1) (fun hJ1 => ?_)
       clear hK K
       simp only [fGa, fGs, fGz, Act.put, fSa, fSz, fSs]
       refine wpAnyH_take (i := 7) (v := .bool false) rfl (by kernel_rfl) (by kernel_rfl) (by kernel_rfl) (fun _ _ _ h => h) (Or.inl ⟨by rfl, fun w hSw => by obtain ⟨hS1, hS2⟩ := hSw; go_simp⟩) (by assumption) ?_
       simp only [fGa, fGs, fGz, Act.put, fSa, fSz, fSs]
       refine wpAnyH_take (i := 8) (v := .bool false) rfl (by kernel_rfl) (by kernel_rfl) (by kernel_rfl) (fun _ _ _ h => h) (Or.inl ⟨by rfl, fun w hSw => by obtain ⟨hS1, hS2⟩ := hSw; go_simp⟩) (by assumption) ?_
       simp only [fGa, fGs, fGz, Act.put, fSa, fSz, fSs]
       refine wpAnyH_take (i := 9) (v := .bool false) rfl (by kernel_rfl) (by kernel_rfl) (by kernel_rfl) (fun _ _ _ h => h) (Or.inl ⟨by rfl, fun w hSw => by obtain ⟨hS1, hS2⟩ := hSw; go_simp⟩) (by assumption) ?_
       simp only [fGa, fGs, fGz, Act.put, fSa, fSz, fSs]
       refine wpAnyH_take (i := 10) (v := .pointer (some ⟨gW, 0, none⟩)) rfl (by kernel_rfl) (by kernel_rfl) (by kernel_rfl) (fun _ _ _ h => h) (Or.inl ⟨by rfl, fun w hSw => by obtain ⟨hS1, hS2⟩ := hSw; go_simp⟩) (by assumption) ?_
       simp only [fGa, fGs, fGz, Act.put, fSa, fSz, fSs]
       refine wpAnyH_take (i := 11) (v := .agg (KV).toArray) rfl (by kernel_rfl) (by kernel_rfl) (by kernel_rfl) (fun _ _ _ h => h) (yieldsIf_load_mid (by rfl) _ _ rfl _ _ rfl _ _ (fun w hSw => hSw.1) Tryd.underlying32 rfl hiK) (by assumption) ?_
       simp only [fGa, fGs, fGz, Act.put, fSa, fSz, fSs]
       refine wpAnyH_take (i := 12) (v := .pointer (some ⟨pw, 0, none⟩)) rfl (by kernel_rfl) (by kernel_rfl) (by kernel_rfl) (fun _ _ _ h => h) (Or.inl ⟨by rfl, fun w hSw => by obtain ⟨hS1, hS2⟩ := hSw; go_simp⟩) (by assumption) ?_
       simp only [fGa, fGs, fGz, Act.put, fSa, fSz, fSs]
       refine wpAnyH_ready (rs := [13]) (by kernel_rfl) (by simp) (AllReadyH.cons rfl (fun K hK => ?_) AllReadyH.nil)
       refine step_call1GC (by rfl) 31 rref_enter (.tmp 126) _ rfl rfl (unhide HRF20 _ hz1) ?_
       rintro e wf ⟨rfl, hbf⟩
       have hz2 : Below wd.heap.size wd wf := hz1.trans (hbf.mono hz1.size)
       refine ⟨_, rfl, ?_⟩
       refine hK.out _ _ (unhide HS20 _ hz2) (fun hJ2 => ?_)
       clear hK K
       simp only [fGa, fGs, fGz, Act.put, fSa, fSz, fSs]
       refine wpAnyH_take (i := 14) (v := .agg KV.toArray) rfl (by kernel_rfl) (by kernel_rfl) (by kernel_rfl) (fun _ _ _ h => h) (Or.inl ⟨by rfl, fun w hSw => by obtain ⟨hS1, hS2⟩ := hSw; go_simp⟩) (by assumption) ?_
       simp only [fGa, fGs, fGz, Act.put, fSa, fSz, fSs]
       refine wpAnyH_take (i := 15) (v := .bool false) rfl (by kernel_rfl) (by kernel_rfl) (by kernel_rfl) (fun _ _ _ h => h) (Or.inl ⟨by rfl, fun w hSw => by obtain ⟨hS1, hS2⟩ := hSw; go_simp⟩) (by assumption) ?_
       simp only [fGa, fGs, fGz, Act.put, fSa, fSz, fSs]
       refine wpAnyH_take (i := 16) (v := .bool false) rfl (by kernel_rfl) (by kernel_rfl) (by kernel_rfl) (fun _ _ _ h => h) (Or.inl ⟨by rfl, fun w hSw => by obtain ⟨hS1, hS2⟩ := hSw; go_simp⟩) (by assumption) ?_
       simp only [fGa, fGs, fGz, Act.put, fSa, fSz, fSs]
       refine wpAnyH_take (i := 17) (v := .bool false) rfl (by kernel_rfl) (by kernel_rfl) (by kernel_rfl) (fun _ _ _ h => h) (Or.inl ⟨by rfl, fun w hSw => by obtain ⟨hS1, hS2⟩ := hSw; go_simp⟩) (by assumption) ?_
       simp only [fGa, fGs, fGz, Act.put, fSa, fSz, fSs]
       refine wpAnyH_take (i := 18) (v := .pointer (some ⟨gW, 33, none⟩)) rfl (by kernel_rfl) (by kernel_rfl) (by kernel_rfl) (fun _ _ _ h => h) (Or.inl ⟨by rfl, fun w hSw => by obtain ⟨hS1, hS2⟩ := hSw; go_simp⟩) (by assumption) ?_
       simp only [fGa, fGs, fGz, Act.put, fSa, fSz, fSs]
       refine wpAnyH_take (i := 19) (v := .int .i64 BL) rfl (by kernel_rfl) (by kernel_rfl) (by kernel_rfl) (fun _ _ _ h => h) (Or.inl ⟨by rfl, fun w hSw => by obtain ⟨hS1, hS2⟩ := hSw; go_simp⟩) (by assumption) ?_
       simp only [fGa, fGs, fGz, Act.put, fSa, fSz, fSs]
       refine wpAnyH_take (i := 20) (v := .slice (xa) mn c) rfl (by kernel_rfl) (by kernel_rfl) (by kernel_rfl) (fun _ _ _ h => h) (Or.inl ⟨by rfl, fun w hSw => by obtain ⟨hS1, hS2⟩ := hSw; go_simp⟩) (by assumption) ?_
       simp only [fGa, fGs, fGz, Act.put, fSa, fSz, fSs]
       refine wpAnyH_take (i := 21) (v := .int .i64 (mn : Int)) rfl (by kernel_rfl) (by kernel_rfl) (by kernel_rfl) (fun _ _ _ h => h) (Or.inl ⟨by rfl, fun w hSw => by obtain ⟨hS1, hS2⟩ := hSw; go_simp⟩) (by assumption) ?_
       simp only [fGa, fGs, fGz, Act.put, fSa, fSz, fSs]
       refine wpAnyH_take (i := 22) (v := .bool false) rfl (by kernel_rfl) (by kernel_rfl) (by kernel_rfl) (fun _ _ _ h => h) (Or.inl ⟨by rfl, fun w hSw => by obtain ⟨hS1, hS2⟩ := hSw; go_simp⟩) (by assumption) ?_
       simp only [fGa, fGs, fGz, Act.put, fSa, fSz, fSs]
       refine wpAnyH_take (i := 23) (v := .bool false) rfl (by kernel_rfl) (by kernel_rfl) (by kernel_rfl) (fun _ _ _ h => h) (Or.inl ⟨by rfl, fun w hSw => by obtain ⟨hS1, hS2⟩ := hSw; go_simp⟩) (by assumption) ?_
       simp only [fGa, fGs, fGz, Act.put, fSa, fSz, fSs]
       refine wpAnyH_done (by kernel_rfl) ?_ _
       clear hHeld hJ0 hJ1 hJ2 hfld hkn hkg hbm hiK HS20 HBK20 HRF20
       have HAGf := hide (HAGd.out.below hz2)
       have HWBf := hide (HWBd.out.up (F := fun _ => False) (Up.of_below hz2) (fun h => h))
       have HAf := hide (HAd.out.below hz2)
       have HSZf : Hid (wb.heap.size ≤ gW) := hide (by have := HGW.out; omega)
       have HRBf : Hid (∀ b, (u8 : Value).ownBlock = some b → b < wb.heap.size) := hide (fun b hb => (HAb.out.rr.ty hb).1.lt)
       clear HAGd HWBd HAd HAb HWBb HBd hz0 hz1 hz2 hbe hbf
       go_wp2_with fail
       refine (ag_wipe HAGf.out).mono ?_
       rintro e wh ⟨⟨rh, rfl⟩, Hh⟩
       obtain ⟨⟨ys2, z1⟩, z2⟩ := Hh.out
       have hdk : ∀ {b : Nat} {t : TypeId}, Ty wf b t → t ≠ 85 → t ≠ 5 → ¬ (b = gk ∨ b = g3) := fun hb q1 q2 e => HAGf.out.deskF hb q1 q2 (e.imp id (fun e => by rw [e]; rfl))
       have HAGh := hide z1
       have HWBh := hide (HWBf.out.up z2 (hdk HWBf.out.ty (by decide) (by decide)))
       have HAh := hide (HAf.out.up z2 (hdk HAf.out.ty (by decide) (by decide)))
       have HSZ := hide z1.sz
       have HS23 : Hid (∀ W, Below wh.heap.size wh W → W.rangeAt gW 0 rV) := hide (fun W hW => arr_range (ds := []) (by rw [List.append_nil]; exact HAh.out.below hW))
       have HS23G : Hid (∀ W W', Below wh.heap.size wh W → W.grownBy W' (u8 : Value).ownBlock → W'.rangeAt gW 0 rV) := hide (fun W W' hW hG => arr_range (ds := []) (by
        rw [List.append_nil]
        exact (HAh.out.below hW).up (up_own hG) (fun e => by have := HRBf.out gW e; have := HSZf.out; omega)))
       have HRF23 : Hid (∀ W, Below wh.heap.size wh W → Calls Tryd.prog 31 #[.pointer (some ⟨pw, 0, none⟩)] W fun e w' => e = .returned (.agg RW.toArray) ∧ Below W.heap.size W w') := hide (fun W hW => unhide HRFg W (HWBh.out.up (F := fun _ => False) (Up.of_below hW) (fun h => h)))
       have HOR : Hid (∀ W, Below wh.heap.size wh W → OwnR W S u8 (C.map refOf)) := hide (fun W hW => (HAGh.out.below hW).rr)
       have HRWU : Hid (∀ W W', Below wh.heap.size wh W → W.grownBy W' (u8 : Value).ownBlock → Row W' S 26 u9 us) := hide (fun W W' hW hG => by
        have q := HAGh.out.below hW
        exact owns_up q.bb (up_own hG) (fun b hb e => absurd ((q.tyB hb).1.one (q.rr.ty e).1) (by decide)))
       clear Hh z1 z2 hdk HAGf HWBf HAf HWBh HAh HRFg
       go_wp2_with fail
       have hx0 : Below wh.heap.size wh wh.drew := (Below.refl _ _).drew
       refine wp_region_held_drew (S := fun W => W.rangeAt gW 0 rV) (by kernel_rfl) (unhide HS23 _ hx0) (fun hHeld => ?_)
       refine wpAnyH_take (i := 0) (v := u8) rfl (by kernel_rfl) (by kernel_rfl) (by kernel_rfl) (fun _ _ _ h => h) (Or.inl ⟨by rfl, fun w hSw => by go_simp⟩) (by assumption) ?_
       simp only [fGa, fGz, Act.put, fSa, fSz, fSs]
       refine wpAnyH_take (i := 1) (v := .pointer (some ⟨pw, 0, none⟩)) rfl (by kernel_rfl) (by kernel_rfl) (by kernel_rfl) (fun _ _ _ h => h) (Or.inl ⟨by rfl, fun w hSw => by go_simp⟩) (by assumption) ?_
       simp only [fGa, fGs, fGz, Act.put, fSa, fSz, fSs]
       refine wpAnyH_take (i := 3) (v := .agg (rV).toArray) rfl (by kernel_rfl) (by kernel_rfl) (by kernel_rfl) (fun _ _ _ h => h) (yieldsIf_load_mid (by rfl) _ _ rfl _ _ rfl _ _ (fun w hSw => hSw) Tryd.underlying34 rfl hiR) (by assumption) ?_
       simp only [fGa, fGs, fGz, Act.put, fSa, fSz, fSs]
       refine wpAnyH_ready (rs := [2]) (by kernel_rfl) (by simp) (AllReadyH.cons rfl (fun K hK => ?_) AllReadyH.nil)
       refine step_call1C (by rfl) 31 rref_enter (.tmp 141) _ rfl rfl (unhide HRF23 _ hx0) ?_
       rintro e wi ⟨rfl, hbi⟩
       have hx1 : Below wh.heap.size wh wi := hx0.trans (hbi.mono hx0.size)
       refine ⟨_, rfl, ?_⟩
       refine hK.out _ _ (unhide HS23 _ hx1) (fun hM0 => ?_)
       clear hK K
       simp only [fGa, fGs, fGz, Act.put, fSa, fSz, fSs]
       refine wpAnyH_ready (rs := [4]) (by kernel_rfl) (by simp) (AllReadyH.cons rfl (fun K hK => ?_) AllReadyH.nil)
       refine step_build2 (hs := shaOf bs) (hs' := shaOf bs) (by rfl) (.tmp 142) (.tmp 143) rfl (shaOf_len bs) (shaOf_len bs) (by rw [HRW.out]; rfl) (by rw [HRV.out]; rfl) ?_
       have hx2 := hx1.alloc hx1.size (.cells (rfsV [(shaOf bs, ((ks.getD 0 0 : Nat) : Int), (bs.length : Int)), (shaOf bs, ((ks2.getD 0 0 : Nat) : Int), (bs.length : Int))]).toArray 34)
       have hAk := Arr.new wi (rfsV [(shaOf bs, ((ks.getD 0 0 : Nat) : Int), (bs.length : Int)), (shaOf bs, ((ks2.getD 0 0 : Nat) : Int), (bs.length : Int))]) 34
       refine hK.out _ _ (unhide HS23 _ hx2) (fun hM1 => ?_)
       clear hK K
       simp only [fGa, fGs, fGz, Act.put, fSa, fSz, fSs]
       generalize wi.alloc _ = wj at hx2 hAk ⊢
       refine wpAnyH_ready (rs := [5]) (by kernel_rfl) (by simp) (AllReadyH.cons rfl (fun K hK => ?_) AllReadyH.nil)
       refine step_appRf (by rfl) (.tmp 140) (.tmp 144) rfl rfl (unhide HOR _ hx2) rfl rfl (fun r hr => by simp at hr; rcases hr with rfl | rfl <;> exact shaOf_len bs) hAk (by rw [List.length_map]; have := HC24.out; simp; omega) (by have := HSZ.out; have := hx2.size; omega) ?_
       intro rv' wk hOk hGk _
       have HOK := hide hOk
       have HGK := hide hGk
       have HX2 := hide hx2
       refine hK.out _ _ (unhide HS23G _ _ hx2 hGk) (fun hM2 => ?_)
       clear hK K
       simp only [fGa, fGs, fGz, Act.put, fSa, fSz, fSs]
       refine wpAnyH_take (i := 6) (v := rv') rfl (by kernel_rfl) (by kernel_rfl) (by kernel_rfl) (fun _ _ _ h => h) (Or.inl ⟨by rfl, fun w hSw => by go_simp⟩) (by assumption) ?_
       simp only [fGa, fGs, fGz, Act.put, fSa, fSz, fSs]
       refine wpAnyH_done (by kernel_rfl) ?_ _
       clear hHeld hM0 hM1 hM2 HS23 HS23G HRF23 HOR hiR
       have HRW9 := hide (unhide HRWU _ _ hx2 hGk)
       clear HRWU hOk hGk hx0 hx1 hx2 hbi hAk
       have hlb := (Below.refl wk.heap.size wk).alloc (Nat.le_refl _) (.cells #[.slice xa mn c, .slice xa mn c] 26)
       have hrow9 := owns_up HRW9.out (F := fun _ => False) (Up.of_below hlb) (fun _ _ h => h)
       have hc90 : (wk.alloc (.cells #[.slice xa mn c, .slice xa mn c] 26)).cell? ⟨wk.heap.size, 0, none⟩ = some (.slice xa mn c) ∧ (wk.alloc (.cells #[.slice xa mn c, .slice xa mn c] 26)).cell? ⟨wk.heap.size, 1, none⟩ = some (.slice xa mn c) := by
        have z := Arr.new wk [.slice xa mn c, .slice xa mn c] 26
        exact ⟨arr_cell z rfl, arr_cell z rfl⟩
       have HLB := hide hlb
       have hul : us.length ≤ 1000000 := by have := HAGh.out.ul; have := HC24.out; omega
       have hBs : S ≤ (wk.alloc (.cells #[.slice xa mn c, .slice xa mn c] 26)).heap.size := by have := HSZ.out; have := HX2.out.size; have := HGK.out.size; have := hlb.size; omega
       clear hlb
       go_wp2_with (first
        | (refine wpList_app2B rfl (.tmp 146) (.tmp 149) rfl rfl hrow9 rfl hc90 rfl hul hBs ?_; intro bv' wm hBm hGm
           have HBm := hide hBm
           have HGm := hide hGm
           clear hBm hGm hrow9 hc90 hul hBs))
       refine ⟨⟨i + 1, by omega, by omega, rfl, hide ⟨V4, D2, ws2, _, _, _, _, C ++ [(bs, ks)] ++ [(bs, ks2)], HAGh.out.more HX2.out HOK.out HGK.out HLB.out HBm.out HGm.out ⟨xa, mn, c, rfl, HBI.out⟩ rfl, HCH2.out, by rw [List.length_append, List.length_append]; have := HCL.out; simp; omega, HRD2.out⟩⟩, by simp [intOf]; omega⟩
     · have hdj : decide (j = k) = false := decide_eq_false hjk
       rw [hdj]
       have HSTP : Hid (Calls Tryd.prog 32 #[.pointer (some ⟨pw, 0, none⟩)] wr fun e w' => e = .returned (.tuple #[.bool (decide (j + 1 = k)), .int .i64 0]) ∧ Hid (∃ ys rw' V', As w w' S p gl gm V' D m g gw (claimAll 3 400 ws ks) gk (.slice (some ⟨g2, 0, none⟩) R c2) ys bs.length u8 u9 us C pw gn cn rw' bs ks (j + 1))) := hide (by
        obtain ⟨ys, rw', V', q⟩ := HJ.out
        have e1 := HKL.out
        have hw := HCH.out.wt
        have hn := HC24.out
        have st := q.step (by omega) (fun x hx => (HCH.out.frr x (List.mem_of_mem_take (by rw [HKK.out]; exact hx))).2) HCH.out.la ⟨hw.1, by omega⟩ HCH.out.wl (by omega)
        rw [e1] at st
        exact st.mono (fun e w' ⟨a, b⟩ => ⟨a, hide (by obtain ⟨r, V2, z⟩ := b.out; exact ⟨ys, r, V2, z⟩)⟩))
       have HC36 : Hid (cellN wr ⟨pw, 36, none⟩ = j) := hide (by obtain ⟨ys, rw', V', q⟩ := HJ.out; exact q.cell36)
       clear HJ hdj
       go_wp2_with fail
       refine (unhide HSTP).mono ?_
       rintro e w9 ⟨rfl, H9⟩
       have HC37 : Hid (cellN w9 ⟨pw, 36, none⟩ = j + 1) := hide (by obtain ⟨ys, rw', V', q⟩ := H9.out; exact q.cell36)
       clear HSTP
       go_wp2
       go_roundw
       case rel => exact ⟨j + 1, by omega, rfl, H9⟩
       case measure => rw [HC36.out, HC37.out]; omega
  · obtain ⟨V, D, ws, room, xs, N, us, C, hAG, hCH, hCL, hRD⟩ := HI.out
    obtain ⟨a8, c8, h8, h8a, h8b⟩ := hAG.shape8
    obtain ⟨a9, c9, h9, h9a, h9b⟩ := hAG.shape9
    obtain ⟨CL, hCLe⟩ : ∃ CL, C.length = CL := ⟨_, rfl⟩
    subst h8 h9
    rw [hCLe] at hAG h8a h9a ⊢
    have hCL24 : CL ≤ 24 := by omega
    have HAX : Hid (∃ D' room xs N, Ag w wr S p gl gm V D' m g gw ws gk room xs N (.slice a8 CL c8) (.slice a9 CL c9) us C ∧ Chs D' ws C ∧ D'.rd ≤ 10 * ((0 : Nat) : Int)) := hide ⟨D, room, xs, N, hAG, hCH, by omega⟩
    have HCLE := hide hCLe
    clear HI hAG hCH hCL hRD hCLe HL
    have hex : (¬ (i : Int) < (ln : Int)) ∨ ((i : Int) < (ln : Int) ∧ ¬ (i : Int) < 12) := by omega
    rcases hex with hex | ⟨hex, hex2⟩
    all_goals (
     go_wp2_with fail
     go_loopw [18] (fun iv W => ∃ (q : Nat), q ≤ CL ∧ iv = .int .i64 (q : Int) ∧ Hid (∃ D' room xs N, Ag w W S p gl gm V D' m g gw ws gk room xs N (.slice a8 CL c8) (.slice a9 CL c9) us C ∧ Chs D' ws C ∧ D'.rd ≤ 10 * (q : Int))) (fun iv _ => CL - (intOf iv).toNat)
     case atStart => exact ⟨0, by omega, rfl, HAX⟩
     case round =>
      clear HAX
      obtain ⟨q, hqL, rfl, HQ⟩ := hrel
      by_cases hqlt : q < CL
      · have hqi : (q : Int) < (CL : Int) := by omega
        obtain ⟨D1, room1, xs1, N1, hA1, hC1, hR1⟩ := HQ.out
        obtain ⟨g8, c8', e8, _⟩ := hA1.rr.shape (by rw [List.length_map, HCLE.out]; omega)
        injection e8 with e81 e82 e83
        subst e81
        clear e82 e83
        obtain ⟨g9, e9⟩ := hA1.head9 (by have := HCLE.out; omega)
        subst e9
        obtain ⟨ch, hch⟩ : ∃ ch, C[q]? = some ch := ⟨_, List.getElem?_eq_getElem (by have := HCLE.out; omega)⟩
        have hmem : ch ∈ C := List.mem_of_getElem? hch
        obtain ⟨rQ, hrQ⟩ : ∃ rQ, rfV (refOf ch) = rQ := ⟨_, rfl⟩
        have hrl : rQ.length = 34 := by rw [← hrQ]; exact rfV_len (shaOf_len _)
        have hiR : (Tryd.prog.info? 34).map (·.size) = some rQ.length := by rw [hrl]; kernel_rfl
        have hrg : wr.rangeAt g8 (q * 34) rQ := by rw [← hrQ]; exact hA1.rr.range (by rw [List.getElem?_map, hch]; rfl)
        have HGET := hide (ag_get hA1 hC1 hmem (by omega))
        rw [hrQ] at HGET
        have HC1 := hide hC1
        have HR1 := hide hR1
        have HCH := hide hch
        have HMEM := hide hmem
        have HRQ := hide hrQ
        clear HQ hA1 hC1 hR1 hch hmem hrQ
        go_wp2_with (refine wpList_load_mid rfl 34 (.tmp 161) rfl g8 (q * 34) rfl rQ _ hrg Tryd.underlying34 rfl hiR ?_)
        refine (unhide HGET).mono ?_
        rintro e w5 ⟨ra, rn, rc, rfl, H5⟩
        obtain ⟨hO5, hA5, hU5⟩ := H5.out
        obtain ⟨a7, n7, k7, hu7, hI7⟩ := hA5.be q ch HCH.out
        have hc97 : w5.cell? ⟨g9, q, none⟩ = some (.slice a7 n7 k7) := by
         rw [Row.cellAt hA5.bb (by rw [hA5.ul]; have := HCLE.out; omega)]
         exact hu7
        have HSM := hide (same6_calls hO5.isB (hA5.arg hI7))
        rw [decide_eq_true rfl] at HSM
        obtain ⟨D2, hD2⟩ : ∃ D2, D1.reads ch.2.length = D2 := ⟨_, rfl⟩
        have hlen5 : ch.2.length ≤ 5 := by
         have z1 := HC1.out.cnt ch HMEM.out
         obtain ⟨z2, z3, _, z4⟩ := secN_few (HC1.out.len ch HMEM.out)
         omega
        have HC2 : Hid (Chs D2 ws C ∧ D2.rd ≤ 10 * (q : Int) + 5) := hide (by
         have z := HR1.out
         rw [← hD2]
         exact ⟨HC1.out.reads (by omega), by show D1.rd + (ch.2.length : Int) ≤ _; omega⟩)
        rw [hD2] at hA5
        obtain ⟨f0, hf0⟩ : ∃ f0, ch.2.getD 0 0 = f0 := ⟨_, rfl⟩
        have hf4 : 3 ≤ f0 ∧ f0 < 400 := by rw [← hf0]; exact HC1.out.rng ch HMEM.out _ (getD_mem6 (HC1.out.pos ch HMEM.out))
        have hrg5 : w5.rangeAt g8 (q * 34) rQ := by rw [← HRQ.out]; exact hA5.rr.range (by rw [List.getElem?_map, HCH.out]; rfl)
        have hr32 : rQ[32]? = some (.int .i64 (f0 : Int)) := by rw [← HRQ.out, ← hf0]; exact refV_32 (shaOf_len ch.1) _ _
        have hc32 : w5.cell? ⟨g8, q * 34 + 32, none⟩ = some (.int .i64 (f0 : Int)) := hrg5 32 _ hr32
        have HRDD := hide (ag_read hA5 HC2.out.1.la hf4.2 ⟨HC2.out.1.rd.1, by have := HC2.out.2; omega⟩)
        obtain ⟨X0, hX0⟩ : ∃ X0, sectK ch.1 ch.2 0 = X0 := ⟨_, rfl⟩
        have hnow : D2.now f0 = X0 := by rw [← hX0, ← hf0]; exact HC2.out.1.now ch HMEM.out 0 (HC1.out.pos ch HMEM.out)
        rw [hnow] at HRDD
        have hXs : IsSec X0 := by rw [← hX0]; exact sectK_is (HC1.out.byt ch HMEM.out) ch.2 0
        have hsnd : SoundP X0 (shaOf ch.1) (ch.1.length : Int) 0 (nxK ch.2 0) := by rw [← hX0]; exact sectK_sound (by have := HC1.out.len ch HMEM.out; omega) (HC1.out.cnt ch HMEM.out) (fun x hx => by have := HC1.out.rng ch HMEM.out x hx; omega) (HC1.out.pos ch HMEM.out)
        obtain ⟨nn, hnn⟩ : ∃ nn : Nat, ch.2.getD (0 + 1) 0 = nn := ⟨_, rfl⟩
        have hnx : nxK ch.2 0 = (nn : Int) := by unfold nxK; rw [hnn]
        have hnI : nextI X0 (shaOf ch.1) (ch.1.length : Int) 0 = (nn : Int) := (nextI_iff (by rw [← hnx]; exact hsnd.2.2.1)).2 (by rw [← hnx]; exact hsnd)
        rw [hnx] at hsnd
        have HXS := hide hXs
        have HSND := hide hsnd
        have HFT5 : Hid (∀ b, Ft p gl gm V b → b < w5.heap.size) := hide (fun b hb => hA5.dk.lt hb)
        have HSZ5 := hide hA5.sz
        have HNXT : Hid (∀ W gx, IsB W (.slice (some ⟨gx, 0, none⟩) 512 512) X0 → Calls Tryd.prog 36 #[.slice (some ⟨gx, 0, none⟩) 512 512, .agg rQ.toArray, .int .i64 0] W fun e w' => e = .returned (.int .i64 (nn : Int)) ∧ Below W.heap.size W w') := hide (fun W gx hW => by
         have z := refNext_calls (fi := ((ch.2.getD 0 0 : Nat) : Int)) (le := (ch.1.length : Int)) (place := 0) hW (shaOf_len ch.1) (sha_bytes ch.1)
         rw [hnI] at z
         rw [← HRQ.out]
         exact z)
        clear H5 hO5 hA5 hU5 hu7 hI7 hD2 hlen5 hf0 hr32 hX0 hnow hXs hsnd hnn hnx hnI hrg
        go_wp2_with (first
         | (go_at_call 10; refine (unhide HNUM _ _).mono ?_; rintro e wn ⟨rfl, hwn⟩; obtain rfl := hwn.symm; clear hwn)
         | (go_at_call 18; refine (unhide HSM).mono ?_; rintro e wn ⟨rfl, hwn⟩; obtain rfl := hwn.symm; clear hwn))
        refine (unhide HRDD).mono ?_
        rintro e w6 ⟨gx, rfl, H6⟩
        obtain ⟨hgx, hax, hA6⟩ := H6.out
        have HAX6 : Hid (Ax w w6 S p gl gm V (D2.reads 1) m g gw ws gk (.slice (some ⟨g8, 0, none⟩) CL c8) (.slice (some ⟨g9, 0, none⟩) CL c9) us C gx X0) := hide ⟨⟨_, _, _, hA6⟩, hax, by have := HSZ5.out; omega, fun b hb => by have := HFT5.out b hb; omega⟩
        have hrg6 : w6.rangeAt g8 (q * 34) rQ := by rw [← HRQ.out]; exact hA6.rr.range (by rw [List.getElem?_map, HCH.out]; rfl)
        have HNX6 := hide (unhide HNXT w6 gx (isB_sector hax HXS.out))
        have HC3 : Hid (Chs (D2.reads 1) ws C ∧ (D2.reads 1).rd ≤ 10 * ((q + 1 : Nat) : Int)) := hide (by
         obtain ⟨z1, z2⟩ := HC2.out
         exact ⟨z1.reads (by show D2.rd + 1 ≤ _; omega), by show D2.rd + 1 ≤ _; omega⟩)
        clear H6 hgx hax hA6 HRDD HNXT HSM HGET hc97 hrg5 hc32 HFT5 HSZ5 HC1 HC2 HR1
        go_wp2_with (refine wpList_load_mid rfl 34 (.tmp 192) rfl g8 (q * 34) rfl rQ _ hrg6 Tryd.underlying34 rfl hiR ?_)
        refine (unhide HNX6).mono ?_
        rintro e w7 ⟨rfl, hb7⟩
        have HAX7 := hide (HAX6.out.below hb7)
        generalize D2.reads 1 = D3 at HAX7 HC3
        clear HNX6 HAX6 hb7 hrg6 hf4
        go_wp2_with fail
        go_loopw [25] (fun nv W => ∃ (n : Nat), n ≤ 3 ∧ nv = .int .i64 (n : Int) ∧ Hid (Ax w W S p gl gm V D3 m g gw ws gk (.slice (some ⟨g8, 0, none⟩) CL c8) (.slice (some ⟨g9, 0, none⟩) CL c9) us C gx (spH X0 n))) (fun nv _ => 3 - (intOf nv).toNat)
        case atStart => exact ⟨0, by omega, rfl, HAX7⟩
        case round =>
         clear HAX7
         obtain ⟨n, hn3, rfl, HN⟩ := hrel
         by_cases hnlt : n < 3
         · have hni : (n : Int) < 3 := by omega
           go_upto_if 202 with fail
           go_cut [2] from 197 to 228 (fun a wc => a = u2 ∧ Hid (Ax w wc S p gl gm V D3 m g gw ws gk (.slice (some ⟨g8, 0, none⟩) CL c8) (.slice (some ⟨g9, 0, none⟩) CL c9) us C gx (spN X0 n)))
           case first =>
            by_cases hz : 0 < n
            · have hzi : (0 : Int) < (n : Int) := by omega
              obtain ⟨y, _, hcy, hfy, z, hbz, hAz⟩ := Ax.flipped (spH_is HXS.out n) HN.out.ax
              have HAZ := hide hAz
              clear hAz
              go_wp2
              go_meet
              exact ⟨rfl, hide (HN.out.flip (Up.of_grown (grown_set1 wr gx 40 (.int .u8 z)) (fun b hb => by injection hb with hb; exact hb.symm)) (by rw [spN_flip HXS.out hz hnlt]; exact HAZ.out))⟩
            · have hzi : ¬ (0 : Int) < (n : Int) := by omega
              go_wp2
              go_meet
              have hz0 : n = 0 := by omega
              exact ⟨rfl, hide (by have z := HN.out; rw [hz0] at z ⊢; exact z)⟩
           case rest =>
            obtain ⟨hu2, HN1⟩ := hcut
            subst hu2
            clear HN
            obtain ⟨XN, hXN⟩ : ∃ XN, spN X0 n = XN := ⟨_, rfl⟩
            obtain ⟨nb, hnb⟩ : ∃ nb, decide (n ≠ 1) = nb := ⟨_, rfl⟩
            have hnb1 : ((n : Int) != 1) = nb := by
             rw [← hnb]
             by_cases e : n = 1
             · rw [e]; rfl
             · rw [decide_eq_true e]; simp; omega
            have hnb2 : (nb != nb) = false := by simp
            have HXN : Hid (IsSec XN) := hide (by rw [← hXN]; exact spN_is HXS.out n)
            have HSO : Hid (∀ W g2 c2, IsB W (.slice (some ⟨g2, 0, none⟩) 512 c2) XN → Tab W → Calls Tryd.prog 37 #[.slice (some ⟨g2, 0, none⟩) 512 c2, .agg rQ.toArray, .int .i64 0, .int .i64 (nn : Int)] W fun e w' => e = .returned (.bool nb) ∧ Below W.heap.size W w') := hide (fun W g2 c2 hW ht => by
             have z := sound_calls (fi := ((ch.2.getD 0 0 : Nat) : Int)) (le := (ch.1.length : Int)) (place := 0) (next := (nn : Int)) hW (shaOf_len ch.1) (sha_bytes ch.1) ht
             rw [← hXN, spN_sound HSND.out HXS.out n, hnb] at z
             rw [← HRQ.out]
             exact z)
            have HSN : Hid (spH X0 (n + 1) = XN) := hide (by rw [spH_succ X0 hnlt]; exact hXN)
            rw [hXN] at HN1
            have HS40 : Hid (∀ W room xs N (D4 : AD), Ag w W S p gl gm V D4 m g gw ws gk room xs N (.slice (some ⟨g8, 0, none⟩) CL c8) (.slice (some ⟨g9, 0, none⟩) CL c9) us C → W.rangeAt g8 (q * 34) rQ) := hide (fun W room xs N D4 h => by rw [← HRQ.out]; exact h.rr.range (by rw [List.getElem?_map, HCH.out]; rfl))
            have HS41 : Hid (∀ W, Below wc.heap.size wc W → W.rangeAt g8 (q * 34) rQ) := hide (fun W hW => by
             obtain ⟨_, _, _, z⟩ := (HN1.out.below hW).ag
             exact unhide HS40 _ _ _ _ _ z)
            have HLND : Hid (∀ W, Below wc.heap.size wc W → Calls Tryd.prog 33 #[.pointer (some ⟨gk, 0, none⟩), .slice (some ⟨gx, 0, none⟩) 512 512] W fun e w' => ∃ g2 R c, e = .returned (.slice (some ⟨g2, 0, none⟩) 512 c) ∧ Hid (Ag w w' S p gl gm V D3 m g gw ws gk (.slice (some ⟨g2, 0, none⟩) R c) (lentL XN R) XN.length (.slice (some ⟨g8, 0, none⟩) CL c8) (.slice (some ⟨g9, 0, none⟩) CL c9) us C ∧ XN.length ≤ R ∧ IsB w' (.slice (some ⟨g2, 0, none⟩) 512 c) XN ∧ Arr w' gx 118 (u8V XN))) := hide (fun W hW => (HN1.out.below hW).lend HXN.out)
            have HLA : Hid (S ≤ gx ∧ ∀ b, Ft p gl gm V b → b ≠ gx) := hide ⟨HN1.out.lo, HN1.out.ap⟩
            clear hXN hnb
            go_wp2_with fail
            have hy0 : Below wc.heap.size wc wc.drew := (Below.refl _ _).drew
            refine wp_region_held_drew (S := fun W => W.rangeAt g8 (q * 34) rQ) (by kernel_rfl) (unhide HS41 _ hy0) (fun hHeld => ?_)
            refine wpAnyH_take (i := 0) (v := .pointer (some ⟨gk, 0, none⟩)) rfl (by kernel_rfl) (by kernel_rfl) (by kernel_rfl) (fun _ _ _ h => h) (Or.inl ⟨by rfl, fun w hSw => by go_simp⟩) (by assumption) ?_
            simp only [fGa, fGz, Act.put, fSa, fSz, fSs]
            refine wpAnyH_take (i := 1) (v := .slice (some ⟨gx, 0, none⟩) 512 512) rfl (by kernel_rfl) (by kernel_rfl) (by kernel_rfl) (fun _ _ _ h => h) (Or.inl ⟨by rfl, fun w hSw => by go_simp⟩) (by assumption) ?_
            simp only [fGa, fGs, fGz, Act.put, fSa, fSz, fSs]
            refine wpAnyH_take (i := 3) (v := .slice (some ⟨g8, 0, none⟩) CL c8) rfl (by kernel_rfl) (by kernel_rfl) (by kernel_rfl) (fun _ _ _ h => h) (Or.inl ⟨by rfl, fun w hSw => by go_simp⟩) (by assumption) ?_
            simp only [fGa, fGs, fGz, Act.put, fSa, fSz, fSs]
            refine wpAnyH_take (i := 4) (v := .int .i64 (q : Int)) rfl (by kernel_rfl) (by kernel_rfl) (by kernel_rfl) (fun _ _ _ h => h) (Or.inl ⟨by rfl, fun w hSw => by go_simp⟩) (by assumption) ?_
            simp only [fGa, fGs, fGz, Act.put, fSa, fSz, fSs]
            refine wpAnyH_take (i := 5) (v := .pointer (some ⟨g8, q * 34, none⟩)) rfl (by kernel_rfl) (by kernel_rfl) (by kernel_rfl) (fun _ _ _ h => h) (Or.inl ⟨by rfl, fun w hSw => by go_simp⟩) (by assumption) ?_
            simp only [fGa, fGs, fGz, Act.put, fSa, fSz, fSs]
            refine wpAnyH_take (i := 6) (v := .agg (rQ).toArray) rfl (by kernel_rfl) (by kernel_rfl) (by kernel_rfl) (fun _ _ _ h => h) (yieldsIf_load_mid (by rfl) _ _ rfl _ _ rfl _ _ (fun w hSw => hSw) Tryd.underlying34 rfl hiR) (by assumption) ?_
            simp only [fGa, fGs, fGz, Act.put, fSa, fSz, fSs]
            refine wpAnyH_take (i := 7) (v := .int .i64 (nn : Int)) rfl (by kernel_rfl) (by kernel_rfl) (by kernel_rfl) (fun _ _ _ h => h) (Or.inl ⟨by rfl, fun w hSw => by go_simp⟩) (by assumption) ?_
            simp only [fGa, fGs, fGz, Act.put, fSa, fSz, fSs]
            refine wpAnyH_take (i := 9) (v := .int .i64 (n : Int)) rfl (by kernel_rfl) (by kernel_rfl) (by kernel_rfl) (fun _ _ _ h => h) (Or.inl ⟨by rfl, fun w hSw => by go_simp⟩) (by assumption) ?_
            simp only [fGa, fGs, fGz, Act.put, fSa, fSz, fSs]
            refine wpAnyH_take (i := 10) (v := .bool nb) rfl (by kernel_rfl) (by kernel_rfl) (by kernel_rfl) (fun _ _ _ h => h) (Or.inl ⟨by rfl, fun w hSw => by go_simp⟩) (by assumption) ?_
            simp only [fGa, fGs, fGz, Act.put, fSa, fSz, fSs]
            refine wpAnyH_ready (rs := [2]) (by kernel_rfl) (by simp) (AllReadyH.cons rfl (fun K hK => ?_) AllReadyH.nil)
            refine step_call2C (by rfl) 33 desk_lend_enter (.tmp 209) (.tmp 210) _ rfl rfl rfl (unhide HLND _ hy0) ?_
            rintro e we ⟨g2, R2, c2, rfl, HLe⟩
            refine ⟨_, rfl, ?_⟩
            refine hK.out _ _ (unhide HS40 _ _ _ _ _ HLe.out.1) (fun hN0 => ?_)
            clear hK K
            simp only [fGa, fGs, fGz, Act.put, fSa, fSz, fSs]
            refine wpAnyH_ready (rs := [8]) (by kernel_rfl) (by simp) (AllReadyH.cons rfl (fun K hK => ?_) AllReadyH.nil)
            refine step_call4C (by rfl) 37 sound_enterC (.tmp 211) (.tmp 215) (.const (.int .i64 0)) (.tmp 216) _ rfl rfl rfl rfl rfl (unhide HSO _ _ _ HLe.out.2.2.1 HLe.out.1.tt.tab) ?_
            rintro e wf ⟨rfl, hbf⟩
            refine ⟨_, rfl, ?_⟩
            refine hK.out _ _ (unhide HS40 _ _ _ _ _ (HLe.out.1.below hbf)) (fun hN1 => ?_)
            clear hK K
            simp only [fGa, fGs, fGz, Act.put, fSa, fSz, fSs]
            refine wpAnyH_take (i := 11) (v := .bool false) rfl (by kernel_rfl) (by kernel_rfl) (by kernel_rfl) (fun _ _ _ h => h) (Or.inl ⟨by rfl, fun w hSw => by go_simp⟩) (by assumption) ?_
            simp only [fGa, fGs, fGz, Act.put, fSa, fSz, fSs]
            refine wpAnyH_take (i := 12) (v := .bool false) rfl (by kernel_rfl) (by kernel_rfl) (by kernel_rfl) (fun _ _ _ h => h) (Or.inl ⟨by rfl, fun w hSw => by go_simp⟩) (by assumption) ?_
            simp only [fGa, fGs, fGz, Act.put, fSa, fSz, fSs]
            refine wpAnyH_take (i := 13) (v := .pointer (some ⟨gk, 0, none⟩)) rfl (by kernel_rfl) (by kernel_rfl) (by kernel_rfl) (fun _ _ _ h => h) (Or.inl ⟨by rfl, fun w hSw => by go_simp⟩) (by assumption) ?_
            simp only [fGa, fGs, fGz, Act.put, fSa, fSz, fSs]
            refine wpAnyH_take (i := 14) (v := .slice (some ⟨gx, 0, none⟩) 512 512) rfl (by kernel_rfl) (by kernel_rfl) (by kernel_rfl) (fun _ _ _ h => h) (Or.inl ⟨by rfl, fun w hSw => by go_simp⟩) (by assumption) ?_
            simp only [fGa, fGs, fGz, Act.put, fSa, fSz, fSs]
            refine wpAnyH_ready (rs := [15]) (by kernel_rfl) (by simp) (AllReadyH.cons rfl (fun K hK => ?_) AllReadyH.nil)
            refine step_call2GC (by rfl) 34 desk_back_enter (.tmp 222) (.tmp 223) _ rfl rfl rfl (ag_back (HLe.out.1.below hbf) HLe.out.2.1 (isB_sector (HLe.out.2.2.2.below hbf) HXN.out)) ?_
            rintro e wg ⟨rfl, hbg⟩
            refine ⟨_, rfl, ?_⟩
            refine hK.out _ _ (unhide HS40 _ _ _ _ _ ((HLe.out.1.below hbf).below hbg)) (fun hN2 => ?_)
            clear hK K
            simp only [fGa, fGs, fGz, Act.put, fSa, fSz, fSs]
            refine wpAnyH_take (i := 16) (v := .bool false) rfl (by kernel_rfl) (by kernel_rfl) (by kernel_rfl) (fun _ _ _ h => h) (Or.inl ⟨by rfl, fun w hSw => by go_simp⟩) (by assumption) ?_
            simp only [fGa, fGs, fGz, Act.put, fSa, fSz, fSs]
            refine wpAnyH_take (i := 17) (v := .bool false) rfl (by kernel_rfl) (by kernel_rfl) (by kernel_rfl) (fun _ _ _ h => h) (Or.inl ⟨by rfl, fun w hSw => by go_simp⟩) (by assumption) ?_
            simp only [fGa, fGs, fGz, Act.put, fSa, fSz, fSs]
            refine wpAnyH_done (by kernel_rfl) ?_ _
            have HWP := hide (Ax.wipe ((HLe.out.1.below hbf).below hbg) ((HLe.out.2.2.2.below hbf).below hbg) HLA.out.1 HLA.out.2)
            clear hHeld hN0 hN1 hN2 HLe hbf hbg hnb1 hnb2 HSO HS40 HS41 HLND HN1 HLA
            go_wp2_with fail
            refine (unhide HWP).mono ?_
            rintro e wi ⟨⟨ri, rfl⟩, HAXi⟩
            clear HWP
            go_wp2
            go_roundw
            case rel => exact ⟨n + 1, by omega, by go_num, hide (by rw [HSN.out]; exact HAXi.out)⟩
            case measure => simp [intOf]; omega
         · have hni : ¬ (n : Int) < 3 := by omega
           have HQ1 : Hid (∃ D' room xs N, Ag w wr S p gl gm V D' m g gw ws gk room xs N (.slice (some ⟨g8, 0, none⟩) CL c8) (.slice (some ⟨g9, 0, none⟩) CL c9) us C ∧ Chs D' ws C ∧ D'.rd ≤ 10 * ((q + 1 : Nat) : Int)) := hide (by
            obtain ⟨room, xs, N, z⟩ := HN.out.ag
            exact ⟨D3, room, xs, N, z, HC3.out.1, HC3.out.2⟩)
           clear HN HC3
           go_wp2
           go_roundw
           case rel => exact ⟨q + 1, by omega, by go_num, HQ1⟩
           case measure => simp [intOf]; omega
      · have hqi : ¬ (q : Int) < (CL : Int) := by omega
        obtain ⟨D1, room1, xs1, N1, hA1, hC1, hR1⟩ := HQ.out
        have HST := hide (started_calls hA1.tt)
        have HBL := hide hA1.bel
        have HSW := hide hA1.sw
        clear hA1 hC1 hR1 HQ
        go_wp2_with fail
        refine (unhide HST).mono ?_
        rintro e wz ⟨rfl, hbz⟩
        have HBZ : Hid (Below w.heap.size w wz) := hide (by rw [HSW.out]; exact HBL.out.trans (hbz.mono (by have := HBL.out.size; have := HSW.out; omega)))
        clear hbz HST
        go_wp2
        go_ret
        exact ⟨rfl, HBZ.out⟩)
theorem again_any {w : World} {v : Value} {xss : List (List Int)} (hl : IsBB w v xss) (hT : TT w) : Calls Tryd.prog 6 #[v] w fun e w' => e = .returned (.bool true) ∧ Below w.heap.size w w' := by
 obtain ⟨a, cap, rfl, _⟩ := hl.val
 exact again_walk hl hT
end Go.Proofs.YtlofoklfggmbiaaDoor

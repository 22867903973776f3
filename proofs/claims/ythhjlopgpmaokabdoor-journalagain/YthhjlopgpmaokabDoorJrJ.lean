/- What the document's Decode answers: a sector's bytes. -/
import Derived.Test.YthhjlopgpmaokabDoorJrI
namespace Go.Proofs.YthhjlopgpmaokabDoor
open Go.RowKit Go.Maps

theorem rnum_enter (v u z : Value) (W : World) : (callFunc 58 #[v, u, z]).run Tryd.prog W = .ok (.enter 58 #[v, u, z]) W := by kernel_rfl
set_option maxRecDepth 100000 in
set_option maxHeartbeats 8000000 in
theorem rdec_long {w : World} {v : Value} {b : List Int} (h : IsB w v b) (hl : b.length = 512) (hc1 : 1 ≤ b.getD 44 0) (hc8 : b.getD 44 0 ≤ 8) :
    Calls Tryd.prog 33 #[v] w fun e w' => ∃ u, e = .returned (.tuple #[.agg (jrV (decR b) u).toArray, .bool (decO b).isSome]) ∧ OwnJ w' w.heap.size u (decR b).rs ∧ Below w.heap.size w w' := by
  have hby := isB_by h
  have hok := namB_ok hby hl
  have HNUM : Hid (∀ W, Below w.heap.size w W → Calls Tryd.prog 58 #[v, .int .i64 4, .int .i64 8] W fun e w' => e = .returned (.int .i64 (namB b).n) ∧ w' = W) := hide (fun W hW => rnumber_calls (h.below hW) (k := 4) (n := 8) (by decide) (by decide) (by omega))
  have HN4 : Hid (∀ (W : World) (k : Nat), k + 4 ≤ 512 → Below w.heap.size w W → Calls Tryd.prog 58 #[v, .int .i64 (k : Int), .int .i64 4] W fun e w' => e = .returned (.int .i64 (leN ((b.drop k).take 4))) ∧ w' = W) := hide (fun W k hk hW => by
    have := rnumber_calls (h.below hW) (k := k) (n := 4) (by decide) (by decide) (by omega)
    rw [wrap4 hby] at this
    exact this)
  obtain ⟨cn, hcn⟩ : ∃ cn : Nat, b.getD 44 0 = (cn : Int) := ⟨(b.getD 44 0).toNat, by omega⟩
  have hcb : cntB b = cn := by unfold cntB; rw [hcn]; omega
  rw [hcn] at hc1 hc8
  obtain ⟨_, va, vc, rfl, hlc, hvm, _, hcell⟩ := id h
  obtain ⟨bk, of, rfl, hcl⟩ := hcell (by omega)
  have HC : Hid (∀ W, Below w.heap.size w W → ∀ j, j < 512 → W.cell? ⟨bk, of + j, none⟩ = some (.int .u8 (b.getD j 0))) := hide (fun W hW j hj => by
    have h1 := hcl j (by omega)
    exact (hW.cell (p := ⟨bk, of + j, none⟩) (World.block_lt_of_cell? w _ h1)).trans h1)
  have HIS : Hid (∀ W, Below w.heap.size w W → IsB W (.slice (some ⟨bk, of, none⟩) 512 vc) b) := hide (fun W hW => by have := h.below hW; rw [hl] at this; exact this)
  have HDY : Hid (encE (namB b) = 0 → encL (namB b) = b → decR b = namB b ∧ (decO b).isSome = true) := hide (fun h1 h2 => by rw [dec_yes hl h1 h2]; exact ⟨(decR_some (dec_yes hl h1 h2)).1, rfl⟩)
  have HDN : Hid (¬ (encE (namB b) = 0 ∧ encL (namB b) = b) → decR b = .nul ∧ (decO b).isSome = false) := hide (fun h1 => by
    have h2 : decO b = none := dec_no fun hc => h1 hc.2
    rw [h2]
    exact ⟨(decR_none h2).1, rfl⟩)
  have HRS : Hid (namB b = ⟨(namB b).n, (b.drop 12).take 32, (List.range cn).map (rfAt b)⟩) := hide (by rw [← hcb]; rfl)
  have HSN : Hid (∀ i, (List.range (i + 1)).map (rfAt b) = (List.range i).map (rfAt b) ++ [rfAt b i]) := hide (fun i => by rw [List.range_succ, List.map_append]; rfl)
  have HRO : Hid (∀ i, i < cn → (rfAt b i).Ok ∧ rfAt b i = ⟨(b.drop (45 + 40 * i)).take 32, leN ((b.drop (45 + 40 * i + 32)).take 4), leN ((b.drop (45 + 40 * i + 36)).take 4)⟩) := hide (fun i hi => ⟨rfAt_ok hby (by omega), rfl⟩)
  have HBLEN := hide hl
  have HC44 := hide hcn
  rw [hl] at hlc HNUM HN4 ⊢
  have hlen0 : z34R.length = (jrV .nul (.slice none 0 0)).length := by rw [jrV_len nul_len]; decide
  have hinf0 := infoRof nul_len (.slice none 0 0)
  have hone0 := jrV_one JR.nul (v := .slice none 0 0) rfl
  have HOK := hide hok
  have hb1 := jalloc_below w (.cells z34R.toArray 52)
  have hA1 := Arr.new w z34R 52
  obtain ⟨w1, hw1⟩ : ∃ w1, w1 = w.alloc (.cells z34R.toArray 52) := ⟨_, rfl⟩
  rw [← hw1] at hb1 hA1
  have hb2 := jalloc_below w1 (.cells z34R.toArray 52)
  have hA2 := Arr.new w1 z34R 52
  obtain ⟨w2, hw2⟩ : ∃ w2, w2 = w1.alloc (.cells z34R.toArray 52) := ⟨_, rfl⟩
  rw [← hw2] at hb2 hA2
  obtain ⟨g2, hg2⟩ : ∃ g2, g2 = w.heap.size := ⟨_, rfl⟩
  obtain ⟨g4, hg4⟩ : ∃ g4, g4 = w1.heap.size := ⟨_, rfl⟩
  have hs1 : w1.heap.size = w.heap.size + 1 := by rw [hw1]; simp
  have HNE : Hid (g2 ≠ g4 ∧ w.heap.size ≤ g4 ∧ w.heap.size ≤ g2) := hide (by omega)
  have HS0 : Hid (NmS w w2 g2 g4 .nul [] (.slice none 0 0)) := hide ⟨by rw [← z34R_nul, hg4]; exact hA2, OwnJ.nil _ _, by rw [hg2]; exact hA1.below hb2, below_then hb1 hb2⟩
  have c44 := unhide HC w2 HS0.out.2.2.2 44 (by decide)
  rw [hcn] at c44
  have HW1 := hide hw1
  have HW2 := hide hw2
  have HG2 := hide hg2
  have HG4 := hide hg4
  have hd1 : decide ((cn : Int) < 1) = false := by simp; omega
  have hd8 : decide (8 < (cn : Int)) = false := by simp; omega
  have hwc : IntKind.i64.wrap (cn : Int) = cn := IntWalk.i64_in _ (by omega)
  generalize hnb : (namB b).n = nb at *
  clear h hby hok hcell hcl hl hcn hcb hb1 hA1 hw1 hb2 hA2 hw2 hg2 hg4 hs1 hnb
  go_enter Tryd.func33, Tryd.ntmps33
  go_wp2_with (first
    | (refine wpList_allocJ rfl 52 rfl infoR ?_; first | rw [← HW1.out, ← HG2.out] | rw [← HW2.out, ← HG4.out])
    | fail)
  refine (unhide HNUM _ HS0.out.2.2.2).mono ?_
  rintro e wn ⟨rfl, hwn⟩
  obtain rfl := hwn.symm
  clear hwn HNUM
  have f0 : w2.cell? ⟨g4, 0, none⟩ = some (.int .i64 0) := HS0.out.1.cell 0
  have f1 := HS0.out.1.frozen 0
  have HS1 : Hid (NmS w (w2.setCell ⟨g4, 0, none⟩ (.int .i64 nb)) g2 g4 ⟨nb, prt b 12 0, []⟩ [] (.slice none 0 0)) := hide (by rw [prt_zero]; exact HS0.out.setc (jrV_num .nul _ nb) HNE.out.2.1 HNE.out.1)
  clear HS0 c44
  go_wp2_with fail
  clear f0 f1
  go_loopw [5] (fun i W => ∃ k : Nat, k ≤ 32 ∧ i = .int .i64 k ∧ Hid (NmS w W g2 g4 ⟨nb, prt b 12 k, []⟩ [] (.slice none 0 0))) (fun i _ => 32 - (intOf i).toNat)
  case atStart => exact ⟨0, Nat.zero_le _, rfl, HS1⟩
  case round =>
    clear HS1
    obtain ⟨k, hk, rfl, HN⟩ := hrel
    by_cases hlt : k < 32
    · have hc := unhide HC wr HN.out.2.2.2 (12 + k) (by omega)
      have hpl : (prt b 12 k).length = 32 := prt_len hk (by rw [HBLEN.out]; decide)
      have hst := HN.out.setc (j := 1 + k) (u := .int .u8 (b.getD (12 + k) 0)) (r1 := ⟨nb, prt b 12 (k + 1), []⟩) (by
        rw [jrV_pr (r := ⟨nb, prt b 12 k, []⟩) (by show k < (prt b 12 k).length; omega)]
        show jrV ⟨nb, (prt b 12 k).set k _, []⟩ _ = _
        rw [prt_step hlt (by rw [HBLEN.out]; decide)]) HNE.out.2.1 HNE.out.1
      have hce : ∃ u, wr.cell? ⟨g4, 1 + k, none⟩ = some u := by
        rw [HN.out.1.cell]
        exact ⟨_, List.getElem?_eq_getElem (by rw [jrV_len (r := ⟨nb, prt b 12 k, []⟩) hpl]; omega)⟩
      obtain ⟨u0, hu0⟩ := hce
      have hfr := HN.out.1.frozen (1 + k)
      have HST := hide hst
      generalize b.getD (12 + k) 0 = x at *
      clear hst hpl HN
      go_wp2
      go_roundw
      case rel => exact ⟨k + 1, by omega, by go_num, HST⟩
      case measure => simp [intOf]; omega
    · have HN1 : Hid (∃ u, NmS w wr g2 g4 ⟨nb, (b.drop 12).take 32, []⟩ ((List.range 0).map (rfAt b)) u) := hide ⟨_, by
        obtain rfl : k = 32 := by omega
        have := HN.out
        rw [prt_all] at this
        exact this⟩
      clear HN
      go_wp2_with fail
      generalize hp0 : (b.drop 12).take 32 = p0 at *
      have hp0l : p0.length = 32 := by rw [← hp0]; simp; rw [HBLEN.out]; decide
      generalize hr0 : (⟨nb, p0, []⟩ : JR) = r0 at *
      have hr0p : r0.p.length = 32 := by rw [← hr0]; exact hp0l
      have HJR : Hid (∀ u, jrV r0 u = jrV (namB b) u) := hide (fun u => by rw [HRS.out, ← hr0]; rfl)
      have HNR : Hid ((namB b).rs = (List.range cn).map (rfAt b)) := hide (by rw [HRS.out])
      clear hp0 hr0 HRS
      go_loopw [6] (fun i W => ∃ q : Nat, q ≤ cn ∧ i = .int .i64 q ∧ Hid (∃ u, NmS w W g2 g4 r0 ((List.range q).map (rfAt b)) u)) (fun i _ => cn - (intOf i).toNat)
      case atStart => exact ⟨0, Nat.zero_le _, rfl, HN1⟩
      case round =>
        clear HN1
        obtain ⟨q, hq, rfl, HQ⟩ := hrel
        obtain ⟨uv, hnm⟩ := HQ.out
        have c44 := unhide HC wr hnm.2.2.2 44 (by decide)
        rw [HC44.out] at c44
        obtain ⟨ua, uc, hus⟩ := hnm.2.1.shape
        subst hus
        by_cases hqt : q < cn
        · have hix := IxS.new hnm
          obtain ⟨hro, hrfe⟩ := unhide HRO q hqt
          have HSQ := hide (unhide HSN q)
          have HRE := hide hrfe
          have HRK := hide hro
          obtain ⟨x, hx⟩ : ∃ x : Nat, x = 45 + 40 * q := ⟨_, rfl⟩
          rw [← hx] at HRE
          have hx0 : (40 : Int) * (q : Int) = ((40 * q : Nat) : Int) := by omega
          have hxw0 : IntKind.i64.wrap (40 * (q : Int)) = 40 * (q : Int) := IntWalk.i64_in _ (by omega)
          have hx1 : 45 + 40 * (q : Int) = (x : Int) := by omega
          have hxw1 : IntKind.i64.wrap (45 + 40 * (q : Int)) = (x : Int) := by rw [hx1]; exact IntWalk.i64_in _ (by omega)
          have hx9 : x + 40 ≤ 512 := by omega
          have HLL : Hid (((List.range q).map (rfAt b)).length ≤ 10) := hide (by simp; omega)
          generalize hll : (List.range q).map (rfAt b) = l at *
          obtain ⟨ln, hln⟩ : ∃ ln, ln = l.length := ⟨_, rfl⟩
          rw [← hln] at hix hnm
          obtain ⟨g7, hg7⟩ : ∃ g7, g7 = wr.heap.size := ⟨_, rfl⟩
          rw [← hg7] at hix
          have HG7 := hide hg7
          have HIX : Hid (IxS w (wr.alloc (.cells z34J.toArray 73)) g2 g4 g7 r0 l (.slice ua ln uc) ⟨prt b x 0, 0, 0⟩) := hide (by rw [prt_zero]; exact hix)
          generalize rfAt b q = rk at *
          clear hix hro hrfe hnm HQ hll hln hg7 hx0 hx
          go_wp2_with (first
            | (refine wpList_allocJ rfl 73 rfl infoJ ?_; rw [← HG7.out])
            | fail)
          clear c44
          go_loopw [9] (fun i W => ∃ k : Nat, k ≤ 32 ∧ i = .int .i64 k ∧ Hid (IxS w W g2 g4 g7 r0 l (.slice ua ln uc) ⟨prt b x k, 0, 0⟩)) (fun i _ => 32 - (intOf i).toNat)
          case atStart => exact ⟨0, Nat.zero_le _, rfl, HIX⟩
          case round =>
            clear HIX
            obtain ⟨k, hk2, rfl, HI⟩ := hrel
            by_cases hlt2 : k < 32
            · have hc := unhide HC wr HI.out.nm.2.2.2 (x + k) (by omega)
              have hpl : (prt b x k).length = 32 := prt_len hk2 (by rw [HBLEN.out]; omega)
              have hst := HI.out.setc (j := k) (u := .int .u8 (b.getD (x + k) 0)) (y := ⟨prt b x (k + 1), 0, 0⟩) (by
                rw [jfV_hs (r := ⟨prt b x k, 0, 0⟩) (by show k < (prt b x k).length; omega)]
                show jfV ⟨(prt b x k).set k _, 0, 0⟩ = _
                rw [prt_step hlt2 (by rw [HBLEN.out]; omega)])
              have hce : ∃ u, wr.cell? ⟨g7, k, none⟩ = some u := by
                rw [HI.out.ar.cell]
                exact ⟨_, List.getElem?_eq_getElem (by show k < (jfV ⟨prt b x k, 0, 0⟩).length; simp [jfV, hpl]; omega)⟩
              obtain ⟨u0, hu0⟩ := hce
              have hfr := HI.out.ar.frozen k
              have HST := hide hst
              generalize b.getD (x + k) 0 = y at *
              clear hst hpl HI
              go_wp2
              go_roundw
              case rel => exact ⟨k + 1, by omega, by go_num, HST⟩
              case measure => simp [intOf]; omega
            · have hI0 : IxS w wr g2 g4 g7 r0 l (.slice ua ln uc) ⟨(b.drop x).take 32, 0, 0⟩ := by
                obtain rfl : k = 32 := by omega
                have := HI.out
                rw [prt_all] at this
                exact this
              generalize hfh : (b.drop x).take 32 = fh at *
              have hfl : fh.length = 32 := by rw [← hfh]; simp; rw [HBLEN.out]; omega
              obtain ⟨x1, hx1'⟩ : ∃ x1 : Nat, x1 = x + 32 := ⟨_, rfl⟩
              obtain ⟨x2, hx2'⟩ : ∃ x2 : Nat, x2 = x + 36 := ⟨_, rfl⟩
              have e1 : (x : Int) + 32 = (x1 : Int) := by omega
              have e1w : IntKind.i64.wrap ((x : Int) + 32) = (x1 : Int) := by rw [e1]; exact IntWalk.i64_in _ (by omega)
              have e2 : (x : Int) + 36 = (x2 : Int) := by omega
              have e2w : IntKind.i64.wrap ((x : Int) + 36) = (x2 : Int) := by rw [e2]; exact IntWalk.i64_in _ (by omega)
              have HN1 := hide (unhide HN4 wr x1 (by omega) hI0.nm.2.2.2)
              have HRE2 : Hid (rk = ⟨fh, leN ((b.drop x1).take 4), leN ((b.drop x2).take 4)⟩) := hide (by rw [HRE.out, hx1', hx2'])
              have HN2 : Hid (∀ W, Below w.heap.size w W → Calls Tryd.prog 58 #[.slice (some ⟨bk, of, none⟩) 512 vc, .int .i64 (x2 : Int), .int .i64 4] W fun e w' => e = .returned (.int .i64 (leN ((b.drop x2).take 4))) ∧ w' = W) := hide (fun W hW => unhide HN4 W x2 (by omega) hW)
              generalize leN ((b.drop x1).take 4) = f1 at *
              generalize leN ((b.drop x2).take 4) = f2 at *
              have d0 : wr.cell? ⟨g7, 32, none⟩ = some (.int .i64 0) := (hI0.ar.cell 32).trans (jfV_f (e := ⟨fh, 0, 0⟩) hfl).1
              have d1 := hI0.ar.frozen 32
              have hI1 := hI0.setc (j := 32) (u := .int .i64 f1) (y := ⟨fh, f1, 0⟩) (jfV_fs (r := ⟨fh, 0, 0⟩) hfl f1)
              have d2 : (wr.setCell ⟨g7, 32, none⟩ (.int .i64 f1)).cell? ⟨g7, 33, none⟩ = some (.int .i64 0) := (hI1.ar.cell 33).trans (jfV_f (e := ⟨fh, f1, 0⟩) hfl).2
              have d3 := hI1.ar.frozen 33
              have hI2 := hI1.setc (j := 33) (u := .int .i64 f2) (y := ⟨fh, f1, f2⟩) (jfV_ls (r := ⟨fh, f1, 0⟩) hfl f2)
              rw [← HRE2.out] at hI2
              have HX1 := hide hI1.nm.2.2.2
              have HI2 := hide hI2
              clear HI HRE hfh hI0 hI1 hI2 hx1' hx2' hx1 hxw1 hxw0
              go_wp2_with fail
              refine (unhide HN1).mono ?_
              rintro e wn ⟨rfl, hwn⟩
              obtain rfl := hwn.symm
              clear hwn HN1
              go_wp2_with fail
              refine (unhide HN2 _ HX1.out).mono ?_
              rintro e wn ⟨rfl, hwn⟩
              obtain rfl := hwn.symm
              clear hwn HN2
              have hrx := HI2.out.ar.rangeJ
              have hcr : ((wr.setCell ⟨g7, 32, none⟩ (.int .i64 f1)).setCell ⟨g7, 33, none⟩ (.int .i64 f2)).cell? ⟨g4, 33, none⟩ = some (.slice ua ln uc) := (HI2.out.nm.1.cell 33).trans (jrV_v hr0p _)
              obtain ⟨w5, hw5⟩ : ∃ w5, w5 = (wr.setCell ⟨g7, 32, none⟩ (.int .i64 f1)).setCell ⟨g7, 33, none⟩ (.int .i64 f2) := ⟨_, rfl⟩
              rw [← hw5] at hrx hcr HI2
              have HW5 := hide hw5
              have hinfx := infoJof HRK.out
              have hbc := jalloc_below w5 (.cells (jfV rk).toArray 73)
              have HXC := hide (HI2.out.nm.below hbc)
              have HJC := hide (isJ_lit HRK.out (Arr.new w5 (jfV rk) 73))
              have HBS := hide (bslRf HRK.out.len w5)
              have hlc2 : l.length + [rk].length ≤ 100000000000 := by have := HLL.out; simp; omega
              clear hw5 hbc
              go_upto_region 20 with fail
              rw [← HW5.out]
              go_wp2_with (first
                | (refine wpList_loadJ rfl 73 (.tmp 7) rfl g7 0 rfl (jfV rk) _ hrx Tryd.underlying73 rfl hinfx ?_)
                | (refine wpList_bslice1 rfl 34 (.tmp 79) rfl (v := .agg (jfV rk).toArray) rfl HBS.out ?_)
                | (at_builtin; refine wpList_appJ rfl (.tmp 78) (.tmp 80) rfl rfl HXC.out.2.1 rfl HJC.out hlc2 HXC.out.2.2.2.size ?_; intro v6 w6 ho6 hg6 _
                   obtain ⟨⟨hc6, hf6⟩, hS6⟩ := HXC.out.app hr0p HNE.out.2.1 HNE.out.1 ho6 hg6
                   obtain ⟨a6, c6, hv6⟩ := ho6.shape
                   obtain ⟨n6, hn6⟩ : ∃ n6, n6 = (l ++ [rk]).length := ⟨_, rfl⟩
                   rw [← hn6] at hv6
                   subst hv6
                   rw [← HSQ.out] at hS6
                   have HF := hide (Exists.intro _ hS6)
                   clear ho6 hg6 hS6 hn6))
              go_roundw
              case rel => exact ⟨q + 1, by omega, by go_num, HF⟩
              case measure => simp [intOf]; omega
        · have HIC : Hid (q = cn) := hide (by omega)
          obtain ⟨u, hu⟩ : ∃ u, NmS w wr g2 g4 r0 (namB b).rs u := ⟨_, by rw [HIC.out, ← HNR.out] at hnm; exact hnm⟩
          have hA4 : Arr wr g4 52 (jrV (namB b) u) := by rw [← unhide HJR u]; exact hu.1
          have hrng := hA4.rangeJ
          have hinf := infoRof (r := namB b) HOK.out.len u
          have hlen : z34R.length = (jrV (namB b) u).length := by rw [jrV_len HOK.out.len]; decide
          have hon := jrV_one (namB b) hu.2.1.isJ.one
          have HEN := hide (renc_calls HOK.out hu.2.1.isJ)
          have HU := hide hu
          have HA4 := hide hA4
          clear hnm hu hA4 HQ
          go_wp2_with (first
            | (refine wpList_loadJ rfl 52 (.tmp 4) rfl g4 0 rfl (jrV (namB b) u) _ hrng Tryd.underlying52 rfl hinf ?_)
            | fail)
          refine (unhide HEN).mono ?_
          rintro e w4 ⟨fv, rfl, ho4, hb4⟩
          have hA44 := HA4.out.below hb4
          have hN4 := HU.out.below hb4
          obtain ⟨fa, fn, fc, rfl⟩ := ho4.shape
          have hrng4 := hA44.rangeJ
          have HQ : Hid (∀ w5, w4.grownBy w5 (some g2) → OwnJ w5 w.heap.size u (namB b).rs ∧ Below w.heap.size w w5) := hide (fun w5 hg5 => ⟨⟨hN4.2.1.1, hN4.2.1.2.kept hg5 (OwnJ.block hN4.2.1 hN4.2.2.1 (by decide))⟩, jbelow_grown hN4.2.2.2 hg5 hN4.2.2.2.size HNE.out.2.2⟩)
          have HA24 := hide hN4.2.2.1
          have HIF := hide ho4.isB
          have HI4 := hide (unhide HIS w4 hN4.2.2.2)
          clear HEN ho4 hb4 hA44 hN4 HU HA4 hrng c44
          by_cases he : encE (namB b) = 0
          · have HE := hide he
            rw [he]
            have HIF2 : Hid (IsB w4 (.slice fa fn fc) (encL (namB b))) := hide (by have := HIF.out; rw [encR_yes HE.out] at this; exact this)
            clear HIF he
            by_cases heq : encL (namB b) = b
            · obtain ⟨q1, q2⟩ := unhide HDY HE.out heq
              have HEQ : Hid (Calls Tryd.prog 59 #[.slice fa fn fc, .slice (some ⟨bk, of, none⟩) 512 vc] w4 fun e w' => e = .returned (.bool true) ∧ w' = w4) := hide (by have := jsame_calls HIF2.out HI4.out; rw [decide_eq_true heq] at this; exact this)
              have HQ1 := hide (And.intro q1 q2)
              clear q1 q2 heq HDY HDN HIF2 HI4
              go_wp2_with fail
              refine (unhide HEQ).mono ?_
              rintro e w5 ⟨rfl, hw5⟩
              obtain rfl := hw5.symm
              clear hw5 HEQ
              go_wp2_with (first
                | (refine wpList_loadJ rfl 52 (.tmp 4) rfl g4 0 rfl (jrV (namB b) u) _ hrng4 Tryd.underlying52 rfl hinf ?_)
                | (refine wpList_storeJ rfl (.tmp 2) (.tmp 97) 52 rfl rfl rfl HA24.out hinf hlen hon ?_; intro w6 hA6 hg6))
              obtain ⟨ho6, hb6⟩ := unhide HQ w6 hg6
              have hA7 : Arr w6 g2 52 (jrV (namB b) u) := hA6
              refine bodyPost_ret (results_rowJ2 rfl rfl rfl hA7 Tryd.underlying52 rfl hinf) rfl ?_
              rw [HQ1.out.1, HQ1.out.2]
              exact ⟨u, rfl, ho6, hb6⟩
            · obtain ⟨q1, q2⟩ := unhide HDN (fun hc => heq hc.2)
              have HEQ : Hid (Calls Tryd.prog 59 #[.slice fa fn fc, .slice (some ⟨bk, of, none⟩) 512 vc] w4 fun e w' => e = .returned (.bool false) ∧ w' = w4) := hide (by have := jsame_calls HIF2.out HI4.out; rw [decide_eq_false heq] at this; exact this)
              have HQ1 := hide (And.intro q1 q2)
              clear q1 q2 heq HDY HDN HIF2 HI4
              go_wp2_with fail
              refine (unhide HEQ).mono ?_
              rintro e w5 ⟨rfl, hw5⟩
              obtain rfl := hw5.symm
              clear hw5 HEQ
              go_wp2_with (first
                | (refine wpList_bldJ rfl 52 rfl bldR0 ?_)
                | (refine wpList_storeJ rfl (.tmp 2) (.tmp 96) 52 rfl rfl rfl HA24.out hinf0 hlen0 hone0 ?_; intro w6 hA6 hg6))
              obtain ⟨ho6, hb6⟩ := unhide HQ w6 hg6
              have hA7 : Arr w6 g2 52 (jrV .nul (.slice none 0 0)) := hA6
              refine bodyPost_ret (results_rowJ2 rfl rfl rfl hA7 Tryd.underlying52 rfl hinf0) rfl ?_
              rw [HQ1.out.1, HQ1.out.2]
              exact ⟨_, rfl, OwnJ.nil _ _, hb6⟩
          · obtain ⟨q1, q2⟩ := unhide HDN (fun hc => he hc.1)
            have hne : (encE (namB b) != 0) = true := by simpa using he
            have HQ1 := hide (And.intro q1 q2)
            generalize encE (namB b) = ee at *
            clear q1 q2 he HDY HDN HI4 HIF
            go_wp2_with (first
              | (refine wpList_bldJ rfl 52 rfl bldR0 ?_)
              | (refine wpList_storeJ rfl (.tmp 2) (.tmp 96) 52 rfl rfl rfl HA24.out hinf0 hlen0 hone0 ?_; intro w6 hA6 hg6))
            obtain ⟨ho6, hb6⟩ := unhide HQ w6 hg6
            have hA7 : Arr w6 g2 52 (jrV .nul (.slice none 0 0)) := hA6
            refine bodyPost_ret (results_rowJ2 rfl rfl rfl hA7 Tryd.underlying52 rfl hinf0) rfl ?_
            rw [HQ1.out.1, HQ1.out.2]
            exact ⟨_, rfl, OwnJ.nil _ _, hb6⟩
/-- What the document's Decode answers. -/
theorem rdec_calls {w : World} {v : Value} {b : List Int} (h : IsB w v b) :
    Calls Tryd.prog 33 #[v] w fun e w' => ∃ u, e = .returned (.tuple #[.agg (jrV (decR b) u).toArray, .bool (decO b).isSome]) ∧ OwnJ w' w.heap.size u (decR b).rs ∧ Below w.heap.size w w' := by
  have hby := isB_by h
  by_cases hl : b.length = 512
  · by_cases hc : b.getD 44 0 < 1 ∨ 8 < b.getD 44 0
    · have hn := dec_cnt hby hl hc
      rw [(decR_none hn).1, hn]
      obtain ⟨_, va, vc, rfl, hlc, hvm, _, hcell⟩ := id h
      obtain ⟨bk, of, rfl, hcl⟩ := hcell (by omega)
      refine (rdec_none hlc hvm (Or.inr ⟨hl, bk, of, rfl, b.getD 44 0, fun W hW => ?_, hc⟩)).mono fun _ _ ⟨h1, h2⟩ => ⟨_, h1, OwnJ.nil _ _, h2⟩
      have h1 := hcl 44 (by omega)
      exact (hW.cell (p := ⟨bk, of + 44, none⟩) (World.block_lt_of_cell? w _ h1)).trans h1
    · exact rdec_long h hl (by omega) (by omega)
  · have hn := short_none hl
    rw [(decR_none hn).1, hn]
    obtain ⟨_, va, vc, rfl, hlc, hvm, _, hcell⟩ := id h
    exact (rdec_none hlc hvm (Or.inl (by simpa using hl))).mono fun _ _ ⟨h1, h2⟩ => ⟨_, h1, OwnJ.nil _ _, h2⟩
end Go.Proofs.YthhjlopgpmaokabDoor

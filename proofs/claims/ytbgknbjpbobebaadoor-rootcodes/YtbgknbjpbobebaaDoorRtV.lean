/- What Read answers. -/
import Derived.Test.YtbgknbjpbobebaaDoorRtR
namespace Go.Proofs.YtbgknbjpbobebaaDoor
open Go.RowKit Go.Maps

/-- The newer one. -/
noncomputable def newer (a b : Option SL) : Option SL := match b with
  | none => a
  | some s => match a with
    | none => some s
    | some r => if r.t < s.t then some s else some r
noncomputable def accO (N : Nat) (now : Nat → List Int) : Nat → Option SL
  | 0 => none
  | k + 1 => newer (accO N now k) (sndO N (now k) k)
/-- The slot that counts. -/
noncomputable def cntS (N : Nat) (now : Nat → List Int) : Option SL := accO N now 2
def oE (o : Option SL) : Int := if o.isSome = true then 0 else 180
theorem newer_ok {a b : Option SL} (ha : (a.getD .nul).Ok) (hb : (b.getD .nul).Ok) : ((newer a b).getD .nul).Ok := by
  unfold newer
  split
  · exact ha
  · split
    · exact hb
    · split
      · exact hb
      · exact ha
theorem accO_ok {N : Nat} {now : Nat → List Int} (h : ∀ i, i < 2 → By8 (now i)) : ∀ k, k ≤ 2 → ((accO N now k).getD .nul).Ok
  | 0, _ => SL.nul_ok
  | k + 1, hk => newer_ok (accO_ok h k (by omega)) (sndO_ok (h k (by omega)))
theorem tdk_int : True := trivial
set_option maxRecDepth 100000 in
set_option maxHeartbeats 1000000 in
theorem read_nil (w : World) : Calls Tryd.prog 20 #[.pointer none] w fun e w' => e = .returned (.tuple #[.agg (slV .nul).toArray, .int .i64 1]) ∧ Below w.heap.size w w' := by
  have hlen : z105.length = (slV .nul).length := by rw [slV_len SL.nul_ok]; rfl
  have hinf := infoSof SL.nul_ok
  have hone := slV_one SL.nul
  have HB1 := hide (jalloc_below w (.cells z105.toArray 27))
  go_enter Tryd.func20, Tryd.ntmps20
  go_wp2_with (first
    | (refine wpList_allocJ rfl 27 rfl infoSlo ?_)
    | (refine wpList_bldJ rfl 27 rfl bldS0 ?_)
    | (refine wpList_storeJ rfl (.tmp 2) (.tmp 11) 27 rfl rfl rfl (Arr.new w z105 27) hinf hlen hone ?_; intro w2 hA2 hg2))
  have HB2 := hide (jbelow_grown HB1.out hg2 HB1.out.size (Nat.le_refl _))
  have hA3 : Arr w2 w.heap.size 27 (slV .nul) := hA2
  refine bodyPost_ret (results_rowJ2 rfl rfl rfl hA3 Tryd.underlying27 rfl hinf) rfl ?_
  exact ⟨rfl, HB2.out⟩
/-- The state of Read's loop. -/
structure RdL (w0 w W : World) (p g2 g4 : Nat) (D : AD) (k : Nat) (cs : List Value) : Prop where
  sn : Sn w0 W p (D.sds k)
  cj : Cj TDk w W
  a2 : Arr W g2 27 z105
  a4 : Arr W g4 27 cs
theorem RdL.below {w0 w W W' : World} {p g2 g4 : Nat} {D : AD} {k : Nat} {cs : List Value} (h : RdL w0 w W p g2 g4 D k cs) (hb : Below W.heap.size W W') : RdL w0 w W' p g2 g4 D k cs := ⟨h.sn.below hb, Cj.trans h.cj (Cj.of_below hb), h.a2.below hb, h.a4.below hb⟩
/-- A block of ours is written. -/
theorem Cj.own {T : TypeId → Prop} {w W W' : World} {g : Nat} (h : Cj T w W) (hg : W.grownBy W' (some g)) (hlo : w.heap.size ≤ g) : Cj T w W' :=
  ⟨hg.os.trans h.os, hg.tape.trans h.tape, hg.output.trans h.output, Nat.le_trans h.size hg.size, fun k cs t m hk hn => by
    have h1 := h.block k cs t m hk hn
    have hlt := (Array.getElem?_eq_some_iff.1 hk).1
    rw [hg.block k (Array.getElem?_eq_some_iff.1 h1).1 (by simp; omega)]
    exact h1⟩
theorem RdL.put {w0 w W W' : World} {p g2 g4 : Nat} {D : AD} {k : Nat} {cs cs' : List Value} (h : RdL w0 w W p g2 g4 D k cs) (hg : W.grownBy W' (some g4)) (hA : Arr W' g4 27 cs') (hlo : w0.heap.size ≤ g4) (hw : w.heap.size ≤ g4) (hne : g2 ≠ g4) : RdL w0 w W' p g2 g4 D k cs' :=
  ⟨h.sn.set hg h.a4 tdk_slot hlo, h.cj.own hg hw, arr_grown h.a2 hg (by simpa using hne), hA⟩
set_option maxRecDepth 100000 in
set_option maxHeartbeats 4000000 in
theorem sread_calls {w0 w : World} {p : Nat} {D : AD} (hS : Sn w0 w p D) (ht : Tab w0) (hr0 : 0 ≤ D.rd) (hr1 : D.rd ≤ 1000000000000000000) :
    Calls Tryd.prog 20 #[.pointer (some ⟨p, 0, none⟩)] w fun e w' => e = .returned (.tuple #[.agg (slV ((cntS D.la.length D.now).getD .nul)).toArray, .int .i64 (oE (cntS D.la.length D.now))]) ∧ Sn w0 w' p (D.sds 2) ∧ Cj TDk w w' := by
  have hla := hS.ok
  have hn2 : 2 ≤ D.la.length := hla.lo
  have hby : ∀ i, i < 2 → By8 (D.now i) := fun i hi => (hla.now (i := i) (by omega)).2
  have HSO : Hid (∀ k, k < 2 → ∀ W, Sn w0 W p (D.sds k) → Calls Tryd.prog 48 #[.pointer (some ⟨p, 0, none⟩), .int .i64 (k : Int)] W fun e w' => e = .returned (.tuple #[.agg (slV ((sndO D.la.length (D.now k) k).getD .nul)).toArray, .bool (sndO D.la.length (D.now k) k).isSome]) ∧ Sn w0 w' p (D.sds (k + 1)) ∧ Cj TDk W w') := hide (fun k hk W hW => by
    have := sound_calls (D := D.sds k) hW hk ht (by show 0 ≤ D.rd + k; omega) (by show D.rd + k ≤ _; omega)
    rw [AD.sds_one] at this
    exact this)
  have HOKA := hide (accO_ok (N := D.la.length) hby)
  have HOKS : Hid (∀ k, k < 2 → ((sndO D.la.length (D.now k) k).getD .nul).Ok) := hide (fun k hk => sndO_ok (hby k hk))
  have HRL0 : Hid (∀ W g2 g4, Sn w0 W p D → Cj TDk w W → Arr W g2 27 z105 → Arr W g4 27 (slV .nul) → RdL w0 w W p g2 g4 D 0 (slV ((accO D.la.length D.now 0).getD .nul))) := hide (fun W g2 g4 h1 h2 h3 h4 => ⟨by rw [AD.sds_zero]; exact h1, h2, h3, h4⟩)
  have HNX : Hid (∀ k, accO D.la.length D.now (k + 1) = newer (accO D.la.length D.now k) (sndO D.la.length (D.now k) k)) := hide (fun k => rfl)
  have HCN : Hid (cntS D.la.length D.now = accO D.la.length D.now 2) := hide rfl
  have hb1 := jalloc_below w (.cells z105.toArray 27)
  have hA1 := Arr.new w z105 27
  obtain ⟨w1, hw1⟩ : ∃ w1, w1 = w.alloc (.cells z105.toArray 27) := ⟨_, rfl⟩
  rw [← hw1] at hb1 hA1
  have hb2 := jalloc_below w1 (.cells z105.toArray 27)
  have hA2 := Arr.new w1 z105 27
  obtain ⟨w2, hw2⟩ : ∃ w2, w2 = w1.alloc (.cells z105.toArray 27) := ⟨_, rfl⟩
  rw [← hw2] at hb2 hA2
  have HW1 := hide hw1
  have HW2 := hide hw2
  obtain ⟨g2, hg2⟩ : ∃ g2, g2 = w.heap.size := ⟨_, rfl⟩
  obtain ⟨g4, hg4⟩ : ∃ g4, g4 = w1.heap.size := ⟨_, rfl⟩
  rw [← hg2] at hA1
  rw [← hg4] at hA2
  have HG2 := hide hg2
  have HG4 := hide hg4
  have hlt := hA1.lt
  have HLO : Hid (w0.heap.size ≤ g4 ∧ w.heap.size ≤ g4 ∧ g2 ≠ g4 ∧ w0.heap.size ≤ g2 ∧ w.heap.size ≤ g2) := hide (by have := hS.be.size; have := hb1.size; omega)
  have HST0 : Hid (∀ w3, Arr w3 g4 27 (slV .nul) → w2.grownBy w3 (some g4) → RdL w0 w w3 p g2 g4 D 0 (slV ((accO D.la.length D.now 0).getD .nul))) := hide (fun w3 hA3 hg3 => by
    have hbb := below_then hb1 hb2
    exact unhide HRL0 w3 g2 g4 ((hS.below hbb).set hg3 hA2 tdk_slot HLO.out.1) ((Cj.of_below hbb).own hg3 HLO.out.2.1) (arr_grown (hA1.below hb2) hg3 (by simpa using HLO.out.2.2.1)) hA3)
  have HA2 := hide hA2
  have hlen0 : z105.length = (slV .nul).length := by rw [slV_len SL.nul_ok]; rfl
  have hinf0 := infoSof SL.nul_ok
  have hone0 := slV_one SL.nul
  generalize D.la.length = N at *
  generalize hnow : D.now = now at *
  clear hS hla hn2 hby ht hb1 hA1 hw1 hb2 hA2 hw2 hg2 hg4 hlt HRL0 hnow
  go_enter Tryd.func20, Tryd.ntmps20
  go_wp2_with (first
    | (refine wpList_allocJ rfl 27 rfl infoSlo ?_; first | rw [← HW1.out, ← HG2.out] | rw [← HW2.out, ← HG4.out])
    | (refine wpList_bldJ rfl 27 rfl bldS0 ?_)
    | (refine wpList_storeJ rfl (.tmp 4) (.tmp 12) 27 rfl rfl rfl HA2.out hinf0 hlen0 hone0 ?_; intro w3 hA3 hg3
       have HR0 := hide (unhide HST0 w3 hA3 hg3)
       clear hA3 hg3)
    | fail)
  go_loopw [5, 13] (fun ev i W => ∃ k : Nat, k ≤ 2 ∧ i = .int .i64 k ∧ ev = .int .i64 (oE (accO N now k)) ∧ Hid (RdL w0 w W p g2 g4 D k (slV ((accO N now k).getD .nul)))) (fun _ i _ => 2 - (intOf i).toNat)
  case atStart => exact ⟨0, by decide, rfl, rfl, HR0⟩
  case round =>
    clear HR0 HST0
    obtain ⟨k, hk, rfl, rfl, HR⟩ := hrel
    have hinfA := infoSof (unhide HOKA k hk)
    have honeA := slV_one ((accO N now k).getD .nul)
    have hlenA : (slV ((accO N now k).getD .nul)).length = 105 := slV_len (unhide HOKA k hk)
    by_cases hlt : k < 2
    · have HSK := hide (unhide HSO k hlt wr HR.out.sn)
      have HNK := hide (unhide HNX k)
      have HOK2 := hide (unhide HOKS k hlt)
      have hinfS := infoSof HOK2.out
      have honeS := slV_one ((sndO N (now k) k).getD .nul)
      have hlenS : (slV ((sndO N (now k) k).getD .nul)).length = 105 := slV_len HOK2.out
      have hz : z105.length = 105 := rfl
      generalize sndO N (now k) k = o at *
      generalize hac : accO N now k = ac at *
      clear hac
      go_wp2_with fail
      refine (unhide HSK).mono ?_
      rintro e w4 ⟨rfl, hS4, hC4⟩
      have hR4 : RdL w0 w w4 p g2 g4 D (k + 1) (slV (ac.getD .nul)) := ⟨hS4, Cj.trans HR.out.cj hC4, HR.out.a2.cj hC4 tdk_slot, HR.out.a4.cj hC4 tdk_slot⟩
      have HX : Hid (∀ w5, Arr w5 w4.heap.size 27 (slV (o.getD .nul)) → (w4.alloc (.cells z105.toArray 27)).grownBy w5 (some w4.heap.size) → RdL w0 w w5 p g2 g4 D (k + 1) (slV (ac.getD .nul)) ∧ w5.cell? ⟨w4.heap.size, 2, none⟩ = some (.int .i64 (o.getD .nul).t) ∧ w5.cell? ⟨g4, 2, none⟩ = some (.int .i64 (ac.getD .nul).t) ∧ w5.rangeAt w4.heap.size 0 (slV (o.getD .nul))) := hide (fun w5 hA5 hg5 => by
        have hba := jalloc_below w4 (.cells z105.toArray 27)
        have hbw : Below w4.heap.size w4 w5 := jbelow_grown hba hg5 hba.size (Nat.le_refl _)
        have hR5 := hR4.below hbw
        exact ⟨hR5, (hA5.cell 2).trans (slV_at _).2.2.1, (hR5.a4.cell 2).trans (slV_at _).2.2.1, hA5.rangeJ⟩)
      have hcase : (o.isSome = false ∧ newer ac o = ac) ∨ (o.isSome = true ∧ oE ac = 180 ∧ newer ac o = o ∧ oE o = 0) ∨ (o.isSome = true ∧ oE ac = 0 ∧ (ac.getD .nul).t < (o.getD .nul).t ∧ newer ac o = o ∧ oE o = 0) ∨ (o.isSome = true ∧ oE ac = 0 ∧ ¬ (ac.getD .nul).t < (o.getD .nul).t ∧ newer ac o = ac) := by
        cases o with
        | none => exact Or.inl ⟨rfl, rfl⟩
        | some s =>
          cases ac with
          | none => exact Or.inr (Or.inl ⟨rfl, rfl, rfl, rfl⟩)
          | some r =>
            by_cases h : r.t < s.t
            · exact Or.inr (Or.inr (Or.inl ⟨rfl, rfl, h, by show (if r.t < s.t then some s else some r) = some s; rw [if_pos h], rfl⟩))
            · exact Or.inr (Or.inr (Or.inr ⟨rfl, rfl, h, by show (if r.t < s.t then some s else some r) = some r; rw [if_neg h]⟩))
      have HNS : Hid (newer ac o = ac → oE (accO N now (k + 1)) = oE ac ∧ slV ((accO N now (k + 1)).getD .nul) = slV (ac.getD .nul)) := hide (fun h => by rw [HNK.out, h]; exact ⟨rfl, rfl⟩)
      have HNO : Hid (newer ac o = o → oE o = 0 → oE (accO N now (k + 1)) = 0 ∧ slV ((accO N now (k + 1)).getD .nul) = slV (o.getD .nul)) := hide (fun h h2 => by rw [HNK.out, h]; exact ⟨h2, rfl⟩)
      generalize slV (o.getD .nul) = csO at *
      generalize slV (ac.getD .nul) = csA at *
      generalize (o.getD .nul).t = tO at *
      generalize (ac.getD .nul).t = tA at *
      generalize oE ac = eA at *
      generalize o.isSome = bo at *
      have HZO : Hid (z105.length = csO.length) := hide (hz.trans hlenS.symm)
      have HAO : Hid (csA.length = csO.length) := hide (hlenA.trans hlenS.symm)
      clear hS4 hC4 hR4 HSK HR hlenS hlenA hz
      have hX9 : ∀ w5, RdL w0 w w5 p g2 g4 D (k + 1) csA → True := fun _ _ => trivial
      clear hX9
      rcases hcase with ⟨rfl, hn⟩ | ⟨rfl, rfl, hn, ho⟩ | ⟨rfl, rfl, htt, hn, ho⟩ | ⟨rfl, rfl, htt, hn⟩
      · have HQ := hide (unhide HNS hn)
        clear HNS HNO hn
        go_wp2_with (first
          | (refine wpList_allocJ rfl 27 rfl infoSlo ?_)
          | (refine wpList_storeJ rfl (.tmp 7) (.tmp 20) 27 rfl rfl rfl (Arr.new w4 z105 27) hinfS HZO.out honeS ?_; intro w5 hA5 hg5
             obtain ⟨hR5, c2, d2, hrg⟩ := unhide HX w5 hA5 hg5
             have HR5 := hide hR5
             clear hA5 hg5 hR5)
          | fail)
        refine ⟨⟨k + 1, by omega, by go_num, by rw [HQ.out.1], by rw [HQ.out.2]; exact HR5⟩, ?_⟩
        simp [intOf]
        omega
      · have HQ := hide (unhide HNO hn ho)
        clear HNS HNO hn ho
        go_wp2_with (first
          | (refine wpList_allocJ rfl 27 rfl infoSlo ?_)
          | (refine wpList_storeJ rfl (.tmp 7) (.tmp 20) 27 rfl rfl rfl (Arr.new w4 z105 27) hinfS HZO.out honeS ?_; intro w5 hA5 hg5
             obtain ⟨hR5, c2, d2, hrg⟩ := unhide HX w5 hA5 hg5
             have HR5 := hide hR5
             clear hA5 hg5 hR5)
          | (refine wpList_loadJ rfl 27 (.tmp 7) rfl _ 0 rfl csO _ hrg Tryd.underlying27 rfl hinfS ?_)
          | (refine wpList_storeJ rfl (.tmp 4) (.tmp 34) 27 rfl rfl rfl HR5.out.a4 hinfS HAO.out honeS ?_; intro w6 hA6 hg6
             have HR6 := hide (HR5.out.put hg6 hA6 HLO.out.1 HLO.out.2.1 HLO.out.2.2.1)
             clear hA6 hg6)
          | fail)
        refine ⟨⟨k + 1, by omega, by go_num, by rw [HQ.out.1], by rw [HQ.out.2]; exact HR6⟩, ?_⟩
        simp [intOf]
        omega
      · have HQ := hide (unhide HNO hn ho)
        clear HNS HNO hn ho
        go_wp2_with (first
          | (refine wpList_allocJ rfl 27 rfl infoSlo ?_)
          | (refine wpList_storeJ rfl (.tmp 7) (.tmp 20) 27 rfl rfl rfl (Arr.new w4 z105 27) hinfS HZO.out honeS ?_; intro w5 hA5 hg5
             obtain ⟨hR5, c2, d2, hrg⟩ := unhide HX w5 hA5 hg5
             have HR5 := hide hR5
             clear hA5 hg5 hR5)
          | (refine wpList_loadJ rfl 27 (.tmp 7) rfl _ 0 rfl csO _ hrg Tryd.underlying27 rfl hinfS ?_)
          | (refine wpList_storeJ rfl (.tmp 4) (.tmp 34) 27 rfl rfl rfl HR5.out.a4 hinfS HAO.out honeS ?_; intro w6 hA6 hg6
             have HR6 := hide (HR5.out.put hg6 hA6 HLO.out.1 HLO.out.2.1 HLO.out.2.2.1)
             clear hA6 hg6)
          | fail)
        refine ⟨⟨k + 1, by omega, by go_num, by rw [HQ.out.1], by rw [HQ.out.2]; exact HR6⟩, ?_⟩
        simp [intOf]
        omega
      · have hdd : decide (tA < tO) = false := by simpa using htt
        have HQ := hide (unhide HNS hn)
        clear HNS HNO hn
        go_wp2_with (first
          | (refine wpList_allocJ rfl 27 rfl infoSlo ?_)
          | (refine wpList_storeJ rfl (.tmp 7) (.tmp 20) 27 rfl rfl rfl (Arr.new w4 z105 27) hinfS HZO.out honeS ?_; intro w5 hA5 hg5
             obtain ⟨hR5, c2, d2, hrg⟩ := unhide HX w5 hA5 hg5
             have HR5 := hide hR5
             clear hA5 hg5 hR5)
          | fail)
        refine ⟨⟨k + 1, by omega, by go_num, by rw [HQ.out.1], by rw [HQ.out.2]; exact HR5⟩, ?_⟩
        simp [intOf]
        omega
    · have HK2 : Hid (k = 2) := hide (by omega)
      have HRC : Hid (RdL w0 w wr p g2 g4 D 2 (slV ((cntS N now).getD .nul)) ∧ oE (accO N now k) = oE (cntS N now)) := hide (by have := HR.out; rw [HK2.out] at this; rw [HCN.out, HK2.out]; exact ⟨this, rfl⟩)
      have hinfC : (Tryd.prog.info? 27).map (·.size) = some (slV ((cntS N now).getD .nul)).length := by rw [HCN.out]; exact infoSof (unhide HOKA 2 (by decide))
      have hlenC : z105.length = (slV ((cntS N now).getD .nul)).length := by rw [HCN.out, slV_len (unhide HOKA 2 (by decide))]; rfl
      have honeC := slV_one ((cntS N now).getD .nul)
      have hrg := HRC.out.1.a4.rangeJ
      rw [HRC.out.2]
      generalize hcC : slV ((cntS N now).getD .nul) = csC at *
      generalize heC : oE (cntS N now) = eC at *
      have HCC := hide hcC
      have HEC := hide heC
      clear HR hinfA honeA hlenA hcC heC
      go_wp2_with (first
        | (refine wpList_loadJ rfl 27 (.tmp 4) rfl _ 0 rfl csC _ hrg Tryd.underlying27 rfl hinfC ?_)
        | (refine wpList_storeJ rfl (.tmp 2) (.tmp 36) 27 rfl rfl rfl HRC.out.1.a2 hinfC hlenC honeC ?_; intro w9 hA9 hg9)
        | fail)
      have hA9' : Arr w9 g2 27 csC := hA9
      refine bodyPost_ret (results_rowJ2 rfl rfl rfl hA9' Tryd.underlying27 rfl hinfC) rfl ?_
      exact ⟨by rw [HCC.out, HEC.out]; rfl, HRC.out.1.sn.set hg9 HRC.out.1.a2 tdk_slot HLO.out.2.2.2.1, HRC.out.1.cj.own hg9 HLO.out.2.2.2.2⟩
end Go.Proofs.YtbgknbjpbobebaaDoor

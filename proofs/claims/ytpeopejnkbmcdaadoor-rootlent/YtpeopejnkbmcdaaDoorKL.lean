/- What Read answers. What NewWriter and Step answer. What Step answers. -/
import Derived.Test.YtpeopejnkbmcdaaDoorKK
namespace Go.Proofs.YtpeopejnkbmcdaaDoor
open Go.RowKit Go.Maps

/-- The newer one. -/
def newer (a b : Option SL) : Option SL := match b with
  | none => a
  | some s => match a with
    | none => some s
    | some r => if r.t < s.t then some s else some r
def accO (N : Nat) (now : Nat → List Int) : Nat → Option SL
  | 0 => none
  | k + 1 => newer (accO N now k) (sndO N (now k) k)
/-- The slot that counts. -/
def cntS (N : Nat) (now : Nat → List Int) : Option SL := accO N now 2
def oE (o : Option SL) : Int := if o.isSome = true then 0 else 180
theorem newer_ok {a b : Option SL} (ha : (a.getD .nul).Ok) (hb : (b.getD .nul).Ok) : ((newer a b).getD .nul).Ok := by
  unfold newer
  split
  · exact ha
  · split
    · exact hb
    · split
      · exact hb
      · exact ha
theorem accO_ok {N : Nat} {now : Nat → List Int} (h : ∀ i, i < 2 → By8 (now i)) : ∀ k, k ≤ 2 → ((accO N now k).getD .nul).Ok
  | 0, _ => SL.nul_ok
  | k + 1, hk => newer_ok (accO_ok h k (by omega)) (sndO_ok (h k (by omega)))
theorem tdk_int : True := trivial
set_option maxRecDepth 100000 in
set_option maxHeartbeats 1000000 in
theorem read_nil (w : World) : Calls Tryd.prog 10 #[.pointer none] w fun e w' => e = .returned (.tuple #[.agg (slV .nul).toArray, .int .i64 1]) ∧ Below w.heap.size w w' := by
  have hlen : z105.length = (slV .nul).length := by rw [slV_len SL.nul_ok]; rfl
  have hinf := infoSof SL.nul_ok
  have hone := slV_one SL.nul
  have HB1 := hide (jalloc_below w (.cells z105.toArray 32))
  go_enter Tryd.func10, Tryd.ntmps10
  go_wp2_with (first
    | (refine wpList_allocJ rfl 32 rfl infoSlo ?_)
    | (refine wpList_bldJ rfl 32 rfl bldS0 ?_)
    | (refine wpList_storeJ rfl (.tmp 2) (.tmp 11) 32 rfl rfl rfl (Arr.new w z105 32) hinf hlen hone ?_; intro w2 hA2 hg2))
  have HB2 := hide (jbelow_grown HB1.out hg2 HB1.out.size (Nat.le_refl _))
  have hA3 : Arr w2 w.heap.size 32 (slV .nul) := hA2
  refine bodyPost_ret (results_rowJ2 rfl rfl rfl hA3 Tryd.underlying32 rfl hinf) rfl ?_
  exact ⟨rfl, HB2.out⟩
/-- The state of Read's loop. -/
structure RdL (w0 w W : World) (p g2 g4 : Nat) (D : AD) (k : Nat) (cs : List Value) : Prop where
  sn : Sn w0 W p (D.sds k)
  cj : Cj TDk w W
  a2 : Arr W g2 32 z105
  a4 : Arr W g4 32 cs
theorem RdL.below {w0 w W W' : World} {p g2 g4 : Nat} {D : AD} {k : Nat} {cs : List Value} (h : RdL w0 w W p g2 g4 D k cs) (hb : Below W.heap.size W W') : RdL w0 w W' p g2 g4 D k cs := ⟨h.sn.below hb, Cj.trans h.cj (Cj.of_below hb), h.a2.below hb, h.a4.below hb⟩
/-- A block of ours is written. -/
theorem Cj.own {T : TypeId → Prop} {w W W' : World} {g : Nat} (h : Cj T w W) (hg : W.grownBy W' (some g)) (hlo : w.heap.size ≤ g) : Cj T w W' :=
  ⟨hg.os.trans h.os, hg.tape.trans h.tape, hg.output.trans h.output, Nat.le_trans h.size hg.size, fun k cs t m hk hn => by
    have h1 := h.block k cs t m hk hn
    have hlt := (Array.getElem?_eq_some_iff.1 hk).1
    rw [hg.block k (Array.getElem?_eq_some_iff.1 h1).1 (by simp; omega)]
    exact h1⟩
theorem RdL.put {w0 w W W' : World} {p g2 g4 : Nat} {D : AD} {k : Nat} {cs cs' : List Value} (h : RdL w0 w W p g2 g4 D k cs) (hg : W.grownBy W' (some g4)) (hA : Arr W' g4 32 cs') (hlo : w0.heap.size ≤ g4) (hw : w.heap.size ≤ g4) (hne : g2 ≠ g4) : RdL w0 w W' p g2 g4 D k cs' :=
  ⟨h.sn.set hg h.a4 tdk_slot hlo, h.cj.own hg hw, arr_grown h.a2 hg (by simpa using hne), hA⟩
set_option maxRecDepth 100000 in
set_option maxHeartbeats 4000000 in
theorem sread_calls {w0 w : World} {p : Nat} {D : AD} (hS : Sn w0 w p D) (ht : Tab w0) (hr0 : 0 ≤ D.rd) (hr1 : D.rd ≤ 1000000000000000000) :
    Calls Tryd.prog 10 #[.pointer (some ⟨p, 0, none⟩)] w fun e w' => e = .returned (.tuple #[.agg (slV ((cntS D.la.length D.now).getD .nul)).toArray, .int .i64 (oE (cntS D.la.length D.now))]) ∧ Sn w0 w' p (D.sds 2) ∧ Cj TDk w w' := by
  have hla := hS.ok
  have hn2 : 2 ≤ D.la.length := hla.lo
  have hby : ∀ i, i < 2 → By8 (D.now i) := fun i hi => (hla.now (i := i) (by omega)).2
  have HSO : Hid (∀ k, k < 2 → ∀ W, Sn w0 W p (D.sds k) → Calls Tryd.prog 21 #[.pointer (some ⟨p, 0, none⟩), .int .i64 (k : Int)] W fun e w' => e = .returned (.tuple #[.agg (slV ((sndO D.la.length (D.now k) k).getD .nul)).toArray, .bool (sndO D.la.length (D.now k) k).isSome]) ∧ Sn w0 w' p (D.sds (k + 1)) ∧ Cj TDk W w') := hide (fun k hk W hW => by
    have := sound_calls (D := D.sds k) hW hk ht (by show 0 ≤ D.rd + k; omega) (by show D.rd + k ≤ _; omega)
    rw [AD.sds_one] at this
    exact this)
  have HOKA := hide (accO_ok (N := D.la.length) hby)
  have HOKS : Hid (∀ k, k < 2 → ((sndO D.la.length (D.now k) k).getD .nul).Ok) := hide (fun k hk => sndO_ok (hby k hk))
  have HRL0 : Hid (∀ W g2 g4, Sn w0 W p D → Cj TDk w W → Arr W g2 32 z105 → Arr W g4 32 (slV .nul) → RdL w0 w W p g2 g4 D 0 (slV ((accO D.la.length D.now 0).getD .nul))) := hide (fun W g2 g4 h1 h2 h3 h4 => ⟨by rw [AD.sds_zero]; exact h1, h2, h3, h4⟩)
  have HNX : Hid (∀ k, accO D.la.length D.now (k + 1) = newer (accO D.la.length D.now k) (sndO D.la.length (D.now k) k)) := hide (fun k => rfl)
  have HCN : Hid (cntS D.la.length D.now = accO D.la.length D.now 2) := hide rfl
  have hb1 := jalloc_below w (.cells z105.toArray 32)
  have hA1 := Arr.new w z105 32
  obtain ⟨w1, hw1⟩ : ∃ w1, w1 = w.alloc (.cells z105.toArray 32) := ⟨_, rfl⟩
  rw [← hw1] at hb1 hA1
  have hb2 := jalloc_below w1 (.cells z105.toArray 32)
  have hA2 := Arr.new w1 z105 32
  obtain ⟨w2, hw2⟩ : ∃ w2, w2 = w1.alloc (.cells z105.toArray 32) := ⟨_, rfl⟩
  rw [← hw2] at hb2 hA2
  have HW1 := hide hw1
  have HW2 := hide hw2
  obtain ⟨g2, hg2⟩ : ∃ g2, g2 = w.heap.size := ⟨_, rfl⟩
  obtain ⟨g4, hg4⟩ : ∃ g4, g4 = w1.heap.size := ⟨_, rfl⟩
  rw [← hg2] at hA1
  rw [← hg4] at hA2
  have HG2 := hide hg2
  have HG4 := hide hg4
  have hlt := hA1.lt
  have HLO : Hid (w0.heap.size ≤ g4 ∧ w.heap.size ≤ g4 ∧ g2 ≠ g4 ∧ w0.heap.size ≤ g2 ∧ w.heap.size ≤ g2) := hide (by have := hS.be.size; have := hb1.size; omega)
  have HST0 : Hid (∀ w3, Arr w3 g4 32 (slV .nul) → w2.grownBy w3 (some g4) → RdL w0 w w3 p g2 g4 D 0 (slV ((accO D.la.length D.now 0).getD .nul))) := hide (fun w3 hA3 hg3 => by
    have hbb := below_then hb1 hb2
    exact unhide HRL0 w3 g2 g4 ((hS.below hbb).set hg3 hA2 tdk_slot HLO.out.1) ((Cj.of_below hbb).own hg3 HLO.out.2.1) (arr_grown (hA1.below hb2) hg3 (by simpa using HLO.out.2.2.1)) hA3)
  have HA2 := hide hA2
  have hlen0 : z105.length = (slV .nul).length := by rw [slV_len SL.nul_ok]; rfl
  have hinf0 := infoSof SL.nul_ok
  have hone0 := slV_one SL.nul
  generalize D.la.length = N at *
  generalize hnow : D.now = now at *
  clear hS hla hn2 hby ht hb1 hA1 hw1 hb2 hA2 hw2 hg2 hg4 hlt HRL0 hnow
  go_enter Tryd.func10, Tryd.ntmps10
  go_wp2_with (first
    | (refine wpList_allocJ rfl 32 rfl infoSlo ?_; first | rw [← HW1.out, ← HG2.out] | rw [← HW2.out, ← HG4.out])
    | (refine wpList_bldJ rfl 32 rfl bldS0 ?_)
    | (refine wpList_storeJ rfl (.tmp 4) (.tmp 12) 32 rfl rfl rfl HA2.out hinf0 hlen0 hone0 ?_; intro w3 hA3 hg3
       have HR0 := hide (unhide HST0 w3 hA3 hg3)
       clear hA3 hg3)
    | fail)
  go_loopw [5, 13] (fun ev i W => ∃ k : Nat, k ≤ 2 ∧ i = .int .i64 k ∧ ev = .int .i64 (oE (accO N now k)) ∧ Hid (RdL w0 w W p g2 g4 D k (slV ((accO N now k).getD .nul)))) (fun _ i _ => 2 - (intOf i).toNat)
  case atStart => exact ⟨0, by decide, rfl, rfl, HR0⟩
  case round =>
    clear HR0 HST0
    obtain ⟨k, hk, rfl, rfl, HR⟩ := hrel
    have hinfA := infoSof (unhide HOKA k hk)
    have honeA := slV_one ((accO N now k).getD .nul)
    have hlenA : (slV ((accO N now k).getD .nul)).length = 105 := slV_len (unhide HOKA k hk)
    by_cases hlt : k < 2
    · have HSK := hide (unhide HSO k hlt wr HR.out.sn)
      have HNK := hide (unhide HNX k)
      have HOK2 := hide (unhide HOKS k hlt)
      have hinfS := infoSof HOK2.out
      have honeS := slV_one ((sndO N (now k) k).getD .nul)
      have hlenS : (slV ((sndO N (now k) k).getD .nul)).length = 105 := slV_len HOK2.out
      have hz : z105.length = 105 := rfl
      generalize sndO N (now k) k = o at *
      generalize hac : accO N now k = ac at *
      clear hac
      go_wp2_with fail
      refine (unhide HSK).mono ?_
      rintro e w4 ⟨rfl, hS4, hC4⟩
      have hR4 : RdL w0 w w4 p g2 g4 D (k + 1) (slV (ac.getD .nul)) := ⟨hS4, Cj.trans HR.out.cj hC4, HR.out.a2.cj hC4 tdk_slot, HR.out.a4.cj hC4 tdk_slot⟩
      have HX : Hid (∀ w5, Arr w5 w4.heap.size 32 (slV (o.getD .nul)) → (w4.alloc (.cells z105.toArray 32)).grownBy w5 (some w4.heap.size) → RdL w0 w w5 p g2 g4 D (k + 1) (slV (ac.getD .nul)) ∧ w5.cell? ⟨w4.heap.size, 2, none⟩ = some (.int .i64 (o.getD .nul).t) ∧ w5.cell? ⟨g4, 2, none⟩ = some (.int .i64 (ac.getD .nul).t) ∧ w5.rangeAt w4.heap.size 0 (slV (o.getD .nul))) := hide (fun w5 hA5 hg5 => by
        have hba := jalloc_below w4 (.cells z105.toArray 32)
        have hbw : Below w4.heap.size w4 w5 := jbelow_grown hba hg5 hba.size (Nat.le_refl _)
        have hR5 := hR4.below hbw
        exact ⟨hR5, (hA5.cell 2).trans (slV_at _).2.2.1, (hR5.a4.cell 2).trans (slV_at _).2.2.1, hA5.rangeJ⟩)
      have hcase : (o.isSome = false ∧ newer ac o = ac) ∨ (o.isSome = true ∧ oE ac = 180 ∧ newer ac o = o ∧ oE o = 0) ∨ (o.isSome = true ∧ oE ac = 0 ∧ (ac.getD .nul).t < (o.getD .nul).t ∧ newer ac o = o ∧ oE o = 0) ∨ (o.isSome = true ∧ oE ac = 0 ∧ ¬ (ac.getD .nul).t < (o.getD .nul).t ∧ newer ac o = ac) := by
        cases o with
        | none => exact Or.inl ⟨rfl, rfl⟩
        | some s =>
          cases ac with
          | none => exact Or.inr (Or.inl ⟨rfl, rfl, rfl, rfl⟩)
          | some r =>
            by_cases h : r.t < s.t
            · exact Or.inr (Or.inr (Or.inl ⟨rfl, rfl, h, by show (if r.t < s.t then some s else some r) = some s; rw [if_pos h], rfl⟩))
            · exact Or.inr (Or.inr (Or.inr ⟨rfl, rfl, h, by show (if r.t < s.t then some s else some r) = some r; rw [if_neg h]⟩))
      have HNS : Hid (newer ac o = ac → oE (accO N now (k + 1)) = oE ac ∧ slV ((accO N now (k + 1)).getD .nul) = slV (ac.getD .nul)) := hide (fun h => by rw [HNK.out, h]; exact ⟨rfl, rfl⟩)
      have HNO : Hid (newer ac o = o → oE o = 0 → oE (accO N now (k + 1)) = 0 ∧ slV ((accO N now (k + 1)).getD .nul) = slV (o.getD .nul)) := hide (fun h h2 => by rw [HNK.out, h]; exact ⟨h2, rfl⟩)
      generalize slV (o.getD .nul) = csO at *
      generalize slV (ac.getD .nul) = csA at *
      generalize (o.getD .nul).t = tO at *
      generalize (ac.getD .nul).t = tA at *
      generalize oE ac = eA at *
      generalize o.isSome = bo at *
      have HZO : Hid (z105.length = csO.length) := hide (hz.trans hlenS.symm)
      have HAO : Hid (csA.length = csO.length) := hide (hlenA.trans hlenS.symm)
      clear hS4 hC4 hR4 HSK HR hlenS hlenA hz
      have hX9 : ∀ w5, RdL w0 w w5 p g2 g4 D (k + 1) csA → True := fun _ _ => trivial
      clear hX9
      rcases hcase with ⟨rfl, hn⟩ | ⟨rfl, rfl, hn, ho⟩ | ⟨rfl, rfl, htt, hn, ho⟩ | ⟨rfl, rfl, htt, hn⟩
      · have HQ := hide (unhide HNS hn)
        clear HNS HNO hn
        go_wp2_with (first
          | (refine wpList_allocJ rfl 32 rfl infoSlo ?_)
          | (refine wpList_storeJ rfl (.tmp 7) (.tmp 20) 32 rfl rfl rfl (Arr.new w4 z105 32) hinfS HZO.out honeS ?_; intro w5 hA5 hg5
             obtain ⟨hR5, c2, d2, hrg⟩ := unhide HX w5 hA5 hg5
             have HR5 := hide hR5
             clear hA5 hg5 hR5)
          | fail)
        refine ⟨⟨k + 1, by omega, by go_num, by rw [HQ.out.1], by rw [HQ.out.2]; exact HR5⟩, ?_⟩
        simp [intOf]
        omega
      · have HQ := hide (unhide HNO hn ho)
        clear HNS HNO hn ho
        go_wp2_with (first
          | (refine wpList_allocJ rfl 32 rfl infoSlo ?_)
          | (refine wpList_storeJ rfl (.tmp 7) (.tmp 20) 32 rfl rfl rfl (Arr.new w4 z105 32) hinfS HZO.out honeS ?_; intro w5 hA5 hg5
             obtain ⟨hR5, c2, d2, hrg⟩ := unhide HX w5 hA5 hg5
             have HR5 := hide hR5
             clear hA5 hg5 hR5)
          | (refine wpList_loadJ rfl 32 (.tmp 7) rfl _ 0 rfl csO _ hrg Tryd.underlying32 rfl hinfS ?_)
          | (refine wpList_storeJ rfl (.tmp 4) (.tmp 34) 32 rfl rfl rfl HR5.out.a4 hinfS HAO.out honeS ?_; intro w6 hA6 hg6
             have HR6 := hide (HR5.out.put hg6 hA6 HLO.out.1 HLO.out.2.1 HLO.out.2.2.1)
             clear hA6 hg6)
          | fail)
        refine ⟨⟨k + 1, by omega, by go_num, by rw [HQ.out.1], by rw [HQ.out.2]; exact HR6⟩, ?_⟩
        simp [intOf]
        omega
      · have HQ := hide (unhide HNO hn ho)
        clear HNS HNO hn ho
        go_wp2_with (first
          | (refine wpList_allocJ rfl 32 rfl infoSlo ?_)
          | (refine wpList_storeJ rfl (.tmp 7) (.tmp 20) 32 rfl rfl rfl (Arr.new w4 z105 32) hinfS HZO.out honeS ?_; intro w5 hA5 hg5
             obtain ⟨hR5, c2, d2, hrg⟩ := unhide HX w5 hA5 hg5
             have HR5 := hide hR5
             clear hA5 hg5 hR5)
          | (refine wpList_loadJ rfl 32 (.tmp 7) rfl _ 0 rfl csO _ hrg Tryd.underlying32 rfl hinfS ?_)
          | (refine wpList_storeJ rfl (.tmp 4) (.tmp 34) 32 rfl rfl rfl HR5.out.a4 hinfS HAO.out honeS ?_; intro w6 hA6 hg6
             have HR6 := hide (HR5.out.put hg6 hA6 HLO.out.1 HLO.out.2.1 HLO.out.2.2.1)
             clear hA6 hg6)
          | fail)
        refine ⟨⟨k + 1, by omega, by go_num, by rw [HQ.out.1], by rw [HQ.out.2]; exact HR6⟩, ?_⟩
        simp [intOf]
        omega
      · have hdd : decide (tA < tO) = false := by simpa using htt
        have HQ := hide (unhide HNS hn)
        clear HNS HNO hn
        go_wp2_with (first
          | (refine wpList_allocJ rfl 32 rfl infoSlo ?_)
          | (refine wpList_storeJ rfl (.tmp 7) (.tmp 20) 32 rfl rfl rfl (Arr.new w4 z105 32) hinfS HZO.out honeS ?_; intro w5 hA5 hg5
             obtain ⟨hR5, c2, d2, hrg⟩ := unhide HX w5 hA5 hg5
             have HR5 := hide hR5
             clear hA5 hg5 hR5)
          | fail)
        refine ⟨⟨k + 1, by omega, by go_num, by rw [HQ.out.1], by rw [HQ.out.2]; exact HR5⟩, ?_⟩
        simp [intOf]
        omega
    · have HK2 : Hid (k = 2) := hide (by omega)
      have HRC : Hid (RdL w0 w wr p g2 g4 D 2 (slV ((cntS N now).getD .nul)) ∧ oE (accO N now k) = oE (cntS N now)) := hide (by have := HR.out; rw [HK2.out] at this; rw [HCN.out, HK2.out]; exact ⟨this, rfl⟩)
      have hinfC : (Tryd.prog.info? 32).map (·.size) = some (slV ((cntS N now).getD .nul)).length := by rw [HCN.out]; exact infoSof (unhide HOKA 2 (by decide))
      have hlenC : z105.length = (slV ((cntS N now).getD .nul)).length := by rw [HCN.out, slV_len (unhide HOKA 2 (by decide))]; rfl
      have honeC := slV_one ((cntS N now).getD .nul)
      have hrg := HRC.out.1.a4.rangeJ
      rw [HRC.out.2]
      generalize hcC : slV ((cntS N now).getD .nul) = csC at *
      generalize heC : oE (cntS N now) = eC at *
      have HCC := hide hcC
      have HEC := hide heC
      clear HR hinfA honeA hlenA hcC heC
      go_wp2_with (first
        | (refine wpList_loadJ rfl 32 (.tmp 4) rfl _ 0 rfl csC _ hrg Tryd.underlying32 rfl hinfC ?_)
        | (refine wpList_storeJ rfl (.tmp 2) (.tmp 36) 32 rfl rfl rfl HRC.out.1.a2 hinfC hlenC honeC ?_; intro w9 hA9 hg9)
        | fail)
      have hA9' : Arr w9 g2 32 csC := hA9
      refine bodyPost_ret (results_rowJ2 rfl rfl rfl hA9' Tryd.underlying32 rfl hinfC) rfl ?_
      exact ⟨by rw [HCC.out, HEC.out]; rfl, HRC.out.1.sn.set hg9 HRC.out.1.a2 tdk_slot HLO.out.2.2.2.1, HRC.out.1.cj.own hg9 HLO.out.2.2.2.2⟩
end Go.Proofs.YtpeopejnkbmcdaaDoor

namespace Go.Proofs.YtpeopejnkbmcdaaDoor
open Go.RowKit Go.Maps

/-- A writer's cells. -/
def rwV (p : Nat) (s : SL) (d : Int) : List Value := .pointer (some ⟨p, 0, none⟩) :: (slV s ++ [.int .i64 d])
theorem rwV_d {s : SL} (h : s.Ok) (p : Nat) (d : Int) : (rwV p s d)[106]? = some (.int .i64 d) := by
  unfold rwV
  rw [List.getElem?_cons_succ, List.getElem?_append_right (by rw [slV_len h]; decide), slV_len h]
  rfl
theorem rwV_set {s : SL} (h : s.Ok) (p : Nat) (d e : Int) : (rwV p s d).set 106 (.int .i64 e) = rwV p s e := by
  unfold rwV
  rw [List.set_cons_succ, List.set_append_right _ _ (by rw [slV_len h]; decide), slV_len h]
  rfl
theorem rwV_s {W : World} {pw p : Nat} {s : SL} {d : Int} (hA : Arr W pw 83 (rwV p s d)) : W.rangeAt pw 1 (slV s) := fun j v hv => by
  rw [hA.cell]
  unfold rwV
  rw [Nat.add_comm, List.getElem?_cons_succ, List.getElem?_append_left (List.getElem?_eq_some_iff.1 hv).1]
  exact hv
/-- What a writer's Step changes. -/
def TWr (t : TypeId) : Prop := TDk t ∨ t = 83
theorem twr_slot : ¬ TWr 32 := by unfold TWr TDk; decide
theorem tdk_wr : ¬ TDk 83 := by unfold TDk; decide
theorem buildWr_x (k0 k1 k2 k3 k4 k5 k6 k7 k8 k9 k10 k11 k12 k13 k14 k15 k16 k17 k18 k19 k20 k21 k22 k23 k24 k25 k26 k27 k28 k29 k30 k31 r0 r1 r2 r3 r4 r5 r6 r7 r8 r9 r10 r11 r12 r13 r14 r15 r16 r17 r18 r19 r20 r21 r22 r23 r24 r25 r26 r27 r28 r29 r30 r31 m0 m1 m2 m3 m4 m5 m6 m7 m8 m9 m10 m11 m12 m13 m14 m15 m16 m17 m18 m19 m20 m21 m22 m23 m24 m25 m26 m27 m28 m29 m30 m31 a0 a1 a2 a3 a4 a5 a6 a7 a8 : Int) (p : Nat) (W : World) :
    (Instr.build 83 #[(0, .pointer (some ⟨p, 0, none⟩)), (1, .agg (slV ⟨a0, a1, a2, a3, a4, [k0, k1, k2, k3, k4, k5, k6, k7, k8, k9, k10, k11, k12, k13, k14, k15, k16, k17, k18, k19, k20, k21, k22, k23, k24, k25, k26, k27, k28, k29, k30, k31], ⟨[r0, r1, r2, r3, r4, r5, r6, r7, r8, r9, r10, r11, r12, r13, r14, r15, r16, r17, r18, r19, r20, r21, r22, r23, r24, r25, r26, r27, r28, r29, r30, r31], a5, a6⟩, ⟨[m0, m1, m2, m3, m4, m5, m6, m7, m8, m9, m10, m11, m12, m13, m14, m15, m16, m17, m18, m19, m20, m21, m22, m23, m24, m25, m26, m27, m28, m29, m30, m31], a7, a8⟩⟩).toArray)]).run Tryd.prog W = .ok (.agg (rwV p ⟨a0, a1, a2, a3, a4, [k0, k1, k2, k3, k4, k5, k6, k7, k8, k9, k10, k11, k12, k13, k14, k15, k16, k17, k18, k19, k20, k21, k22, k23, k24, k25, k26, k27, k28, k29, k30, k31], ⟨[r0, r1, r2, r3, r4, r5, r6, r7, r8, r9, r10, r11, r12, r13, r14, r15, r16, r17, r18, r19, r20, r21, r22, r23, r24, r25, r26, r27, r28, r29, r30, r31], a5, a6⟩, ⟨[m0, m1, m2, m3, m4, m5, m6, m7, m8, m9, m10, m11, m12, m13, m14, m15, m16, m17, m18, m19, m20, m21, m22, m23, m24, m25, m26, m27, m28, m29, m30, m31], a7, a8⟩⟩ 0).toArray) W := by kernel_rfl
theorem buildWr {s : SL} (h : s.Ok) (p : Nat) (W : World) : (Instr.build 83 #[(0, .pointer (some ⟨p, 0, none⟩)), (1, .agg (slV s).toArray)]).run Tryd.prog W = .ok (.agg (rwV p s 0).toArray) W := by
  have hk := h.len
  have hr := h.r.len
  have hm := h.m.len
  clear h
  rcases s with ⟨a0, a1, a2, a3, a4, lk, ⟨lr, a5, a6⟩, ⟨lm, a7, a8⟩⟩
  obtain ⟨k0, k1, k2, k3, k4, k5, k6, k7, k8, k9, k10, k11, k12, k13, k14, k15, k16, k17, k18, k19, k20, k21, k22, k23, k24, k25, k26, k27, k28, k29, k30, k31, rfl⟩ := list32 hk
  obtain ⟨r0, r1, r2, r3, r4, r5, r6, r7, r8, r9, r10, r11, r12, r13, r14, r15, r16, r17, r18, r19, r20, r21, r22, r23, r24, r25, r26, r27, r28, r29, r30, r31, rfl⟩ := list32 hr
  obtain ⟨m0, m1, m2, m3, m4, m5, m6, m7, m8, m9, m10, m11, m12, m13, m14, m15, m16, m17, m18, m19, m20, m21, m22, m23, m24, m25, m26, m27, m28, m29, m30, m31, rfl⟩ := list32 hm
  exact buildWr_x k0 k1 k2 k3 k4 k5 k6 k7 k8 k9 k10 k11 k12 k13 k14 k15 k16 k17 k18 k19 k20 k21 k22 k23 k24 k25 k26 k27 k28 k29 k30 k31 r0 r1 r2 r3 r4 r5 r6 r7 r8 r9 r10 r11 r12 r13 r14 r15 r16 r17 r18 r19 r20 r21 r22 r23 r24 r25 r26 r27 r28 r29 r30 r31 m0 m1 m2 m3 m4 m5 m6 m7 m8 m9 m10 m11 m12 m13 m14 m15 m16 m17 m18 m19 m20 m21 m22 m23 m24 m25 m26 m27 m28 m29 m30 m31 a0 a1 a2 a3 a4 a5 a6 a7 a8 p W
section
variable {ops : Array Oper} {rest : List Oper} {o : Oper} {a : Act} {Q : Exit → Act → World → Prop} {w : World}
theorem wpList_bld2S (hgd : o.guard = none) (t : TypeId) (x y : Operand) (ho : o.op = .build t #[(0, x), (1, y)]) {vx vy u : Value} (hx : a.eval x = vx) (hy : a.eval y = vy) (hrun : ∀ W, (Instr.build t #[(0, vx), (1, vy)]).run Tryd.prog W = .ok u W)
    (hk : wpList Tryd.prog ops Q rest (a.put o.dst u) w) : wpList Tryd.prog ops Q (o :: rest) a w := by
  refine wpList_plain hgd fun K hK => ?_
  unfold Oper.wp execOp
  simp only [ho, List.map_toArray, List.map_cons, List.map_nil, hx, hy, Sem.run_bind, hrun w, Result.andThen_ok, Sem.run_pure]
  exact hK _ _ hk
end
theorem smay_enter (v : Value) (W : World) : (callFunc 22 #[v]).run Tryd.prog W = .ok (.enter 22 #[v]) W := by kernel_rfl
theorem swrite_enter (v u z : Value) (W : World) : (callFunc 14 #[v, u, z]).run Tryd.prog W = .ok (.enter 14 #[v, u, z]) W := by kernel_rfl
set_option maxRecDepth 100000 in
set_option maxHeartbeats 1000000 in
theorem newW_nil {w : World} (s : SL) : Calls Tryd.prog 16 #[.pointer none, .agg (slV s).toArray] w fun e w' => e = .returned (.tuple #[.pointer none, .int .i64 1]) ∧ Below w.heap.size w w' := by
  generalize slV s = cs1
  go_enter Tryd.func16, Tryd.ntmps16
  go_wp2_with (first
    | (refine wpList_boxJ rfl 32 (.tmp 1) rfl rfl ?_; intro w1 hA1 hb1 hs1
       have HB1 := hide hb1
       clear hA1 hb1 hs1)
    | fail)
  go_ret2
  exact ⟨rfl, HB1.out⟩
set_option maxRecDepth 100000 in
set_option maxHeartbeats 2000000 in
theorem newW_calls {w0 w : World} {p : Nat} {D : AD} {s : SL} (hS : Sn w0 w p D) (hs : s.Ok) : Calls Tryd.prog 16 #[.pointer (some ⟨p, 0, none⟩), .agg (slV s).toArray] w fun e w' => ((¬ (s.May ∧ s.sc = (D.la.length : Int)) ∧ e = .returned (.tuple #[.pointer none, .int .i64 180])) ∨ (s.May ∧ s.sc = (D.la.length : Int) ∧ ∃ pw, e = .returned (.tuple #[.pointer (some ⟨pw, 0, none⟩), .int .i64 0]) ∧ w.heap.size ≤ pw ∧ Arr w' pw 83 (rwV p s 0))) ∧ Below w.heap.size w w' := by
  have HMB : Hid (∀ W, Calls Tryd.prog 22 #[.agg (slV s).toArray] W fun e w' => e = .returned (.bool s.may) ∧ Below W.heap.size W w') := hide (fun W => mayBe_calls hs)
  have HSC : Hid (∀ W, Below w.heap.size w W → Calls Tryd.prog 35 #[.pointer (some ⟨p, 0, none⟩)] W fun e w' => e = .returned (.int .i64 (D.la.length : Int)) ∧ w' = W) := hide (fun W hW => sn_sectors (hS.below hW))
  have HF : Hid (∀ W, Arr W w.heap.size 32 (slV s) → W.cell? ⟨w.heap.size, 0, none⟩ = some (.int .i64 s.sc) ∧ W.rangeAt w.heap.size 0 (slV s)) := hide (fun W hA => ⟨(hA.cell 0).trans (slV_at s).1, hA.rangeJ⟩)
  have hinf := infoSof hs
  have hbl := hide (fun W => buildWr hs p W)
  by_cases hm : s.May
  · have hmm : s.may = true := (SL.may_iff s).2 hm
    rw [hmm] at HMB
    by_cases hsc : s.sc = (D.la.length : Int)
    · have HQ : Hid (s.May ∧ s.sc = (D.la.length : Int)) := hide ⟨hm, hsc⟩
      rw [hsc] at HF
      generalize hcs : slV s = cs1 at *
      generalize D.la.length = N at *
      generalize hrw : rwV p s 0 = rw0 at *
      clear hS hs hm hsc hmm hcs hrw
      go_enter Tryd.func16, Tryd.ntmps16
      go_wp2_with (first
        | (refine wpList_boxJ rfl 32 (.tmp 1) rfl rfl ?_; intro w1 hA1 hb1 hs1
           have HB1 := hide hb1
           have HA1 := hide hA1
           clear hA1 hb1 hs1)
        | fail)
      have HS : Hid (∀ W, Below w1.heap.size w1 W → (fun W => W.cell? ⟨w.heap.size, 0, none⟩ = some (.int .i64 (N : Int)) ∧ W.rangeAt w.heap.size 0 cs1) W) := hide (fun W hW => unhide HF W (HA1.out.below hW))
      have HBD := hide ((Below.refl w1.heap.size w1).drew)
      refine wp_region_held_drew (S := fun W => W.cell? ⟨w.heap.size, 0, none⟩ = some (.int .i64 (N : Int)) ∧ W.rangeAt w.heap.size 0 cs1) (by kernel_rfl) (unhide HS _ HBD.out) (fun hHeld => ?_)
      refine wpAnyH_take (i := 0) (v := .agg (cs1).toArray) rfl (by kernel_rfl) (by kernel_rfl) (by kernel_rfl) (fun _ _ _ h => h) (yieldsIf_load_mid (by rfl) _ _ rfl _ _ rfl _ _ (fun w hSw => hSw.2) Tryd.underlying32 rfl hinf) (by assumption) ?_
      simp only [List.getElem_toArray, List.getElem_cons_zero, Act.put, List.setIfInBounds_toArray, List.set_cons_zero, List.set_cons_succ]
      refine wpAnyH_ready (rs := [1]) (by kernel_rfl) (by simp) (AllReadyH.cons rfl (fun K hK => ?_) AllReadyH.nil)
      refine step_call1J (by rfl) 22 smay_enter (.tmp 8) _ rfl rfl (unhide HMB _) ?_
      rintro e wma ⟨rfl, hbma⟩
      have HBma := hide (below_then HBD.out hbma)
      clear hbma
      refine ⟨_, rfl, ?_⟩
      refine hK.out _ _ (unhide HS _ HBma.out) (fun hJ1 => ?_)
      clear hK K
      simp only [List.getElem_toArray, List.getElem_cons_succ, List.getElem_cons_zero, Act.put, List.setIfInBounds_toArray, List.set_cons_zero, List.set_cons_succ]
      refine wpAnyH_take (i := 2) (v := .bool false) rfl (by kernel_rfl) (by kernel_rfl) (by kernel_rfl) (fun _ _ _ h => h) (Or.inl ⟨by rfl, fun w hSw => by obtain ⟨hS1, hS2⟩ := hSw; go_simp⟩) (by assumption) ?_
      simp only [List.getElem_toArray, List.getElem_cons_succ, List.getElem_cons_zero, Act.put, List.setIfInBounds_toArray, List.set_cons_zero, List.set_cons_succ]
      refine wpAnyH_take (i := 3) (v := .bool false) rfl (by kernel_rfl) (by kernel_rfl) (by kernel_rfl) (fun _ _ _ h => h) (Or.inl ⟨by rfl, fun w hSw => by obtain ⟨hS1, hS2⟩ := hSw; go_simp⟩) (by assumption) ?_
      simp only [List.getElem_toArray, List.getElem_cons_succ, List.getElem_cons_zero, Act.put, List.setIfInBounds_toArray, List.set_cons_zero, List.set_cons_succ]
      refine wpAnyH_take (i := 4) (v := .pointer (some ⟨w.heap.size, 0, none⟩)) rfl (by kernel_rfl) (by kernel_rfl) (by kernel_rfl) (fun _ _ _ h => h) (Or.inl ⟨by rfl, fun w hSw => by obtain ⟨hS1, hS2⟩ := hSw; go_simp⟩) (by assumption) ?_
      simp only [List.getElem_toArray, List.getElem_cons_succ, List.getElem_cons_zero, Act.put, List.setIfInBounds_toArray, List.set_cons_zero, List.set_cons_succ]
      refine wpAnyH_take (i := 5) (v := .int .i64 (N : Int)) rfl (by kernel_rfl) (by kernel_rfl) (by kernel_rfl) (fun _ _ _ h => h) (Or.inl ⟨by rfl, fun w hSw => by obtain ⟨hS1, hS2⟩ := hSw; go_simp⟩) (by assumption) ?_
      simp only [List.getElem_toArray, List.getElem_cons_succ, List.getElem_cons_zero, Act.put, List.setIfInBounds_toArray, List.set_cons_zero, List.set_cons_succ]
      refine wpAnyH_take (i := 6) (v := .pointer (some ⟨p, 0, none⟩)) rfl (by kernel_rfl) (by kernel_rfl) (by kernel_rfl) (fun _ _ _ h => h) (Or.inl ⟨by rfl, fun w hSw => by obtain ⟨hS1, hS2⟩ := hSw; go_simp⟩) (by assumption) ?_
      simp only [List.getElem_toArray, List.getElem_cons_succ, List.getElem_cons_zero, Act.put, List.setIfInBounds_toArray, List.set_cons_zero, List.set_cons_succ]
      refine wpAnyH_ready (rs := [7]) (by kernel_rfl) (by simp) (AllReadyH.cons rfl (fun K hK => ?_) AllReadyH.nil)
      refine step_call1J (by rfl) 35 ssec_enter (.tmp 14) _ rfl rfl (unhide HSC _ (below_then HB1.out HBma.out)) ?_
      rintro e wn ⟨rfl, hwn⟩
      obtain rfl := hwn.symm
      clear hwn
      refine ⟨_, rfl, ?_⟩
      refine hK.out _ _ (unhide HS _ HBma.out) (fun hJ2 => ?_)
      clear hK K
      simp only [List.getElem_toArray, List.getElem_cons_succ, List.getElem_cons_zero, Act.put, List.setIfInBounds_toArray, List.set_cons_zero, List.set_cons_succ]
      refine wpAnyH_take (i := 8) (v := .bool false) rfl (by kernel_rfl) (by kernel_rfl) (by kernel_rfl) (fun _ _ _ h => h) (Or.inl ⟨by rfl, fun w hSw => by obtain ⟨hS1, hS2⟩ := hSw; go_simp⟩) (by assumption) ?_
      simp only [List.getElem_toArray, List.getElem_cons_succ, List.getElem_cons_zero, Act.put, List.setIfInBounds_toArray, List.set_cons_zero, List.set_cons_succ]
      refine wpAnyH_take (i := 9) (v := .bool false) rfl (by kernel_rfl) (by kernel_rfl) (by kernel_rfl) (fun _ _ _ h => h) (Or.inl ⟨by rfl, fun w hSw => by obtain ⟨hS1, hS2⟩ := hSw; go_simp⟩) (by assumption) ?_
      simp only [List.getElem_toArray, List.getElem_cons_succ, List.getElem_cons_zero, Act.put, List.setIfInBounds_toArray, List.set_cons_zero, List.set_cons_succ]
      refine wpAnyH_done (by kernel_rfl) ?_ _
      go_wp2_with (first
        | (refine wpList_loadJ rfl 32 (.tmp 3) rfl _ 0 rfl cs1 _ (unhide HS _ HBma.out).2 Tryd.underlying32 rfl hinf ?_)
        | (refine wpList_bld2S rfl 83 (.tmp 18) (.tmp 19) rfl (vx := .pointer (some ⟨p, 0, none⟩)) (vy := .agg cs1.toArray) rfl rfl hbl.out ?_)
        | (refine wpList_boxJ rfl 83 (.tmp 20) rfl (cs := rw0) rfl ?_; intro w9 hA9 hb9 hs9
           have HA9 := hide hA9
           have HB9 := hide (below_then (below_then HB1.out HBma.out) hb9)
           clear hA9 hb9 hs9)
        | fail)
      go_ret2
      exact ⟨Or.inr ⟨HQ.out.1, HQ.out.2, _, rfl, (below_then HB1.out HBma.out).size, HA9.out⟩, HB9.out⟩
    · have HQ : Hid (¬ (s.May ∧ s.sc = (D.la.length : Int))) := hide (fun h => hsc h.2)
      have hne : (s.sc != (D.la.length : Int)) = true := by simpa using hsc
      generalize slV s = cs1 at *
      generalize s.sc = x0 at *
      generalize D.la.length = N at *
      clear hS hs hm hsc hmm hbl
      go_enter Tryd.func16, Tryd.ntmps16
      go_wp2_with (first
        | (refine wpList_boxJ rfl 32 (.tmp 1) rfl rfl ?_; intro w1 hA1 hb1 hs1
           have HB1 := hide hb1
           have HA1 := hide hA1
           clear hA1 hb1 hs1)
        | fail)
      have HS : Hid (∀ W, Below w1.heap.size w1 W → (fun W => W.cell? ⟨w.heap.size, 0, none⟩ = some (.int .i64 x0) ∧ W.rangeAt w.heap.size 0 cs1) W) := hide (fun W hW => unhide HF W (HA1.out.below hW))
      have HBD := hide ((Below.refl w1.heap.size w1).drew)
      refine wp_region_held_drew (S := fun W => W.cell? ⟨w.heap.size, 0, none⟩ = some (.int .i64 x0) ∧ W.rangeAt w.heap.size 0 cs1) (by kernel_rfl) (unhide HS _ HBD.out) (fun hHeld => ?_)
      refine wpAnyH_take (i := 0) (v := .agg (cs1).toArray) rfl (by kernel_rfl) (by kernel_rfl) (by kernel_rfl) (fun _ _ _ h => h) (yieldsIf_load_mid (by rfl) _ _ rfl _ _ rfl _ _ (fun w hSw => hSw.2) Tryd.underlying32 rfl hinf) (by assumption) ?_
      simp only [List.getElem_toArray, List.getElem_cons_zero, Act.put, List.setIfInBounds_toArray, List.set_cons_zero, List.set_cons_succ]
      refine wpAnyH_ready (rs := [1]) (by kernel_rfl) (by simp) (AllReadyH.cons rfl (fun K hK => ?_) AllReadyH.nil)
      refine step_call1J (by rfl) 22 smay_enter (.tmp 8) _ rfl rfl (unhide HMB _) ?_
      rintro e wma ⟨rfl, hbma⟩
      have HBma := hide (below_then HBD.out hbma)
      clear hbma
      refine ⟨_, rfl, ?_⟩
      refine hK.out _ _ (unhide HS _ HBma.out) (fun hJ1 => ?_)
      clear hK K
      simp only [List.getElem_toArray, List.getElem_cons_succ, List.getElem_cons_zero, Act.put, List.setIfInBounds_toArray, List.set_cons_zero, List.set_cons_succ]
      refine wpAnyH_take (i := 2) (v := .bool false) rfl (by kernel_rfl) (by kernel_rfl) (by kernel_rfl) (fun _ _ _ h => h) (Or.inl ⟨by rfl, fun w hSw => by obtain ⟨hS1, hS2⟩ := hSw; go_simp⟩) (by assumption) ?_
      simp only [List.getElem_toArray, List.getElem_cons_succ, List.getElem_cons_zero, Act.put, List.setIfInBounds_toArray, List.set_cons_zero, List.set_cons_succ]
      refine wpAnyH_take (i := 3) (v := .bool false) rfl (by kernel_rfl) (by kernel_rfl) (by kernel_rfl) (fun _ _ _ h => h) (Or.inl ⟨by rfl, fun w hSw => by obtain ⟨hS1, hS2⟩ := hSw; go_simp⟩) (by assumption) ?_
      simp only [List.getElem_toArray, List.getElem_cons_succ, List.getElem_cons_zero, Act.put, List.setIfInBounds_toArray, List.set_cons_zero, List.set_cons_succ]
      refine wpAnyH_take (i := 4) (v := .pointer (some ⟨w.heap.size, 0, none⟩)) rfl (by kernel_rfl) (by kernel_rfl) (by kernel_rfl) (fun _ _ _ h => h) (Or.inl ⟨by rfl, fun w hSw => by obtain ⟨hS1, hS2⟩ := hSw; go_simp⟩) (by assumption) ?_
      simp only [List.getElem_toArray, List.getElem_cons_succ, List.getElem_cons_zero, Act.put, List.setIfInBounds_toArray, List.set_cons_zero, List.set_cons_succ]
      refine wpAnyH_take (i := 5) (v := .int .i64 x0) rfl (by kernel_rfl) (by kernel_rfl) (by kernel_rfl) (fun _ _ _ h => h) (Or.inl ⟨by rfl, fun w hSw => by obtain ⟨hS1, hS2⟩ := hSw; go_simp⟩) (by assumption) ?_
      simp only [List.getElem_toArray, List.getElem_cons_succ, List.getElem_cons_zero, Act.put, List.setIfInBounds_toArray, List.set_cons_zero, List.set_cons_succ]
      refine wpAnyH_take (i := 6) (v := .pointer (some ⟨p, 0, none⟩)) rfl (by kernel_rfl) (by kernel_rfl) (by kernel_rfl) (fun _ _ _ h => h) (Or.inl ⟨by rfl, fun w hSw => by obtain ⟨hS1, hS2⟩ := hSw; go_simp⟩) (by assumption) ?_
      simp only [List.getElem_toArray, List.getElem_cons_succ, List.getElem_cons_zero, Act.put, List.setIfInBounds_toArray, List.set_cons_zero, List.set_cons_succ]
      refine wpAnyH_ready (rs := [7]) (by kernel_rfl) (by simp) (AllReadyH.cons rfl (fun K hK => ?_) AllReadyH.nil)
      refine step_call1J (by rfl) 35 ssec_enter (.tmp 14) _ rfl rfl (unhide HSC _ (below_then HB1.out HBma.out)) ?_
      rintro e wn ⟨rfl, hwn⟩
      obtain rfl := hwn.symm
      clear hwn
      refine ⟨_, rfl, ?_⟩
      refine hK.out _ _ (unhide HS _ HBma.out) (fun hJ2 => ?_)
      clear hK K
      simp only [List.getElem_toArray, List.getElem_cons_succ, List.getElem_cons_zero, Act.put, List.setIfInBounds_toArray, List.set_cons_zero, List.set_cons_succ]
      refine wpAnyH_take (i := 8) (v := .bool true) rfl (by kernel_rfl) (by kernel_rfl) (by kernel_rfl) (fun _ _ _ h => h) (Or.inl ⟨by rfl, fun w hSw => by obtain ⟨hS1, hS2⟩ := hSw; go_simp⟩) (by assumption) ?_
      simp only [List.getElem_toArray, List.getElem_cons_succ, List.getElem_cons_zero, Act.put, List.setIfInBounds_toArray, List.set_cons_zero, List.set_cons_succ]
      refine wpAnyH_take (i := 9) (v := .bool true) rfl (by kernel_rfl) (by kernel_rfl) (by kernel_rfl) (fun _ _ _ h => h) (Or.inl ⟨by rfl, fun w hSw => by obtain ⟨hS1, hS2⟩ := hSw; go_simp⟩) (by assumption) ?_
      simp only [List.getElem_toArray, List.getElem_cons_succ, List.getElem_cons_zero, Act.put, List.setIfInBounds_toArray, List.set_cons_zero, List.set_cons_succ]
      refine wpAnyH_done (by kernel_rfl) ?_ _
      go_wp2
      go_ret2
      exact ⟨Or.inl ⟨fun q1 q2 => HQ.out ⟨q1, q2⟩, rfl⟩, below_then HB1.out HBma.out⟩
  · have HQ : Hid (¬ (s.May ∧ s.sc = (D.la.length : Int))) := hide (fun h => hm h.1)
    rw [SL.may_no hm] at HMB
    generalize slV s = cs1 at *
    generalize s.sc = x0 at *
    generalize D.la.length = N at *
    clear hS hs hm hbl
    go_enter Tryd.func16, Tryd.ntmps16
    go_wp2_with (first
      | (refine wpList_boxJ rfl 32 (.tmp 1) rfl rfl ?_; intro w1 hA1 hb1 hs1
         have HB1 := hide hb1
         have HA1 := hide hA1
         clear hA1 hb1 hs1)
      | fail)
    have HS : Hid (∀ W, Below w1.heap.size w1 W → (fun W => W.cell? ⟨w.heap.size, 0, none⟩ = some (.int .i64 x0) ∧ W.rangeAt w.heap.size 0 cs1) W) := hide (fun W hW => unhide HF W (HA1.out.below hW))
    have HBD := hide ((Below.refl w1.heap.size w1).drew)
    refine wp_region_held_drew (S := fun W => W.cell? ⟨w.heap.size, 0, none⟩ = some (.int .i64 x0) ∧ W.rangeAt w.heap.size 0 cs1) (by kernel_rfl) (unhide HS _ HBD.out) (fun hHeld => ?_)
    refine wpAnyH_take (i := 0) (v := .agg (cs1).toArray) rfl (by kernel_rfl) (by kernel_rfl) (by kernel_rfl) (fun _ _ _ h => h) (yieldsIf_load_mid (by rfl) _ _ rfl _ _ rfl _ _ (fun w hSw => hSw.2) Tryd.underlying32 rfl hinf) (by assumption) ?_
    simp only [List.getElem_toArray, List.getElem_cons_zero, Act.put, List.setIfInBounds_toArray, List.set_cons_zero, List.set_cons_succ]
    refine wpAnyH_ready (rs := [1]) (by kernel_rfl) (by simp) (AllReadyH.cons rfl (fun K hK => ?_) AllReadyH.nil)
    refine step_call1J (by rfl) 22 smay_enter (.tmp 8) _ rfl rfl (unhide HMB _) ?_
    rintro e wma ⟨rfl, hbma⟩
    have HBma := hide (below_then HBD.out hbma)
    clear hbma
    refine ⟨_, rfl, ?_⟩
    refine hK.out _ _ (unhide HS _ HBma.out) (fun hJ1 => ?_)
    clear hK K
    simp only [List.getElem_toArray, List.getElem_cons_succ, List.getElem_cons_zero, Act.put, List.setIfInBounds_toArray, List.set_cons_zero, List.set_cons_succ]
    refine wpAnyH_take (i := 2) (v := .bool true) rfl (by kernel_rfl) (by kernel_rfl) (by kernel_rfl) (fun _ _ _ h => h) (Or.inl ⟨by rfl, fun w hSw => by obtain ⟨hS1, hS2⟩ := hSw; go_simp⟩) (by assumption) ?_
    simp only [List.getElem_toArray, List.getElem_cons_succ, List.getElem_cons_zero, Act.put, List.setIfInBounds_toArray, List.set_cons_zero, List.set_cons_succ]
    refine wpAnyH_take (i := 3) (v := .bool true) rfl (by kernel_rfl) (by kernel_rfl) (by kernel_rfl) (fun _ _ _ h => h) (Or.inl ⟨by rfl, fun w hSw => by obtain ⟨hS1, hS2⟩ := hSw; go_simp⟩) (by assumption) ?_
    simp only [List.getElem_toArray, List.getElem_cons_succ, List.getElem_cons_zero, Act.put, List.setIfInBounds_toArray, List.set_cons_zero, List.set_cons_succ]
    refine wpAnyH_take (i := 4) (v := undef) rfl (by kernel_rfl) (by kernel_rfl) (by kernel_rfl) (fun _ _ _ h => h) (Or.inr ⟨by rfl, rfl⟩) (by assumption) ?_
    simp only [List.getElem_toArray, List.getElem_cons_succ, List.getElem_cons_zero, Act.put, List.setIfInBounds_toArray, List.set_cons_zero, List.set_cons_succ]
    refine wpAnyH_take (i := 5) (v := undef) rfl (by kernel_rfl) (by kernel_rfl) (by kernel_rfl) (fun _ _ _ h => h) (Or.inr ⟨by rfl, rfl⟩) (by assumption) ?_
    simp only [List.getElem_toArray, List.getElem_cons_succ, List.getElem_cons_zero, Act.put, List.setIfInBounds_toArray, List.set_cons_zero, List.set_cons_succ]
    refine wpAnyH_take (i := 6) (v := undef) rfl (by kernel_rfl) (by kernel_rfl) (by kernel_rfl) (fun _ _ _ h => h) (Or.inr ⟨by rfl, rfl⟩) (by assumption) ?_
    simp only [List.getElem_toArray, List.getElem_cons_succ, List.getElem_cons_zero, Act.put, List.setIfInBounds_toArray, List.set_cons_zero, List.set_cons_succ]
    refine wpAnyH_take (i := 7) (v := undef) rfl (by kernel_rfl) (by kernel_rfl) (by kernel_rfl) (fun _ _ _ h => h) (Or.inr ⟨by rfl, rfl⟩) (by assumption) ?_
    simp only [List.getElem_toArray, List.getElem_cons_succ, List.getElem_cons_zero, Act.put, List.setIfInBounds_toArray, List.set_cons_zero, List.set_cons_succ]
    refine wpAnyH_take (i := 8) (v := undef) rfl (by kernel_rfl) (by kernel_rfl) (by kernel_rfl) (fun _ _ _ h => h) (Or.inr ⟨by rfl, rfl⟩) (by assumption) ?_
    simp only [List.getElem_toArray, List.getElem_cons_succ, List.getElem_cons_zero, Act.put, List.setIfInBounds_toArray, List.set_cons_zero, List.set_cons_succ]
    refine wpAnyH_take (i := 9) (v := .bool true) rfl (by kernel_rfl) (by kernel_rfl) (by kernel_rfl) (fun _ _ _ h => h) (Or.inl ⟨by rfl, fun w hSw => by obtain ⟨hS1, hS2⟩ := hSw; go_simp⟩) (by assumption) ?_
    simp only [List.getElem_toArray, List.getElem_cons_succ, List.getElem_cons_zero, Act.put, List.setIfInBounds_toArray, List.set_cons_zero, List.set_cons_succ]
    refine wpAnyH_done (by kernel_rfl) ?_ _
    go_wp2
    go_ret2
    exact ⟨Or.inl ⟨fun q1 q2 => HQ.out ⟨q1, q2⟩, rfl⟩, below_then HB1.out HBma.out⟩
end Go.Proofs.YtpeopejnkbmcdaaDoor

namespace Go.Proofs.YtpeopejnkbmcdaaDoor
open Go.RowKit Go.Maps

/-- A writer beside its disk. -/
structure Rw (w0 W : World) (p : Nat) (D : AD) (pw : Nat) (s : SL) (d : Int) : Prop where
  sn : Sn w0 W p D
  wr : Arr W pw 83 (rwV p s d)
  lo : w0.heap.size ≤ pw
theorem Rw.below {w0 W W' : World} {p : Nat} {D : AD} {pw : Nat} {s : SL} {d : Int} (h : Rw w0 W p D pw s d) (hb : Below W.heap.size W W') : Rw w0 W' p D pw s d := ⟨h.sn.below hb, h.wr.below hb, h.lo⟩
theorem Rw.cells {w0 W : World} {p : Nat} {D : AD} {pw : Nat} {s : SL} {d : Int} (hs : s.Ok) (h : Rw w0 W p D pw s d) : W.cell? ⟨pw, 0, none⟩ = some (.pointer (some ⟨p, 0, none⟩)) ∧ W.cell? ⟨pw, 106, none⟩ = some (.int .i64 d) ∧ W.rangeAt pw 1 (slV s) := ⟨h.wr.cell 0, (h.wr.cell 106).trans (rwV_d hs p d), rwV_s h.wr⟩
theorem Rw.set {w0 W : World} {p : Nat} {D : AD} {pw : Nat} {s : SL} {d : Int} (hs : s.Ok) (h : Rw w0 W p D pw s d) (e : Int) : Rw w0 (W.setCell ⟨pw, 106, none⟩ (.int .i64 e)) p D pw s e ∧ Cj TWr W (W.setCell ⟨pw, 106, none⟩ (.int .i64 e)) := by
  refine ⟨⟨h.sn.set (sgrown_set _ _ _ _) h.wr tdk_wr h.lo, ?_, h.lo⟩, Cj.of_grown (sgrown_set _ _ _ _) h.wr (Or.inr rfl)⟩
  have := sarr_set (j := 106) h.wr (.int .i64 e)
  rw [rwV_set hs] at this
  exact this
theorem cjd_wr {w w' : World} (h : Cj TDk w w') : Cj TWr w w' := h.mono (fun _ h => Or.inl h)
set_option maxRecDepth 100000 in
set_option maxHeartbeats 1000000 in
theorem wstep_two {w0 w : World} {p : Nat} {D : AD} {pw : Nat} {s : SL} (hs : s.Ok) (h : Rw w0 w p D pw s 2) : Calls Tryd.prog 17 #[.pointer (some ⟨pw, 0, none⟩)] w fun e w' => e = .returned (.tuple #[.bool true, .int .i64 0]) ∧ w' = w := by
  obtain ⟨c0, c2, _⟩ := h.cells hs
  clear h hs
  go_enter Tryd.func17, Tryd.ntmps17
  go_wp2
  go_ret2
  exact ⟨rfl, rfl⟩
set_option maxRecDepth 100000 in
set_option maxHeartbeats 2000000 in
theorem wstep_one {w0 w : World} {p : Nat} {D : AD} {pw : Nat} {s : SL} (hs : s.Ok) (h : Rw w0 w p D pw s 1) (hwl : ∀ i, (D.wr i).length ≤ 68719476736) (hf0 : 0 ≤ D.fl) (hf1 : D.fl ≤ 1152921504606846976) :
    Calls Tryd.prog 17 #[.pointer (some ⟨pw, 0, none⟩)] w fun e w' => e = .returned (.tuple #[.bool true, .int .i64 0]) ∧ Rw w0 w' p D.flush pw s 2 ∧ Cj TWr w w' := by
  obtain ⟨c0, c2, _⟩ := h.cells hs
  have HFL := hide (sn_flush h.sn hwl hf0 hf1)
  have HX : Hid (∀ w2, Sn w0 w2 p D.flush → Cj TDk w w2 → Rw w0 w2 p D.flush pw s 1) := hide (fun w2 h1 h2 => ⟨h1, h.wr.cj h2 tdk_wr, h.lo⟩)
  have HOK := hide hs
  clear h hs hwl
  go_enter Tryd.func17, Tryd.ntmps17
  go_wp2_with fail
  refine (unhide HFL).mono ?_
  rintro e w2 ⟨rfl, hS2, hC2⟩
  have hR2 := unhide HX w2 hS2 hC2
  obtain ⟨d0, d2, _⟩ := hR2.cells HOK.out
  have hfr := hR2.wr.frozen 106
  obtain ⟨r3, k3⟩ := hR2.set HOK.out 2
  obtain ⟨e0, e2, _⟩ := r3.cells HOK.out
  have HR3 := hide r3
  have HC3 := hide ((cjd_wr hC2).trans k3)
  clear HFL HX hS2 hC2 hR2 c0 c2 r3 k3
  go_wp2
  go_ret2
  exact ⟨rfl, HR3.out, HC3.out⟩
set_option maxRecDepth 100000 in
set_option maxHeartbeats 2000000 in
theorem wstep_zero {w0 w : World} {p : Nat} {D : AD} {pw i : Nat} {s : SL} (hs : s.Ok) (hm : s.May) (ht : Tab w0) (h : Rw w0 w p D pw s 0) (hi : s.t % 2 = (i : Int)) (hil : i < D.la.length) (hw0 : 0 ≤ D.wt) (hw1 : D.wt ≤ 1152921504606846976) (hwl : (D.wr i).length ≤ 68719476736) :
    Calls Tryd.prog 17 #[.pointer (some ⟨pw, 0, none⟩)] w fun e w' => e = .returned (.tuple #[.bool false, .int .i64 0]) ∧ Rw w0 w' p (D.write i (slL s)) pw s 1 ∧ Cj TWr w w' := by
  obtain ⟨c0, c2, hrg⟩ := h.cells hs
  have hsec : IsSec (slL s) := ⟨slL_len hs, slL_by hs⟩
  have HEN := hide (senc_good hs hm (ht.below h.sn.be))
  have HPL : Hid (∀ W, Calls Tryd.prog 36 #[.agg (slV s).toArray] W fun e w' => e = .returned (.int .i64 (i : Int)) ∧ Below W.heap.size W w') := hide (fun W => by have := splace_calls (w := W) hm.t.1; rw [hi] at this; exact this)
  have HWR : Hid (∀ W B u, Below w.heap.size w W → Own8 W B u (slL s) → Calls Tryd.prog 14 #[.pointer (some ⟨p, 0, none⟩), .int .i64 (i : Int), u] W fun e w' => e = .returned (.int .i64 0) ∧ Rw w0 w' p (D.write i (slL s)) pw s 0 ∧ Cj TDk W w') := hide (fun W B u hW ho => (sn_write (h.sn.below hW) hil hw0 hw1 hwl hsec ho).mono fun e w' ⟨h1, h2, h3⟩ => ⟨h1, ⟨h2, (h.wr.below hW).cj h3 tdk_wr, h.lo⟩, h3⟩)
  have HS : Hid (∀ W, Below w.heap.size w W → W.cell? ⟨pw, 0, none⟩ = some (.pointer (some ⟨p, 0, none⟩)) ∧ W.rangeAt pw 1 (slV s)) := hide (fun W hW => by obtain ⟨a1, _, a3⟩ := (h.below hW).cells hs; exact ⟨a1, a3⟩)
  have HS2 : Hid (∀ W, Rw w0 W p (D.write i (slL s)) pw s 0 → W.cell? ⟨pw, 0, none⟩ = some (.pointer (some ⟨p, 0, none⟩)) ∧ W.rangeAt pw 1 (slV s)) := hide (fun W hW => by obtain ⟨a1, _, a3⟩ := hW.cells hs; exact ⟨a1, a3⟩)
  have hinf := infoSof hs
  have HOK := hide hs
  generalize hbb : slL s = bb at *
  generalize hcs : slV s = cs1 at *
  clear h hs hm ht hi hil hwl hsec hcs hbb
  go_enter Tryd.func17, Tryd.ntmps17
  go_wp2_with (first
    | (refine wpList_loadJ rfl 32 (.tmp 15) rfl pw 1 rfl cs1 _ hrg Tryd.underlying32 rfl hinf ?_)
    | fail)
  refine (unhide HEN).mono ?_
  rintro e w2 ⟨u, rfl, ho2, hb2⟩
  obtain ⟨ua, un, uc, rfl⟩ := ho2.shape
  have HO2 := hide ho2
  have HB2 := hide hb2
  clear HEN ho2 hb2 hrg
  go_wp2_with fail
  have HBD := hide ((Below.refl w2.heap.size w2).drew)
  refine wp_region_held_drew (S := fun W => W.cell? ⟨pw, 0, none⟩ = some (.pointer (some ⟨p, 0, none⟩)) ∧ W.rangeAt pw 1 cs1) (by kernel_rfl) (unhide HS _ (below_then HB2.out HBD.out)) (fun hHeld => ?_)
  refine wpAnyH_take (i := 0) (v := .pointer (some ⟨pw, 0, none⟩)) rfl (by kernel_rfl) (by kernel_rfl) (by kernel_rfl) (fun _ _ _ h => h) (Or.inl ⟨by rfl, fun w hSw => by obtain ⟨hS1, hS2⟩ := hSw; go_simp⟩) (by assumption) ?_
  simp only [List.getElem_toArray, List.getElem_cons_zero, Act.put, List.setIfInBounds_toArray, List.set_cons_zero, List.set_cons_succ]
  refine wpAnyH_take (i := 1) (v := .pointer (some ⟨pw, 0, none⟩)) rfl (by kernel_rfl) (by kernel_rfl) (by kernel_rfl) (fun _ _ _ h => h) (Or.inl ⟨by rfl, fun w hSw => by obtain ⟨hS1, hS2⟩ := hSw; go_simp⟩) (by assumption) ?_
  simp only [List.getElem_toArray, List.getElem_cons_succ, List.getElem_cons_zero, Act.put, List.setIfInBounds_toArray, List.set_cons_zero, List.set_cons_succ]
  refine wpAnyH_take (i := 2) (v := .pointer (some ⟨pw, 0, none⟩)) rfl (by kernel_rfl) (by kernel_rfl) (by kernel_rfl) (fun _ _ _ h => h) (Or.inl ⟨by rfl, fun w hSw => by obtain ⟨hS1, hS2⟩ := hSw; go_simp⟩) (by assumption) ?_
  simp only [List.getElem_toArray, List.getElem_cons_succ, List.getElem_cons_zero, Act.put, List.setIfInBounds_toArray, List.set_cons_zero, List.set_cons_succ]
  refine wpAnyH_take (i := 3) (v := .pointer (some ⟨p, 0, none⟩)) rfl (by kernel_rfl) (by kernel_rfl) (by kernel_rfl) (fun _ _ _ h => h) (Or.inl ⟨by rfl, fun w hSw => by obtain ⟨hS1, hS2⟩ := hSw; go_simp⟩) (by assumption) ?_
  simp only [List.getElem_toArray, List.getElem_cons_succ, List.getElem_cons_zero, Act.put, List.setIfInBounds_toArray, List.set_cons_zero, List.set_cons_succ]
  refine wpAnyH_take (i := 4) (v := .pointer (some ⟨pw, 0, none⟩)) rfl (by kernel_rfl) (by kernel_rfl) (by kernel_rfl) (fun _ _ _ h => h) (Or.inl ⟨by rfl, fun w hSw => by obtain ⟨hS1, hS2⟩ := hSw; go_simp⟩) (by assumption) ?_
  simp only [List.getElem_toArray, List.getElem_cons_succ, List.getElem_cons_zero, Act.put, List.setIfInBounds_toArray, List.set_cons_zero, List.set_cons_succ]
  refine wpAnyH_take (i := 5) (v := .pointer (some ⟨pw, 0, none⟩)) rfl (by kernel_rfl) (by kernel_rfl) (by kernel_rfl) (fun _ _ _ h => h) (Or.inl ⟨by rfl, fun w hSw => by obtain ⟨hS1, hS2⟩ := hSw; go_simp⟩) (by assumption) ?_
  simp only [List.getElem_toArray, List.getElem_cons_succ, List.getElem_cons_zero, Act.put, List.setIfInBounds_toArray, List.set_cons_zero, List.set_cons_succ]
  refine wpAnyH_take (i := 6) (v := .pointer (some ⟨pw, 1, none⟩)) rfl (by kernel_rfl) (by kernel_rfl) (by kernel_rfl) (fun _ _ _ h => h) (Or.inl ⟨by rfl, fun w hSw => by obtain ⟨hS1, hS2⟩ := hSw; go_simp⟩) (by assumption) ?_
  simp only [List.getElem_toArray, List.getElem_cons_succ, List.getElem_cons_zero, Act.put, List.setIfInBounds_toArray, List.set_cons_zero, List.set_cons_succ]
  refine wpAnyH_take (i := 7) (v := .agg (cs1).toArray) rfl (by kernel_rfl) (by kernel_rfl) (by kernel_rfl) (fun _ _ _ h => h) (yieldsIf_load_mid (by rfl) _ _ rfl _ _ rfl _ _ (fun w hSw => hSw.2) Tryd.underlying32 rfl hinf) (by assumption) ?_
  simp only [List.getElem_toArray, List.getElem_cons_succ, List.getElem_cons_zero, Act.put, List.setIfInBounds_toArray, List.set_cons_zero, List.set_cons_succ]
  refine wpAnyH_take (i := 9) (v := .slice ua un uc) rfl (by kernel_rfl) (by kernel_rfl) (by kernel_rfl) (fun _ _ _ h => h) (Or.inl ⟨by rfl, fun w hSw => by obtain ⟨hS1, hS2⟩ := hSw; go_simp⟩) (by assumption) ?_
  simp only [List.getElem_toArray, List.getElem_cons_succ, List.getElem_cons_zero, Act.put, List.setIfInBounds_toArray, List.set_cons_zero, List.set_cons_succ]
  refine wpAnyH_ready (rs := [8]) (by kernel_rfl) (by simp) (AllReadyH.cons rfl (fun K hK => ?_) AllReadyH.nil)
  refine step_call1J (by rfl) 36 spl_enter (.tmp 27) _ rfl rfl (unhide HPL _) ?_
  rintro e wp ⟨rfl, hbp⟩
  have HBpl := hide (below_then HBD.out hbp)
  clear hbp
  refine ⟨_, rfl, ?_⟩
  refine hK.out _ _ (unhide HS _ (below_then HB2.out HBpl.out)) (fun hJ2 => ?_)
  clear hK K
  simp only [List.getElem_toArray, List.getElem_cons_succ, List.getElem_cons_zero, Act.put, List.setIfInBounds_toArray, List.set_cons_zero, List.set_cons_succ]
  refine wpAnyH_ready (rs := [10]) (by kernel_rfl) (by simp) (AllReadyH.cons rfl (fun K hK => ?_) AllReadyH.nil)
  refine step_call3J (by rfl) 14 swrite_enter (.tmp 23) (.tmp 28) (.tmp 29) _ rfl rfl rfl rfl (unhide HWR _ _ _ (below_then HB2.out HBpl.out) (HO2.out.below HBpl.out)) ?_
  rintro e ww ⟨rfl, hRw, hCw⟩
  have HRw := hide hRw
  have HCw := hide hCw
  clear hRw hCw
  refine ⟨_, rfl, ?_⟩
  refine hK.out _ _ (unhide HS2 _ HRw.out) (fun hJ3 => ?_)
  clear hK K
  simp only [List.getElem_toArray, List.getElem_cons_succ, List.getElem_cons_zero, Act.put, List.setIfInBounds_toArray, List.set_cons_zero, List.set_cons_succ]
  refine wpAnyH_done (by kernel_rfl) ?_ _
  obtain ⟨d0, d2, _⟩ := HRw.out.cells HOK.out
  have hfr := HRw.out.wr.frozen 106
  obtain ⟨r3, k3⟩ := HRw.out.set HOK.out 1
  obtain ⟨e0, e2, _⟩ := r3.cells HOK.out
  have HR3 := hide r3
  have HC3 := hide (((Cj.of_below HB2.out).trans (Cj.of_below HBpl.out)).trans ((cjd_wr HCw.out).trans k3))
  clear c0 c2 r3 k3
  go_wp2
  go_ret2
  exact ⟨rfl, HR3.out, HC3.out⟩
end Go.Proofs.YtpeopejnkbmcdaaDoor

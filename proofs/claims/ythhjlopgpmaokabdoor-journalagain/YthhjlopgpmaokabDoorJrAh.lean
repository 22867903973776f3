/- What JournalAgain answers. -/
import Derived.Test.YthhjlopgpmaokabDoorJrAg
namespace Go.Proofs.YthhjlopgpmaokabDoor
open Go.RowKit Go.Maps

/-- A buffer of 512 bytes, of the call's own. -/
theorem buf_calls {w : World} (ht : Tab w) {u : Value} (hu : IsJ w u (oneR 7).rs) : Calls Tryd.prog 30 #[.agg (jrV (oneR 7) u).toArray] w fun e w' => ∃ gb cb bs, e = .returned (.tuple #[.slice (some ⟨gb, 0, none⟩) 512 cb, .int .i64 0]) ∧ Own8 w' w.heap.size (.slice (some ⟨gb, 0, none⟩) 512 cb) bs ∧ 512 ≤ cb ∧ Below w.heap.size w w' := by
  have hk := oneR_ok (n := 7) (by decide)
  have he := oneR_enc (n := 7) (by decide)
  have := jenc_calls hk hu ht
  rw [he, encR_yes he] at this
  refine this.mono ?_
  rintro e w' ⟨x, rfl, ho, hb⟩
  have hl : (encL (oneR 7)).length = 512 := encL_len hk (by decide)
  obtain ⟨g, cb, rfl, hle, _⟩ := own8_headJ ho (by omega)
  rw [hl] at ho hle ⊢
  exact ⟨g, cb, _, rfl, ho, hle, hb⟩
theorem summed8_calls {w : World} {a : Option Addr} {cap : Nat} {xs : List Int} (h : IsB w (.slice a 512 cap) xs) :
    Calls Tryd.prog 35 #[.slice a 512 cap] w fun e w' => ∃ ua uc ys, e = .returned (.slice ua 512 uc) ∧ Own8 w' w.heap.size (.slice ua 512 uc) ys ∧ ys.length = 512 ∧ Below w.heap.size w w' := by
  refine (summed_calls h).mono ?_
  rintro e w' ⟨u, ys, rfl, ho, hl, hb⟩
  obtain ⟨ua, un, uc, rfl⟩ := ho.shape
  obtain rfl : un = 512 := by have := ho.isB.lenEq; omega
  exact ⟨ua, uc, ys, rfl, ho, hl, hb⟩
set_option maxRecDepth 100000 in
set_option maxHeartbeats 16000000 in
theorem journalAgain_walk {w : World} {r : JR} {va : Option Addr} {n cap : Nat} {ta : Option Addr} {tn tc : Nat} {ts : List (Int × Int × Int)} (hr : r.Ok) (hv : IsJ w (.slice va n cap) r.rs) (hts : IsTris w (.slice ta tn tc) ts) (ht : Tab w) :
    Calls Tryd.prog 6 #[.agg (jrV r (.slice va n cap)).toArray, .slice ta tn tc] w fun e w' => e = .returned (.bool true) ∧ Below w.heap.size w w' := by
  have HT : Hid (∀ W, Below w.heap.size w W → Tab W) := hide (fun W hW => ht.below hW)
  have HV : Hid (∀ W, Below w.heap.size w W → IsJ W (.slice va n cap) r.rs) := hide (fun W hW => hv.below hW)
  have HTS : Hid (tn ≤ 9223372036854775807 ∧ ∀ k, k < tn → ∃ b o, ta = some ⟨b, o, none⟩ ∧ b < w.heap.size ∧ ∃ t0 t1 t2 : Int, i64I t1 ∧ ∀ W, Below w.heap.size w W → W.cell? ⟨b, o + k * 3, none⟩ = some (.int .i64 t0) ∧ W.cell? ⟨b, o + k * 3 + 1, none⟩ = some (.int .i64 t1) ∧ W.cell? ⟨b, o + k * 3 + 2, none⟩ = some (.int .i64 t2)) := hide (by
    obtain ⟨h0, a', c', hv', hl, hm, hc⟩ := hts
    injection hv' with e1 e2 e3
    subst e1 e2 e3
    refine ⟨by omega, fun k hk => ?_⟩
    obtain ⟨b, o, ha, hcell⟩ := hc (by omega)
    obtain ⟨c0, c1, c2⟩ := hcell k hk
    have hb := World.block_lt_of_cell? w _ c0
    refine ⟨b, o, ha, hb, _, _, _, h0 (ts.getD k (0, 0, 0)) (by rw [List.getD_eq_getElem?_getD, List.getElem?_eq_getElem hk]; exact List.getElem_mem hk), fun W hW => ⟨(hW.cell (p := ⟨b, o + k * 3, none⟩) hb).trans c0, (hW.cell (p := ⟨b, o + k * 3 + 1, none⟩) hb).trans c1, (hW.cell (p := ⟨b, o + k * 3 + 2, none⟩) hb).trans c2⟩⟩)
  obtain ⟨q0, hq⟩ : ∃ q : JR, q = ⟨r.n, r.p, r.rs.take 12⟩ := ⟨_, rfl⟩
  have hqo : q0.Ok := by rw [hq]; exact ⟨hr.len, hr.by8, hr.num, fun x hx => hr.refs x (List.mem_of_mem_take hx)⟩
  have HQ : Hid (∀ u, jrV r u = jrV q0 u) := hide (fun u => by rw [hq]; rfl)
  have HQR : Hid (q0.rs = r.rs.take 12) := hide (by rw [hq])
  have HQO := hide hqo
  have HRL := hide hr.len
  have hir := infoRof hr.len (.slice va n cap)
  have hlr : z34R.length = (jrV r (.slice va n cap)).length := by rw [jrV_len hr.len]; decide
  have hor : ∀ y ∈ jrV r (.slice va n cap), y.oneCell' = true := jrV_one r rfl
  have HTO : Hid (∀ W, Below w.heap.size w W → Calls Tryd.prog 10 #[] W fun e w' => e = .returned (.bool true) ∧ Below W.heap.size W w') := hide (fun W hW => jtold_calls (ht.below hW))
  have HO7 : Hid (∀ W, Calls Tryd.prog 31 #[.int .i64 7] W fun e w' => ∃ u, e = .returned (.agg (jrV (oneR 7) u).toArray) ∧ OwnJ w' W.heap.size u (oneR 7).rs ∧ Below W.heap.size W w') := hide (fun W => one_calls (n := 7) (by decide))
  have HPL : Hid (∀ W x k, 0 < k → k ≤ 100000 → Calls Tryd.prog 8 #[.int .i64 x, .int .i64 ((k : Nat) : Int)] W fun e w' => ∃ j : Nat, e = .returned (.int .i64 (j : Int)) ∧ j < k ∧ W = w') := hide (fun W x k h1 h2 => place17_calls h1 h2 W)
  have HP5 : Hid (∀ W x, Calls Tryd.prog 8 #[.int .i64 x, .int .i64 508] W fun e w' => ∃ j : Nat, e = .returned (.int .i64 (j : Int)) ∧ j < 508 ∧ W = w') := hide (fun W x => place17_calls (n := 508) (by decide) (by decide) W)
  clear hr hv ht hts hq hqo
  go_enter Tryd.func6, Tryd.ntmps6
  go_wp2_with (first
    | (refine wpList_boxJ rfl 52 (.tmp 0) rfl rfl ?_; intro w1 hA1 hb1 hs1
       have HA1 := hide hA1
       have HB1 := hide hb1
       have HS1 := hide hs1
       clear hA1 hb1 hs1)
    | fail)
  refine (unhide HTO _ HB1.out).mono ?_
  rintro e w2 ⟨rfl, hb2⟩
  have hA2 := HA1.out.below hb2
  have hr2 := hA2.rangeJ
  have HB2 := hide (below_then HB1.out hb2)
  have HA3 := hide (Arr.new w2 z34R 52)
  have HBA := hide (jalloc_below w2 (.cells z34R.toArray 52))
  obtain ⟨gi, hgi⟩ : ∃ gi, gi = w2.heap.size := ⟨_, rfl⟩
  have HX4 : Hid (∀ W, Arr W w2.heap.size 52 (jrV r (.slice va n cap)) → (w2.alloc (.cells z34R.toArray 52)).grownBy W (some w2.heap.size) → Arr W gi 52 (jrV r (.slice va n cap)) ∧ Below w.heap.size w W ∧ W.cell? ⟨w.heap.size, 33, none⟩ = some (.slice va n cap)) := hide (fun W h1 h2 => by
    have hb := jbelow_grown HBA.out h2 HBA.out.size (Nat.le_refl _)
    rw [← hgi] at h1
    exact ⟨h1, below_then HB2.out hb, ((hA2.below hb).cell 33).trans (jrV_v HRL.out _)⟩)
  have HGI : Hid (gi = w2.heap.size ∧ w.heap.size ≤ gi) := hide ⟨hgi, by rw [hgi]; exact HB2.out.size⟩
  clear hA2 hb2 HA1 HB1 HTO HS1 hgi
  go_wp2_with (first
    | (refine wpList_loadJ rfl 52 (.tmp 2) rfl _ 0 rfl _ _ hr2 Tryd.underlying52 rfl hir ?_)
    | (refine wpList_allocJ rfl 52 rfl infoR ?_)
    | (refine wpList_storeJ rfl (.tmp 5) (.tmp 21) 52 rfl rfl rfl HA3.out hir hlr hor ?_; intro w4 hA4 hg4
       obtain ⟨h41, h42, c33⟩ := unhide HX4 w4 hA4 hg4
       rw [← HGI.out.1]
       have HA4 := hide h41
       have HB4 := hide h42
       clear hA4 hg4 h41 h42 HX4 HA3 HBA hr2)
    | fail)
  refine (cutrefs_calls (unhide HV _ HB4.out)).mono ?_
  rintro e w5 ⟨⟨m, rfl, hmn, hJm⟩, hw5⟩
  obtain rfl := hw5.symm
  have HM12 : Hid (m ≤ 12) := hide (by omega)
  have HJ : Hid (∀ W, Below w.heap.size w W → IsJ W (.slice va m cap) q0.rs) := hide (fun W hW => by
    have h1 := unhide HV _ hW
    have h2 := h1.lenEq
    rw [HQR.out, show r.rs.take 12 = r.rs.take m by rcases hJm with rfl | ⟨rfl, h3⟩; rfl; rw [List.take_of_length_le (by omega), List.take_of_length_le (by omega)]]
    exact h1.cut hmn)
  have HLA := hide (laid17_calls (unhide HJ _ HB4.out) HM12.out)
  clear hw5 hJm hmn HV HQR
  go_wp2_with fail
  refine (unhide HLA).mono ?_
  rintro e w6 ⟨g, c, rfl, hld, hb6⟩
  have hA6 := HA4.out.below hb6
  have f33 := hA6.frozen 33
  have d33 : w6.cell? ⟨gi, 33, none⟩ = some (.slice va n cap) := (hA6.cell 33).trans (jrV_v HRL.out _)
  have hA7 : Arr (w6.setCell ⟨gi, 33, none⟩ (.slice (some ⟨g, 0, none⟩) m c)) gi 52 (jrV q0 (.slice (some ⟨g, 0, none⟩) m c)) := by
    have := hA6.set 33 (.slice (some ⟨g, 0, none⟩) m c)
    rw [jrV_set HRL.out, HQ.out] at this
    exact this
  have HA7 := hide hA7
  have HB7 : Hid (Below w.heap.size w (w6.setCell ⟨gi, 33, none⟩ (.slice (some ⟨g, 0, none⟩) m c))) := hide ((below_then HB4.out hb6).setCell HGI.out.2 _)
  have HLD7 : Hid (LaidJ (w6.setCell ⟨gi, 33, none⟩ (.slice (some ⟨g, 0, none⟩) m c)) w4.heap.size g m c q0.rs) := hide ⟨hld.len, hld.own.kept (grown_set w6 gi 33 (.slice (some ⟨g, 0, none⟩) m c)) (by
    unfold Arr at hA6
    exact OwnJ.block hld.own hA6 (by decide))⟩
  clear hld hb6 hA6 hA7 HA4 HLA
  go_upto_region 5 with fail
  obtain ⟨w7, hw7⟩ : ∃ w7, w7 = w6.setCell ⟨gi, 33, none⟩ (.slice (some ⟨g, 0, none⟩) m c) := ⟨_, rfl⟩
  rw [← hw7] at HA7 HB7 HLD7 ⊢
  clear f33 d33 hw7 c33
  go_wp2_with fail
  refine (unhide HO7 _).mono ?_
  rintro e w8 ⟨u8, rfl, ho8, hb8⟩
  have HBC := hide (buf_calls (unhide HT _ (below_then HB7.out hb8)) ho8.isJ)
  have HB8 := hide (below_then HB7.out hb8)
  have HA8 := hide (HA7.out.below hb8)
  have HLD8 := hide (HLD7.out.below hb8)
  clear ho8 hb8 HO7 HA7 HLD7
  go_wp2_with fail
  refine (unhide HBC).mono ?_
  rintro e w9 ⟨gb, cb, bs0, rfl, ho9, hcb, hb9⟩
  have HJ0 : Hid (Ja w w9 gi g m c gb cb q0 bs0) := hide ⟨below_then HB8.out hb9, HA8.out.below hb9, HGI.out.2, ⟨_, HLD8.out.below hb9, HB4.out.size⟩, ⟨_, ho9, HB8.out.size⟩, HQO.out⟩
  have HCB := hide hcb
  clear ho9 hcb hb9 HBC HB8 HA8 HLD8 HB7 HB4
  go_wp2_with fail
  go_loopw [6, 8] (fun bv iv W => ∃ (k : Nat) (q : JR) (bs : List Int), bv = .slice (some ⟨gb, 0, none⟩) 512 cb ∧ iv = .int .i64 (k : Int) ∧ k ≤ tn ∧ k ≤ 17 ∧ Hid (Ja w W gi g m c gb cb q bs)) (fun _ iv _ => 17 - (intOf iv).toNat)
  case atStart => exact ⟨0, q0, bs0, rfl, rfl, Nat.zero_le _, Nat.zero_le _, HJ0⟩
  case round =>
    clear HJ0
    obtain ⟨k, q, bs, rfl, rfl, hkt, hk17, HK⟩ := hrel
    by_cases hk16 : k ≤ 16
    · have d1 : (k : Int) ≤ (tn : Int) := by omega
      have d2 : (k : Int) ≤ 16 := by omega
      have hq := HK.out.ok
      have hri := HK.out.blk.rangeJ
      have hinf := infoRof hq.len (.slice (some ⟨g, 0, none⟩) m c)
      have hlen : z34R.length = (jrV q (.slice (some ⟨g, 0, none⟩) m c)).length := by rw [jrV_len hq.len]; decide
      have hone : ∀ y ∈ jrV q (.slice (some ⟨g, 0, none⟩) m c), y.oneCell' = true := jrV_one q rfl
      have HA0 := hide (Arr.new wr z34R 52)
      have HBA := hide (jalloc_below wr (.cells z34R.toArray 52))
      obtain ⟨g9, hg9⟩ : ∃ g9, g9 = wr.heap.size := ⟨_, rfl⟩
      have HX1 : Hid (∀ W, Arr W wr.heap.size 52 (jrV q (.slice (some ⟨g, 0, none⟩) m c)) → (wr.alloc (.cells z34R.toArray 52)).grownBy W (some wr.heap.size) → Arr W g9 52 (jrV q (.slice (some ⟨g, 0, none⟩) m c)) ∧ Below wr.heap.size wr W ∧ Ja w W gi g m c gb cb q bs) := hide (fun W h1 h2 => by
        have hb := jbelow_grown HBA.out h2 HBA.out.size (Nat.le_refl _)
        rw [← hg9] at h1
        exact ⟨h1, hb, HK.out.below hb⟩)
      have HG9 := hide hg9
      have hql := HK.out.len
      have HQL := hide hql
      have HQK := hide hq
      clear hg9 hq hql
      go_upto_region 13 with (first
        | (refine wpList_loadJ rfl 52 (.tmp 5) rfl _ 0 rfl _ _ hri Tryd.underlying52 rfl hinf ?_)
        | (refine wpList_allocJ rfl 52 rfl infoR ?_)
        | (refine wpList_storeJ rfl (.tmp 9) (.tmp 49) 52 rfl rfl rfl HA0.out hinf hlen hone ?_; intro w1 hA1 hg1
           obtain ⟨h11, h12, h13⟩ := unhide HX1 w1 hA1 hg1
           rw [← HG9.out]
           have c1 := h13.cell
           have HA1 := hide h11
           have HB1 := hide h12
           have HJ1 := hide h13
           clear hA1 hg1 h11 h12 h13 HX1 HA0 HBA hri)
        | (at_builtin; refine wpList_appJ rfl (.const (.slice none 0 0)) (.tmp 51) rfl rfl (OwnJ.nil w1 w1.heap.size) rfl HJ1.out.isJ (by rw [HQL.out]; simp; have := HM12.out; omega) (Nat.le_refl _) ?_; intro v2 w2 ho2 hg2 _
           have hb2 : Below w1.heap.size w1 w2 := (Below.refl _ _).grown hg2 (Nat.le_refl _) (fun b hb => by cases hb)
           rw [List.nil_append] at ho2
           obtain ⟨a2, c2, hv2⟩ := ho2.shape
           rw [HQL.out] at hv2
           subst hv2
           have HO2 := hide ho2
           have hA2 := HA1.out.below hb2
           have e33 : w2.cell? ⟨g9, 33, none⟩ = some (.slice (some ⟨g, 0, none⟩) m c) := (hA2.cell 33).trans (jrV_v HQK.out.len _)
           have f33 := hA2.frozen 33
           have HA2 := hide hA2
           have HJ2 := hide (HJ1.out.below hb2)
           have HB2 := hide (below_then HB1.out hb2)
           clear ho2 hg2 hb2 hA2 HA1 HJ1 HB1 c1)
        | fail)
      obtain ⟨w3, hw3⟩ : ∃ w3, w3 = w2.setCell ⟨g9, 33, none⟩ (.slice a2 m c2) := ⟨_, rfl⟩
      rw [← hw3]
      have hA3 : Arr w3 g9 52 (jrV q (.slice a2 m c2)) := by
        have := HA2.out.set 33 (.slice a2 m c2)
        rw [jrV_set HQK.out.len, ← hw3] at this
        exact this
      have hne9 : gi ≠ g9 := by
        have h1 : gi < wr.heap.size := World.block_lt_of_cell? wr _ HK.out.cell
        rw [HG9.out]
        omega
      have HB3 : Hid (Below wr.heap.size wr w3) := hide (by rw [hw3]; exact HB2.out.setCell (by rw [HG9.out]; exact Nat.le_refl _) _)
      have HO3 : Hid (OwnJ w3 w1.heap.size (.slice a2 m c2) q.rs) := hide (by
        rw [hw3]
        have h := HA2.out
        unfold Arr at h
        exact HO2.out.kept (grown_set w2 g9 33 _) (OwnJ.block HO2.out h (by decide)))
      have HJ3 := hide (HK.out.below HB3.out)
      have HA3 := hide hA3
      have HALL : Hid (∀ W, Below w3.heap.size w3 W → Ja w W gi g m c gb cb q bs ∧ W.rangeAt gi 0 (jrV q (.slice (some ⟨g, 0, none⟩) m c)) ∧ W.rangeAt g9 0 (jrV q (.slice a2 m c2)) ∧ W.cell? ⟨gi, 33, none⟩ = some (.slice (some ⟨g, 0, none⟩) m c) ∧ W.cell? ⟨g9, 33, none⟩ = some (.slice a2 m c2) ∧ IsJ W (.slice a2 m c2) q.rs ∧ Tab W) := hide (fun W hW => by
        have h1 := HJ3.out.below hW
        have h2 := HA3.out.below hW
        exact ⟨h1, h1.blk.rangeJ, h2.rangeJ, h1.cell, (h2.cell 33).trans (jrV_v HQK.out.len _), HO3.out.isJ.below hW, unhide HT _ h1.be⟩)
      have hlb := HK.out.lenB
      have HN8 := hide (Own8.nil w3 w3.heap.size)
      have hln8 : ([] : List Int).length + bs.length ≤ 140737488355328 := by rw [hlb]; decide
      have HBY := hide (isB_by HK.out.isB)
      have HLB := hide hlb
      clear hw3 hA3 HA2 HO2 HJ2 HB2 e33 f33 hlb HJ3 HA3 HO3 HB3
      go_wp2_with (first
        | (at_builtin; refine wpList_appB rfl (.const (.slice none 0 0)) (.tmp 54) rfl rfl HN8.out rfl (unhide HALL w3 (Below.refl _ _)).1.isB hln8 (Nat.le_refl _) ?_; intro v4 w4 ho4 hg4
           have hb4 : Below w3.heap.size w3 w4 := (Below.refl _ _).grown hg4 (Nat.le_refl _) (fun b hb => by cases hb)
           rw [List.nil_append] at ho4
           obtain ⟨a4, n4, c4, rfl⟩ := ho4.shape
           have hri4 := (unhide HALL w4 hb4).2.1
           have HO4 := hide ho4
           have HB4 := hide hb4
           clear ho4 hg4 hb4)
        | (refine wpList_loadJ rfl 52 (.tmp 5) rfl _ 0 rfl _ _ hri4 Tryd.underlying52 rfl hinf ?_)
        | fail)
      refine (jenc_calls HQK.out (unhide HALL w4 HB4.out).1.isJ (unhide HALL w4 HB4.out).2.2.2.2.2.2).mono ?_
      rintro e w5 ⟨x5, rfl, ho5, hb5⟩
      obtain ⟨a5, n5, c5, rfl⟩ := ho5.shape
      have HE5 := hide ho5.isB
      have HO5 := hide (HO4.out.below hb5)
      have HB5 := hide (below_then HB4.out hb5)
      have hr9 := (unhide HALL w5 HB5.out).2.2.1
      have hinf9 := infoRof HQK.out.len (.slice a2 m c2)
      clear ho5 hb5 HO4 HB4 hri4
      go_wp2_with (first
        | (refine wpList_loadJ rfl 52 (.tmp 9) rfl _ 0 rfl _ _ hr9 Tryd.underlying52 rfl hinf9 ?_)
        | fail)
      refine (renc_calls HQK.out (unhide HALL w5 HB5.out).2.2.2.2.2.1).mono ?_
      rintro e w6 ⟨x6, rfl, ho6, hb6⟩
      obtain ⟨a6, n6, c6, rfl⟩ := ho6.shape
      have HE6 := hide ho6.isB
      have HE5b := hide (HE5.out.below hb6)
      have HO6 := hide (HO5.out.below hb6)
      have HB6 := hide (below_then HB5.out hb6)
      have HDC := hide (jdec_calls (unhide HALL w6 HB6.out).1.isB (unhide HALL w6 HB6.out).2.2.2.2.2.2)
      have hdok := decR_ok HBY.out
      have hob : (decE bs == 0) = (decO bs).isSome := by
        cases hd : decO bs with
        | none => rw [(decR_none hd).2]; rfl
        | some x => rw [(decR_some hd).2]; rfl
      have hlenD : ∀ u, z34R.length = (jrV (decR bs) u).length := fun u => by rw [jrV_len hdok.len]; decide
      have hinfD := fun u => infoRof hdok.len u
      have HDOK := hide hdok
      clear ho6 hb6 HE5 HO5 HB5 hr9 hdok
      go_wp2_with fail
      refine (unhide HDC).mono ?_
      rintro e w7 ⟨u7, rfl, ho7, hb7⟩
      obtain ⟨a7, c7, hv7⟩ := ho7.shape
      obtain ⟨n7, hn7⟩ : ∃ n7, n7 = (decR bs).rs.length := ⟨_, rfl⟩
      rw [← hn7] at hv7
      subst hv7
      have HA7 := hide (Arr.new w7 z34R 52)
      have HBA7 := hide (jalloc_below w7 (.cells z34R.toArray 52))
      obtain ⟨gf, hgf⟩ : ∃ gf, gf = w7.heap.size := ⟨_, rfl⟩
      have HX8 : Hid (∀ W, Arr W w7.heap.size 52 (jrV (decR bs) (.slice a7 n7 c7)) → (w7.alloc (.cells z34R.toArray 52)).grownBy W (some w7.heap.size) → Arr W gf 52 (jrV (decR bs) (.slice a7 n7 c7)) ∧ Below w3.heap.size w3 W ∧ IsJ W (.slice a7 n7 c7) (decR bs).rs ∧ IsB W (.slice a5 n5 c5) (encR q) ∧ IsB W (.slice a6 n6 c6) (encR q) ∧ IsB W (.slice a4 n4 c4) bs) := hide (fun W h1 h2 => by
        have hb := below_then hb7 (jbelow_grown HBA7.out h2 HBA7.out.size (Nat.le_refl _))
        rw [← hgf] at h1
        exact ⟨h1, below_then HB6.out hb, ho7.isJ.below (jbelow_grown HBA7.out h2 HBA7.out.size (Nat.le_refl _)), HE5b.out.below hb, HE6.out.below hb, HO6.out.isB.below hb⟩)
      have HGF := hide hgf
      have HN7 := hide hn7
      clear ho7 hb7 HDC HE5b HE6 HO6 HB6 hn7 hgf
      go_wp2_with (first
        | (refine wpList_allocJ rfl 52 rfl infoR ?_)
        | (refine wpList_storeJ rfl (.tmp 15) (.tmp 69) 52 rfl rfl rfl HA7.out (hinfD _) (hlenD _) (jrV_one (decR bs) rfl) ?_; intro w8 hA8 hg8
           obtain ⟨h81, h82, h83, h84, h85, h86⟩ := unhide HX8 w8 hA8 hg8
           rw [← HGF.out]
           have HA8 := hide h81
           have HB8 := hide h82
           have HD8 := hide h83
           have HE8 := hide h84
           have HF8 := hide h85
           have HI8 := hide h86
           have HRD := hide (rdec_calls h86)
           clear hA8 hg8 h81 h82 h83 h84 h85 h86 HX8 HA7 HBA7)
        | fail)
      refine (unhide HRD).mono ?_
      rintro e w9 ⟨u9, rfl, ho9, hb9⟩
      obtain ⟨a9, c9, hv9⟩ := ho9.shape
      rw [← HN7.out] at hv9
      subst hv9
      have HA9 := hide (Arr.new w9 z34R 52)
      have HBA9 := hide (jalloc_below w9 (.cells z34R.toArray 52))
      obtain ⟨gh, hgh⟩ : ∃ gh, gh = w9.heap.size := ⟨_, rfl⟩
      have HXA : Hid (∀ W, Arr W w9.heap.size 52 (jrV (decR bs) (.slice a9 n7 c9)) → (w9.alloc (.cells z34R.toArray 52)).grownBy W (some w9.heap.size) → Below w3.heap.size w3 W ∧ (IsB W (.slice a5 n5 c5) (encR q) ∧ IsB W (.slice a6 n6 c6) (encR q)) ∧ ∀ W2, Below W.heap.size W W2 → W2.rangeAt gf 0 (jrV (decR bs) (.slice a7 n7 c7)) ∧ W2.rangeAt gh 0 (jrV (decR bs) (.slice a9 n7 c9)) ∧ IsJ W2 (.slice a7 n7 c7) (decR bs).rs ∧ IsJ W2 (.slice a9 n7 c9) (decR bs).rs ∧ IsB W2 (.slice a4 n4 c4) bs) := hide (fun W h1 h2 => by
        have hbW := jbelow_grown HBA9.out h2 HBA9.out.size (Nat.le_refl _)
        have hb := below_then hb9 hbW
        rw [← hgh] at h1
        exact ⟨below_then HB8.out hb, ⟨HE8.out.below hb, HF8.out.below hb⟩, fun W2 hW2 => ⟨((HA8.out.below hb).below hW2).rangeJ, (h1.below hW2).rangeJ, (HD8.out.below hb).below hW2, (ho9.isJ.below hbW).below hW2, (HI8.out.below hb).below hW2⟩⟩)
      have HGH := hide hgh
      rw [← hob]
      generalize decE bs = de at *
      obtain ⟨ob, hob2⟩ : ∃ ob, (de == 0) = ob := ⟨_, rfl⟩
      rw [hob2]
      generalize encE q = ee at *
      clear ho9 hb9 HRD HE8 HF8 HI8 HA8 HB8 HD8 hgh hob
      go_wp2_with (first
        | (refine wpList_allocJ rfl 52 rfl infoR ?_)
        | (refine wpList_storeJ rfl (.tmp 17) (.tmp 74) 52 rfl rfl rfl HA9.out (hinfD _) (hlenD _) (jrV_one (decR bs) rfl) ?_; intro wa hAa hga
           obtain ⟨ha1, ha2, ha3⟩ := unhide HXA wa hAa hga
           rw [← HGH.out]
           have HBa := hide ha1
           have HSA := hide (same_calls ha2.1 ha2.2)
           have HXB := hide ha3
           clear hAa hga ha1 ha2 ha3 HXA HA9 HBA9)
        | fail)
      refine (unhide HSA).mono ?_
      rintro e wb ⟨rfl, hwb⟩
      have hbb := below_same hwb
      obtain ⟨hrf, hrh, hjf, hjh, hib⟩ := unhide HXB wb hbb
      have HBb := hide (below_then HBa.out hbb)
      have HSR := hide (samerec_calls HDOK.out hjf hjh)
      have HIB := hide hib
      clear hwb hbb hjf hjh hib HSA HXB HBa
      go_wp2_with (first
        | (refine wpList_loadJ rfl 52 (.tmp 15) rfl _ 0 rfl _ _ hrf Tryd.underlying52 rfl (hinfD _) ?_)
        | (refine wpList_loadJ rfl 52 (.tmp 17) rfl _ 0 rfl _ _ hrh Tryd.underlying52 rfl (hinfD _) ?_)
        | fail)
      refine (unhide HSR).mono ?_
      rintro e wc ⟨rfl, hbc⟩
      have HBc := hide (below_then HBb.out hbc)
      obtain ⟨hj9, _, _, c1, c9c, hj92, _⟩ := unhide HALL wc HBc.out
      have HIT : Hid (Calls Tryd.prog 34 #[(.slice (some ⟨g, 0, none⟩) m c), .slice a2 m c2] wc fun e w' => e = .returned (.bool true) ∧ Below wc.heap.size wc w') := hide (by
        obtain ⟨B, h4, _⟩ := hj9.laid
        exact intact17_calls h4 hj92)
      have HIB2 := hide (HIB.out.below hbc)
      clear hbc HSR HIB HBb hj9 hj92 hrf hrh
      go_wp2_with fail
      refine (unhide HIT).mono ?_
      rintro e wd ⟨rfl, hbd⟩
      have HBd := hide (below_then HBc.out hbd)
      have HSD := hide (same_calls (unhide HALL wd HBd.out).1.isB (HIB2.out.below hbd))
      clear hbd HIT HIB2 HBc c1 c9c
      go_wp2_with fail
      refine (unhide HSD).mono ?_
      rintro e we ⟨rfl, hwe⟩
      have HJe := hide (unhide HALL we (below_then HBd.out (below_same hwe))).1
      clear hwe HSD HBd HALL HDOK HBY hob2
      by_cases hkn : k = tn
      · subst hkn
        have HBE := hide HJe.out.be
        clear HJe
        go_wp2
        go_ret
        exact ⟨rfl, HBE.out⟩
      have hknI : ((k : Int) == (tn : Int)) = false := by simp; omega
      have hknN : ¬ k = tn := hkn
      obtain ⟨b, o, rfl, hblt, t0, t1, t2, hti, htc⟩ := HTS.out.2 k (by omega)
      have HBL := hide hblt
      have HTI := hide hti
      have HTC := hide htc
      have ce := HJe.out.cell
      clear hblt hti htc hkn
      go_upto_if 118 with fail
      go_cut [8] from 39 to 153 (fun a wc => a = .int .i64 (k : Int) ∧ Hid (∃ q', Ja w wc gi g m c gb cb q' bs))
      case first =>
        by_cases hm0 : 0 < m
        · have hmI : (0 : Int) < (m : Int) := by omega
          have hkl : k < tn := by omega
          have HMP := hide (fun W x => unhide HPL W x m hm0 (by have := HM12.out; omega))
          obtain ⟨z0, z1, _⟩ := unhide HTC we.drew HJe.out.be.drew
          have HX0 : Hid (Ja w we.drew gi g m c gb cb q bs) := hide (HJe.out.below (Below.refl _ _).drew)
          clear z0 z1 ce
          go_wp2_with fail
          refine wp_region_held_drew (S := fun W => W.cell? ⟨gi, 33, none⟩ = some (.slice (some ⟨g, 0, none⟩) m c) ∧ W.cell? ⟨b, o + k * 3, none⟩ = some (.int .i64 t0) ∧ W.cell? ⟨b, o + k * 3 + 1, none⟩ = some (.int .i64 t1)) (by kernel_rfl) (⟨HX0.out.cell, (unhide HTC _ HX0.out.be).1, (unhide HTC _ HX0.out.be).2.1⟩) (fun hHeld => ?_)
          refine wpAnyH_take (i := 0) (v := .pointer (some ⟨gi, 33, none⟩)) rfl (by kernel_rfl) (by kernel_rfl) (by kernel_rfl) (fun _ _ _ h => h) (Or.inl ⟨by rfl, fun w hSw => by obtain ⟨hS1, hS2, hS3⟩ := hSw; go_simp⟩) (by assumption) ?_
          simp only [List.getElem_toArray, List.getElem_cons_zero, Act.put, List.setIfInBounds_toArray, List.set_cons_zero, List.set_cons_succ]
          refine wpAnyH_take (i := 1) (v := .slice (some ⟨g, 0, none⟩) m c) rfl (by kernel_rfl) (by kernel_rfl) (by kernel_rfl) (fun _ _ _ h => h) (Or.inl ⟨by rfl, fun w hSw => by obtain ⟨hS1, hS2, hS3⟩ := hSw; go_simp⟩) (by assumption) ?_
          simp only [List.getElem_toArray, List.getElem_cons_succ, List.getElem_cons_zero, Act.put, List.setIfInBounds_toArray, List.set_cons_zero, List.set_cons_succ]
          refine wpAnyH_take (i := 2) (v := .slice (some ⟨b, o, none⟩) tn tc) rfl (by kernel_rfl) (by kernel_rfl) (by kernel_rfl) (fun _ _ _ h => h) (Or.inl ⟨by rfl, fun w hSw => by obtain ⟨hS1, hS2, hS3⟩ := hSw; go_simp⟩) (by assumption) ?_
          simp only [List.getElem_toArray, List.getElem_cons_succ, List.getElem_cons_zero, Act.put, List.setIfInBounds_toArray, List.set_cons_zero, List.set_cons_succ]
          refine wpAnyH_take (i := 3) (v := .int .i64 (k : Int)) rfl (by kernel_rfl) (by kernel_rfl) (by kernel_rfl) (fun _ _ _ h => h) (Or.inl ⟨by rfl, fun w hSw => by obtain ⟨hS1, hS2, hS3⟩ := hSw; go_simp⟩) (by assumption) ?_
          simp only [List.getElem_toArray, List.getElem_cons_succ, List.getElem_cons_zero, Act.put, List.setIfInBounds_toArray, List.set_cons_zero, List.set_cons_succ]
          refine wpAnyH_take (i := 4) (v := .pointer (some ⟨b, o + k * 3, none⟩)) rfl (by kernel_rfl) (by kernel_rfl) (by kernel_rfl) (fun _ _ _ h => h) (Or.inl ⟨by rfl, fun w hSw => by obtain ⟨hS1, hS2, hS3⟩ := hSw; go_simp⟩) (by assumption) ?_
          simp only [List.getElem_toArray, List.getElem_cons_succ, List.getElem_cons_zero, Act.put, List.setIfInBounds_toArray, List.set_cons_zero, List.set_cons_succ]
          refine wpAnyH_take (i := 5) (v := .pointer (some ⟨b, o + k * 3, none⟩)) rfl (by kernel_rfl) (by kernel_rfl) (by kernel_rfl) (fun _ _ _ h => h) (Or.inl ⟨by rfl, fun w hSw => by obtain ⟨hS1, hS2, hS3⟩ := hSw; go_simp⟩) (by assumption) ?_
          simp only [List.getElem_toArray, List.getElem_cons_succ, List.getElem_cons_zero, Act.put, List.setIfInBounds_toArray, List.set_cons_zero, List.set_cons_succ]
          refine wpAnyH_take (i := 6) (v := .int .i64 t0) rfl (by kernel_rfl) (by kernel_rfl) (by kernel_rfl) (fun _ _ _ h => h) (Or.inl ⟨by rfl, fun w hSw => by obtain ⟨hS1, hS2, hS3⟩ := hSw; go_simp⟩) (by assumption) ?_
          simp only [List.getElem_toArray, List.getElem_cons_succ, List.getElem_cons_zero, Act.put, List.setIfInBounds_toArray, List.set_cons_zero, List.set_cons_succ]
          refine wpAnyH_take (i := 7) (v := .pointer (some ⟨gi, 33, none⟩)) rfl (by kernel_rfl) (by kernel_rfl) (by kernel_rfl) (fun _ _ _ h => h) (Or.inl ⟨by rfl, fun w hSw => by obtain ⟨hS1, hS2, hS3⟩ := hSw; go_simp⟩) (by assumption) ?_
          simp only [List.getElem_toArray, List.getElem_cons_succ, List.getElem_cons_zero, Act.put, List.setIfInBounds_toArray, List.set_cons_zero, List.set_cons_succ]
          refine wpAnyH_take (i := 8) (v := .slice (some ⟨g, 0, none⟩) m c) rfl (by kernel_rfl) (by kernel_rfl) (by kernel_rfl) (fun _ _ _ h => h) (Or.inl ⟨by rfl, fun w hSw => by obtain ⟨hS1, hS2, hS3⟩ := hSw; go_simp⟩) (by assumption) ?_
          simp only [List.getElem_toArray, List.getElem_cons_succ, List.getElem_cons_zero, Act.put, List.setIfInBounds_toArray, List.set_cons_zero, List.set_cons_succ]
          refine wpAnyH_take (i := 9) (v := .int .i64 (m : Int)) rfl (by kernel_rfl) (by kernel_rfl) (by kernel_rfl) (fun _ _ _ h => h) (Or.inl ⟨by rfl, fun w hSw => by obtain ⟨hS1, hS2, hS3⟩ := hSw; go_simp⟩) (by assumption) ?_
          simp only [List.getElem_toArray, List.getElem_cons_succ, List.getElem_cons_zero, Act.put, List.setIfInBounds_toArray, List.set_cons_zero, List.set_cons_succ]
          refine wpAnyH_take (i := 11) (v := .slice (some ⟨b, o, none⟩) tn tc) rfl (by kernel_rfl) (by kernel_rfl) (by kernel_rfl) (fun _ _ _ h => h) (Or.inl ⟨by rfl, fun w hSw => by obtain ⟨hS1, hS2, hS3⟩ := hSw; go_simp⟩) (by assumption) ?_
          simp only [List.getElem_toArray, List.getElem_cons_succ, List.getElem_cons_zero, Act.put, List.setIfInBounds_toArray, List.set_cons_zero, List.set_cons_succ]
          refine wpAnyH_take (i := 12) (v := .int .i64 (k : Int)) rfl (by kernel_rfl) (by kernel_rfl) (by kernel_rfl) (fun _ _ _ h => h) (Or.inl ⟨by rfl, fun w hSw => by obtain ⟨hS1, hS2, hS3⟩ := hSw; go_simp⟩) (by assumption) ?_
          simp only [List.getElem_toArray, List.getElem_cons_succ, List.getElem_cons_zero, Act.put, List.setIfInBounds_toArray, List.set_cons_zero, List.set_cons_succ]
          refine wpAnyH_take (i := 13) (v := .pointer (some ⟨b, o + k * 3, none⟩)) rfl (by kernel_rfl) (by kernel_rfl) (by kernel_rfl) (fun _ _ _ h => h) (Or.inl ⟨by rfl, fun w hSw => by obtain ⟨hS1, hS2, hS3⟩ := hSw; go_simp⟩) (by assumption) ?_
          simp only [List.getElem_toArray, List.getElem_cons_succ, List.getElem_cons_zero, Act.put, List.setIfInBounds_toArray, List.set_cons_zero, List.set_cons_succ]
          refine wpAnyH_take (i := 14) (v := .pointer (some ⟨b, o + k * 3 + 1, none⟩)) rfl (by kernel_rfl) (by kernel_rfl) (by kernel_rfl) (fun _ _ _ h => h) (Or.inl ⟨by rfl, fun w hSw => by obtain ⟨hS1, hS2, hS3⟩ := hSw; go_simp⟩) (by assumption) ?_
          simp only [List.getElem_toArray, List.getElem_cons_succ, List.getElem_cons_zero, Act.put, List.setIfInBounds_toArray, List.set_cons_zero, List.set_cons_succ]
          refine wpAnyH_take (i := 15) (v := .int .i64 t1) rfl (by kernel_rfl) (by kernel_rfl) (by kernel_rfl) (fun _ _ _ h => h) (Or.inl ⟨by rfl, fun w hSw => by obtain ⟨hS1, hS2, hS3⟩ := hSw; go_simp⟩) (by assumption) ?_
          simp only [List.getElem_toArray, List.getElem_cons_succ, List.getElem_cons_zero, Act.put, List.setIfInBounds_toArray, List.set_cons_zero, List.set_cons_succ]
          refine wpAnyH_ready (rs := [10]) (by kernel_rfl) (by simp) (AllReadyH.cons rfl (fun K hK => ?_) AllReadyH.nil)
          refine step_call2J (by rfl) 8 place17_enter (.tmp 125) (.tmp 128) _ rfl rfl rfl (unhide HMP _ _) ?_
          rintro e wq ⟨kk, rfl, hkk, hwq⟩
          obtain rfl := hwq
          refine ⟨_, rfl, ?_⟩
          refine hK.out _ _ (⟨HX0.out.cell, (unhide HTC _ HX0.out.be).1, (unhide HTC _ HX0.out.be).2.1⟩) (fun hJ1 => ?_)
          clear hK K
          simp only [List.getElem_toArray, List.getElem_cons_succ, List.getElem_cons_zero, Act.put, List.setIfInBounds_toArray, List.set_cons_zero, List.set_cons_succ]
          have hkkm : kk < m := hkk
          refine wpAnyH_take (i := 16) (v := .pointer (some ⟨g, kk * 34, none⟩)) rfl (by kernel_rfl) (by kernel_rfl) (by kernel_rfl) (fun _ _ _ h => h) (Or.inl ⟨by rfl, fun w hSw => by obtain ⟨hS1, hS2, hS3⟩ := hSw; go_simp⟩) (by assumption) ?_
          simp only [List.getElem_toArray, List.getElem_cons_succ, List.getElem_cons_zero, Act.put, List.setIfInBounds_toArray, List.set_cons_zero, List.set_cons_succ]
          refine wpAnyH_take (i := 17) (v := .pointer (some ⟨g, kk * 34 + 32, none⟩)) rfl (by kernel_rfl) (by kernel_rfl) (by kernel_rfl) (fun _ _ _ h => h) (Or.inl ⟨by rfl, fun w hSw => by obtain ⟨hS1, hS2, hS3⟩ := hSw; go_simp⟩) (by assumption) ?_
          simp only [List.getElem_toArray, List.getElem_cons_succ, List.getElem_cons_zero, Act.put, List.setIfInBounds_toArray, List.set_cons_zero, List.set_cons_succ]
          obtain ⟨⟨su, s1⟩, s2, s3, s4, s5⟩ := HX0.out.setF (k := kk) (x := t1) hkk HTI.out
          refine wpAnyH_ready (rs := [18]) (by kernel_rfl) (by simp) (AllReadyH.cons rfl (fun K hK => ?_) AllReadyH.nil)
          refine step_store1 (by rfl) 3 (.tmp 136) (.tmp 134) rfl rfl rfl (store3 s1 s2) ?_
          have HQF := hide s5
          refine hK.out _ _ (⟨HQF.out.cell, (unhide HTC _ HQF.out.be).1, (unhide HTC _ HQF.out.be).2.1⟩) (fun hJ2 => ?_)
          clear hK K
          simp only [List.getElem_toArray, List.getElem_cons_succ, List.getElem_cons_zero, Act.put]
          clear s1 s2 s3 s4 s5
          refine wpAnyH_done (by kernel_rfl) ?_ _
          have HF := hide HQF.out
          clear HQF
          go_wp2
          go_meet
          exact ⟨rfl, hide ⟨_, HF.out⟩⟩
        · have hmI : ¬ (0 : Int) < (m : Int) := by omega
          clear ce
          go_wp2
          go_meet
          exact ⟨rfl, hide ⟨q, HJe.out⟩⟩
      case rest =>
      clear HJe ce
      obtain ⟨rfl, HQ2⟩ := hcut
      rename World => wq
      obtain ⟨q2, hJ2⟩ := HQ2.out
      have HJ2 := hide hJ2
      obtain ⟨z0, z1, z2⟩ := unhide HTC _ hJ2.be
      have hkl : k < tn := by omega
      clear hJ2 HQ2
      go_wp2_with fail
      refine (unhide HP5 _ _).mono ?_
      rintro e wx ⟨j, rfl, hj, hwx⟩
      obtain rfl := hwx
      obtain ⟨y1, y2, y3⟩ := HJ2.out.set8 (k := j) (by omega)
      obtain ⟨bx, hbx⟩ : ∃ bx, bx = bs.getD j 0 := ⟨_, rfl⟩
      rw [← hbx] at y1
      obtain ⟨by', hby'⟩ : ∃ by', by' = IntKind.u8.wrap (bx + 1) := ⟨_, rfl⟩
      have hyb : 0 ≤ by' ∧ by' ≤ 255 := by rw [hby', IntKind.wrap_u8]; omega
      have hbyw := hby'.symm
      have HJ3 := hide (y3 by' hyb.1 hyb.2)
      have hj512 : j < 512 := by omega
      have hcbI : (512 : Int) ≤ (cb : Int) := by have := HCB.out; omega
      clear hbx hby' hyb y3 z0 z1 z2
      go_upto_region 25 with fail
      obtain ⟨wf, hwf⟩ : ∃ wf, wf = wq.setCell ⟨gb, j, none⟩ (.int .u8 by') := ⟨_, rfl⟩
      rw [← hwf] at HJ3 ⊢
      have HSU := hide (summed8_calls HJ3.out.isB)
      clear y1 y2 HJ2 hwf
      go_wp2_with fail
      refine (unhide HSU).mono ?_
      rintro e wg ⟨ua, uc, ys, rfl, hos, hls, hbs⟩
      have HJ4 := hide (HJ3.out.below hbs)
      have HOS := hide hos
      obtain ⟨BB, hOB, hBB⟩ := HJ4.out.buf
      have hrow := own8_rowJ hOB
      have hlb2 : (bs.set j by').length = 512 := HJ4.out.lenB
      have HLS := hide hls
      clear hos hbs HJ3 HSU hls
      go_wp2_with (first
        | (refine wpList_copyRow rfl (.tmp 150) (.tmp 152) rfl rfl rfl hrow HOS.out.isB (by rw [HLS.out]; exact Nat.le_refl _) ?_; intro wh hrh hgh
           have hrh2 : Row wh BB 5 (.slice (some ⟨gb, 0, none⟩) 512 cb) (ys.map (Value.int .u8)) := by
             rw [List.drop_of_length_le (by rw [List.length_map, hlb2, HLS.out]; exact Nat.le_refl _), List.append_nil] at hrh
             exact hrh
           have HJ5 : Hid (Ja w wh gi g m c gb cb q2 ys) := hide (HJ4.out.copied hrh2 hBB HOS.out.2 hgh)
           clear hrh hrh2 hgh hrow hOB HJ4)
        | fail)
      go_roundw
      case rel => exact ⟨k + 1, q2, ys, rfl, by go_num, by omega, by omega, HJ5⟩
      case measure => simp [intOf]; omega
    · have d2 : decide ((k : Int) ≤ 16) = false := by simp; omega
      have HBE := hide HK.out.be
      have d1 : (k : Int) ≤ (tn : Int) := by omega
      clear HK
      go_wp2
      go_ret
      exact ⟨rfl, HBE.out⟩
end Go.Proofs.YthhjlopgpmaokabDoor

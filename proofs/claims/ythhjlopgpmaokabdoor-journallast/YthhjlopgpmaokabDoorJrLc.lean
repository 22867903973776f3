/- What lastFull and JournalLast answer. -/
import Derived.Test.YthhjlopgpmaokabDoorJrLb
namespace Go.Proofs.YthhjlopgpmaokabDoor
open Go.RowKit Go.Maps

set_option maxRecDepth 100000 in
set_option maxHeartbeats 4000000 in
theorem lastfull_calls {w : World} {n st : Nat} (ht : Tab w) (hn1 : 1 ≤ n) (hn9 : n ≤ 9) (hst : st + n = 1099511627777) : Calls Tryd.prog 27 #[.int .i64 (n : Int)] w fun e w' => e = .returned (.bool true) ∧ Below w.heap.size w w' := by
  have HTB := hide ht
  have HKV := hide KV_all
  obtain ⟨i, hi⟩ : ∃ i : Nat, i = 1 := ⟨_, rfl⟩
  have HI65 : Hid (i ≤ 65535) := hide (by omega)
  have HMD : Hid (∀ W, Calls Tryd.prog 12 #[.int .i64 1] W fun e w' => ∃ u, e = .returned (.tuple #[.agg (KV i).toArray, u]) ∧ OwnJ w' W.heap.size u (madeRs i) ∧ Below W.heap.size W w') := hide (fun W => by rw [hi]; exact made_calls (i := 1) (by decide))
  have HNW : Hid (∀ W, Below w.heap.size w W → Calls Tryd.prog 9 #[.int .i64 24] W fun e w' => ∃ p, e = .returned (.tuple #[.pointer (some ⟨p, 0, none⟩), .int .i64 0]) ∧ Sn w w' p (zeroD 24) ∧ Below W.heap.size W w') := hide (fun W hW => sn_new (n := 24) hW (by decide) (by decide))
  have hI1 : IntKind.i64.wrap (1099511627776 - (n : Int)) = 1099511627776 - (n : Int) := IntWalk.i64_in _ (by omega)
  have hI2 : 1099511627776 - (n : Int) + 1 = (st : Int) := by omega
  have hI3 : IntKind.i64.wrap (st : Int) = (st : Int) := IntWalk.i64_in _ (by omega)
  have HST := hide hst
  clear ht hst hi
  go_enter Tryd.func27, Tryd.ntmps27
  go_wp2_with fail
  refine (unhide HNW _ (Below.refl _ _)).mono ?_
  rintro e w1 ⟨p, rfl, hS1, _⟩
  have HSa := hide hS1
  clear hS1 HNW
  have HOP : Hid (Calls Tryd.prog 11 #[.pointer (some ⟨p, 0, none⟩), .int .i64 2, .int .i64 (n : Int), .int .i64 (st : Int)] w1 fun e w' => ∃ pj v m V, e = .returned (.tuple #[.pointer (some ⟨pj, 0, none⟩), v, .int .i64 0]) ∧ m ≤ n ∧ Js w w' p pj 2 n st (st + (repL (zeroD 24).now 2 n n st).length) ((zeroD 24).rds m) ∧ Cj TDk w1 w' ∧ OwnL w' w1.heap.size v (repL (zeroD 24).now 2 n n st) V) := hide (js_open (fr := 2) (n := n) HSa.out HTB.out (Int.le_refl 0) (by show (0 : Int) ≤ _; decide) hn1 (by omega) (by simp [zeroD]; omega) (by have := HST.out; omega))
  go_wp2_with fail
  refine (unhide HOP).mono ?_
  rintro e wo ⟨pj, v, m, V, rfl, hm, hJ, _, hov⟩
  rw [zero_rep] at hJ hov
  obtain ⟨va, vc, rfl, _⟩ := hov.shape
  have HJ0 : Hid (Js w wo p pj 2 n st (st + 0) ((zeroD 24).rds m)) := hide hJ
  have HM := hide hm
  clear hJ hov HSa HOP hm
  go_wp2_with fail
  refine (unhide HMD wo).mono ?_
  rintro e w3 ⟨u3, rfl, ho3, hb3⟩
  obtain ⟨ua, uc, rfl⟩ := ho3.shape
  have HO3 := hide ho3
  have HJ3 := hide (HJ0.out.below hb3)
  have HA3 := hide (Arr.new w3 z32J 33)
  have HB3 := hide (jalloc_below w3 (.cells z32J.toArray 33))
  have HX3 : Hid (∀ w4, Arr w4 w3.heap.size 33 (KV i) → (w3.alloc (.cells z32J.toArray 33)).grownBy w4 (some w3.heap.size) → Js w w4 p pj 2 n st (st + 0) ((zeroD 24).rds m) ∧ (∃ B, OwnJ w4 B (.slice ua (madeRs i).length uc) (madeRs i))) := hide (fun w4 h1 h2 => by
    have hb := jbelow_grown HB3.out h2 HB3.out.size (Nat.le_refl _)
    exact ⟨HJ3.out.below hb, _, HO3.out.below hb⟩)
  obtain ⟨gk, hgk⟩ : ∃ gk, gk = w3.heap.size := ⟨_, rfl⟩
  have HGK := hide hgk
  clear ho3 hb3 HO3 HJ3 HJ0 HMD hgk
  go_wp2_with (first
    | (refine wpList_allocJ rfl 33 rfl infoKf ?_)
    | (refine wpList_storeJ rfl (.tmp 8) (.tmp 47) 33 rfl rfl rfl HA3.out (HKV.out i).1 (HKV.out i).2.1 (HKV.out i).2.2 ?_; intro w4 hA4 hg4
       obtain ⟨hj4, hi4⟩ := unhide HX3 w4 hA4 hg4
       rw [← HGK.out] at hA4 ⊢
       have hrk := hA4.rangeJ
       have HA4 := hide hA4
       have HJ4 := hide hj4
       have HI4 := hide hi4
       clear hA4 hg4 hj4 hi4 HX3 HA3 HB3)
    | (refine wpList_loadJ rfl 33 (.tmp 8) rfl _ 0 rfl (KV i) _ hrk Tryd.underlying33 rfl (HKV.out i).1 ?_)
    | fail)
  refine (js_add (i := i) (by omega) (Nat.le_refl _) (by have := HST.out; omega) (by have := HST.out; omega) HJ4.out (by obtain ⟨B, hB⟩ := HI4.out; exact hB.isJ)).mono ?_
  rintro e w5 ⟨pl, vl, rfl, hW5, ho5, hlo5, hb5⟩
  have HZ0 : Hid (Lz w w5 p pj n st 0 gk pl i (.slice ua (madeRs i).length uc) vl) := hide ⟨_, ⟨⟨hW5.sn, hW5.jn, HJ4.out.lo⟩, HA4.out.below hb5, by obtain ⟨B, hB⟩ := HI4.out; exact ⟨B, hB.below hb5⟩, hW5.wt, Nat.le_trans HJ4.out.sn.be.size hlo5, by simp [zeroD, AD.rds]⟩, (Std.zero hn1 (by omega)).same rfl (fun i _ => AD.rds_now _ _ _), (Lit.zero 24).rds (by have := HM.out; omega)⟩
  clear hW5 ho5 hlo5 hb5 HA4 HJ4 HI4 hrk HM
  go_wp2_with fail
  go_loopw [12] (fun iv W => ∃ (k : Nat), k ≤ n ∧ iv = .int .i64 (k : Int) ∧ Hid (Lz w W p pj n st k gk pl i (.slice ua (madeRs i).length uc) vl)) (fun iv _ => n - (intOf iv).toNat)
  case atStart => exact ⟨0, by omega, rfl, HZ0⟩
  case round =>
    clear HZ0
    obtain ⟨k, hk, rfl, HK⟩ := hrel
    by_cases hlt : k < n
    · have hltI : (k : Int) < (n : Int) := by omega
      have hrk := HK.out.key
      have HADD := hide (lz_add HK.out (by omega) (by omega) (by have := HST.out; omega))
      clear HK
      go_wp2_with (first
        | (refine wpList_loadJ rfl 33 (.tmp 8) rfl _ 0 rfl (KV i) _ hrk Tryd.underlying33 rfl (HKV.out i).1 ?_)
        | fail)
      refine (unhide HADD).mono ?_
      rintro e w6 ⟨pw, v6, rfl, hLa⟩
      have HS1 := hide (lz_step1 hLa HTB.out HI65.out hn1 (by omega) (by omega) (by have := HST.out; omega))
      clear hLa hrk HADD
      go_wp2_with fail
      refine (unhide HS1).mono ?_
      rintro e w7 ⟨rfl, hLb⟩
      have HS2 := hide (lz_step2 hLb HI65.out (by omega) (by omega) (by have := HST.out; omega))
      clear hLb HS1
      go_wp2_with fail
      refine (unhide HS2).mono ?_
      rintro e w8 ⟨rfl, hLz⟩
      have HLZ := hide hLz
      clear hLz HS2
      go_wp2
      go_roundw
      case rel => exact ⟨k + 1, by omega, by go_num, HLZ⟩
      case measure => simp [intOf]; omega
    · have hltI : decide ((k : Int) < (n : Int)) = false := by simp; omega
      obtain rfl : k = n := by omega
      have hrk := HK.out.key
      have HADD := hide (lz_no HK.out (by omega) (by have := HST.out; omega))
      clear HK
      go_wp2_with (first
        | (refine wpList_loadJ rfl 33 (.tmp 8) rfl _ 0 rfl (KV i) _ hrk Tryd.underlying33 rfl (HKV.out i).1 ?_)
        | fail)
      refine (unhide HADD).mono ?_
      rintro e w6 ⟨rfl, hLz⟩
      have HLT := hide (lz_late hLz (by omega) (by have := HST.out; omega))
      clear hLz hrk HADD
      go_wp2_with fail
      refine (unhide HLT).mono ?_
      rintro e w7 ⟨rfl, hrk, D, hJS, hSD, hLi, hla⟩
      have HJS := hide hJS
      have HSD := hide hSD
      have HLI := hide hLi
      have HLA := hide hla
      clear hJS hSD hLi hla HLT
      have HFU : Hid (Calls Tryd.prog 17 #[.pointer (some ⟨pj, 0, none⟩)] w7 fun e w' => e = .returned (.bool true) ∧ Below w7.heap.size w7 w') := hide (by
        have := full_calls HJS.out.jn (by omega) (by omega) (by have := HST.out; omega)
        rw [decide_eq_true (by omega)] at this
        exact this)
      go_wp2_with fail
      refine (unhide HFU).mono ?_
      rintro e w9 ⟨rfl, hb9⟩
      have HBE := hide (below_then HJS.out.sn.be hb9)
      clear hb9 HJS HFU
      go_wp2
      go_ret
      exact ⟨rfl, HBE.out⟩
/-- The disk behind the last number. -/
def Lo (w W : World) (p st i q : Nat) : Prop := ∃ D, Sn w W p D ∧ Std D 2 12 st 1099511627777 (fixR i) ∧ 0 ≤ D.rd ∧ D.rd ≤ (q : Int) ∧ D.la.length = 24
theorem lo_open {w W : World} {p st s i q : Nat} (h : Lo w W p st i q) (ht : Tab w) (hs : st ≤ s) (hs2 : s ≤ 1099511627777) (hq : q ≤ 1000000) :
    Calls Tryd.prog 11 #[.pointer (some ⟨p, 0, none⟩), .int .i64 2, .int .i64 12, .int .i64 (s : Int)] W fun e w' => ∃ pj a c, e = .returned (.tuple #[.pointer (some ⟨pj, 0, none⟩), .slice a (1099511627777 - s) c, .int .i64 0]) ∧ Lo w w' p st i (q + 12) ∧ Jn w' pj p 2 12 s 1099511627777 ∧ Cj TDk W w' := by
  obtain ⟨D, h1, h2, h3, h4, h5⟩ := h
  refine (js_open (fr := 2) (n := 12) h1 ht h3 (by omega) (by decide) (by decide) (by rw [h5]; decide) hs2).mono ?_
  rintro e w' ⟨pj, v, m, V, rfl, hm, hJ, hC, ho⟩
  have hr := h2.rep hs hs2
  have hl : (repL D.now 2 12 12 s).length = 1099511627777 - s := by rw [hr, recsL_len]
  obtain ⟨a, c, rfl, _⟩ := ho.shape
  rw [hl] at hJ ⊢
  refine ⟨pj, a, c, rfl, ⟨_, hJ.sn, h2.same rfl (fun i _ => AD.rds_now _ _ _), by simp only [AD.rds]; omega, by simp only [AD.rds]; omega, h5⟩, ?_, hC⟩
  have := hJ.jn
  rw [show s + (1099511627777 - s) = 1099511627777 by omega] at this
  exact this
theorem nx_calls {W : World} {pj p fr n st : Nat} (h : Jn W pj p fr n st 1099511627777) : Calls Tryd.prog 18 #[.pointer (some ⟨pj, 0, none⟩)] W fun e w' => e = .returned (.int .i64 1099511627777) ∧ W = w' := (next_calls h).mono fun _ _ ⟨a, b⟩ => ⟨a, b.symm⟩
set_option maxRecDepth 100000 in
set_option maxHeartbeats 4000000 in
theorem journalLast_walk {w : World} (x0 : Int) (ht : Tab w) : Calls Tryd.prog 5 #[.int .i64 x0] w fun e w' => e = .returned (.bool true) ∧ Below w.heap.size w w' := by
  have HTB := hide ht
  have HKV := hide KV_all
  obtain ⟨i, hi⟩ : ∃ i : Nat, i = 5 := ⟨_, rfl⟩
  have HI65 : Hid (i ≤ 65535) := hide (by omega)
  have HMD : Hid (∀ W, Calls Tryd.prog 12 #[.int .i64 5] W fun e w' => ∃ u, e = .returned (.tuple #[.agg (KV i).toArray, u]) ∧ OwnJ w' W.heap.size u (madeRs i) ∧ Below W.heap.size W w') := hide (fun W => by rw [hi]; exact made_calls (i := 5) (by decide))
  have HNW : Hid (∀ W, Below w.heap.size w W → Calls Tryd.prog 9 #[.int .i64 24] W fun e w' => ∃ p, e = .returned (.tuple #[.pointer (some ⟨p, 0, none⟩), .int .i64 0]) ∧ Sn w w' p (zeroD 24) ∧ Below W.heap.size W w') := hide (fun W hW => sn_new (n := 24) hW (by decide) (by decide))
  have HP9 : Hid (∀ W, Calls Tryd.prog 8 #[.int .i64 x0, .int .i64 9] W fun e w' => ∃ k : Nat, e = .returned (.int .i64 (k : Int)) ∧ k < 9 ∧ W = w') := hide (fun W => place17_calls (n := 9) (by decide) (by decide) W)
  have HTO : Hid (∀ W, Below w.heap.size w W → Calls Tryd.prog 10 #[] W fun e w' => e = .returned (.bool true) ∧ Below W.heap.size W w') := hide (fun W hW => jtold_calls (HTB.out.below hW))
  clear ht hi
  go_enter Tryd.func5, Tryd.ntmps5
  go_wp2_with fail
  refine (unhide HP9 _).mono ?_
  rintro e wx ⟨less, rfl, hl9, rfl⟩
  obtain ⟨st, hst⟩ : ∃ st : Nat, st = 1099511627776 - less := ⟨_, rfl⟩
  have hI2 : 1099511627776 - (less : Int) = (st : Int) := by omega
  have hI3 : IntKind.i64.wrap (st : Int) = (st : Int) := IntWalk.i64_in _ (by omega)
  have HST : Hid (st + less = 1099511627776) := hide (by omega)
  clear hst HP9
  go_wp2_with fail
  refine (unhide HNW _ (Below.refl _ _)).mono ?_
  rintro e w1 ⟨p, rfl, hS1, _⟩
  have HS0 := hide hS1
  clear hS1 HNW
  go_wp2_with fail
  refine (unhide HTO _ HS0.out.be).mono ?_
  rintro e w2 ⟨rfl, hb2⟩
  have HSa := hide (HS0.out.below hb2)
  clear hb2 HS0 HTO
  have HOP : Hid (Calls Tryd.prog 11 #[.pointer (some ⟨p, 0, none⟩), .int .i64 2, .int .i64 12, .int .i64 (st : Int)] w2 fun e w' => ∃ pj v m V, e = .returned (.tuple #[.pointer (some ⟨pj, 0, none⟩), v, .int .i64 0]) ∧ m ≤ 12 ∧ Js w w' p pj 2 12 st (st + (repL (zeroD 24).now 2 12 12 st).length) ((zeroD 24).rds m) ∧ Cj TDk w2 w' ∧ OwnL w' w2.heap.size v (repL (zeroD 24).now 2 12 12 st) V) := hide (js_open (fr := 2) (n := 12) HSa.out HTB.out (Int.le_refl 0) (by show (0 : Int) ≤ _; decide) (by decide) (by omega) (by simp [zeroD]) (by have := HST.out; omega))
  go_wp2_with fail
  refine (unhide HOP).mono ?_
  rintro e wo ⟨pj, v, m, V, rfl, hm, hJ, _, hov⟩
  rw [zero_rep] at hJ hov
  obtain ⟨va, vc, rfl, _⟩ := hov.shape
  have HJ0 : Hid (Js w wo p pj 2 12 st (st + 0) ((zeroD 24).rds m)) := hide hJ
  have HM := hide hm
  clear hJ hov HSa HOP hm
  go_wp2_with fail
  refine (unhide HMD wo).mono ?_
  rintro e w3 ⟨u3, rfl, ho3, hb3⟩
  obtain ⟨ua, uc, rfl⟩ := ho3.shape
  have HO3 := hide ho3
  have HJ3 := hide (HJ0.out.below hb3)
  have HA3 := hide (Arr.new w3 z32J 33)
  have HB3 := hide (jalloc_below w3 (.cells z32J.toArray 33))
  have HX3 : Hid (∀ w4, Arr w4 w3.heap.size 33 (KV i) → (w3.alloc (.cells z32J.toArray 33)).grownBy w4 (some w3.heap.size) → Js w w4 p pj 2 12 st (st + 0) ((zeroD 24).rds m) ∧ (∃ B, OwnJ w4 B (.slice ua (madeRs i).length uc) (madeRs i))) := hide (fun w4 h1 h2 => by
    have hb := jbelow_grown HB3.out h2 HB3.out.size (Nat.le_refl _)
    exact ⟨HJ3.out.below hb, _, HO3.out.below hb⟩)
  obtain ⟨gk, hgk⟩ : ∃ gk, gk = w3.heap.size := ⟨_, rfl⟩
  have HGK := hide hgk
  clear ho3 hb3 HO3 HJ3 HJ0 HMD hgk
  go_wp2_with (first
    | (refine wpList_allocJ rfl 33 rfl infoKf ?_)
    | (refine wpList_storeJ rfl (.tmp 9) (.tmp 60) 33 rfl rfl rfl HA3.out (HKV.out i).1 (HKV.out i).2.1 (HKV.out i).2.2 ?_; intro w4 hA4 hg4
       obtain ⟨hj4, hi4⟩ := unhide HX3 w4 hA4 hg4
       rw [← HGK.out] at hA4 ⊢
       have hrk := hA4.rangeJ
       have HA4 := hide hA4
       have HJ4 := hide hj4
       have HI4 := hide hi4
       clear hA4 hg4 hj4 hi4 HX3 HA3 HB3)
    | (refine wpList_loadJ rfl 33 (.tmp 9) rfl _ 0 rfl (KV i) _ hrk Tryd.underlying33 rfl (HKV.out i).1 ?_)
    | fail)
  refine (js_add (i := i) (by decide) (Nat.le_refl _) (by have := HST.out; omega) (by have := HST.out; omega) HJ4.out (by obtain ⟨B, hB⟩ := HI4.out; exact hB.isJ)).mono ?_
  rintro e w5 ⟨pl, vl, rfl, hW5, ho5, hlo5, hb5⟩
  have HZ0 : Hid (Lz w w5 p pj 12 st 0 gk pl i (.slice ua (madeRs i).length uc) vl) := hide ⟨_, ⟨⟨hW5.sn, hW5.jn, HJ4.out.lo⟩, HA4.out.below hb5, by obtain ⟨B, hB⟩ := HI4.out; exact ⟨B, hB.below hb5⟩, hW5.wt, Nat.le_trans HJ4.out.sn.be.size hlo5, by simp [zeroD, AD.rds]⟩, (Std.zero (by decide) (by omega)).same rfl (fun i _ => AD.rds_now _ _ _), (Lit.zero 24).rds (by have := HM.out; omega)⟩
  clear hW5 ho5 hlo5 hb5 HA4 HJ4 HI4 hrk HM
  go_wp2_with fail
  go_loopw [13] (fun iv W => ∃ (k : Nat), k ≤ less + 1 ∧ iv = .int .i64 (k : Int) ∧ Hid (Lz w W p pj 12 st k gk pl i (.slice ua (madeRs i).length uc) vl)) (fun iv _ => less + 1 - (intOf iv).toNat)
  case atStart => exact ⟨0, by omega, rfl, HZ0⟩
  case round =>
    clear HZ0
    obtain ⟨k, hk, rfl, HK⟩ := hrel
    by_cases hlt : k ≤ less
    · have hltI : (k : Int) ≤ (less : Int) := by omega
      have hrk := HK.out.key
      have HADD := hide (lz_add HK.out (by decide) (by omega) (by have := HST.out; omega))
      clear HK
      go_wp2_with (first
        | (refine wpList_loadJ rfl 33 (.tmp 9) rfl _ 0 rfl (KV i) _ hrk Tryd.underlying33 rfl (HKV.out i).1 ?_)
        | fail)
      refine (unhide HADD).mono ?_
      rintro e w6 ⟨pw, v6, rfl, hLa⟩
      have HS1 := hide (lz_step1 hLa HTB.out HI65.out (by decide) (by omega) (by omega) (by have := HST.out; omega))
      clear hLa hrk HADD
      go_wp2_with fail
      refine (unhide HS1).mono ?_
      rintro e w7 ⟨rfl, hLb⟩
      have HS2 := hide (lz_step2 hLb HI65.out (by omega) (by omega) (by have := HST.out; omega))
      clear hLb HS1
      go_wp2_with fail
      refine (unhide HS2).mono ?_
      rintro e w8 ⟨rfl, hLz⟩
      have HLZ := hide hLz
      clear hLz HS2
      go_wp2
      go_roundw
      case rel => exact ⟨k + 1, by omega, by go_num, HLZ⟩
      case measure => simp [intOf]; omega
    · have hltI : decide ((k : Int) ≤ (less : Int)) = false := by simp; omega
      have hkl : k = less + 1 := by omega
      have HKL : Hid (st + k = 1099511627777) := hide (by have := HST.out; omega)
      have hrk := HK.out.key
      have HADD := hide (lz_no HK.out (by decide) HKL.out)
      clear HK
      go_wp2_with (first
        | (refine wpList_loadJ rfl 33 (.tmp 9) rfl _ 0 rfl (KV i) _ hrk Tryd.underlying33 rfl (HKV.out i).1 ?_)
        | fail)
      refine (unhide HADD).mono ?_
      rintro e w6 ⟨rfl, hLz⟩
      have HLT := hide (lz_late hLz (by decide) HKL.out)
      clear hLz hrk HADD
      go_wp2_with fail
      refine (unhide HLT).mono ?_
      rintro e w7 ⟨rfl, hrk, D, hJS, hSD, hLi, hla⟩
      have HJS := hide hJS
      have HSD := hide hSD
      have HLI := hide hLi
      have HLA := hide hla
      clear hJS hSD hLi hla HLT
      rw [HKL.out] at HJS HSD
      have HNX := hide (nx_calls HJS.out.jn)
      go_wp2_with fail
      refine (unhide HNX).mono ?_
      rintro e wx ⟨rfl, hwx⟩
      obtain rfl := hwx
      have HLO : Hid (∀ W, Below w7.heap.size w7 W → Lo w W p st i 100) := hide (fun W hW => ⟨D, HJS.out.sn.below hW, HSD.out, HLI.out.rd.1, by have := HLI.out.rd.2; omega, HLA.out⟩)
      have HNR := hide (add_norefs (w := w7) (pj := pj) (madeK_len i))
      have hrk2 : w7.rangeAt gk 0 (KV i) := hrk
      clear HNX HJS HSD HLI HLA hrk
      go_wp2_with (first
        | (refine wpList_loadJ rfl 33 (.tmp 9) rfl _ 0 rfl (KV i) _ hrk2 Tryd.underlying33 rfl (HKV.out i).1 ?_)
        | fail)
      refine (unhide HNR).mono ?_
      rintro e wa ⟨rfl, hba⟩
      have HO1 := hide (lo_open (s := st) (unhide HLO _ hba) HTB.out (Nat.le_refl _) (by have := HST.out; omega) (by decide))
      obtain ⟨m1, hm1⟩ : ∃ m1 : Nat, m1 = 1099511627777 - st := ⟨_, rfl⟩
      have hm1I : (m1 : Int) = (less : Int) + 1 := by have := HST.out; omega
      have hm1w : IntKind.i64.wrap ((less : Int) + 1) = (less : Int) + 1 := IntWalk.i64_in _ (by omega)
      rw [← hm1] at HO1
      clear hba hrk2 HNR HLO hm1
      go_wp2_with fail
      refine (unhide HO1).mono ?_
      rintro e wb ⟨pk, ka, kc, rfl, hL1, hJ1, _⟩
      have HO2 := hide (lo_open (s := 1099511627777) hL1 HTB.out (by have := HST.out; omega) (Nat.le_refl _) (by decide))
      rw [Nat.sub_self] at HO2
      have HJ1 := hide hJ1
      clear hL1 hJ1 HO1
      go_wp2_with fail
      refine (unhide HO2).mono ?_
      rintro e wc ⟨po, oa, oc, rfl, hL2, hJ2, hC2⟩
      have HN1 := hide (nx_calls (Arr.cj HJ1.out hC2 tdk_jn : Jn wc pk p 2 12 st 1099511627777))
      have HN2 := hide (nx_calls hJ2)
      obtain ⟨D3, hS3, _, _, _, h53⟩ := hL2
      have HO3 : Hid (Calls Tryd.prog 11 #[.pointer (some ⟨p, 0, none⟩), .int .i64 2, .int .i64 12, .int .i64 1099511627778] wc fun e w' => e = .returned (.tuple #[.pointer none, .slice none 0 0, .int .i64 1]) ∧ wc = w') := hide ((open_bad hS3 (fun hok => by have := hok.2.2.2.2.2; omega)).mono fun _ _ ⟨a, b⟩ => ⟨a, b.symm⟩)
      have HBE := hide hS3.be
      clear hJ2 hC2 hS3 h53 HO2 HJ1
      go_wp2_with fail
      refine (unhide HO3).mono ?_
      rintro e wx ⟨rfl, hwx⟩
      obtain rfl := hwx
      clear HO3
      go_wp2_with fail
      refine (unhide HN1).mono ?_
      rintro e wx ⟨rfl, hwx⟩
      obtain rfl := hwx
      clear HN1
      go_wp2_with fail
      refine (unhide HN2).mono ?_
      rintro e wx ⟨rfl, hwx⟩
      obtain rfl := hwx
      clear HN2
      have HLF : Hid (Calls Tryd.prog 27 #[.int .i64 ((less : Int) + 1)] wc fun e w' => e = .returned (.bool true) ∧ Below wc.heap.size wc w') := hide (by
        have := lastfull_calls (n := less + 1) (st := st) (HTB.out.below HBE.out) (by omega) (by omega) (by have := HST.out; omega)
        exact this)
      go_wp2_with fail
      refine (unhide HLF).mono ?_
      rintro e wd ⟨rfl, hbd⟩
      have HBD := hide (below_then HBE.out hbd)
      clear hbd HBE HLF
      go_wp2
      go_ret
      exact ⟨rfl, HBD.out⟩
end Go.Proofs.YthhjlopgpmaokabDoor

/- What JournalWide answers. -/
import Derived.Test.YthhjlopgpmaokabDoorJrWd
namespace Go.Proofs.YthhjlopgpmaokabDoor
open Go.RowKit Go.Maps

theorem fieldA (a b c : Int) (W : World) : (Instr.field 57 (.agg #[.int .i64 a, .int .i64 b, .int .i64 c]) 1).run Tryd.prog W = .ok (.int .i64 b) W ∧ (Instr.field 57 (.agg #[.int .i64 a, .int .i64 b, .int .i64 c]) 2).run Tryd.prog W = .ok (.int .i64 c) W := ⟨by kernel_rfl, by kernel_rfl⟩
theorem startW_enter (v : Value) (W : World) : (callFunc 19 #[v]).run Tryd.prog W = .ok (.enter 19 #[v]) W := by kernel_rfl
theorem tdk_u8 : ¬ TDk 5 := by unfold TDk; decide
set_option maxRecDepth 100000 in
set_option maxHeartbeats 8000000 in
theorem journalWide_walk {w : World} (x0 x1 x2 x3 : Int) (ht : Tab w) : Calls Tryd.prog 4 #[.int .i64 x0, .int .i64 x1, .int .i64 x2, .int .i64 x3] w fun e w' => e = .returned (.bool true) ∧ Below w.heap.size w w' := by
  obtain ⟨i0, hi, hz0, hz1, hz2⟩ := info_parts info8
  have HTB := hide ht
  have HKV := hide KV_all
  have hf1 := fun (a b c : Int) W => (fieldA a b c W).1
  have hf2 := fun (a b c : Int) W => (fieldA a b c W).2
  have HPA : Hid (∀ W, Calls Tryd.prog 8 #[.int .i64 x0, .int .i64 1024] W fun e w' => ∃ k : Nat, e = .returned (.int .i64 (k : Int)) ∧ k < 1024 ∧ W = w') := hide (fun W => place_big (n := 1024) (by decide) (by decide) W)
  have HPB : Hid (∀ W, Calls Tryd.prog 8 #[.int .i64 x1, .int .i64 900] W fun e w' => ∃ k : Nat, e = .returned (.int .i64 (k : Int)) ∧ k < 900 ∧ W = w') := hide (fun W => place_big (n := 900) (by decide) (by decide) W)
  have HPC : Hid (∀ W, Calls Tryd.prog 8 #[.int .i64 x2, .int .i64 4294967296] W fun e w' => ∃ k : Nat, e = .returned (.int .i64 (k : Int)) ∧ k < 4294967296 ∧ W = w') := hide (fun W => place_big (n := 4294967296) (by decide) (by decide) W)
  have HPN : Hid (∀ W m, 0 < m → m ≤ 100000 → Calls Tryd.prog 8 #[.int .i64 x3, .int .i64 ((m : Nat) : Int)] W fun e w' => ∃ k : Nat, e = .returned (.int .i64 (k : Int)) ∧ k < m ∧ W = w') := hide (fun W m h1 h2 => place_big h1 (by omega) W)
  have HTO : Hid (∀ W, Below w.heap.size w W → Calls Tryd.prog 10 #[] W fun e w' => e = .returned (.bool true) ∧ Below W.heap.size W w') := hide (fun W hW => jtold_calls (HTB.out.below hW))
  clear ht
  go_enter Tryd.func4, Tryd.ntmps4
  go_wp2_with fail
  refine (unhide HPA _).mono ?_
  rintro e wx ⟨k0, rfl, hk0, rfl⟩
  obtain ⟨n, hn⟩ : ∃ n : Nat, n = 1 + k0 := ⟨_, rfl⟩
  have hnI : 1 + (k0 : Int) = (n : Int) := by omega
  have hnw : IntKind.i64.wrap (n : Int) = (n : Int) := IntWalk.i64_in _ (by omega)
  have hn1 : 1 ≤ n := by omega
  have hn9 : n ≤ 1024 := by omega
  have hn0 : ((n : Int) == 0) = false := by simp; omega
  have hn00 : ¬ n = 0 := by omega
  clear hn hk0 HPA
  go_wp2_with fail
  refine (unhide HPB _).mono ?_
  rintro e wx ⟨fr, rfl, hfr, rfl⟩
  go_wp2_with fail
  refine (unhide HPC _).mono ?_
  rintro e wx ⟨first, rfl, hfirst, rfl⟩
  obtain ⟨N, hN⟩ : ∃ N : Nat, N = fr + 1027 := ⟨_, rfl⟩
  have hNI : (fr : Int) + 1027 = (N : Int) := by omega
  have hNw : IntKind.i64.wrap (N : Int) = (N : Int) := IntWalk.i64_in _ (by omega)
  have HNE := hide hN
  have HN9 : Hid (N ≤ 2000) := hide (by omega)
  have HNW : Hid (Calls Tryd.prog 9 #[.int .i64 (N : Int)] w fun e w' => ∃ p, e = .returned (.tuple #[.pointer (some ⟨p, 0, none⟩), .int .i64 0]) ∧ Sn w w' p (zeroD N) ∧ Below w.heap.size w w') := hide (sn_new (n := N) (Below.refl _ _) (by omega) (by omega))
  clear hN HPB HPC
  go_wp2_with fail
  refine (unhide HNW).mono ?_
  rintro e w1 ⟨p, rfl, hS1, _⟩
  have HS1 := hide hS1
  clear hS1 HNW
  go_wp2_with fail
  refine (unhide HTO _ HS1.out.be).mono ?_
  rintro e w2 ⟨rfl, hb2⟩
  have HS2 := hide (HS1.out.below hb2)
  clear hb2 HS1 HTO
  have HRB : Hid (Calls Tryd.prog 16 #[.pointer (some ⟨p, 0, none⟩), .int .i64 (fr : Int), .int .i64 1025, .int .i64 (first : Int)] w2 fun e w' => e = .returned (.tuple #[.slice none 0 0, .int .i64 1]) ∧ w2 = w') := hide ((replay_bad HS2.out (fun h => by have := h.2.2.1; omega)).mono fun _ _ ⟨a, b⟩ => ⟨a, b.symm⟩)
  go_wp2_with fail
  refine (unhide HRB).mono ?_
  rintro e wx ⟨rfl, hwx⟩
  obtain rfl := hwx
  have HOP : Hid (Calls Tryd.prog 11 #[.pointer (some ⟨p, 0, none⟩), .int .i64 (fr : Int), .int .i64 (n : Int), .int .i64 (first : Int)] w2 fun e w' => ∃ pj v m V, e = .returned (.tuple #[.pointer (some ⟨pj, 0, none⟩), v, .int .i64 0]) ∧ m ≤ n ∧ Js w w' p pj fr n first (first + (repL (zeroD N).now fr n n first).length) ((zeroD N).rds m) ∧ Cj TDk w2 w' ∧ OwnL w' w2.heap.size v (repL (zeroD N).now fr n n first) V) := hide (js_open HS2.out HTB.out (Int.le_refl 0) (by show (0 : Int) ≤ _; decide) hn1 hn9 (by simp [zeroD]; omega) (by omega))
  clear HRB HS2
  go_wp2_with fail
  refine (unhide HOP).mono ?_
  rintro e wo ⟨pj, v, m, V, rfl, hm, hJ, _, hov⟩
  rw [zero_rep] at hJ hov
  obtain ⟨va, vc, rfl, _⟩ := hov.shape
  have hJ2 : Js w wo p pj fr n first first ((zeroD N).rds m) := hJ
  have HZ0 : Hid (Wz w wo p pj fr n first first 0 (1024 + 0)) := hide ⟨_, hJ2, (Std.zero hn1 (by omega)).same rfl (fun i _ => AD.rds_now _ _ _), (by rw [HNE.out]; exact (Wd.new fr n).rds (by omega))⟩
  obtain ⟨fn, hfn⟩ : ∃ fn : Nat, fn = first + n := ⟨_, rfl⟩
  have hfnI : (first : Int) + (n : Int) = (fn : Int) := by omega
  have hfnw : IntKind.i64.wrap (fn : Int) = (fn : Int) := IntWalk.i64_in _ (by omega)
  obtain ⟨n2, hn2⟩ : ∃ n2 : Nat, n2 = n + 1 := ⟨_, rfl⟩
  have hn2I : (n : Int) + 1 = (n2 : Int) := by omega
  have hn2w : IntKind.i64.wrap (n2 : Int) = (n2 : Int) := IntWalk.i64_in _ (by omega)
  have HPL := hide (unhide HPN wo n2 (by omega) (by omega))
  have HFN := hide (And.intro hfn hn2)
  clear hJ hJ2 hov hm HOP hfn hn2
  go_wp2_with fail
  refine (unhide HPL).mono ?_
  rintro e wx ⟨m0, rfl, hm0, hwx⟩
  obtain rfl := hwx
  obtain ⟨hfn, hn2⟩ := HFN.out
  obtain ⟨last, hlast⟩ : ∃ last : Nat, last = fn + m0 := ⟨_, rfl⟩
  have hlI : (fn : Int) + (m0 : Int) = (last : Int) := by omega
  have hlw : IntKind.i64.wrap (last : Int) = (last : Int) := IntWalk.i64_in _ (by omega)
  have HLE : Hid (first ≤ last ∧ last ≤ first + 2 * n ∧ last ≤ 4299999999) := hide (by omega)
  clear HPL hlast hm0 hfn hn2 HFN
  go_wp2_with fail
  go_loopw [15] (fun iv W => ∃ (num : Nat), num ≤ last ∧ iv = .int .i64 (num : Int) ∧ Hid (∃ st k, first ≤ st ∧ num = first + k ∧ Wz w W p pj fr n st num k (1024 + k))) (fun iv _ => last - (intOf iv).toNat)
  case atStart => exact ⟨first, HLE.out.1, rfl, hide ⟨first, 0, Nat.le_refl _, rfl, HZ0.out⟩⟩
  case round =>
    clear HZ0
    obtain ⟨num, hnl, rfl, HK⟩ := hrel
    obtain ⟨st, k, hfs, hnk, hZ⟩ := HK.out
    have HZ := hide hZ
    have hst := hZ.le
    have HFK := hide (And.intro hfs hnk)
    clear hZ HK hfs hnk
    by_cases hlt : num < last
    · have hltI : (num : Int) < (last : Int) := by omega
      have hM : num ≤ 4300000000 := by have := HLE.out; omega
      have hk9 : k ≤ 2048 := by have := HLE.out; have := HFK.out; omega
      go_upto_region 17 with fail
      go_cut [118] from 88 to 177 (fun a wc => a = .bool false ∧ Hid (∃ st', first ≤ st' ∧ num - st' < n ∧ Wz w wc p pj fr n st' num k (1024 + k)))
      case first =>
        have hsub : IntKind.i64.wrap ((num : Int) - (st : Int)) = (num : Int) - (st : Int) := IntWalk.i64_in _ (by omega)
        have HNX : Hid (∀ W, Wz w W p pj fr n st num k (1024 + k) → Calls Tryd.prog 18 #[.pointer (some ⟨pj, 0, none⟩)] W fun e w' => e = .returned (.int .i64 (num : Int)) ∧ W = w') := hide (fun W h => wz_next h)
        have HSS : Hid (∀ W, Wz w W p pj fr n st num k (1024 + k) → Calls Tryd.prog 19 #[.pointer (some ⟨pj, 0, none⟩)] W fun e w' => e = .returned (.int .i64 (st : Int)) ∧ W = w') := hide (fun W h => wz_start h)
        by_cases hf : n ≤ num - st
        · have HFU : Hid (∀ W, Wz w W p pj fr n st num k (1024 + k) → Calls Tryd.prog 17 #[.pointer (some ⟨pj, 0, none⟩)] W fun e w' => e = .returned (.bool true) ∧ Wz w w' p pj fr n st num k (1024 + k)) := hide (fun W h => by have := wz_full h hn9 hM; rw [decide_eq_true hf] at this; exact this)
          have hge : (n : Int) ≤ (num : Int) - (st : Int) := by omega
          obtain ⟨s1, hs1⟩ : ∃ s1 : Nat, s1 = st + 1 := ⟨_, rfl⟩
          have hs1I : (st : Int) + 1 = (s1 : Int) := by omega
          have hs1w : IntKind.i64.wrap (s1 : Int) = (s1 : Int) := IntWalk.i64_in _ (by omega)
          have HPM := hide (fun W => unhide HPN W n (by omega) (by omega))
          have HFS : Hid (n ≤ num - st ∧ num ≤ st + n ∧ s1 = st + 1 ∧ first ≤ st) := hide ⟨hf, hst.2, hs1, HFK.out.1⟩
          clear hf hs1
          go_wp2_with fail
          refine (unhide HFU _ HZ.out).mono ?_
          rintro e wa ⟨rfl, hZa⟩
          have HZa := hide hZa
          clear hZa HZ
          go_wp2_with fail
          refine (unhide HNX _ HZa.out).mono ?_
          rintro e wx ⟨rfl, hwx⟩
          obtain rfl := hwx
          go_wp2_with fail
          refine (unhide HSS _ HZa.out).mono ?_
          rintro e wx ⟨rfl, hwx⟩
          obtain rfl := hwx
          go_wp2_with fail
          refine (unhide HFU _ HZa.out).mono ?_
          rintro e wb ⟨rfl, hZb⟩
          have HZb := hide hZb
          clear hZb HZa
          go_wp2_with fail
          refine (unhide HSS _ HZb.out).mono ?_
          rintro e wx ⟨rfl, hwx⟩
          obtain rfl := hwx
          go_wp2_with fail
          refine (unhide HPM _).mono ?_
          rintro e wx ⟨q0, rfl, hq0, hwx⟩
          obtain rfl := hwx
          obtain ⟨s2, hs2⟩ : ∃ s2 : Nat, s2 = s1 + q0 := ⟨_, rfl⟩
          have hs2I : (s1 : Int) + (q0 : Int) = (s2 : Int) := by omega
          have hs2w : IntKind.i64.wrap (s2 : Int) = (s2 : Int) := IntWalk.i64_in _ (by have := HFS.out; omega)
          have HMV := hide (wz_move (s2 := s2) HZb.out (by have := HFS.out; omega) (by have := HFS.out; omega))
          have HS2 : Hid (first ≤ s2 ∧ num - s2 < n) := hide (by have := HFS.out; omega)
          clear hq0 hs2 HPM HZb HFU HSS HNX HFS
          go_wp2_with fail
          refine (unhide HMV).mono ?_
          rintro e wc2 ⟨rfl, hZc⟩
          have HZc := hide hZc
          clear hZc HMV
          go_wp2
          go_meet
          exact ⟨rfl, hide ⟨s2, HS2.out.1, HS2.out.2, HZc.out⟩⟩
        · have HFU : Hid (∀ W, Wz w W p pj fr n st num k (1024 + k) → Calls Tryd.prog 17 #[.pointer (some ⟨pj, 0, none⟩)] W fun e w' => e = .returned (.bool false) ∧ Wz w w' p pj fr n st num k (1024 + k)) := hide (fun W h => by have := wz_full h hn9 hM; rw [decide_eq_false hf] at this; exact this)
          have hge : decide ((n : Int) ≤ (num : Int) - (st : Int)) = false := by simp; omega
          have HFS : Hid (num - st < n) := hide (by omega)
          clear hf
          go_wp2_with fail
          refine (unhide HFU _ HZ.out).mono ?_
          rintro e wa ⟨rfl, hZa⟩
          have HZa := hide hZa
          clear hZa HZ
          go_wp2_with fail
          refine (unhide HNX _ HZa.out).mono ?_
          rintro e wx ⟨rfl, hwx⟩
          obtain rfl := hwx
          go_wp2_with fail
          refine (unhide HSS _ HZa.out).mono ?_
          rintro e wx ⟨rfl, hwx⟩
          obtain rfl := hwx
          go_wp2_with fail
          refine (unhide HFU _ HZa.out).mono ?_
          rintro e wb ⟨rfl, hZb⟩
          have HZb := hide hZb
          clear hZb HZa HFU HNX HSS
          go_wp2
          go_meet
          exact ⟨rfl, hide ⟨st, HFK.out.1, HFS.out, HZb.out⟩⟩
      case rest =>
      clear HZ hst
      obtain ⟨rfl, HX⟩ := hcut
      obtain ⟨s2, hfs2, hroom, hZ⟩ := HX.out
      have HZ := hide hZ
      have hst := hZ.le
      clear hZ HX
      obtain ⟨i, hi2⟩ : ∃ i : Nat, i = num % 65536 := ⟨_, rfl⟩
      have hi9 : i ≤ 65535 := by omega
      have hrI : ((num : Int)).tmod 65536 = (i : Int) := by rw [Int.tmod_eq_emod_of_nonneg (by omega), hi2]; rfl
      have hrI2 : (num : Int) % 65536 = (i : Int) := by rw [hi2]; rfl
      have HIE := hide hi2
      have HMD : Hid (∀ W, Calls Tryd.prog 12 #[.int .i64 (i : Int)] W fun e w' => ∃ u, e = .returned (.tuple #[.agg (KV i).toArray, u]) ∧ OwnJ w' W.heap.size u (madeRs i) ∧ Below W.heap.size W w') := hide (fun W => made_calls hi9)
      clear hi2
      go_wp2_with fail
      refine (unhide HMD wc).mono ?_
      rintro e w3 ⟨u3, rfl, ho3, hb3⟩
      obtain ⟨ua, uc, rfl⟩ := ho3.shape
      have HO3 := hide ho3
      have HB3a := hide hb3
      have HA3 := hide (Arr.new w3 z32J 33)
      have HB3 := hide (jalloc_below w3 (.cells z32J.toArray 33))
      obtain ⟨gk, hgk⟩ : ∃ gk, gk = w3.heap.size := ⟨_, rfl⟩
      have HX3 : Hid (∀ w4, Arr w4 w3.heap.size 33 (KV i) → (w3.alloc (.cells z32J.toArray 33)).grownBy w4 (some w3.heap.size) → w4.rangeAt gk 0 (KV i) ∧ Below wc.heap.size wc w4 ∧ Wk w4 gk i (.slice ua (madeRs i).length uc)) := hide (fun w4 h1 h2 => by
        have hb := jbelow_grown HB3.out h2 HB3.out.size (Nat.le_refl _)
        rw [← hgk] at h1
        exact ⟨h1.rangeJ, below_then HB3a.out hb, h1, _, HO3.out.below hb⟩)
      have HGK := hide hgk
      clear ho3 hb3 HO3 HB3a HMD hgk
      go_wp2_with (first
        | (refine wpList_allocJ rfl 33 rfl infoKf ?_)
        | (refine wpList_storeJ rfl (.tmp 16) (.tmp 123) 33 rfl rfl rfl HA3.out (HKV.out i).1 (HKV.out i).2.1 (HKV.out i).2.2 ?_; intro w4 hA4 hg4
           obtain ⟨hrk, hb4, hk4⟩ := unhide HX3 w4 hA4 hg4
           rw [← HGK.out]
           have HK4 := hide hk4
           have HB4 := hide hb4
           clear hA4 hg4 hk4 hb4 HX3 HA3 HB3)
        | (refine wpList_loadJ rfl 33 (.tmp 16) rfl _ 0 rfl (KV i) _ hrk Tryd.underlying33 rfl (HKV.out i).1 ?_)
        | fail)
      have HADD : Hid (Calls Tryd.prog 13 #[.pointer (some ⟨pj, 0, none⟩), .agg (KV i).toArray, .slice ua (madeRs i).length uc] w4 fun e w' => ∃ pw v, e = .returned (.tuple #[.pointer (some ⟨pw, 0, none⟩), .int .i64 0]) ∧ Wa w w' p pj fr n s2 num k (1024 + k) gk (.slice ua (madeRs i).length uc) pw v) := hide (by
        have h2 := HK4.out
        rw [HIE.out] at h2 ⊢
        exact wz_add (HZ.out.below HB4.out) h2 hn9 hM hroom)
      refine (unhide HADD).mono ?_
      rintro e w5 ⟨pw, v5, rfl, hWa⟩
      have HNU := hide (wa_num hWa)
      have HS1 := hide (wa_step1 hWa HTB.out hn1 hn9 hM hroom (by omega))
      clear hWa HADD HK4 HB4 HZ hrk
      go_wp2_with fail
      refine (unhide HNU).mono ?_
      rintro e wx ⟨rfl, hwx⟩
      obtain rfl := hwx
      clear HNU
      go_wp2_with fail
      refine (unhide HS1).mono ?_
      rintro e w6 ⟨rfl, hWb⟩
      have HS2 := hide (wb_step2 hWb hn1 hM hroom (by omega))
      clear hWb HS1
      go_wp2_with fail
      refine (unhide HS2).mono ?_
      rintro e w7 ⟨rfl, hZ7, hK7⟩
      obtain ⟨sm, hsm⟩ : ∃ sm : Nat, sm = num % n := ⟨_, rfl⟩
      have hsmI : ((num : Int)).tmod (n : Int) = (sm : Int) := by rw [Int.tmod_eq_emod_of_nonneg (by omega), hsm]; rfl
      have hsmI2 : (num : Int) % (n : Int) = (sm : Int) := by rw [hsm]; rfl
      have hsl := Nat.mod_lt num (show 0 < n by omega)
      obtain ⟨x, hx⟩ : ∃ x : Nat, x = fr + sm := ⟨_, rfl⟩
      have hxI : (fr : Int) + (sm : Int) = (x : Int) := by omega
      have hxw : IntKind.i64.wrap (x : Int) = (x : Int) := IntWalk.i64_in _ (by omega)
      have HRD := hide (wz_read (x := x) hZ7 (by omega) (by omega))
      have HXE : Hid (x = fr + num % n) := hide (by rw [hx, hsm])
      have HK7 := hide hK7
      clear hZ7 hK7 HS2 hsl hsm hx
      go_wp2_with fail
      refine (unhide HRD).mono ?_
      rintro e w8 ⟨g8, b8, rfl, hib, hbe, _, hZ8, hC8⟩
      have hbw := hbe num (by omega) (by omega) HXE.out
      rw [hbw] at hib
      have HDC := hide (wide_dec hib (HTB.out.below hZ8.be) hM)
      rw [← HIE.out] at HDC
      have HZ8 := hide hZ8
      have HK8 := hide (HK7.out.cj hC8 tdk_key tdk_ref)
      rw [← HIE.out] at HK8
      clear hib hbe hZ8 hC8 hbw HRD HK7 HXE
      go_wp2_with fail
      refine (unhide HDC).mono ?_
      rintro e w9 ⟨da, dc, rfl, ho9, hb9⟩
      have hrok : (wideR num).Ok := (wideR_fine (by omega)).1
      have hinf := infoRof hrok.len (.slice da (madeRs i).length dc)
      have hlen : z34R.length = (jrV (wideR num) (.slice da (madeRs i).length dc)).length := by rw [jrV_len hrok.len]; decide
      have hone : ∀ y ∈ jrV (wideR num) (.slice da (madeRs i).length dc), y.oneCell' = true := jrV_one (wideR num) rfl
      have HA9 := hide (Arr.new w9 z34R 52)
      have HBa := hide (jalloc_below w9 (.cells z34R.toArray 52))
      have HXa : Hid (∀ wa, Arr wa w9.heap.size 52 (jrV (wideR num) (.slice da (madeRs i).length dc)) → (w9.alloc (.cells z34R.toArray 52)).grownBy wa (some w9.heap.size) → wa.rangeAt w9.heap.size 0 (jrV (wideR num) (.slice da (madeRs i).length dc)) ∧ wa.rangeAt gk 0 (KV i) ∧ Below w8.heap.size w8 wa ∧ IsJ wa (.slice da (madeRs i).length dc) (madeRs i) ∧ IsJ wa (.slice ua (madeRs i).length uc) (madeRs i)) := hide (fun wa h1 h2 => by
        have hb := jbelow_grown HBa.out h2 HBa.out.size (Nat.le_refl _)
        have hk := HK8.out.below (below_then hb9 hb)
        exact ⟨h1.rangeJ, hk.1.rangeJ, below_then hb9 hb, ho9.isJ.below hb, hk.isJ⟩)
      have hbl := wide_bld num ua (madeRs i).length uc
      rw [← HIE.out] at hbl
      have HSM : Hid (∀ W u1 u2, IsJ W u1 (madeRs i) → IsJ W u2 (madeRs i) → Calls Tryd.prog 24 #[.agg (jrV (wideR num) u1).toArray, .agg (jrV (wideR num) u2).toArray] W fun e w' => e = .returned (.bool true) ∧ Below W.heap.size W w') := hide (fun W u1 u2 h1 h2 => by
        rw [HIE.out] at h1 h2
        exact wide_same h1 h2 hM)
      clear ho9 hb9 HDC HK8 hrok
      go_wp2_with (first
        | (refine wpList_allocJ rfl 52 rfl infoR ?_)
        | (refine wpList_storeJ rfl (.tmp 22) (.tmp 161) 52 rfl rfl rfl HA9.out hinf hlen hone ?_; intro wa hAa hga
           obtain ⟨hra, hrk, hba, hj1, hj2⟩ := unhide HXa wa hAa hga
           have HBB := hide hba
           have HSQ := hide (unhide HSM wa _ _ hj1 hj2)
           clear hAa hga hba hj1 hj2 HXa HA9 HBa HSM)
        | (refine wpList_loadJ rfl 52 (.tmp 22) rfl _ 0 rfl _ _ hra Tryd.underlying52 rfl hinf ?_)
        | (refine wpList_loadJ rfl 33 (.tmp 16) rfl _ 0 rfl (KV i) _ hrk Tryd.underlying33 rfl (HKV.out i).1 ?_)
        | (refine wpList_bld3G (by rfl) 52 0 1 2 (.tmp 171) (.tmp 172) (.tmp 173) rfl (vx := .int .i64 (num : Int)) (vy := .agg (KV i).toArray) (vz := .slice ua (madeRs i).length uc) rfl rfl rfl hbl ?_)
        | fail)
      refine (unhide HSQ).mono ?_
      rintro e wb ⟨rfl, hbb⟩
      have HZb : Hid (∃ st k, first ≤ st ∧ num + 1 = first + k ∧ Wz w wb p pj fr n st (num + 1) k (1024 + k)) := hide ⟨s2, k + 1, hfs2, by have := HFK.out; omega, HZ8.out.below (below_then HBB.out hbb)⟩
      clear hbb HBB HSQ HZ8 hra hrk
      go_wp2
      go_roundw
      case rel => exact ⟨num + 1, by omega, by go_num, HZb⟩
      case measure => simp [intOf]; omega
    · have hltI : decide ((num : Int) < (last : Int)) = false := by simp; omega
      obtain rfl : num = last := by omega
      have hM : num ≤ 4300000000 := by have := HLE.out; omega
      have hk9 : k ≤ 2048 := by have := HLE.out; have := HFK.out; omega
      have hlfI : (num : Int) - (first : Int) = (k : Int) := by have := HFK.out; omega
      have hkw : IntKind.i64.wrap (k : Int) = (k : Int) := IntWalk.i64_in _ (by omega)
      obtain ⟨q, hq⟩ : ∃ q : Nat, q = num - st := ⟨_, rfl⟩
      have hqI : (num : Int) - (st : Int) = (q : Int) := by omega
      have hqw : IntKind.i64.wrap (q : Int) = (q : Int) := IntWalk.i64_in _ (by omega)
      have hq9 : q ≤ 1024 := by omega
      have HQE := hide hq
      have HAC := hide (wz_acts HZ.out)
      clear hq HFK HPN HLE
      go_wp2_with fail
      refine (unhide HAC).mono ?_
      rintro e wa ⟨rd1, rfl, hZa⟩
      have HAC2 := hide (wz_acts hZa)
      clear hZa HZ HAC
      go_wp2_with fail
      refine (unhide HAC2).mono ?_
      rintro e wb ⟨rd2, rfl, hZb⟩
      have HNX := hide (wz_next hZb)
      have HSS := hide (wz_start hZb)
      have HRP := hide (wz_replay hZb HTB.out hn9 hM (by omega))
      rw [← HQE.out] at HRP
      clear hZb HAC2
      go_wp2_with fail
      refine (unhide HNX).mono ?_
      rintro e wx ⟨rfl, hwx⟩
      obtain rfl := hwx
      clear HNX
      go_wp2_with fail
      refine (unhide HSS).mono ?_
      rintro e wx ⟨rfl, hwx⟩
      obtain rfl := hwx
      clear HSS
      go_wp2_with fail
      refine (unhide HRP).mono ?_
      rintro e w8 ⟨la, lc, V, rfl, hZ8, hO8⟩
      have HZ8 := hide hZ8
      have HSS8 := hide (wz_start hZ8)
      have HRL : Hid (∀ W, Below w8.heap.size w8 W → ∀ j, j < q → ∃ b o, la = some ⟨b, o, none⟩ ∧ W.rangeAt b (o + j * 34) (jrV (wideR (st + j)) (V j)) ∧ IsJ W (V j) (madeRs ((st + j) % 65536))) := hide (fun W hW j hj => by
        have h1 := (hO8.below hW).isL
        obtain ⟨_, ⟨a', c', hv', _, _, _, hc'⟩, he'⟩ := h1
        rw [recsL_len] at hv' hc' he'
        injection hv' with e1
        subst e1
        obtain ⟨b, o, ha, hr⟩ := hc' (by omega)
        have hr2 := hr j hj
        have he2 := he' j hj
        rw [recsL_at _ _ hj] at hr2 he2
        exact ⟨b, o, ha, hr2, he2⟩)
      clear hZ8 hO8 HRP
      go_wp2_with fail
      refine (unhide HSS8).mono ?_
      rintro e wx ⟨rfl, hwx⟩
      obtain rfl := hwx
      clear HSS8
      go_wp2_with fail
      have HB0 := hide (Below.refl w8.heap.size w8)
      go_loopw [25] (fun iv W => ∃ (j : Nat), j ≤ q ∧ iv = .int .i64 (j : Int) ∧ Hid (Below w8.heap.size w8 W)) (fun iv _ => q - (intOf iv).toNat)
      case atStart => exact ⟨0, Nat.zero_le _, rfl, HB0⟩
      case round =>
        clear HB0
        obtain ⟨j, hj, rfl, HW⟩ := hrel
        by_cases hjq : j < q
        · have hjI : (j : Int) < (q : Int) := by omega
          obtain ⟨s, hs⟩ : ∃ s : Nat, s = st + j := ⟨_, rfl⟩
          have hsI : (st : Int) + (j : Int) = (s : Int) := by omega
          have hsw : IntKind.i64.wrap (s : Int) = (s : Int) := IntWalk.i64_in _ (by omega)
          obtain ⟨i, hi2⟩ : ∃ i : Nat, i = s % 65536 := ⟨_, rfl⟩
          have hi9 : i ≤ 65535 := by omega
          have hrI : ((s : Int)).tmod 65536 = (i : Int) := by rw [Int.tmod_eq_emod_of_nonneg (by omega), hi2]; rfl
          have hrI2 : (s : Int) % 65536 = (i : Int) := by rw [hi2]; rfl
          have HMD : Hid (∀ W, Calls Tryd.prog 12 #[.int .i64 (i : Int)] W fun e w' => ∃ u, e = .returned (.tuple #[.agg (KV i).toArray, u]) ∧ OwnJ w' W.heap.size u (madeRs i) ∧ Below W.heap.size W w') := hide (fun W => made_calls hi9)
          obtain ⟨b, o, rfl, _⟩ := unhide HRL wr HW.out j hjq
          have HRA : Hid (∀ W, Below w8.heap.size w8 W → W.rangeAt b (o + j * 34) (jrV (wideR s) (V j)) ∧ IsJ W (V j) (madeRs i)) := hide (fun W hW => by
            obtain ⟨b', o', e1, r1, r2⟩ := unhide HRL W hW j hjq
            injection e1 with e1
            injection e1 with e1 e3
            subst e1 e3
            rw [hi2, hs]
            exact ⟨r1, r2⟩)
          have HSJ : Hid (∀ W, Below w8.heap.size w8 W → Calls Tryd.prog 19 #[.pointer (some ⟨pj, 0, none⟩)] W fun e w' => e = .returned (.int .i64 (st : Int)) ∧ W = w') := hide (fun W hW => wz_start (HZ8.out.below hW))
          have hs9 : s ≤ 4300000000 := by omega
          have HIE := hide hi2
          have hrok : (wideR s).Ok := (wideR_fine (by omega)).1
          have hinf := infoRof hrok.len (V j)
          have hbl := fun ua uc => wide_bld s ua (madeRs i).length uc
          rw [← HIE.out] at hbl
          have HSM : Hid (∀ W u, Below w8.heap.size w8 W → IsJ W u (madeRs i) → Calls Tryd.prog 24 #[.agg (jrV (wideR s) (V j)).toArray, .agg (jrV (wideR s) u).toArray] W fun e w' => e = .returned (.bool true) ∧ Below W.heap.size W w') := hide (fun W u h1 h2 => by
            have h3 := (unhide HRA W h1).2
            rw [HIE.out] at h2 h3
            exact wide_same h3 h2 hs9)
          generalize jrV (wideR s) (V j) = rc1 at *
          clear hi2 hs hrok
          go_wp2_with fail
          refine (unhide HSJ _ HW.out).mono ?_
          rintro e wx ⟨rfl, hwx⟩
          obtain rfl := hwx
          go_wp2_with fail
          refine (unhide HMD wr).mono ?_
          rintro e w3 ⟨u3, rfl, ho3, hb3⟩
          obtain ⟨ua, uc, rfl⟩ := ho3.shape
          have HO3 := hide ho3
          have HB3a := hide hb3
          have HA3 := hide (Arr.new w3 z32J 33)
          have HB3 := hide (jalloc_below w3 (.cells z32J.toArray 33))
          obtain ⟨gk, hgk⟩ : ∃ gk, gk = w3.heap.size := ⟨_, rfl⟩
          have HX3 : Hid (∀ w4, Arr w4 w3.heap.size 33 (KV i) → (w3.alloc (.cells z32J.toArray 33)).grownBy w4 (some w3.heap.size) → w4.rangeAt gk 0 (KV i) ∧ Below wr.heap.size wr w4 ∧ Wk w4 gk i (.slice ua (madeRs i).length uc)) := hide (fun w4 h1 h2 => by
            have hb := jbelow_grown HB3.out h2 HB3.out.size (Nat.le_refl _)
            rw [← hgk] at h1
            exact ⟨h1.rangeJ, below_then HB3a.out hb, h1, _, HO3.out.below hb⟩)
          have HGK := hide hgk
          clear ho3 hb3 HO3 HB3a HMD hgk
          go_wp2_with (first
            | (refine wpList_allocJ rfl 33 rfl infoKf ?_)
            | (refine wpList_storeJ rfl (.tmp 26) (.tmp 233) 33 rfl rfl rfl HA3.out (HKV.out i).1 (HKV.out i).2.1 (HKV.out i).2.2 ?_; intro w4 hA4 hg4
               obtain ⟨hrk, hb4, hk4⟩ := unhide HX3 w4 hA4 hg4
               rw [← HGK.out]
               have HK4 := hide hk4
               have HB4 := hide hb4
               clear hA4 hg4 hk4 hb4 HX3 HA3 HB3)
            | fail)
          have HX0 : Hid (Below w8.heap.size w8 w4.drew ∧ Wk w4.drew gk i (.slice ua (madeRs i).length uc)) := hide ⟨(below_then HW.out HB4.out).drew, HK4.out.below (Below.refl _ _).drew⟩
          have hbl2 := hbl ua uc
          clear HB4 HK4 hrk hbl
          go_wp2_with fail
          refine wp_region_held_drew (S := fun W => W.rangeAt b (o + j * 34) rc1 ∧ W.rangeAt gk 0 (KV i)) (by kernel_rfl) (⟨(unhide HRA _ HX0.out.1).1, HX0.out.2.1.rangeJ⟩) (fun hHeld => ?_)
          refine wpAnyH_take (i := 0) (v := .slice (some ⟨b, o, none⟩) q lc) rfl (by kernel_rfl) (by kernel_rfl) (by kernel_rfl) (fun _ _ _ h => h) (Or.inl ⟨by rfl, fun w hSw => by obtain ⟨hS1, hS2⟩ := hSw; go_simp⟩) (by assumption) ?_
          simp only [List.getElem_toArray, List.getElem_cons_zero, Act.put, List.setIfInBounds_toArray, List.set_cons_zero, List.set_cons_succ]
          refine wpAnyH_take (i := 1) (v := .int .i64 (j : Int)) rfl (by kernel_rfl) (by kernel_rfl) (by kernel_rfl) (fun _ _ _ h => h) (Or.inl ⟨by rfl, fun w hSw => by obtain ⟨hS1, hS2⟩ := hSw; go_simp⟩) (by assumption) ?_
          simp only [List.getElem_toArray, List.getElem_cons_succ, List.getElem_cons_zero, Act.put, List.setIfInBounds_toArray, List.set_cons_zero, List.set_cons_succ]
          refine wpAnyH_take (i := 2) (v := .pointer (some ⟨b, o + j * 34, none⟩)) rfl (by kernel_rfl) (by kernel_rfl) (by kernel_rfl) (fun _ _ _ h => h) (Or.inl ⟨by rfl, fun w hSw => by obtain ⟨hS1, hS2⟩ := hSw; go_simp⟩) (by assumption) ?_
          simp only [List.getElem_toArray, List.getElem_cons_succ, List.getElem_cons_zero, Act.put, List.setIfInBounds_toArray, List.set_cons_zero, List.set_cons_succ]
          refine wpAnyH_take (i := 3) (v := .agg (rc1).toArray) rfl (by kernel_rfl) (by kernel_rfl) (by kernel_rfl) (fun _ _ _ h => h) (yieldsIf_load_mid (by rfl) _ _ rfl _ _ rfl _ _ (fun w hSw => hSw.1) Tryd.underlying52 rfl hinf) (by assumption) ?_
          simp only [List.getElem_toArray, List.getElem_cons_succ, List.getElem_cons_zero, Act.put, List.setIfInBounds_toArray, List.set_cons_zero, List.set_cons_succ]
          refine wpAnyH_take (i := 4) (v := .pointer (some ⟨pj, 0, none⟩)) rfl (by kernel_rfl) (by kernel_rfl) (by kernel_rfl) (fun _ _ _ h => h) (Or.inl ⟨by rfl, fun w hSw => by obtain ⟨hS1, hS2⟩ := hSw; go_simp⟩) (by assumption) ?_
          simp only [List.getElem_toArray, List.getElem_cons_succ, List.getElem_cons_zero, Act.put, List.setIfInBounds_toArray, List.set_cons_zero, List.set_cons_succ]
          refine wpAnyH_take (i := 6) (v := .int .i64 (j : Int)) rfl (by kernel_rfl) (by kernel_rfl) (by kernel_rfl) (fun _ _ _ h => h) (Or.inl ⟨by rfl, fun w hSw => by obtain ⟨hS1, hS2⟩ := hSw; go_simp⟩) (by assumption) ?_
          simp only [List.getElem_toArray, List.getElem_cons_succ, List.getElem_cons_zero, Act.put, List.setIfInBounds_toArray, List.set_cons_zero, List.set_cons_succ]
          refine wpAnyH_take (i := 8) (v := .agg (KV i).toArray) rfl (by kernel_rfl) (by kernel_rfl) (by kernel_rfl) (fun _ _ _ h => h) (yieldsIf_load_mid (by rfl) _ _ rfl _ _ rfl _ _ (fun w hSw => hSw.2) Tryd.underlying33 rfl (HKV.out i).1) (by assumption) ?_
          simp only [List.getElem_toArray, List.getElem_cons_succ, List.getElem_cons_zero, Act.put, List.setIfInBounds_toArray, List.set_cons_zero, List.set_cons_succ]
          refine wpAnyH_take (i := 9) (v := .slice (ua) (madeRs i).length uc) rfl (by kernel_rfl) (by kernel_rfl) (by kernel_rfl) (fun _ _ _ h => h) (Or.inl ⟨by rfl, fun w hSw => by obtain ⟨hS1, hS2⟩ := hSw; go_simp⟩) (by assumption) ?_
          simp only [List.getElem_toArray, List.getElem_cons_succ, List.getElem_cons_zero, Act.put, List.setIfInBounds_toArray, List.set_cons_zero, List.set_cons_succ]
          refine wpAnyH_ready (rs := [5]) (by kernel_rfl) (by simp) (AllReadyH.cons rfl (fun K hK => ?_) AllReadyH.nil)
          refine step_call1J (by rfl) 19 startW_enter (.tmp 239) _ rfl rfl (unhide HSJ _ HX0.out.1) ?_
          rintro e wx ⟨rfl, hwx⟩
          obtain rfl := hwx
          refine ⟨_, rfl, ?_⟩
          refine hK.out _ _ (⟨(unhide HRA _ HX0.out.1).1, HX0.out.2.1.rangeJ⟩) (fun hJ1 => ?_)
          clear hK K
          simp only [List.getElem_toArray, List.getElem_cons_succ, List.getElem_cons_zero, Act.put, List.setIfInBounds_toArray, List.set_cons_zero, List.set_cons_succ]
          refine wpAnyH_take (i := 7) (v := .int .i64 (s : Int)) rfl (by kernel_rfl) (by kernel_rfl) (by kernel_rfl) (fun _ _ _ h => h) (Or.inl ⟨by rfl, fun w hSw => by obtain ⟨hS1, hS2⟩ := hSw; go_simp⟩) (by assumption) ?_
          simp only [List.getElem_toArray, List.getElem_cons_succ, List.getElem_cons_zero, Act.put, List.setIfInBounds_toArray, List.set_cons_zero, List.set_cons_succ]
          refine wpAnyH_take (i := 10) (v := .agg (jrV (wideR s) (.slice ua (madeRs i).length uc)).toArray) rfl (by kernel_rfl) (by kernel_rfl) (by kernel_rfl) (fun _ _ _ h => h) (yields_bld3J (by rfl) 52 0 1 2 (.tmp 242) (.tmp 243) (.tmp 244) rfl (vx := .int .i64 (s : Int)) (vy := .agg (KV i).toArray) (vz := .slice ua (madeRs i).length uc) rfl rfl rfl hbl2) (by assumption) ?_
          simp only [List.getElem_toArray, List.getElem_cons_succ, List.getElem_cons_zero, Act.put, List.setIfInBounds_toArray, List.set_cons_zero, List.set_cons_succ]
          refine wpAnyH_ready (rs := [11]) (by kernel_rfl) (by simp) (AllReadyH.cons rfl (fun K hK => ?_) AllReadyH.nil)
          refine step_call2J (by rfl) 24 samerec_enter (.tmp 238) (.tmp 245) _ rfl rfl rfl (unhide HSM _ _ HX0.out.1 HX0.out.2.isJ) ?_
          rintro e wb ⟨rfl, hwb⟩
          have HX2 : Hid (Below w8.heap.size w8 wb) := hide (below_then HX0.out.1 hwb)
          have HX3 : Hid (Below w8.heap.size w8 wb ∧ Wk wb gk i (.slice ua (madeRs i).length uc)) := hide ⟨HX2.out, HX0.out.2.below hwb⟩
          refine ⟨_, rfl, ?_⟩
          refine hK.out _ _ (⟨(unhide HRA _ HX3.out.1).1, HX3.out.2.1.rangeJ⟩) (fun hJ2 => ?_)
          clear hK K
          simp only [List.getElem_toArray, List.getElem_cons_succ, List.getElem_cons_zero, Act.put, List.setIfInBounds_toArray, List.set_cons_zero, List.set_cons_succ]
          clear hwb HX3
          refine wpAnyH_take (i := 12) (v := .bool false) rfl (by kernel_rfl) (by kernel_rfl) (by kernel_rfl) (fun _ _ _ h => h) (Or.inl ⟨by rfl, fun w hSw => by obtain ⟨hS1, hS2⟩ := hSw; go_simp⟩) (by assumption) ?_
          simp only [List.getElem_toArray, List.getElem_cons_succ, List.getElem_cons_zero, Act.put, List.setIfInBounds_toArray, List.set_cons_zero, List.set_cons_succ]
          refine wpAnyH_done (by kernel_rfl) ?_ _
          clear HX0 HSM HRA HSJ
          go_wp2
          go_roundw
          case rel => exact ⟨j + 1, by omega, by go_num, HX2⟩
          case measure => simp [intOf]; omega
        · have hjI : decide ((j : Int) < (q : Int)) = false := by simp; omega
          have HZ9 := hide (HZ8.out.below HW.out)
          clear HZ8 HW HRL
          go_wp2_with (first
            | (at_make; refine wpList_make_full _ rfl _ _ 48 rfl wr.heap.size 5 i0 (.int .u8 0) 1 Tryd.underlying48 hi hz0 hz1 .i64 .i64 _ _ 512 rfl rfl rfl rfl (by rw [hz2]; omega) (by unfold maxLen; omega) (Nat.le_refl _) ?_; intro w7 hr7 hg7
               have hb7 : Below wr.heap.size wr w7 := (Below.refl _ _).grown hg7 (Nat.le_refl _) (fun b hb => by cases hb)
               rw [made8, ← List.map_replicate] at hr7
               have HOZ : Hid (w7.ownsRow wr.heap.size 5 1 (.slice (some ⟨wr.heap.size, 0, none⟩) 512 512) 512 (zsec.map (Value.int .u8))) := hide hr7
               have HZ7 := hide (HZ9.out.below hb7)
               clear hr7 hg7 hb7 HZ9)
            | fail)
          obtain ⟨gz, hgz⟩ : ∃ gz, gz = wr.heap.size := ⟨_, rfl⟩
          rw [← hgz] at HOZ ⊢
          clear hgz
          obtain ⟨fn3, hfn3⟩ : ∃ fn3 : Nat, fn3 = fr + n := ⟨_, rfl⟩
          have hfn3I : (fr : Int) + (n : Int) = (fn3 : Int) := by omega
          have hfn3w : IntKind.i64.wrap (fn3 : Int) = (fn3 : Int) := IntWalk.i64_in _ (by omega)
          have HF3 := hide hfn3
          clear hfn3
          go_loopw [29] (fun iv W => ∃ (s : Nat), s ≤ N ∧ iv = .int .i64 (s : Int) ∧ Hid (Wz w W p pj fr n st num k (1024 + k + 1024 + s) ∧ W.ownsRow gz 5 1 (.slice (some ⟨gz, 0, none⟩) 512 512) 512 (zsec.map (Value.int .u8)))) (fun iv _ => N - (intOf iv).toNat)
          case atStart => exact ⟨0, Nat.zero_le _, rfl, hide ⟨HZ7.out, HOZ.out⟩⟩
          case round =>
            clear HZ7 HOZ
            obtain ⟨s, hs, rfl, HQ⟩ := hrel
            by_cases hsN : s < N
            · have hsI : (s : Int) < (N : Int) := by omega
              have HRD := hide (wz_read (x := s) HQ.out.1 (by rw [← HNE.out]; exact hsN) (by have := HN9.out; omega))
              go_wp2_with fail
              refine (unhide HRD).mono ?_
              rintro e wa ⟨g8, b8, rfl, hib, _, hbz, hZa, hCa⟩
              have HQ2 : Hid (∀ W, Below wa.heap.size wa W → Wz w W p pj fr n st num k (1024 + k + 1024 + (s + 1)) ∧ W.ownsRow gz 5 1 (.slice (some ⟨gz, 0, none⟩) 512 512) 512 (zsec.map (Value.int .u8))) := hide (fun W hW => ⟨hZa.below hW, owns_below (owns_cj HQ.out.2 hCa tdk_u8) hW⟩)
              have HSA : Hid ((s < fr ∨ fr + n ≤ s) → Calls Tryd.prog 26 #[.slice (some ⟨g8, 0, none⟩) 512 512, .slice (some ⟨gz, 0, none⟩) 512 512] wa fun e w' => e = .returned (.bool true) ∧ ∃ k, w' = wa.drewN k) := hide (fun h => same_calls (by rw [hbz h] at hib; exact hib) (isB_owns (owns_cj HQ.out.2 hCa tdk_u8) zsec_is.2))
              clear hib hbz hZa hCa HRD HQ
              by_cases c1 : s < fr
              · have c1I : (s : Int) < (fr : Int) := by omega
                have HSB := hide (unhide HSA (Or.inl c1))
                clear HSA
                go_wp2_with fail
                refine (unhide HSB).mono ?_
                rintro e wb ⟨rfl, hwb⟩
                have HQ3 := hide (unhide HQ2 wb (below_same hwb))
                clear hwb HSB HQ2
                go_wp2
                go_roundw
                case rel => exact ⟨s + 1, by omega, by go_num, HQ3⟩
                case measure => simp [intOf]; omega
              · have c1I : decide ((s : Int) < (fr : Int)) = false := by simp; omega
                by_cases c2 : fn3 ≤ s
                · have c2I : (fn3 : Int) ≤ (s : Int) := by omega
                  have HSB := hide (unhide HSA (Or.inr (by have := HF3.out; omega)))
                  clear HSA
                  go_wp2_with fail
                  refine (unhide HSB).mono ?_
                  rintro e wb ⟨rfl, hwb⟩
                  have HQ3 := hide (unhide HQ2 wb (below_same hwb))
                  clear hwb HSB HQ2
                  go_wp2
                  go_roundw
                  case rel => exact ⟨s + 1, by omega, by go_num, HQ3⟩
                  case measure => simp [intOf]; omega
                · have c2I : decide ((fn3 : Int) ≤ (s : Int)) = false := by simp; omega
                  have HQ3 := hide (unhide HQ2 wa (Below.refl _ _))
                  clear HSA HQ2
                  go_wp2
                  go_roundw
                  case rel => exact ⟨s + 1, by omega, by go_num, HQ3⟩
                  case measure => simp [intOf]; omega
            · have hsI : decide ((s : Int) < (N : Int)) = false := by simp; omega
              have HBE := hide HQ.out.1.be
              clear HQ
              go_wp2
              go_ret
              exact ⟨rfl, HBE.out⟩
end Go.Proofs.YthhjlopgpmaokabDoor

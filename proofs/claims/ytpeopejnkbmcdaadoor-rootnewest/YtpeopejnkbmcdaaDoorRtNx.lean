/- What RootNewest answers: the walk. -/
import Derived.Test.YtpeopejnkbmcdaaDoorRtNw
import Derived.Deep.CutRange
namespace Go.Proofs.YtpeopejnkbmcdaaDoor
open Go.RowKit Go.Maps

theorem isI_blockN {w : World} {v : Value} {xs : List Int} (h : IsI w v xs) {b : Nat} (hb : Value.inBlock v b) : b < w.heap.size := by
  obtain ⟨off, n, c, rfl, hn⟩ := hb
  obtain ⟨_, a, cap, hv, _, _, hc⟩ := h
  injection hv with e1 e2 e3
  obtain ⟨b', off', ha, hcell⟩ := hc (by omega)
  rw [ha] at e1
  injection e1 with e1
  injection e1 with e1
  subst e1
  exact World.block_lt_of_cell? w _ (hcell 0 (by omega))
theorem tdwr_slot : ¬ TWr 32 := twr_slot
/-- A round's head. -/
def NI (w W : World) (p g8 n k : Nat) : Prop := ∃ D T G S F, Sn w W p D ∧ Nq n k D T G S F ∧ Arr W g8 32 (slV (slQ n T G S F))
set_option maxRecDepth 100000 in
set_option maxHeartbeats 8000000 in
theorem rootNewest_walk {w : World} (x : Int) {ta : Option Addr} {tn tc : Nat} {P : Nat → TrnE} (hp : IsTr w ta tn tc P) (ht : Tab w) : Calls Tryd.prog 3 #[.int .i64 x, .slice ta tn tc] w fun e w' => e = .returned (.bool true) ∧ Below w.heap.size w w' := by
  obtain ⟨gx, hgx, handx'⟩ := sandN 1023 x (by decide) (by decide)
  have handx : bits .and .i64 x 1023 = (gx : Int) := handx'
  clear handx'
  obtain ⟨n, hn⟩ : ∃ n : Nat, n = 40 + gx := ⟨_, rfl⟩
  have hnI : (40 : Int) + (gx : Int) = (n : Int) := by omega
  have hnw : IntKind.i64.wrap (n : Int) = (n : Int) := IntWalk.i64_in _ (by omega)
  have HN0 : Hid (40 ≤ n ∧ n ≤ 1063) := hide (by omega)
  have hq0 : QB n 0 0 0 10 := ⟨by omega, by omega, by omega, by omega, by omega⟩
  have HTB := hide ht
  have HNW : Hid (∀ W, Below w.heap.size w W → Calls Tryd.prog 6 #[.int .i64 (n : Int)] W fun e w' => ∃ p, e = .returned (.tuple #[.pointer (some ⟨p, 0, none⟩), .int .i64 0]) ∧ Sn w w' p (zeroD n) ∧ Below W.heap.size W w') := hide (fun W hW => sn_new hW (by omega) (by omega))
  have HW0 : Hid (∀ W p, Sn w W p (zeroD n) → Calls Tryd.prog 7 #[.pointer (some ⟨p, 0, none⟩), .agg (slV (slQ n 0 0 0 10)).toArray, .int .i64 2] W fun e w' => e = .returned (.bool true) ∧ Sn w w' p (stD (zeroD n) 0 (slL (slQ n 0 0 0 10)) 2) ∧ Cj TWr W w') := hide (fun W p hS => writes_calls (c := 2) (i := 0) hq0.ok hq0.may ht hS (by simp [slQ, zeroD]) rfl (by simp [zeroD]; omega) (Int.le_refl 0) (by show (0 : Int) ≤ _; omega) (fun i => by simp [zeroD]) (Int.le_refl 0) (by show (0 : Int) ≤ _; omega) (by decide))
  have HPC : Hid (∀ k, k < tn → ∃ b o, ta = some ⟨b, o, none⟩ ∧ ∀ W, Below w.heap.size w W → W.cell? ⟨b, o + k * 6, none⟩ = some (.int .i64 (P k).g) ∧ W.cell? ⟨b, o + k * 6 + 1, none⟩ = some (.int .i64 (P k).s) ∧ W.cell? ⟨b, o + k * 6 + 2, none⟩ = some (.int .i64 (P k).f) ∧ W.cell? ⟨b, o + k * 6 + 3, none⟩ = some (.int .i64 (P k).st) ∧ W.cell? ⟨b, o + k * 6 + 4, none⟩ = some (.int .i64 (P k).cr) ∧ W.cell? ⟨b, o + k * 6 + 5, none⟩ = some (P k).fv ∧ IsI W (P k).fv (P k).fs) := hide (fun k hk => by
    obtain ⟨b, o, e, h⟩ := hp.2.2 (by omega)
    refine ⟨b, o, e, fun W hW => ?_⟩
    obtain ⟨h1, h2⟩ := h k hk
    have hh : ∀ j u, (P k).v[j]? = some u → W.cell? ⟨b, o + k * 6 + j, none⟩ = some u := fun j u hu => (hW.cell (p := ⟨b, o + k * 6 + j, none⟩) (World.block_lt_of_cell? w _ (h1 j u hu))).trans (h1 j u hu)
    exact ⟨hh 0 _ rfl, hh 1 _ rfl, hh 2 _ rfl, hh 3 _ rfl, hh 4 _ rfl, hh 5 _ rfl, h2.below hW⟩)
  have HFB : Hid (∀ k, k < tn → ∀ b, Value.inBlock (P k).fv b → b < w.heap.size) := hide (fun k hk b hb => by
    obtain ⟨_, _, _, h⟩ := hp.2.2 (by omega)
    exact isI_blockN (h k hk).2 hb)
  have htn1 := hp.1
  have htn2 := hp.2.1
  have HNQ0 := hide (nq_first HN0.out)
  have hinf0 : (Tryd.prog.info? 32).map (·.size) = some (slV (slQ n 0 0 0 10)).length := infoSof hq0.ok
  have hlen0 : z105.length = (slV (slQ n 0 0 0 10)).length := by rw [slV_len hq0.ok]; rfl
  have hone0 := slV_one (slQ n 0 0 0 10)
  have hb1 := bldN1 10
  have hb2 := bldN1 11
  have hb4 := bldN4 (n : Int)
  have HF0 : Hid (∀ (W : World) g, Arr W g 32 (slV (slQ n 0 0 0 10)) → Arr W g 32 (slV (slQ n 0 0 0 10))) := hide (fun _ _ h => h)
  generalize hcs0 : slV (slQ n 0 0 0 10) = cs0 at hinf0 hlen0 hone0 hb4 HW0 HF0
  generalize jfV (rfN 10) = ja at hb1 hb4
  generalize jfV (rfN 11) = jb at hb2 hb4
  have HCS0 := hide hcs0
  clear hp ht hq0 hn hgx hcs0
  go_enter Tryd.func3, Tryd.ntmps3
  go_wp2_with fail
  refine (unhide HNW _ (Below.refl _ _)).mono ?_
  rintro e w2 ⟨p, rfl, hS2, hb2'⟩
  have HS2 := hide hS2
  clear hS2 hb2' HNW
  have HX2 : Hid (∀ w3, (w2.alloc (.cells z105.toArray 32)).grownBy w3 (some w2.heap.size) → Sn w w3 p (zeroD n)) := hide (fun w3 hg3 => by
    have hba := jalloc_below w2 (.cells z105.toArray 32)
    exact HS2.out.below (jbelow_grown hba hg3 hba.size (Nat.le_refl _)))
  have HLO : Hid (w.heap.size ≤ w2.heap.size) := hide HS2.out.be.size
  go_wp2_with (first
    | (refine wpList_bldN1 (vx := .int .i64 10) (u := .agg ja.toArray) rfl _ rfl rfl hb1 ?_; refine wpList_bldN1 (vx := .int .i64 11) (u := .agg jb.toArray) rfl _ rfl rfl hb2 ?_; refine wpList_bldN4 (v0 := .int .i64 (n : Int)) (v1 := .int .i64 8) (v6 := .agg ja.toArray) (v7 := .agg jb.toArray) (u := .agg cs0.toArray) rfl _ _ _ _ rfl rfl rfl rfl rfl hb4 ?_)
    | (refine wpList_allocJ rfl 32 rfl infoSlo ?_)
    | (refine wpList_storeJ rfl (.tmp 8) (.tmp 27) 32 rfl rfl rfl (Arr.new w2 z105 32) hinf0 hlen0 hone0 ?_; intro w3 hA3 hg3
       have hrg3 := hA3.rangeJ
       have HA3 := hide hA3
       have HS3 := hide (unhide HX2 w3 hg3)
       clear hA3 hg3 HX2 HS2)
    | (refine wpList_loadJ rfl 32 (.tmp 8) rfl _ 0 rfl cs0 _ hrg3 Tryd.underlying32 rfl hinf0 ?_)
    | fail)
  refine (unhide HW0 _ _ HS3.out).mono ?_
  rintro e w4 ⟨rfl, hS4, hC4⟩
  have hA4 := HA3.out.cj hC4 tdwr_slot
  rw [← HCS0.out] at hA4
  have HI4 : Hid (NI w w4 p w2.heap.size n 0) := hide ⟨_, _, _, _, _, hS4, HNQ0.out, hA4⟩
  clear hS4 hC4 hA4 hrg3 HA3 HS3 HW0 HNQ0 HCS0 HF0 hinf0 hlen0 hone0 hb1 hb2 hb4
  generalize w2.heap.size = g8 at *
  go_wp2_with fail
  go_loopw [9] (fun iv W => ∃ (k : Nat), k ≤ 60 ∧ iv = .int .i64 (k : Int) ∧ Hid (NI w W p g8 n k)) (fun iv _ => 60 - (intOf iv).toNat)
  case atStart => exact ⟨0, by decide, rfl, HI4⟩
  case round =>
    clear HI4
    obtain ⟨k, hk, rfl, HI⟩ := hrel
    by_cases hc : k < tn
    case neg =>
      have hcd : decide ((k : Int) < (tn : Int)) = false := by simp; omega
      go_wp2
      go_ret
      obtain ⟨_, _, _, _, _, hS, _, _⟩ := HI.out
      exact ⟨rfl, hS.be⟩
    case pos =>
    have hcI : (k : Int) < (tn : Int) := by omega
    by_cases hc6 : k < 60
    case neg =>
      have hcd : decide ((k : Int) < 60) = false := by simp; omega
      go_wp2
      go_ret
      obtain ⟨_, _, _, _, _, hS, _, _⟩ := HI.out
      exact ⟨rfl, hS.be⟩
    case pos =>
    have hc6I : (k : Int) < 60 := by omega
    obtain ⟨D, T, G, S, F, hS, hQ, hA⟩ := HI.out
    obtain ⟨b, o, rfl, hPK⟩ := unhide HPC k hc
    obtain ⟨G', hG', hg1'⟩ := sandN 16777215 (P k).g (by decide) (by decide)
    obtain ⟨S', hS', hs1'⟩ := sandN 16777215 (P k).s (by decide) (by decide)
    obtain ⟨f0, hf0, hf1'⟩ := sandN 15 (P k).f (by decide) (by decide)
    obtain ⟨c, hc3, hc1'⟩ := sandN 3 (P k).st (by decide) (by decide)
    obtain ⟨cr, hcr, hcr1'⟩ := sandN 1 (P k).cr (by decide) (by decide)
    have hg1 : bits .and .i64 (P k).g 16777215 = (G' : Int) := hg1'
    have hs1 : bits .and .i64 (P k).s 16777215 = (S' : Int) := hs1'
    have hf1 : bits .and .i64 (P k).f 15 = (f0 : Int) := hf1'
    have hc1 : bits .and .i64 (P k).st 3 = (c : Int) := hc1'
    have hcr1 : bits .and .i64 (P k).cr 1 = (cr : Int) := hcr1'
    clear hg1' hs1' hf1' hc1' hcr1'
    obtain ⟨F', hF'⟩ : ∃ F' : Int, F' = 10 + (f0 : Int) := ⟨_, rfl⟩
    have hFI : 10 + (f0 : Int) = F' := hF'.symm
    have hFw : IntKind.i64.wrap F' = F' := IntWalk.i64_in _ (by omega)
    obtain ⟨T', hT'⟩ : ∃ T' : Int, T' = T + 1 := ⟨_, rfl⟩
    have hTI : T + 1 = T' := hT'.symm
    have htb := hQ.qb.t
    have htk := hQ.tk
    have hTw : IntKind.i64.wrap T' = T' := IntWalk.i64_in _ (by omega)
    have hq' : QB n T' G' S' F' := ⟨hQ.qb.n, by omega, by omega, by omega, by omega⟩
    obtain ⟨j, hj⟩ : ∃ j : Nat, T' % 2 = (j : Int) := ⟨(T' % 2).toNat, by omega⟩
    have hj2 : j < 2 := by omega
    have hla := hQ.la
    have hn0 := HN0.out
    have hwt := hQ.wt
    have hfl := hQ.fl
    have HW1 : Hid (∀ W, Sn w W p D → Calls Tryd.prog 7 #[.pointer (some ⟨p, 0, none⟩), .agg (slV (slQ n T' G' S' F')).toArray, .int .i64 (c : Int)] W fun e w' => e = .returned (.bool true) ∧ Sn w w' p (stD D j (slL (slQ n T' G' S' F')) c) ∧ Cj TWr W w') := hide (fun W hS => writes_calls hq'.ok hq'.may HTB.out hS (by rw [hla]; rfl) hj (by omega) hwt.1 (by omega) (fun i => by rw [hQ.wr i]; decide) hfl.1 (by omega) hc3)
    have HQ := hide hQ
    have HQB := hide hq'
    have HT := hide hT'
    have HJ := hide (And.intro hj hj2)
    have hok := hQ.qb.ok
    have hinf1 : (Tryd.prog.info? 32).map (·.size) = some (slV (slQ n T G S F)).length := infoSof hok
    have hlen1 : z105.length = (slV (slQ n T G S F)).length := by rw [slV_len hok]; rfl
    have hone1 := slV_one (slQ n T G S F)
    have hinf2 : (Tryd.prog.info? 32).map (·.size) = some (slV (slQ n T' G' S' F')).length := infoSof hq'.ok
    have hne : slQ n T G S F ≠ slQ n T' G' S' F' := fun e => by
      have : T = T' := congrArg SL.t e
      omega
    have heqS : ∀ W, (binOp .neq 32 (.agg (slV (slQ n T G S F)).toArray) (.agg (slV (slQ n T G S F)).toArray)).run Tryd.prog W = .ok (.bool false) W := fun W => by rw [slot_neq hok hok, slEq_refl]; rfl
    have heqT : ∀ W, (binOp .neq 32 (.agg (slV (slQ n T' G' S' F')).toArray) (.agg (slV (slQ n T' G' S' F')).toArray)).run Tryd.prog W = .ok (.bool false) W := fun W => by rw [slot_neq hq'.ok hq'.ok, slEq_refl]; rfl
    have heqTS : ∀ W, (binOp .neq 32 (.agg (slV (slQ n T' G' S' F')).toArray) (.agg (slV (slQ n T G S F)).toArray)).run Tryd.prog W = .ok (.bool true) W := fun W => by rw [slot_neq hq'.ok hok, slEq_no (Ne.symm hne)]; rfl
    have hgd := fun op xx y xs ys W => slot_guard op xx y xs ys W
    have HAT := hide (fun W (h : Arr W g8 32 (slV (slQ n T G S F))) => (h.cell 2).trans (slQ_2 n T G S F))
    have HS := hide hS
    have HA := hide hA
    have HLOK : Hid (w.heap.size ≤ wr.heap.size) := hide hS.be.size
    have hrg := hA.rangeJ
    obtain ⟨q0, q1, q2, q3, q4, q5, q6⟩ := hPK _ hS.be
    have HST : Hid (∀ w3 cs, Arr w3 wr.heap.size 32 cs → Below wr.heap.size wr w3 → Sn w w3 p D ∧ Arr w3 g8 32 (slV (slQ n T G S F)) ∧ Below w.heap.size w w3) := hide (fun w3 cs h1 h2 => ⟨HS.out.below h2, HA.out.below h2, (HS.out.below h2).be⟩)
    clear hS hA hQ hq' hT' hj hj2 hok hne hla hn0 hwt hfl htb htk HI hF' hG' hS' hf0
    go_wp2_with (first
      | (refine wpList_loadJ rfl 32 (.tmp 8) rfl _ 0 rfl _ _ hrg Tryd.underlying32 rfl hinf1 ?_)
      | (refine wpList_allocJ rfl 32 rfl infoSlo ?_)
      | (refine wpList_storeJ rfl (.tmp 10) (.tmp 42) 32 rfl rfl rfl (Arr.new wr z105 32) hinf1 hlen1 hone1 ?_; intro w3 hA3 hg3
         have hB3 : Below wr.heap.size wr w3 := jbelow_grown (jalloc_below wr _) hg3 (jalloc_below wr _).size (Nat.le_refl _)
         obtain ⟨hS3, hA83, hb3⟩ := unhide HST w3 _ hA3 hB3
         have c2 := unhide HAT w3 hA83
         have HA3 := hide hA3
         have HB3 := hide hB3
         clear hA3 hg3 hB3 hS3 hA83 hb3)
      | (refine wpList_setN rfl (.tmp 46) (.tmp 45) 3 rfl (v := .int .i64 T') rfl rfl HA3.out (by rw [slQ_len]; decide) infoI1 rfl ?_; intro w4 hA4 hg4
         rw [slQ_t] at hA4
         have hB4 : Below wr.heap.size wr w4 := jbelow_grown HB3.out hg4 HB3.out.size (Nat.le_refl _)
         have q0 := (hPK _ (unhide HST w4 _ hA4 hB4).2.2).1
         have HA4 := hide hA4
         have HB4 := hide hB4
         clear hA4 hg4 hB4 HA3 HB3 c2)
      | (refine wpList_setN rfl (.tmp 53) (.tmp 52) 3 rfl (v := .int .i64 (G' : Int)) rfl rfl HA4.out (by rw [slQ_len]; decide) infoI1 rfl ?_; intro w5 hA5 hg5
         rw [slQ_g] at hA5
         have hB5 : Below wr.heap.size wr w5 := jbelow_grown HB4.out hg5 HB4.out.size (Nat.le_refl _)
         have q1 := (hPK _ (unhide HST w5 _ hA5 hB5).2.2).2.1
         have HA5 := hide hA5
         have HB5 := hide hB5
         clear hA5 hg5 hB5 HA4 HB4 q0)
      | (refine wpList_setN rfl (.tmp 60) (.tmp 59) 3 rfl (v := .int .i64 (S' : Int)) rfl rfl HA5.out (by rw [slQ_len]; decide) infoI1 rfl ?_; intro w6 hA6 hg6
         rw [slQ_s] at hA6
         have hB6 : Below wr.heap.size wr w6 := jbelow_grown HB5.out hg6 HB5.out.size (Nat.le_refl _)
         have q2 := (hPK _ (unhide HST w6 _ hA6 hB6).2.2).2.2.1
         have HA6 := hide hA6
         have HB6 := hide hB6
         clear hA6 hg6 hB6 HA5 HB5 q1)
      | (refine wpList_setN rfl (.tmp 69) (.tmp 67) 3 rfl (v := .int .i64 F') rfl rfl HA6.out (by rw [slQ_len]; decide) infoI1 rfl ?_; intro w7 hA7 hg7
         rw [slQ_f] at hA7
         have hB7 : Below wr.heap.size wr w7 := jbelow_grown HB6.out hg7 HB6.out.size (Nat.le_refl _)
         obtain ⟨hS7, hA87, hb7⟩ := unhide HST w7 _ hA7 hB7
         obtain ⟨_, _, _, q3, _, _, _⟩ := hPK _ hb7
         have hrg7 := hA7.rangeJ
         have HA7 := hide hA7
         have HS7 := hide hS7
         have HA87 := hide hA87
         clear hA7 hg7 hB7 hS7 hA87 hb7 HA6 HB6 q2)
      | (refine wpList_loadJ rfl 32 (.tmp 10) rfl _ 0 rfl _ _ hrg7 Tryd.underlying32 rfl hinf2 ?_)
      | fail)
    refine (unhide HW1 _ HS7.out).mono ?_
    rintro e w8 ⟨rfl, hS8, hC8⟩
    have HS8 := hide hS8
    have HA8 := hide (HA87.out.cj hC8 tdwr_slot)
    have HA10 := hide (HA7.out.cj hC8 tdwr_slot)
    obtain ⟨_, _, _, _, q4, q5, q6⟩ := hPK _ hS8.be
    have HQ6 := hide q6
    clear hS8 hC8 HS7 HA87 HA7 hrg7 q3 q6 HW1 HST
    generalize wr.heap.size = g10 at *
    have HKC := hide hc6
    have HWN : Hid (∀ c, ∀ i, ((stD D j (slL (slQ n T' G' S' F')) c).wr i).length ≤ 68719476736) := hide (fun c i => by
      match c with
      | 0 => show (D.wr i).length ≤ _; rw [HQ.out.wr i]; decide
      | 1 =>
        show (updF D.wr j (D.wr j ++ [(slL (slQ n T' G' S' F'))]) i).length ≤ _
        unfold updF
        split
        · rw [HQ.out.wr j]; simp
        · rw [HQ.out.wr i]; simp
      | c + 2 => exact Nat.zero_le _)
    have HFL : Hid (∀ W, Sn w W p (stD D j (slL (slQ n T' G' S' F')) 1) → Calls Tryd.prog 8 #[.pointer (some ⟨p, 0, none⟩)] W fun e w' => e = .returned (.tuple #[]) ∧ Sn w w' p (stD D j (slL (slQ n T' G' S' F')) 2) ∧ Cj TDk W w') := hide (fun W h => by
      have hfl := HQ.out.fl
      have hkl := HQ.out.kl
      exact sn_flush h (unhide HWN 1) (by show 0 ≤ D.fl; omega) (by show D.fl ≤ _; omega))
    have HCR : Hid (∀ W c, Sn w W p (stD D j (slL (slQ n T' G' S' F')) c) → Calls Tryd.prog 9 #[.pointer (some ⟨p, 0, none⟩), (P k).fv] W fun e w' => e = .returned (.tuple #[]) ∧ Sn w w' p ((stD D j (slL (slQ n T' G' S' F')) c).settle (fun i => (P k).fs.getD i 0)) ∧ Cj TDk W w') := hide (fun W c h => sn_crash h (unhide HWN c) (hPK W h.be).2.2.2.2.2.2 (unhide HFB k hc))
    have HN1 : Hid (∀ c, c ≤ 3 → c ≠ 1 → Nr n k D T G S F T' G' S' F' c (stD D j (slL (slQ n T' G' S' F')) c)) := hide (fun c h3 h1 => by
      by_cases h0 : c = 0
      · subst h0; exact nr_zero HQ.out HKC.out
      · have e : stD D j (slL (slQ n T' G' S' F')) c = stD D j (slL (slQ n T' G' S' F')) 2 := by
          obtain ⟨d, rfl⟩ : ∃ d, c = d + 2 := ⟨c - 2, by omega⟩
          rfl
        rw [e]
        exact nr_two HQ.out HKC.out HT.out HQB.out HJ.out.1 c (by omega))
    have HN2 : Hid (∀ c, c ≤ 3 → Nr n k D T G S F T' G' S' F' c ((stD D j (slL (slQ n T' G' S' F')) c).settle (fun i => (P k).fs.getD i 0))) := hide (fun c h3 => by
      by_cases h0 : c = 0
      · subst h0; exact nr_zeroC HQ.out HKC.out (fun i => (P k).fs.getD i 0)
      · by_cases h1 : c = 1
        · subst h1; exact nr_oneC HQ.out HKC.out HT.out HQB.out HJ.out.1 HJ.out.2 (fun i => (P k).fs.getD i 0)
        · have e : stD D j (slL (slQ n T' G' S' F')) c = stD D j (slL (slQ n T' G' S' F')) 2 := by
            obtain ⟨d, rfl⟩ : ∃ d, c = d + 2 := ⟨c - 2, by omega⟩
            rfl
          rw [e]
          exact nr_more (nr_two HQ.out HKC.out HT.out HQB.out HJ.out.1 c (by omega)) (fun _ => rfl) ((flush_la _).trans HQ.out.la) HN0.out.1 (fun i => (P k).fs.getD i 0))
    have HC3 := hide hc3
    clear hc3
    go_upto_region 19 with fail
    go_cut [91] from 32 to 143 (fun a wc => ∃ ff : Bool, a = .bool ff ∧ (ff = true → c = 1) ∧ (ff = false → c = 1 → cr = 1) ∧ w8 = wc)
    case first =>
      by_cases h1 : c = 1
      · have hcz : ((c : Int) == 1) = true := by simp; omega
        have H1 := hide h1
        clear h1
        by_cases hr0 : cr = 0
        · have hcr0 : ((cr : Int) == 0) = true := by simp; omega
          clear hr0
          go_wp2
          go_meet
          exact ⟨true, rfl, fun _ => H1.out, (fun h => by cases h), rfl⟩
        · have hcr0 : ((cr : Int) == 0) = false := by simp; omega
          have H2 : Hid (cr = 1) := hide (by omega)
          clear hr0
          go_wp2
          go_meet
          exact ⟨false, rfl, (fun h => by cases h), fun _ _ => H2.out, rfl⟩
      · have hcz : ((c : Int) == 1) = false := by simp; omega
        have H1 := hide h1
        clear h1
        go_wp2
        go_meet
        exact ⟨false, rfl, (fun h => by cases h), fun _ h => absurd h H1.out, rfl⟩
    case rest =>
    obtain ⟨ff, rfl, hf1, hf2, rfl⟩ := hcut
    have HF1 := hide hf1
    have HF2 := hide hf2
    clear hf1 hf2
    go_upto_if 91 with fail
    go_cut [11] from 32 to 143 (fun a wc => ∃ c' : Nat, a = .int .i64 (c' : Int) ∧ c' ≤ 3 ∧ Hid ((c' = 1 → cr = 1) ∧ Sn w wc p (stD D j (slL (slQ n T' G' S' F')) c') ∧ Arr wc g8 32 (slV (slQ n T G S F)) ∧ Arr wc g10 32 (slV (slQ n T' G' S' F'))))
    case first =>
      cases ff with
      | true =>
        have hS8 := HS8.out
        rw [HF1.out rfl] at hS8
        have HS8b := hide hS8
        clear hS8 HS8
        go_wp2_with fail
        refine (unhide HFL _ HS8b.out).mono ?_
        rintro e w9 ⟨rfl, hS9, hC9⟩
        have HX := hide (And.intro hS9 (And.intro (HA8.out.cj hC9 tdk_slot) (HA10.out.cj hC9 tdk_slot)))
        clear hS9 hC9
        go_wp2
        go_meet
        exact ⟨2, rfl, by decide, hide ⟨(fun h => absurd h (by decide)), HX.out⟩⟩
      | false =>
        go_wp2
        go_meet
        exact ⟨c, rfl, HC3.out, hide ⟨fun h => (by first | exact HF2.out rfl h | exact HF2.out trivial h | exact HF2.out h), HS8.out, HA8.out, HA10.out⟩⟩
    case rest =>
    clear HS8 HA8 HA10 HQ6 q4 q5 HF1 HF2 HC3 HFL hc1
    rename World => w9
    obtain ⟨c', rfl, hc3, HX9⟩ := hcut
    obtain ⟨_, _, _, _, q4, q5, _⟩ := hPK _ HX9.out.2.1.be
    have HC3 := hide hc3
    clear hc3
    go_upto_if 100 with fail
    go_cut [11] from 32 to 143 (fun a wc => a = .int .i64 (c' : Int) ∧ Hid (∃ D', Sn w wc p D' ∧ Nr n k D T G S F T' G' S' F' c' D' ∧ Arr wc g8 32 (slV (slQ n T G S F)) ∧ Arr wc g10 32 (slV (slQ n T' G' S' F'))))
    case first =>
      by_cases hr0 : cr = 0
      · have hcr0 : ((cr : Int) == 1) = false := by simp; omega
        have H0 := hide hr0
        clear hr0
        go_wp2
        go_meet
        exact ⟨rfl, hide ⟨_, HX9.out.2.1, unhide HN1 c' HC3.out (fun h => by have := HX9.out.1 h; have := H0.out; omega), HX9.out.2.2⟩⟩
      · have hcr0 : ((cr : Int) == 1) = true := by simp; omega
        clear hr0
        go_wp2_with fail
        refine (unhide HCR _ _ HX9.out.2.1).mono ?_
        rintro e w10 ⟨rfl, hS9, hC9⟩
        have HX := hide (And.intro hS9 (And.intro (HX9.out.2.2.1.cj hC9 tdk_slot) (HX9.out.2.2.2.cj hC9 tdk_slot)))
        clear hS9 hC9
        go_wp2
        go_meet
        exact ⟨rfl, hide ⟨_, HX.out.1, unhide HN2 c' HC3.out, HX.out.2⟩⟩
    case rest =>
    clear HX9 q4 q5 HC3 HCR HN1 HN2 HWN hPK hcr1 hg1 hs1 hf1
    obtain ⟨rfl, HX⟩ := hcut
    obtain ⟨Dx, hSX, hNR, hAX8, hAX10⟩ := HX.out
    have HSX := hide hSX
    have HAX8 := hide hAX8
    have HAX10 := hide hAX10
    clear hSX hAX8 hAX10 HX
    rcases hNR.sit with ⟨hq1, hrd1, hcc⟩ | ⟨hq1, hrd1, hcc⟩
    · clear hNR
      have hc22 : decide ((2 : Int) ≤ (c' : Int)) = false := by simp; omega
      by_cases h0 : c' = 0
      · have hc00 : ((c' : Int) == 0) = true := by simp; omega
        clear h0 hcc
        have HRD : Hid (∀ W, Sn w W p Dx → Calls Tryd.prog 10 #[.pointer (some ⟨p, 0, none⟩)] W fun e w' => e = .returned (.tuple #[.agg (slV (slQ n T G S F)).toArray, .int .i64 0]) ∧ Sn w w' p (Dx.sds 2) ∧ Cj TDk W w') := hide (fun W h => by
          have := sread_calls h HTB.out hq1.rd.1 (by have := hq1.rd; have := hq1.kl; omega)
          rw [hq1.la, hq1.cnt] at this
          exact this)
        have HNX : Hid (∀ W, Sn w W p (Dx.sds 2) → Arr W g8 32 (slV (slQ n T G S F)) → NI w W p g8 n (k + 1)) := hide (fun W h1 h2 => ⟨_, _, _, _, _, h1, hq1.up (Dx.sds 2) (k + 1) (Nat.le_refl _) hq1.kl rfl rfl ⟨by have := hq1.rd; show 0 ≤ Dx.rd + ((2 : Nat) : Int); omega, by have := hq1.rd; show Dx.rd + ((2 : Nat) : Int) ≤ _; omega⟩ rfl rfl, h2⟩)
        have hlenx : z105.length = (slV (slQ n T G S F)).length := by rw [slQ_len]; rfl
        have honex := slV_one (slQ n T G S F)
        clear hq1 hrd1
        go_wp2_with fail
        refine (unhide HRD _ HSX.out).mono ?_
        rintro e w10 ⟨rfl, hS10, hC10⟩
        have HA8b := hide (HAX8.out.cj hC10 tdk_slot)
        have HA10b := hide (HAX10.out.cj hC10 tdk_slot)
        have HS10 := hide hS10
        have HX : Hid (∀ w11, Arr w11 w10.heap.size 32 (slV (slQ n T G S F)) → (w10.alloc (.cells z105.toArray 32)).grownBy w11 (some w10.heap.size) → w11.rangeAt w10.heap.size 0 (slV (slQ n T G S F)) ∧ Arr w11 g8 32 (slV (slQ n T G S F)) ∧ w11.rangeAt g10 0 (slV (slQ n T' G' S' F')) ∧ Sn w w11 p (Dx.sds 2)) := hide (fun w11 h1 h2 => by
          have hba := jalloc_below w10 (.cells z105.toArray 32)
          have hb := jbelow_grown hba h2 hba.size (Nat.le_refl _)
          exact ⟨h1.rangeJ, HA8b.out.below hb, (HA10b.out.below hb).rangeJ, HS10.out.below hb⟩)
        clear hS10 hC10 HRD HSX HAX8 HAX10
        go_wp2_with (first
          | (refine wpList_allocJ rfl 32 rfl infoSlo ?_)
          | (refine wpList_storeJ rfl (.tmp 12) (.tmp 111) 32 rfl rfl rfl (Arr.new w10 z105 32) hinf1 hlenx honex ?_; intro w11 hA11 hg11
             obtain ⟨hr12, hAr8, hr10, hS11⟩ := unhide HX w11 hA11 hg11
             have hr8 := hAr8.rangeJ
             have HAR8 := hide hAr8
             have HS11 := hide hS11
             clear hA11 hg11 hAr8 hS11 HX)
          | (refine wpList_loadOnS (by rfl) 32 (.tmp 12) rfl _ 0 rfl (slV (slQ n T G S F)) _ hr12 Tryd.underlying32 rfl hinf1 ?_)
          | (refine wpList_loadOnS (by rfl) 32 (.tmp 8) rfl _ 0 rfl (slV (slQ n T G S F)) _ hr8 Tryd.underlying32 rfl hinf1 ?_)
          | (refine wpList_loadOnS (by rfl) 32 (.tmp 10) rfl _ 0 rfl (slV (slQ n T' G' S' F')) _ hr10 Tryd.underlying32 rfl hinf2 ?_)
          | (refine wpList_storeJ rfl (.tmp 8) (.tmp 143) 32 rfl rfl rfl HAR8.out hinf1 (by first | rfl | simp only [slQ_len]) honex ?_; intro w12 hA12 hg12
             have HI12 := hide (unhide HNX w12 (HS11.out.set hg12 HAR8.out tdk_slot HLO.out) hA12)
             clear hA12 hg12 HS11 HAR8 hr12 hr8 hr10 HNX)
          | fail)
        go_roundw
        case rel => exact ⟨k + 1, by omega, by go_num, HI12⟩
        case measure => simp [intOf]; omega
      · have hc00 : ((c' : Int) == 0) = false := by simp; omega
        clear h0 hcc
        have HRD : Hid (∀ W, Sn w W p Dx → Calls Tryd.prog 10 #[.pointer (some ⟨p, 0, none⟩)] W fun e w' => e = .returned (.tuple #[.agg (slV (slQ n T G S F)).toArray, .int .i64 0]) ∧ Sn w w' p (Dx.sds 2) ∧ Cj TDk W w') := hide (fun W h => by
          have := sread_calls h HTB.out hq1.rd.1 (by have := hq1.rd; have := hq1.kl; omega)
          rw [hq1.la, hq1.cnt] at this
          exact this)
        have HNX : Hid (∀ W, Sn w W p (Dx.sds 2) → Arr W g8 32 (slV (slQ n T G S F)) → NI w W p g8 n (k + 1)) := hide (fun W h1 h2 => ⟨_, _, _, _, _, h1, hq1.up (Dx.sds 2) (k + 1) (Nat.le_refl _) hq1.kl rfl rfl ⟨by have := hq1.rd; show 0 ≤ Dx.rd + ((2 : Nat) : Int); omega, by have := hq1.rd; show Dx.rd + ((2 : Nat) : Int) ≤ _; omega⟩ rfl rfl, h2⟩)
        have hlenx : z105.length = (slV (slQ n T G S F)).length := by rw [slQ_len]; rfl
        have honex := slV_one (slQ n T G S F)
        clear hq1 hrd1
        go_wp2_with fail
        refine (unhide HRD _ HSX.out).mono ?_
        rintro e w10 ⟨rfl, hS10, hC10⟩
        have HA8b := hide (HAX8.out.cj hC10 tdk_slot)
        have HA10b := hide (HAX10.out.cj hC10 tdk_slot)
        have HS10 := hide hS10
        have HX : Hid (∀ w11, Arr w11 w10.heap.size 32 (slV (slQ n T G S F)) → (w10.alloc (.cells z105.toArray 32)).grownBy w11 (some w10.heap.size) → w11.rangeAt w10.heap.size 0 (slV (slQ n T G S F)) ∧ Arr w11 g8 32 (slV (slQ n T G S F)) ∧ w11.rangeAt g10 0 (slV (slQ n T' G' S' F')) ∧ Sn w w11 p (Dx.sds 2)) := hide (fun w11 h1 h2 => by
          have hba := jalloc_below w10 (.cells z105.toArray 32)
          have hb := jbelow_grown hba h2 hba.size (Nat.le_refl _)
          exact ⟨h1.rangeJ, HA8b.out.below hb, (HA10b.out.below hb).rangeJ, HS10.out.below hb⟩)
        clear hS10 hC10 HRD HSX HAX8 HAX10
        go_wp2_with (first
          | (refine wpList_allocJ rfl 32 rfl infoSlo ?_)
          | (refine wpList_storeJ rfl (.tmp 12) (.tmp 111) 32 rfl rfl rfl (Arr.new w10 z105 32) hinf1 hlenx honex ?_; intro w11 hA11 hg11
             obtain ⟨hr12, hAr8, hr10, hS11⟩ := unhide HX w11 hA11 hg11
             have hr8 := hAr8.rangeJ
             have HAR8 := hide hAr8
             have HS11 := hide hS11
             clear hA11 hg11 hAr8 hS11 HX)
          | (refine wpList_loadOnS (by rfl) 32 (.tmp 12) rfl _ 0 rfl (slV (slQ n T G S F)) _ hr12 Tryd.underlying32 rfl hinf1 ?_)
          | (refine wpList_loadOnS (by rfl) 32 (.tmp 8) rfl _ 0 rfl (slV (slQ n T G S F)) _ hr8 Tryd.underlying32 rfl hinf1 ?_)
          | (refine wpList_loadOnS (by rfl) 32 (.tmp 10) rfl _ 0 rfl (slV (slQ n T' G' S' F')) _ hr10 Tryd.underlying32 rfl hinf2 ?_)
          | (refine wpList_storeJ rfl (.tmp 8) (.tmp 143) 32 rfl rfl rfl HAR8.out hinf1 (by first | rfl | simp only [slQ_len]) honex ?_; intro w12 hA12 hg12
             have HI12 := hide (unhide HNX w12 (HS11.out.set hg12 HAR8.out tdk_slot HLO.out) hA12)
             clear hA12 hg12 HS11 HAR8 hr12 hr8 hr10 HNX)
          | fail)
        go_roundw
        case rel => exact ⟨k + 1, by omega, by go_num, HI12⟩
        case measure => simp [intOf]; omega
    · clear hNR
      have hc00 : ((c' : Int) == 0) = false := by simp; omega
      by_cases h0 : 2 ≤ c'
      · have hc22 : (2 : Int) ≤ (c' : Int) := by omega
        clear h0 hcc
        have HRD : Hid (∀ W, Sn w W p Dx → Calls Tryd.prog 10 #[.pointer (some ⟨p, 0, none⟩)] W fun e w' => e = .returned (.tuple #[.agg (slV (slQ n T' G' S' F')).toArray, .int .i64 0]) ∧ Sn w w' p (Dx.sds 2) ∧ Cj TDk W w') := hide (fun W h => by
          have := sread_calls h HTB.out hq1.rd.1 (by have := hq1.rd; have := hq1.kl; omega)
          rw [hq1.la, hq1.cnt] at this
          exact this)
        have HNX : Hid (∀ W, Sn w W p (Dx.sds 2) → Arr W g8 32 (slV (slQ n T' G' S' F')) → NI w W p g8 n (k + 1)) := hide (fun W h1 h2 => ⟨_, _, _, _, _, h1, hq1.up (Dx.sds 2) (k + 1) (Nat.le_refl _) hq1.kl rfl rfl ⟨by have := hq1.rd; show 0 ≤ Dx.rd + ((2 : Nat) : Int); omega, by have := hq1.rd; show Dx.rd + ((2 : Nat) : Int) ≤ _; omega⟩ rfl rfl, h2⟩)
        have hlenx : z105.length = (slV (slQ n T' G' S' F')).length := by rw [slQ_len]; rfl
        have honex := slV_one (slQ n T' G' S' F')
        clear hq1 hrd1
        go_wp2_with fail
        refine (unhide HRD _ HSX.out).mono ?_
        rintro e w10 ⟨rfl, hS10, hC10⟩
        have HA8b := hide (HAX8.out.cj hC10 tdk_slot)
        have HA10b := hide (HAX10.out.cj hC10 tdk_slot)
        have HS10 := hide hS10
        have HX : Hid (∀ w11, Arr w11 w10.heap.size 32 (slV (slQ n T' G' S' F')) → (w10.alloc (.cells z105.toArray 32)).grownBy w11 (some w10.heap.size) → w11.rangeAt w10.heap.size 0 (slV (slQ n T' G' S' F')) ∧ Arr w11 g8 32 (slV (slQ n T G S F)) ∧ w11.rangeAt g10 0 (slV (slQ n T' G' S' F')) ∧ Sn w w11 p (Dx.sds 2)) := hide (fun w11 h1 h2 => by
          have hba := jalloc_below w10 (.cells z105.toArray 32)
          have hb := jbelow_grown hba h2 hba.size (Nat.le_refl _)
          exact ⟨h1.rangeJ, HA8b.out.below hb, (HA10b.out.below hb).rangeJ, HS10.out.below hb⟩)
        clear hS10 hC10 HRD HSX HAX8 HAX10
        go_wp2_with (first
          | (refine wpList_allocJ rfl 32 rfl infoSlo ?_)
          | (refine wpList_storeJ rfl (.tmp 12) (.tmp 111) 32 rfl rfl rfl (Arr.new w10 z105 32) hinf2 hlenx honex ?_; intro w11 hA11 hg11
             obtain ⟨hr12, hAr8, hr10, hS11⟩ := unhide HX w11 hA11 hg11
             have hr8 := hAr8.rangeJ
             have HAR8 := hide hAr8
             have HS11 := hide hS11
             clear hA11 hg11 hAr8 hS11 HX)
          | (refine wpList_loadOnS (by rfl) 32 (.tmp 12) rfl _ 0 rfl (slV (slQ n T' G' S' F')) _ hr12 Tryd.underlying32 rfl hinf2 ?_)
          | (refine wpList_loadOnS (by rfl) 32 (.tmp 8) rfl _ 0 rfl (slV (slQ n T G S F)) _ hr8 Tryd.underlying32 rfl hinf1 ?_)
          | (refine wpList_loadOnS (by rfl) 32 (.tmp 10) rfl _ 0 rfl (slV (slQ n T' G' S' F')) _ hr10 Tryd.underlying32 rfl hinf2 ?_)
          | (refine wpList_storeJ rfl (.tmp 8) (.tmp 143) 32 rfl rfl rfl HAR8.out hinf2 (by first | rfl | simp only [slQ_len]) honex ?_; intro w12 hA12 hg12
             have HI12 := hide (unhide HNX w12 (HS11.out.set hg12 HAR8.out tdk_slot HLO.out) hA12)
             clear hA12 hg12 HS11 HAR8 hr12 hr8 hr10 HNX)
          | fail)
        go_roundw
        case rel => exact ⟨k + 1, by omega, by go_num, HI12⟩
        case measure => simp [intOf]; omega
      · have hc22 : decide ((2 : Int) ≤ (c' : Int)) = false := by simp; omega
        clear h0 hcc
        have HRD : Hid (∀ W, Sn w W p Dx → Calls Tryd.prog 10 #[.pointer (some ⟨p, 0, none⟩)] W fun e w' => e = .returned (.tuple #[.agg (slV (slQ n T' G' S' F')).toArray, .int .i64 0]) ∧ Sn w w' p (Dx.sds 2) ∧ Cj TDk W w') := hide (fun W h => by
          have := sread_calls h HTB.out hq1.rd.1 (by have := hq1.rd; have := hq1.kl; omega)
          rw [hq1.la, hq1.cnt] at this
          exact this)
        have HNX : Hid (∀ W, Sn w W p (Dx.sds 2) → Arr W g8 32 (slV (slQ n T' G' S' F')) → NI w W p g8 n (k + 1)) := hide (fun W h1 h2 => ⟨_, _, _, _, _, h1, hq1.up (Dx.sds 2) (k + 1) (Nat.le_refl _) hq1.kl rfl rfl ⟨by have := hq1.rd; show 0 ≤ Dx.rd + ((2 : Nat) : Int); omega, by have := hq1.rd; show Dx.rd + ((2 : Nat) : Int) ≤ _; omega⟩ rfl rfl, h2⟩)
        have hlenx : z105.length = (slV (slQ n T' G' S' F')).length := by rw [slQ_len]; rfl
        have honex := slV_one (slQ n T' G' S' F')
        clear hq1 hrd1
        go_wp2_with fail
        refine (unhide HRD _ HSX.out).mono ?_
        rintro e w10 ⟨rfl, hS10, hC10⟩
        have HA8b := hide (HAX8.out.cj hC10 tdk_slot)
        have HA10b := hide (HAX10.out.cj hC10 tdk_slot)
        have HS10 := hide hS10
        have HX : Hid (∀ w11, Arr w11 w10.heap.size 32 (slV (slQ n T' G' S' F')) → (w10.alloc (.cells z105.toArray 32)).grownBy w11 (some w10.heap.size) → w11.rangeAt w10.heap.size 0 (slV (slQ n T' G' S' F')) ∧ Arr w11 g8 32 (slV (slQ n T G S F)) ∧ w11.rangeAt g10 0 (slV (slQ n T' G' S' F')) ∧ Sn w w11 p (Dx.sds 2)) := hide (fun w11 h1 h2 => by
          have hba := jalloc_below w10 (.cells z105.toArray 32)
          have hb := jbelow_grown hba h2 hba.size (Nat.le_refl _)
          exact ⟨h1.rangeJ, HA8b.out.below hb, (HA10b.out.below hb).rangeJ, HS10.out.below hb⟩)
        clear hS10 hC10 HRD HSX HAX8 HAX10
        go_wp2_with (first
          | (refine wpList_allocJ rfl 32 rfl infoSlo ?_)
          | (refine wpList_storeJ rfl (.tmp 12) (.tmp 111) 32 rfl rfl rfl (Arr.new w10 z105 32) hinf2 hlenx honex ?_; intro w11 hA11 hg11
             obtain ⟨hr12, hAr8, hr10, hS11⟩ := unhide HX w11 hA11 hg11
             have hr8 := hAr8.rangeJ
             have HAR8 := hide hAr8
             have HS11 := hide hS11
             clear hA11 hg11 hAr8 hS11 HX)
          | (refine wpList_loadOnS (by rfl) 32 (.tmp 12) rfl _ 0 rfl (slV (slQ n T' G' S' F')) _ hr12 Tryd.underlying32 rfl hinf2 ?_)
          | (refine wpList_loadOnS (by rfl) 32 (.tmp 8) rfl _ 0 rfl (slV (slQ n T G S F)) _ hr8 Tryd.underlying32 rfl hinf1 ?_)
          | (refine wpList_loadOnS (by rfl) 32 (.tmp 10) rfl _ 0 rfl (slV (slQ n T' G' S' F')) _ hr10 Tryd.underlying32 rfl hinf2 ?_)
          | (refine wpList_storeJ rfl (.tmp 8) (.tmp 143) 32 rfl rfl rfl HAR8.out hinf2 (by first | rfl | simp only [slQ_len]) honex ?_; intro w12 hA12 hg12
             have HI12 := hide (unhide HNX w12 (HS11.out.set hg12 HAR8.out tdk_slot HLO.out) hA12)
             clear hA12 hg12 HS11 HAR8 hr12 hr8 hr10 HNX)
          | fail)
        go_roundw
        case rel => exact ⟨k + 1, by omega, by go_num, HI12⟩
        case measure => simp [intOf]; omega
end Go.Proofs.YtpeopejnkbmcdaaDoor

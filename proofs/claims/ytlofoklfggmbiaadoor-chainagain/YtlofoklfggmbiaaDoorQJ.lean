/- chain: the document's Next and Sound. chain: the document's Sound; a copy with room behind it. -/
import Derived.Test.YtlofoklfggmbiaaDoorQI
namespace Go.Proofs.YtlofoklfggmbiaaDoor
open Go.RowKit Go.Maps

theorem fB_consC (v : Int) (n : Nat) : fB v (n + 1) = v % 256 :: fB (v / 256) n := by
 unfold fB
 rw [List.range_succ_eq_map, List.map_cons, List.map_map]
 congr 1
 · simp
 · refine List.map_congr_left fun i _ => ?_
   simp only [Function.comp, Nat.succ_eq_add_one, pow8_succ]
   rw [Int.ediv_ediv_of_nonneg (by decide)]
theorem leN_fBC (v : Int) (n : Nat) : leN (fB v n) = v % 2 ^ (8 * n) := by
 induction n generalizing v with
 | zero => simp [fB, leN, Int.emod_one]
 | succ m ih =>
   rw [fB_consC, leN, ih, pow8_succ]
   have hp : (0 : Int) < 2 ^ (8 * m) := Int.pow_pos (by decide)
   generalize (2 : Int) ^ (8 * m) = p at hp
   have h1 := Int.emod_add_mul_ediv (v / 256) p
   have h2 := Int.emod_nonneg (v / 256) (Int.ne_of_gt hp)
   have h3 := Int.emod_lt_of_pos (v / 256) hp
   have h5 : v = (v % 256 + 256 * ((v / 256) % p)) + 256 * p * (v / 256 / p) := by
    have : 256 * p * (v / 256 / p) = 256 * (p * (v / 256 / p)) := Int.mul_assoc _ _ _
    omega
   have h6 : (v % 256 + 256 * ((v / 256) % p)) % (256 * p) = v % 256 + 256 * ((v / 256) % p) := Int.emod_eq_of_lt (by omega) (by omega)
   conv => rhs; rw [h5]
   rw [Int.add_mul_emod_self_left, h6]
theorem rdF_four {xs : List Int} (h : xs.length = 512) : rdF xs 0 4 = (leN (xs.take 4), 4, 0) := by
 unfold rdF
 rw [if_neg (by omega), if_neg (by omega), if_neg (by omega)]
 simp
theorem secL_take {hash : List Int} (place next : Int) (ps : List Int) : (secL hash place next ps).take 4 = fB next 4 := by
 unfold secL hdL hd28 hd12 hd8
 simp only [List.append_assoc]
 exact List.take_left' (fB_len _ _)
/-- What a sector names; -1: it is none of that piece. -/
def nextI (bs hs : List Int) (le place : Int) : Int := if bs.length = 512 ∧ 0 ≤ place ∧ place < secN le then (if secL hs place (leN (bs.take 4)) ((bs.drop 28).take (cntI le place).toNat) = bs then leN (bs.take 4) else -1) else -1
theorem nextI_iff {bs hs : List Int} {le place next : Int} (hn : okNext le place next) : nextI bs hs le place = next ↔ SoundP bs hs le place next := by
 have hn0 : 0 ≤ next ∧ next < 4294967296 := by rcases hn with h | h <;> omega
 unfold nextI
 by_cases h1 : bs.length = 512 ∧ 0 ≤ place ∧ place < secN le
 · rw [if_pos h1]
   by_cases h2 : secL hs place (leN (bs.take 4)) ((bs.drop 28).take (cntI le place).toNat) = bs
   · rw [if_pos h2]
     refine ⟨fun h => ⟨h1.1, h1.2, hn, by rw [← h]; exact h2.symm⟩, fun h => ?_⟩
     rw [h.2.2.2, secL_take, leN_fBC]
     exact Int.emod_eq_of_lt hn0.1 (by omega)
   · rw [if_neg h2]
     refine ⟨fun h => by omega, fun h => ?_⟩
     have h3 := h.2.2.2
     have h4 : leN (bs.take 4) = next := by
      rw [h3, secL_take, leN_fBC]
      exact Int.emod_eq_of_lt hn0.1 (by omega)
     rw [h4] at h2
     exact absurd h3.symm h2
 · rw [if_neg h1]
   exact ⟨fun h => by omega, fun h => absurd ⟨h.1, h.2.1⟩ h1⟩
set_option maxRecDepth 100000 in
theorem refLength_calls {w : World} {c : Nat} {hs : List Int} {fi le place : Int} (hh : hs.length = 32) (h0 : 0 ≤ place) (h1 : place < secN le) (hc : cntI le place = (c : Int)) :
 Calls Tryd.prog 71 #[.agg (refV hs fi le).toArray, .int .i64 place] w fun e w' => e = .returned (.int .i64 (c : Int)) ∧ Below w.heap.size w w' := by
 have hk := cnt_ok h0 h1
 have hs9 := secN_hi le
 have hb0 := (Below.refl w.heap.size w).alloc (Nat.le_refl _) (.cells (refV hs fi le).toArray 34)
 have hc33 : (w.alloc (.cells (refV hs fi le).toArray 34)).cell? ⟨w.heap.size, 33, none⟩ = some (.int .i64 le) := arr_cell (Arr.new w (refV hs fi le) 34) (refV_33 hh fi le)
 have e1 : IntKind.i64.wrap (480 * place) = place * 480 := by rw [Int.mul_comm]; exact IntWalk.i64_in _ (by omega)
 unfold cntI at hc
 have HB := hide hb0
 clear hb0 hh
 by_cases hlt : le - place * 480 < 480
 · have e2 : IntKind.i64.wrap (le - place * 480) = (c : Int) := by rw [show le - place * 480 = (c : Int) by omega]; exact IntWalk.i64_in _ (by omega)
   have e5 : (c : Int) < 480 := by omega
   clear hk hs9 hc hlt h0 h1
   go_enter Tryd.func71, Tryd.ntmps71
   go_wp2
   go_ret
   exact ⟨rfl, HB.out⟩
 · obtain ⟨x, hx⟩ : ∃ x, x = le - place * 480 := ⟨_, rfl⟩
   have e2 : IntKind.i64.wrap (le - place * 480) = x := by rw [← hx]; exact IntWalk.i64_in _ (by omega)
   have e5 : ¬ x < 480 := by omega
   have e6 : (480 : Int) ≤ x := by omega
   have hc480 : c = 480 := by omega
   subst hc480
   have HX := hide hx
   clear hk hs9 hc hlt hx h0 h1
   go_enter Tryd.func71, Tryd.ntmps71
   go_wp2
   go_ret
   exact ⟨rfl, HB.out⟩
theorem refSector4_enter (v u z q : Value) (W : World) : (callFunc 72 #[v, u, z, q]).run Tryd.prog W = .ok (.enter 72 #[v, u, z, q]) W := by kernel_rfl
set_option maxRecDepth 100000 in
set_option maxHeartbeats 4000000 in
theorem refNext_calls {w : World} {ba : Option Addr} {bn bc : Nat} {bs hs : List Int} {fi le place : Int} (hb : IsB w (.slice ba bn bc) bs) (hh : hs.length = 32) (hhb : ∀ x ∈ hs, 0 ≤ x ∧ x ≤ 255) :
 Calls Tryd.prog 36 #[.slice ba bn bc, .agg (refV hs fi le).toArray, .int .i64 place] w fun e w' => e = .returned (.int .i64 (nextI bs hs le place)) ∧ Below w.heap.size w w' := by
 have hbn : bn = bs.length := hb.lenEq
 subst hbn
 have hb0 := (Below.refl w.heap.size w).alloc (Nat.le_refl _) (.cells (refV hs fi le).toArray 34)
 have hA0 := Arr.new w (refV hs fi le) 34
 have hc33 : (w.alloc (.cells (refV hs fi le).toArray 34)).cell? ⟨w.heap.size, 33, none⟩ = some (.int .i64 le) := arr_cell hA0 (refV_33 hh fi le)
 have HB := hide hb
 have HB0 := hide hb0
 obtain ⟨r, hr⟩ : ∃ r, r = nextI bs hs le place := ⟨_, rfl⟩
 rw [← hr]
 by_cases h1 : bs.length = 512
 · by_cases h2 : place < 0
   · obtain rfl : r = -1 := by rw [hr]; unfold nextI; rw [if_neg (by omega)]
     have h4 : decide (((bs.length : Nat) : Int) ≠ 512) = false := by simp; omega
     clear hb hA0 hb0 hr
     rw [h1] at *
     go_enter Tryd.func36, Tryd.ntmps36
     go_wp2
     go_ret
     exact ⟨rfl, HB0.out⟩
   · have hp0 : 0 ≤ place := by omega
     have h4 : decide (((bs.length : Nat) : Int) ≠ 512) = false := by simp; omega
     have h6 : decide (place < 0) = false := by simpa using h2
     have HSN := hide (fun W => refSectors_calls le W)
     by_cases h5 : place < secN le
     · obtain ⟨hk0, hk1, hk2, hk3⟩ := cnt_ok hp0 h5
       obtain ⟨c, hc⟩ : ∃ c : Nat, cntI le place = (c : Int) := ⟨(cntI le place).toNat, by omega⟩
       have hc4 : c ≤ 480 := by omega
       obtain ⟨bb, bo, rfl, hbc, hbm⟩ : ∃ bb bo, ba = some ⟨bb, bo, none⟩ ∧ 512 ≤ bc ∧ bc ≤ 9223372036854775807 := by
        obtain ⟨_, a', c', hv, h7, h8, _, h9⟩ := hb
        injection hv with e1 e2 e3
        obtain ⟨bb, bo, ha, _⟩ := h9 (by omega)
        exact ⟨bb, bo, e1.trans ha, by omega, by omega⟩
       have hr2 : r = if secL hs place (leN (bs.take 4)) ((bs.drop 28).take c) = bs then leN (bs.take 4) else -1 := by
        rw [hr]
        unfold nextI
        rw [if_pos ⟨h1, hp0, h5⟩, hc]
        rfl
       have hlv := leN_lt (ys := bs.take 4) (fun x hx => hb.mem x (List.mem_of_mem_take hx))
       rw [List.length_take, show min 4 bs.length = 4 by omega] at hlv
       have HRD := hide (fun W (hW : Below w.heap.size w W) => refRFixed_calls (hb.below hW) 0 4)
       rw [rdF_four h1] at HRD
       have HLN : Hid (∀ W, Calls Tryd.prog 71 #[.agg (refV hs fi le).toArray, .int .i64 place] W fun e w' => e = .returned (.int .i64 (c : Int)) ∧ Below W.heap.size W w') := hide (fun W => refLength_calls hh hp0 h5 hc)
       have HR2 := hide hr2
       have hs9 := secN_hi le
       generalize hsn : secN le = sn at *
       have h7 : decide (place ≥ sn) = false := by simp; omega
       have h8 : ¬ place ≥ sn := by omega
       obtain ⟨v, hv⟩ : ∃ v, v = leN (bs.take 4) := ⟨_, rfl⟩
       rw [← hv] at HR2 HRD hlv
       have hwv : IntKind.i64.wrap v = v := IntWalk.i64_in _ (by omega)
       have HL0 := hide h1
       clear hb hA0 hb0 hsn hr hr2 hv hk0 hk1 hk2 hk3 hc
       rw [h1] at *
       have HHB := hide hhb
       have hiK : (Tryd.prog.info? 32).map (·.size) = some (hs.map (Value.int .u8)).length := by rw [List.length_map, hh]; kernel_rfl
       have hiR : (Tryd.prog.info? 34).map (·.size) = some (refV hs fi le).length := by rw [refV_len hh]; kernel_rfl
       obtain ⟨w1, hw1e⟩ : ∃ w1, w1 = w.alloc (.cells (refV hs fi le).toArray 34) := ⟨_, rfl⟩
       obtain ⟨g0, hg0⟩ : ∃ g0, g0 = w.heap.size := ⟨_, rfl⟩
       have hA1 : Arr w1 g0 34 (refV hs fi le) := by rw [hw1e, hg0]; exact Arr.new _ _ _
       have hbw : Below w.heap.size w w1 := by rw [hw1e]; exact HB0.out
       have HBZ : Hid (∀ W, Below w1.heap.size w1 W → Below w.heap.size w W) := hide (fun W hW => hbw.trans (hW.mono hbw.size))
       have HSR : Hid (∀ W, Below w1.heap.size w1 W → W.rangeAt g0 0 (hs.map (Value.int .u8))) := hide (fun W hW => arr_range (hA1.below hW))
       have hrg : w1.rangeAt g0 0 (refV hs fi le) := arr_range (ds := []) (by rw [List.append_nil]; exact hA1)
       obtain ⟨s, hs0⟩ : ∃ s, s = 28 + c := ⟨_, rfl⟩
       have e4 : IntKind.i64.wrap (28 + (c : Int)) = (s : Int) := by rw [show 28 + (c : Int) = (s : Int) by omega]; exact IntWalk.i64_in _ (by omega)
       have hs1 : (28 : Int) ≤ (s : Int) := by omega
       have hs2 : (s : Int) ≤ (bc : Int) := by omega
       have hbn : ¬ bc = 28 := by omega
       have HSQ : Hid (s - 28 = c) := hide (by omega)
       have HLV := hide hlv
       have HC4 := hide hc4
       have HH := hide hh
       have HW1 := hide hw1e
       have HG0 := hide hg0
       have HPL := hide (And.intro hp0 (And.intro h5 hs9))
       clear hA1 hs0 hlv hc4 hhb
       go_enter Tryd.func36, Tryd.ntmps36
       go_wp2_with fail
       refine (unhide HSN _).mono ?_
       rintro e w2 ⟨rfl, hw2⟩
       obtain rfl := hw2.symm
       clear HSN
       go_wp2_with fail
       refine (unhide HRD _ HB0.out).mono ?_
       rintro e w3 ⟨rfl, hw3⟩
       obtain rfl := hw3.symm
       clear HRD
       rw [← hw1e, ← hg0]
       clear hw1e hg0 hc33 HB0
       go_wp2_with (refine wpList_load_mid rfl 34 (.tmp 4) rfl g0 0 rfl (refV hs fi le) _ hrg Tryd.underlying34 rfl hiR ?_)
       refine (unhide HLN _).mono ?_
       rintro e w4 ⟨rfl, hb4⟩
       have HB4 := hide hb4
       have HSS : Hid (∀ W, Below w4.heap.size w4 W → (fun W => W.rangeAt g0 0 (hs.map (Value.int .u8))) W) := hide (fun W hW => unhide HSR W (hb4.trans (hW.mono hb4.size)))
       have HWB : Hid (∀ W, Below w4.heap.size w4 W → Below w.heap.size w W) := hide (fun W hW => unhide HBZ W (hb4.trans (hW.mono hb4.size)))
       have HSC : Hid (∀ W, Below w4.heap.size w4 W → Calls Tryd.prog 72 #[.agg (hs.map (Value.int .u8)).toArray, .int .i64 place, .int .i64 v, .slice (some ⟨bb, bo + 28, none⟩) (s - 28) (bc - 28)] W fun e w' => ∃ u, e = .returned u ∧ Own8 w' W.heap.size u (secL hs place v ((bs.drop 28).take c)) ∧ Below w4.heap.size w4 w') := hide (fun W hW => by
        rw [HSQ.out]
        have h9 : IsB W (.slice (some ⟨bb, bo + 28, none⟩) c (bc - 28)) ((bs.drop 28).take c) := isB_mid (HB.out.below (unhide HWB W hW)) (by have := HC4.out; omega) (by omega)
        have hpl : ((bs.drop 28).take c).length ≤ 480 := by rw [List.length_take, List.length_drop]; have := HC4.out; omega
        exact (refSector_calls h9 hpl HH.out HHB.out HLV.out.1 HLV.out.2 HPL.out.1 (by have := HPL.out; omega)).mono (fun e w' ⟨u, h1, h2, h3⟩ => ⟨u, h1, h2, hW.trans (h3.mono hW.size)⟩))
       clear hb4 HLN hrg
       go_wp2_with fail
       refine wp_region_held_drew (S := fun W => W.rangeAt g0 0 (hs.map (Value.int .u8))) (by kernel_rfl) (unhide HSS _ (Below.refl _ _).drew) (fun hHeld => ?_)
       refine wpAnyH_take (i := 0) (v := .pointer (some ⟨g0, 0, none⟩)) rfl (by kernel_rfl) (by kernel_rfl) (by kernel_rfl) (fun _ _ _ h => h) (Or.inl ⟨by rfl, fun w hSw => by go_simp⟩) (by assumption) ?_
       simp only [fGa, fGz, Act.put, fSa, fSz, fSs]
       refine wpAnyH_take (i := 1) (v := .agg (hs.map (Value.int .u8)).toArray) rfl (by kernel_rfl) (by kernel_rfl) (by kernel_rfl) (fun _ _ _ h => h) (yieldsIf_load_mid (by rfl) _ _ rfl _ _ rfl _ _ (fun w hSw => hSw) Tryd.underlying32 rfl hiK) (by assumption) ?_
       simp only [fGa, fGs, fGz, Act.put, fSa, fSz, fSs]
       refine wpAnyH_take (i := 2) (v := .int .i64 place) rfl (by kernel_rfl) (by kernel_rfl) (by kernel_rfl) (fun _ _ _ h => h) (Or.inl ⟨by rfl, fun w hSw => by go_simp⟩) (by assumption) ?_
       simp only [fGa, fGs, fGz, Act.put, fSa, fSz, fSs]
       refine wpAnyH_take (i := 3) (v := .int .u64 v) rfl (by kernel_rfl) (by kernel_rfl) (by kernel_rfl) (fun _ _ _ h => h) (Or.inl ⟨by rfl, fun w hSw => by go_simp⟩) (by assumption) ?_
       simp only [fGa, fGs, fGz, Act.put, fSa, fSz, fSs]
       refine wpAnyH_take (i := 4) (v := .int .i64 v) rfl (by kernel_rfl) (by kernel_rfl) (by kernel_rfl) (fun _ _ _ h => h) (Or.inl ⟨by rfl, fun w hSw => by go_simp⟩) (by assumption) ?_
       simp only [fGa, fGs, fGz, Act.put, fSa, fSz, fSs]
       refine wpAnyH_take (i := 5) (v := .slice (some ⟨bb, bo, none⟩) 512 bc) rfl (by kernel_rfl) (by kernel_rfl) (by kernel_rfl) (fun _ _ _ h => h) (Or.inl ⟨by rfl, fun w hSw => by go_simp⟩) (by assumption) ?_
       simp only [fGa, fGs, fGz, Act.put, fSa, fSz, fSs]
       refine wpAnyH_take (i := 6) (v := .int .i64 (c : Int)) rfl (by kernel_rfl) (by kernel_rfl) (by kernel_rfl) (fun _ _ _ h => h) (Or.inl ⟨by rfl, fun w hSw => by go_simp⟩) (by assumption) ?_
       simp only [fGa, fGs, fGz, Act.put, fSa, fSz, fSs]
       refine wpAnyH_take (i := 7) (v := .int .i64 (s : Int)) rfl (by kernel_rfl) (by kernel_rfl) (by kernel_rfl) (fun _ _ _ h => h) (Or.inl ⟨by rfl, fun w hSw => by go_simp⟩) (by assumption) ?_
       simp only [fGa, fGs, fGz, Act.put, fSa, fSz, fSs]
       refine wpAnyH_take (i := 8) (v := .slice (some ⟨bb, bo + 28, none⟩) (s - 28) (bc - 28)) rfl (by kernel_rfl) (by kernel_rfl) (by kernel_rfl) (fun _ _ _ h => h) (Or.inl ⟨by rfl, fun w hSw => by go_simp⟩) (by assumption) ?_
       simp only [fGa, fGs, fGz, Act.put, fSa, fSz, fSs]
       refine wpAnyH_ready (rs := [9]) (by kernel_rfl) (by simp) (AllReadyH.cons rfl (fun K hK => ?_) AllReadyH.nil)
       refine step_call4C (by rfl) 72 refSector4_enter (.tmp 36) (.tmp 37) (.tmp 39) (.tmp 43) _ rfl rfl rfl rfl rfl (unhide HSC _ (Below.refl _ _).drew) ?_
       rintro e w5 ⟨v5, rfl, ho5, hb5⟩
       obtain ⟨a5, m5, c5, rfl⟩ := ho5.shape
       refine ⟨_, rfl, ?_⟩
       refine hK.out _ _ (unhide HSS _ hb5) (fun hHeld2 => ?_)
       clear hK K
       simp only [fGa, fGs, fGz, Act.put, fSa, fSz, fSs]
       refine wpAnyH_take (i := 10) (v := .slice a5 m5 c5) rfl (by kernel_rfl) (by kernel_rfl) (by kernel_rfl) (fun _ _ _ h => h) (Or.inl ⟨by rfl, fun w hSw => by go_simp⟩) (by assumption) ?_
       simp only [fGa, fGs, fGz, Act.put, fSa, fSz, fSs]
       refine wpAnyH_done (by kernel_rfl) ?_ _
       clear hHeld hHeld2
       have HB5 := hide (unhide HWB _ hb5)
       have hc1 := conv_isB ho5.isB
       have hc2 := conv_isB (HB.out.below HB5.out)
       by_cases heq : secL hs place v ((bs.drop 28).take c) = bs
       · have hr3 := HR2.out
         rw [if_pos heq] at hr3
         rw [heq] at hc1
         have hq : ((mkS bs).toList == (mkS bs).toList) = true := by simp
         generalize mkS bs = st at *
         subst hr3
         clear HR2 heq HSC HSS ho5 hb5
         go_wp2
         go_ret
         exact ⟨rfl, HB5.out⟩
       · have hr3 := HR2.out
         rw [if_neg heq] at hr3
         have hq : ((mkS (secL hs place v ((bs.drop 28).take c))).toList == (mkS bs).toList) = false := by
          rw [Bool.eq_false_iff, ne_eq, beq_iff_eq, ByteArray.toList_eq, ByteArray.toList_eq]
          exact fun h => heq (mkS_inj ho5.isB.mem (HB.out.below HB5.out).mem (congrArg ByteArray.mk (Array.toList_inj.1 h)))
         generalize mkS (secL hs place v ((bs.drop 28).take c)) = s1 at *
         generalize mkS bs = s2 at *
         subst hr3
         clear HR2 heq HSC HSS ho5 hb5
         go_wp2
         go_ret
         exact ⟨rfl, HB5.out⟩
     · obtain rfl : r = -1 := by rw [hr]; unfold nextI; rw [if_neg (by omega)]
       clear hr
       generalize secN le = sn at *
       have h7 : place ≥ sn := by omega
       clear hb hA0 hb0
       rw [h1] at *
       go_enter Tryd.func36, Tryd.ntmps36
       go_wp2_with fail
       refine (unhide HSN _).mono ?_
       rintro e w1 ⟨rfl, hw1⟩
       obtain rfl := hw1.symm
       go_wp2
       go_ret
       exact ⟨rfl, HB0.out⟩
 · obtain rfl : r = -1 := by rw [hr]; unfold nextI; rw [if_neg (by omega)]
   have h4 : ¬ ((bs.length : Nat) : Int) = 512 := by omega
   clear hb hA0 hb0 hr
   go_enter Tryd.func36, Tryd.ntmps36
   go_wp2
   go_ret
   exact ⟨rfl, HB0.out⟩
end Go.Proofs.YtlofoklfggmbiaaDoor

namespace Go.Proofs.YtlofoklfggmbiaaDoor
open Go.RowKit Go.Maps

end Go.Proofs.YtlofoklfggmbiaaDoor

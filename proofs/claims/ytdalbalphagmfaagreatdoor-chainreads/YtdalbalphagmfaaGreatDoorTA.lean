/- ChainReads: the document's look at a sector. ChainReads: the document's reading beside the program's: the pure part. -/
import Derived.Test.YtdalbalphagmfaaGreatDoorSN
namespace Go.Proofs.YtdalbalphagmfaaGreatDoor
open Go.RowKit Go.Maps

/-- What a look at a sector comes to: the piece, and the sector that is named. -/
def lookI (b hs : List Int) (le : Int) (place heap sd : Nat) (seen : List Nat) : Option (List Int × Nat) :=
 if nextI b hs le (place : Int) < 0 then none
 else if (place : Int) = secN le - 1 then (if nextI b hs le (place : Int) = 0 then some (partOf b le place, 0) else none)
 else if (heap : Int) ≤ nextI b hs le (place : Int) ∧ nextI b hs le (place : Int) < (sd : Int) ∧ ∀ m ∈ seen, (m : Int) ≠ nextI b hs le (place : Int) then some (partOf b le place, (nextI b hs le (place : Int)).toNat) else none
set_option maxRecDepth 100000 in
set_option maxHeartbeats 2000000 in
theorem in6_calls {w : World} {B : Nat} {v : Value} {ks : List Nat} (h : Row w B 3 v (iV ks)) (x : Int) : Calls Tryz.prog 102 #[v, .int .i64 x] w fun e w' => e = .returned (.bool (!decide (∀ m ∈ ks, (m : Int) ≠ x))) ∧ w' = w := by
 obtain ⟨a, c, hv⟩ := h.shape
 rw [iV_len] at hv
 subst hv
 obtain ⟨k, hk⟩ : ∃ k, ks.length = k := ⟨_, rfl⟩
 rw [hk] at h ⊢
 have hcel : 0 < k → ∃ g, a = some ⟨g, 0, none⟩ ∧ k ≤ c ∧ c ≤ 9223372036854775807 ∧ ∀ j, j < k → w.cell? ⟨g, j, none⟩ = some (.int .i64 ((ks.getD j 0 : Nat) : Int)) := fun h0 => by
  rcases h.2 with ⟨_, h1⟩ | ⟨g, cap, cur, hv, _, _, q1, q2, _⟩
  · rw [iV_len] at h1; omega
  · injection hv with e1 e2 e3
    subst e1 e3
    rw [iV_len, hk] at q1
    refine ⟨g, rfl, by omega, by unfold maxLen at q2; omega, fun j hj => ?_⟩
    rw [h.cellAt (by rw [iV_len, hk]; exact hj)]
    exact iV_at (by omega)
 have HC := hide hcel
 have HK := hide hk
 clear h hcel hk
 go_enter Tryz.func102, Tryz.ntmps102
 go_wp2
 go_loopw [5] (fun iv W => ∃ i : Nat, i ≤ k ∧ iv = .int .i64 (i : Int) ∧ Hid (∀ m ∈ ks.take i, (m : Int) ≠ x) ∧ W = w) (fun iv _ => k - (intOf iv).toNat)
 case atStart => exact ⟨0, by omega, rfl, hide (by simp), rfl⟩
 case round =>
  obtain ⟨i, hi, rfl, HI, hwr⟩ := hrel
  obtain rfl := hwr.symm
  by_cases hlt : i < k
  · obtain ⟨g, hg, hkc, hcm, hcs⟩ := unhide HC (by omega)
    subst hg
    obtain ⟨y, hy⟩ : ∃ y, ks.getD i 0 = y := ⟨_, rfl⟩
    have hci := hcs i hlt
    rw [hy] at hci
    have hltI : (i : Int) < (k : Int) := by omega
    have hyk : y ∈ ks := by rw [← hy]; exact getD_mem (by have := HK.out; omega)
    have HT : Hid (ks.take (i + 1) = ks.take i ++ [y]) := hide (by rw [take_succD (by have := HK.out; omega), hy])
    clear hcs HC hwr
    by_cases e : (y : Int) = x
    · have HF : Hid ((!decide (∀ m ∈ ks, (m : Int) ≠ x)) = true) := hide (by
       rw [decide_eq_false (fun h => h y hyk e)]; rfl)
      subst e
      clear hy hyk
      go_wp2
      go_ret
      exact ⟨by rw [HF.out]; rfl, rfl⟩
    · have HN : Hid (∀ m ∈ ks.take (i + 1), (m : Int) ≠ x) := hide (fun m hm => by
       rw [HT.out] at hm
       rcases List.mem_append.1 hm with hm | hm
       · exact HI.out m hm
       · rw [List.mem_singleton.1 hm]; exact e)
      clear hy hyk
      go_wp2
      go_roundw
      case rel => exact ⟨i + 1, by omega, by go_num, HN, trivial⟩
      case measure => simp [intOf]; omega
  · have HF : Hid ((!decide (∀ m ∈ ks, (m : Int) ≠ x)) = false) := hide (by
     have h := HI.out
     rw [List.take_of_length_le (by have := HK.out; omega)] at h
     rw [decide_eq_true h]; rfl)
    clear HC hwr
    go_wp2
    go_ret
    exact ⟨by rw [HF.out]; rfl, rfl⟩
set_option maxRecDepth 100000 in
theorem part6_calls {w : World} {a : Option Addr} {n c lo hi : Nat} {bs : List Int} (h : IsB w (.slice a n c) bs) (h1 : lo ≤ hi) (h2 : hi ≤ n) (h3 : n ≤ 1000000) : Calls Tryz.prog 103 #[.slice a n c, .int .i64 (lo : Int), .int .i64 (hi : Int)] w fun e w' => ∃ v, e = .returned v ∧ Own8 w' w.heap.size v ((bs.drop lo).take (hi - lo)) ∧ Below w.heap.size w w' := by
 have hnc : n ≤ c := by
  obtain ⟨_, a2, c2, hv2, hc2, _⟩ := id h
  injection hv2 with f1 f2 f3
  omega
 have hsl := fun W => slice_lh a n c lo hi h1 (by omega) W
 have HI := hide (h.sub h1 h2)
 obtain ⟨pa, hpa⟩ : ∃ pa, subA a c lo = pa := ⟨_, rfl⟩
 obtain ⟨pn, hpn⟩ : ∃ pn, hi - lo = pn := ⟨_, rfl⟩
 obtain ⟨pc, hpc⟩ : ∃ pc, c - lo = pc := ⟨_, rfl⟩
 rw [hpa, hpn, hpc] at HI
 rw [hpa, hpn, hpc] at hsl
 rw [hpn]
 have hO : Own8 w w.heap.size (.slice none 0 0) [] := ⟨World.ownsRow_nil _ _ _ _, by simp⟩
 have HO := hide hO
 have hl : ([] : List Int).length + ((bs.drop lo).take pn).length ≤ 140737488355328 := by rw [List.length_take]; simp; omega
 clear h h1 h2 hnc hpa hpc hO
 go_enter Tryz.func103, Tryz.ntmps103
 go_wp2_with (at_builtin; refine wpList_appB rfl (.tmp 8) (.tmp 12) rfl rfl HO.out rfl HI.out hl (Nat.le_refl _) ?_; intro v3 w3 ho3 hg3
              have HO3 := hide ho3
              have HB3 : Hid (Below w.heap.size w w3) := hide ((Below.refl _ _).grown hg3 (Nat.le_refl _) (fun q hq => by cases hq))
              clear ho3 hg3)
 go_ret
 exact ⟨v3, rfl, by have := HO3.out; simpa using this, HB3.out⟩
/-- What Look answers. -/
structure LookP (bs hs : List Int) (le : Int) (place heap sd : Nat) (seen : List Nat) (w w' : World) (r : Value) : Prop where
 no : lookI bs hs le place heap sd seen = none → r = .tuple #[.slice none 0 0, .int .i64 0, .bool false]
 yes : ∀ pt nx, lookI bs hs le place heap sd seen = some (pt, nx) → ∃ v B', r = .tuple #[v, .int .i64 (nx : Int), .bool true] ∧ Own8 w' B' v pt ∧ w.heap.size ≤ B'
 bel : Below w.heap.size w w'
set_option maxRecDepth 100000 in
set_option maxHeartbeats 8000000 in
theorem look6_calls {w : World} {ba : Option Addr} {bn bc place heap sd B : Nat} {bs hs : List Int} {fi le : Int} {sv : Value} {seen : List Nat} (hb : IsB w (.slice ba bn bc) bs) (hh : hs.length = 32) (hhb : ∀ x ∈ hs, 0 ≤ x ∧ x ≤ 255) (hp : (place : Int) < secN le) (hsn : Row w B 3 sv (iV seen)) :
 Calls Tryz.prog 77 #[.slice ba bn bc, .agg (refV hs fi le).toArray, .int .i64 (place : Int), .int .i64 (heap : Int), .int .i64 (sd : Int), sv] w fun e w' => ∃ r, e = .returned r ∧ LookP bs hs le place heap sd seen w w' r := by
 obtain ⟨S, hS⟩ : ∃ S, w.heap.size = S := ⟨_, rfl⟩
 obtain ⟨w1, hw1⟩ : ∃ w1, w.alloc (.cells (refV hs fi le).toArray 38) = w1 := ⟨_, rfl⟩
 have hb1 : Below w.heap.size w w1 := by rw [← hw1]; exact (Below.refl _ _).alloc (Nat.le_refl _) _
 have hA1 : Arr w1 S 38 (refV hs fi le) := by rw [← hw1, ← hS]; exact Arr.new w _ _
 have hsh := secN_hi le
 have hslo := secN_lo le
 have HSH : Hid (0 ≤ secN le ∧ secN le ≤ 2185) := hide ⟨hslo, hsh⟩
 have HNX := hide (refNext_calls (fi := fi) (le := le) (place := (place : Int)) (hb.below hb1) hh hhb)
 obtain ⟨v, hv⟩ : ∃ v, nextI bs hs le (place : Int) = v := ⟨_, rfl⟩
 have hvb : -1 ≤ v ∧ v < 4294967296 := by
  rw [← hv]
  unfold nextI
  have h4 : 0 ≤ leN (bs.take 4) ∧ leN (bs.take 4) < 4294967296 := leN4 hb.mem
  split
  · split <;> omega
  · omega
 rw [hv] at HNX
 have HOK : Hid (0 ≤ v → bn = 512 ∧ ∃ cn : Nat, cntI le (place : Int) = (cn : Int) ∧ cn ≤ 480 ∧ ∀ W, Calls Tryz.prog 104 #[.agg (refV hs fi le).toArray, .int .i64 (place : Int)] W fun e w' => e = .returned (.int .i64 (cn : Int)) ∧ Below W.heap.size W w') := hide (fun h0 => by
  have h512 : bs.length = 512 := by
   rw [← hv] at h0
   unfold nextI at h0
   by_cases hc : bs.length = 512 ∧ 0 ≤ (place : Int) ∧ (place : Int) < secN le
   · exact hc.1
   · rw [if_neg hc] at h0; omega
  have hc := cnt_ok (le := le) (place := (place : Int)) (by omega) hp
  refine ⟨by rw [hb.lenEq]; exact h512, (cntI le (place : Int)).toNat, by omega, by omega, fun W => refLength_calls hh (by omega) hp (by omega)⟩)
 have HIN : Hid (∀ W, Below w.heap.size w W → Calls Tryz.prog 102 #[sv, .int .i64 v] W fun e w' => e = .returned (.bool (!decide (∀ m ∈ seen, (m : Int) ≠ v))) ∧ w' = W) := hide (fun W hW => in6_calls (owns_up hsn (Up.of_below (F := fun _ => False) hW) (fun _ _ h => h)) v)
 obtain ⟨RV, hRV⟩ : ∃ RV, refV hs fi le = RV := ⟨_, rfl⟩
 have hiR : (Tryz.prog.info? 38).map (·.size) = some RV.length := by rw [← hRV]; exact infoRef hh _ _
 have hle : w1.cell? ⟨S, 33, none⟩ = some (.int .i64 le) := arr_cell hA1 (by unfold refV; rw [List.getElem?_append_right (by simp [hh])]; simp [hh])
 rw [hRV] at hA1 hw1 HNX HOK
 rw [hRV]
 have HRG : Hid (∀ W, Below w1.heap.size w1 W → W.rangeAt S 0 RV) := hide (fun W hW => arr_range (ds := []) (by rw [List.append_nil]; exact hA1.below hW))
 have hrg1 : w1.rangeAt S 0 RV := arr_range (ds := []) (by rw [List.append_nil]; exact hA1)
 have HA1 := hide hA1
 have HLE := hide hle
 have HIB := hide hb
 have HW1 := hide hw1
 have HS := hide hS
 have HB1 := hide hb1
 obtain ⟨sa, sn, sc, rfl⟩ := hsn.shape
 clear hb hb1 hA1 hw1 hS hsn hsh hslo hle hhb hRV
 go_enter Tryz.func77, Tryz.ntmps77
 go_wp2_with (first
  | rw [HW1.out, HS.out]
  | refine wpList_load_mid rfl 38 (.tmp 7) rfl S 0 rfl RV _ hrg1 Tryz.underlying38 rfl hiR ?_)
 refine (unhide HNX).mono ?_
 rintro e w9 ⟨rfl, hb9⟩
 have HB19 := hide hb9
 have HB9 := hide (HB1.out.trans (hb9.mono HB1.out.size))
 have hle9 := bkeptC hb9 HLE.out
 clear HNX hb9 hrg1
 by_cases a1 : (heap : Int) ≤ v
 · by_cases a2 : v < (sd : Int)
   · go_wp2_with fail
     refine (unhide HIN w9 HB9.out).mono ?_
     rintro e wn ⟨rfl, hwn⟩
     obtain rfl := hwn.symm
     clear hwn
     by_cases a3 : ∀ m ∈ seen, (m : Int) ≠ v
     · rw [decide_eq_true a3]
       have A3 := hide a3
       clear a3
       go_wp2_with fail
       have a3 := A3.out
       refine (refSectors_calls _ _).mono ?_
       rintro e wn ⟨rfl, hwn⟩
       obtain rfl := hwn.symm
       clear hwn
       by_cases hla : (place : Int) = secN le - 1
       · have hlaI : IntKind.i64.wrap (secN le - 1) = (place : Int) := by rw [IntKind.wrap_i64]; have := HSH.out; omega
         by_cases hv0 : v = 0
         · subst hv0
           have HLY : Hid (lookI bs hs le place heap sd seen = some (partOf bs le place, 0)) := hide (by unfold lookI; rw [hv]; rw [if_neg (by omega), if_pos hla, if_pos rfl])
           obtain ⟨hb512, cn, hcn, hcn2, HLC⟩ := unhide HOK (by omega)
           subst hb512
           have HLC := hide HLC
           have HCN := hide hcn
           have e28 : IntKind.i64.wrap (28 + (cn : Int)) = ((28 + cn : Nat) : Int) := by rw [IntKind.wrap_i64]; omega
           have hrg : w9.rangeAt S 0 RV := unhide HRG w9 HB19.out
           clear hv hla hcn HOK HIN
           go_wp2_with (refine wpList_load_mid rfl 38 (.tmp 7) rfl S 0 rfl RV _ hrg Tryz.underlying38 rfl hiR ?_)
           refine (unhide HLC w9).mono ?_
           rintro e w10 ⟨rfl, hb10⟩
           have hbw10 : Below w.heap.size w w10 := HB9.out.trans (hb10.mono HB9.out.size)
           have HPT := hide (part6_calls (HIB.out.below hbw10) (lo := 28) (hi := 28 + cn) (by omega) (by omega) (by omega))
           have HB10 := hide hbw10
           clear hb10 hbw10 hrg
           go_wp2_with fail
           refine (unhide HPT).mono ?_
           rintro e w11 ⟨v11, rfl, ho11, hb11⟩
           have HO11 := hide ho11
           have HB11 := hide (HB10.out.trans (hb11.mono HB10.out.size))
           clear ho11 hb11 HPT
           go_wp2
           go_ret3
           refine ⟨_, rfl, ⟨fun h => (by rw [HLY.out] at h; cases h), fun pt nx h => ?_, HB11.out⟩⟩
           rw [HLY.out] at h
           injection h with h
           injection h with h1 h2
           subst h1 h2
           have ho := HO11.out
           rw [show 28 + cn - 28 = cn by omega] at ho
           refine ⟨v11, w10.heap.size, by rfl, ?_, HB10.out.size⟩
           unfold partOf
           rw [HCN.out, Int.toNat_natCast]
           exact ho
         · have hv0b : (v == 0) = false := by simpa using hv0
           by_cases hvn : v < 0
           · skip
             exact absurd hvn (by omega)
           · skip
             have HLN : Hid (lookI bs hs le place heap sd seen = none) := hide (by unfold lookI; rw [hv]; rw [if_neg hvn, if_pos hla, if_neg hv0])
             clear hv hla
             go_wp2
             go_ret3
             exact ⟨_, rfl, ⟨fun _ => rfl, fun pt nx h => (by rw [HLN.out] at h; cases h), HB9.out⟩⟩
       · obtain ⟨sm, hsm⟩ : ∃ sm, secN le - 1 = sm := ⟨_, rfl⟩
         have hlaI : IntKind.i64.wrap (secN le - 1) = sm := by rw [IntKind.wrap_i64]; have := HSH.out; omega
         have hlaN : ¬ (place : Int) = sm := by omega
         clear hsm
         have HLY : Hid (lookI bs hs le place heap sd seen = some (partOf bs le place, v.toNat)) := hide (by unfold lookI; rw [hv]; rw [if_neg (by omega), if_neg hla, if_pos ⟨a1, a2, a3⟩])
         obtain ⟨hb512, cn, hcn, hcn2, HLC⟩ := unhide HOK (by omega)
         subst hb512
         have HLC := hide HLC
         have HCN := hide hcn
         have e28 : IntKind.i64.wrap (28 + (cn : Int)) = ((28 + cn : Nat) : Int) := by rw [IntKind.wrap_i64]; omega
         have hrg : w9.rangeAt S 0 RV := unhide HRG w9 HB19.out
         clear hv hla hcn HOK HIN
         go_wp2_with (refine wpList_load_mid rfl 38 (.tmp 7) rfl S 0 rfl RV _ hrg Tryz.underlying38 rfl hiR ?_)
         refine (unhide HLC w9).mono ?_
         rintro e w10 ⟨rfl, hb10⟩
         have hbw10 : Below w.heap.size w w10 := HB9.out.trans (hb10.mono HB9.out.size)
         have HPT := hide (part6_calls (HIB.out.below hbw10) (lo := 28) (hi := 28 + cn) (by omega) (by omega) (by omega))
         have HB10 := hide hbw10
         clear hb10 hbw10 hrg
         go_wp2_with fail
         refine (unhide HPT).mono ?_
         rintro e w11 ⟨v11, rfl, ho11, hb11⟩
         have HO11 := hide ho11
         have HB11 := hide (HB10.out.trans (hb11.mono HB10.out.size))
         clear ho11 hb11 HPT
         go_wp2
         go_ret3
         refine ⟨_, rfl, ⟨fun h => (by rw [HLY.out] at h; cases h), fun pt nx h => ?_, HB11.out⟩⟩
         rw [HLY.out] at h
         injection h with h
         injection h with h1 h2
         subst h1 h2
         have ho := HO11.out
         rw [show 28 + cn - 28 = cn by omega] at ho
         refine ⟨v11, w10.heap.size, by rw [Int.toNat_of_nonneg (by omega)]; rfl, ?_, HB10.out.size⟩
         unfold partOf
         rw [HCN.out, Int.toNat_natCast]
         exact ho
     · rw [decide_eq_false a3]
       have A3 := hide a3
       clear a3
       go_wp2_with fail
       have a3 := A3.out
       refine (refSectors_calls _ _).mono ?_
       rintro e wn ⟨rfl, hwn⟩
       obtain rfl := hwn.symm
       clear hwn
       by_cases hla : (place : Int) = secN le - 1
       · have hlaI : IntKind.i64.wrap (secN le - 1) = (place : Int) := by rw [IntKind.wrap_i64]; have := HSH.out; omega
         by_cases hv0 : v = 0
         · subst hv0
           have HLY : Hid (lookI bs hs le place heap sd seen = some (partOf bs le place, 0)) := hide (by unfold lookI; rw [hv]; rw [if_neg (by omega), if_pos hla, if_pos rfl])
           obtain ⟨hb512, cn, hcn, hcn2, HLC⟩ := unhide HOK (by omega)
           subst hb512
           have HLC := hide HLC
           have HCN := hide hcn
           have e28 : IntKind.i64.wrap (28 + (cn : Int)) = ((28 + cn : Nat) : Int) := by rw [IntKind.wrap_i64]; omega
           have hrg : w9.rangeAt S 0 RV := unhide HRG w9 HB19.out
           clear hv hla hcn HOK HIN
           go_wp2_with (refine wpList_load_mid rfl 38 (.tmp 7) rfl S 0 rfl RV _ hrg Tryz.underlying38 rfl hiR ?_)
           refine (unhide HLC w9).mono ?_
           rintro e w10 ⟨rfl, hb10⟩
           have hbw10 : Below w.heap.size w w10 := HB9.out.trans (hb10.mono HB9.out.size)
           have HPT := hide (part6_calls (HIB.out.below hbw10) (lo := 28) (hi := 28 + cn) (by omega) (by omega) (by omega))
           have HB10 := hide hbw10
           clear hb10 hbw10 hrg
           go_wp2_with fail
           refine (unhide HPT).mono ?_
           rintro e w11 ⟨v11, rfl, ho11, hb11⟩
           have HO11 := hide ho11
           have HB11 := hide (HB10.out.trans (hb11.mono HB10.out.size))
           clear ho11 hb11 HPT
           go_wp2
           go_ret3
           refine ⟨_, rfl, ⟨fun h => (by rw [HLY.out] at h; cases h), fun pt nx h => ?_, HB11.out⟩⟩
           rw [HLY.out] at h
           injection h with h
           injection h with h1 h2
           subst h1 h2
           have ho := HO11.out
           rw [show 28 + cn - 28 = cn by omega] at ho
           refine ⟨v11, w10.heap.size, by rfl, ?_, HB10.out.size⟩
           unfold partOf
           rw [HCN.out, Int.toNat_natCast]
           exact ho
         · have hv0b : (v == 0) = false := by simpa using hv0
           by_cases hvn : v < 0
           · skip
             exact absurd hvn (by omega)
           · skip
             have HLN : Hid (lookI bs hs le place heap sd seen = none) := hide (by unfold lookI; rw [hv]; rw [if_neg hvn, if_pos hla, if_neg hv0])
             clear hv hla
             go_wp2
             go_ret3
             exact ⟨_, rfl, ⟨fun _ => rfl, fun pt nx h => (by rw [HLN.out] at h; cases h), HB9.out⟩⟩
       · obtain ⟨sm, hsm⟩ : ∃ sm, secN le - 1 = sm := ⟨_, rfl⟩
         have hlaI : IntKind.i64.wrap (secN le - 1) = sm := by rw [IntKind.wrap_i64]; have := HSH.out; omega
         have hlaN : ¬ (place : Int) = sm := by omega
         clear hsm
         by_cases hvn : v < 0
         · skip
           exact absurd hvn (by omega)
         · skip
           have HLN : Hid (lookI bs hs le place heap sd seen = none) := hide (by unfold lookI; rw [hv]; rw [if_neg hvn, if_neg hla, if_neg (fun h => a3 h.2.2)])
           clear hv hla
           go_wp2
           go_ret3
           exact ⟨_, rfl, ⟨fun _ => rfl, fun pt nx h => (by rw [HLN.out] at h; cases h), HB9.out⟩⟩
   · go_wp2_with fail
     refine (refSectors_calls _ _).mono ?_
     rintro e wn ⟨rfl, hwn⟩
     obtain rfl := hwn.symm
     clear hwn
     by_cases hla : (place : Int) = secN le - 1
     · have hlaI : IntKind.i64.wrap (secN le - 1) = (place : Int) := by rw [IntKind.wrap_i64]; have := HSH.out; omega
       by_cases hv0 : v = 0
       · subst hv0
         have HLY : Hid (lookI bs hs le place heap sd seen = some (partOf bs le place, 0)) := hide (by unfold lookI; rw [hv]; rw [if_neg (by omega), if_pos hla, if_pos rfl])
         obtain ⟨hb512, cn, hcn, hcn2, HLC⟩ := unhide HOK (by omega)
         subst hb512
         have HLC := hide HLC
         have HCN := hide hcn
         have e28 : IntKind.i64.wrap (28 + (cn : Int)) = ((28 + cn : Nat) : Int) := by rw [IntKind.wrap_i64]; omega
         have hrg : w9.rangeAt S 0 RV := unhide HRG w9 HB19.out
         clear hv hla hcn HOK HIN
         go_wp2_with (refine wpList_load_mid rfl 38 (.tmp 7) rfl S 0 rfl RV _ hrg Tryz.underlying38 rfl hiR ?_)
         refine (unhide HLC w9).mono ?_
         rintro e w10 ⟨rfl, hb10⟩
         have hbw10 : Below w.heap.size w w10 := HB9.out.trans (hb10.mono HB9.out.size)
         have HPT := hide (part6_calls (HIB.out.below hbw10) (lo := 28) (hi := 28 + cn) (by omega) (by omega) (by omega))
         have HB10 := hide hbw10
         clear hb10 hbw10 hrg
         go_wp2_with fail
         refine (unhide HPT).mono ?_
         rintro e w11 ⟨v11, rfl, ho11, hb11⟩
         have HO11 := hide ho11
         have HB11 := hide (HB10.out.trans (hb11.mono HB10.out.size))
         clear ho11 hb11 HPT
         go_wp2
         go_ret3
         refine ⟨_, rfl, ⟨fun h => (by rw [HLY.out] at h; cases h), fun pt nx h => ?_, HB11.out⟩⟩
         rw [HLY.out] at h
         injection h with h
         injection h with h1 h2
         subst h1 h2
         have ho := HO11.out
         rw [show 28 + cn - 28 = cn by omega] at ho
         refine ⟨v11, w10.heap.size, by rfl, ?_, HB10.out.size⟩
         unfold partOf
         rw [HCN.out, Int.toNat_natCast]
         exact ho
       · have hv0b : (v == 0) = false := by simpa using hv0
         by_cases hvn : v < 0
         · skip
           exact absurd hvn (by omega)
         · skip
           have HLN : Hid (lookI bs hs le place heap sd seen = none) := hide (by unfold lookI; rw [hv]; rw [if_neg hvn, if_pos hla, if_neg hv0])
           clear hv hla
           go_wp2
           go_ret3
           exact ⟨_, rfl, ⟨fun _ => rfl, fun pt nx h => (by rw [HLN.out] at h; cases h), HB9.out⟩⟩
     · obtain ⟨sm, hsm⟩ : ∃ sm, secN le - 1 = sm := ⟨_, rfl⟩
       have hlaI : IntKind.i64.wrap (secN le - 1) = sm := by rw [IntKind.wrap_i64]; have := HSH.out; omega
       have hlaN : ¬ (place : Int) = sm := by omega
       clear hsm
       by_cases hvn : v < 0
       · skip
         exact absurd hvn (by omega)
       · skip
         have HLN : Hid (lookI bs hs le place heap sd seen = none) := hide (by unfold lookI; rw [hv]; rw [if_neg hvn, if_neg hla, if_neg (fun h => by have := h.2.1; omega)])
         clear hv hla
         go_wp2
         go_ret3
         exact ⟨_, rfl, ⟨fun _ => rfl, fun pt nx h => (by rw [HLN.out] at h; cases h), HB9.out⟩⟩
 · go_wp2_with fail
   refine (refSectors_calls _ _).mono ?_
   rintro e wn ⟨rfl, hwn⟩
   obtain rfl := hwn.symm
   clear hwn
   by_cases hla : (place : Int) = secN le - 1
   · have hlaI : IntKind.i64.wrap (secN le - 1) = (place : Int) := by rw [IntKind.wrap_i64]; have := HSH.out; omega
     by_cases hv0 : v = 0
     · subst hv0
       have HLY : Hid (lookI bs hs le place heap sd seen = some (partOf bs le place, 0)) := hide (by unfold lookI; rw [hv]; rw [if_neg (by omega), if_pos hla, if_pos rfl])
       obtain ⟨hb512, cn, hcn, hcn2, HLC⟩ := unhide HOK (by omega)
       subst hb512
       have HLC := hide HLC
       have HCN := hide hcn
       have e28 : IntKind.i64.wrap (28 + (cn : Int)) = ((28 + cn : Nat) : Int) := by rw [IntKind.wrap_i64]; omega
       have hrg : w9.rangeAt S 0 RV := unhide HRG w9 HB19.out
       clear hv hla hcn HOK HIN
       go_wp2_with (refine wpList_load_mid rfl 38 (.tmp 7) rfl S 0 rfl RV _ hrg Tryz.underlying38 rfl hiR ?_)
       refine (unhide HLC w9).mono ?_
       rintro e w10 ⟨rfl, hb10⟩
       have hbw10 : Below w.heap.size w w10 := HB9.out.trans (hb10.mono HB9.out.size)
       have HPT := hide (part6_calls (HIB.out.below hbw10) (lo := 28) (hi := 28 + cn) (by omega) (by omega) (by omega))
       have HB10 := hide hbw10
       clear hb10 hbw10 hrg
       go_wp2_with fail
       refine (unhide HPT).mono ?_
       rintro e w11 ⟨v11, rfl, ho11, hb11⟩
       have HO11 := hide ho11
       have HB11 := hide (HB10.out.trans (hb11.mono HB10.out.size))
       clear ho11 hb11 HPT
       go_wp2
       go_ret3
       refine ⟨_, rfl, ⟨fun h => (by rw [HLY.out] at h; cases h), fun pt nx h => ?_, HB11.out⟩⟩
       rw [HLY.out] at h
       injection h with h
       injection h with h1 h2
       subst h1 h2
       have ho := HO11.out
       rw [show 28 + cn - 28 = cn by omega] at ho
       refine ⟨v11, w10.heap.size, by rfl, ?_, HB10.out.size⟩
       unfold partOf
       rw [HCN.out, Int.toNat_natCast]
       exact ho
     · have hv0b : (v == 0) = false := by simpa using hv0
       by_cases hvn : v < 0
       · skip
         have HLN : Hid (lookI bs hs le place heap sd seen = none) := hide (by unfold lookI; rw [hv]; rw [if_pos hvn])
         clear hv hla
         go_wp2
         go_ret3
         exact ⟨_, rfl, ⟨fun _ => rfl, fun pt nx h => (by rw [HLN.out] at h; cases h), HB9.out⟩⟩
       · skip
         have HLN : Hid (lookI bs hs le place heap sd seen = none) := hide (by unfold lookI; rw [hv]; rw [if_neg hvn, if_pos hla, if_neg hv0])
         clear hv hla
         go_wp2
         go_ret3
         exact ⟨_, rfl, ⟨fun _ => rfl, fun pt nx h => (by rw [HLN.out] at h; cases h), HB9.out⟩⟩
   · obtain ⟨sm, hsm⟩ : ∃ sm, secN le - 1 = sm := ⟨_, rfl⟩
     have hlaI : IntKind.i64.wrap (secN le - 1) = sm := by rw [IntKind.wrap_i64]; have := HSH.out; omega
     have hlaN : ¬ (place : Int) = sm := by omega
     clear hsm
     by_cases hvn : v < 0
     · skip
       have HLN : Hid (lookI bs hs le place heap sd seen = none) := hide (by unfold lookI; rw [hv]; rw [if_pos hvn])
       clear hv hla
       go_wp2
       go_ret3
       exact ⟨_, rfl, ⟨fun _ => rfl, fun pt nx h => (by rw [HLN.out] at h; cases h), HB9.out⟩⟩
     · skip
       have HLN : Hid (lookI bs hs le place heap sd seen = none) := hide (by unfold lookI; rw [hv]; rw [if_neg hvn, if_neg hla, if_neg (fun h => by have := h.1; omega)])
       clear hv hla
       go_wp2
       go_ret3
       exact ⟨_, rfl, ⟨fun _ => rfl, fun pt nx h => (by rw [HLN.out] at h; cases h), HB9.out⟩⟩
end Go.Proofs.YtdalbalphagmfaaGreatDoor

namespace Go.Proofs.YtdalbalphagmfaaGreatDoor
open Go.RowKit Go.Maps

/-- A reading under way: what has been named. -/
structure Rj (fr to_ : Nat) (S : RS) : Prop where
 has : ∀ y : Int, hasB fr to_ S.ws y = decide ((fr : Int) ≤ y ∧ y < (to_ : Int) ∧ ∀ m ∈ S.ns ++ [S.nx], (m : Int) ≠ y)
 wl : S.ws.length = (to_ - fr + 63) / 64
 at_ : fr ≤ S.nx ∧ S.nx < to_
 br : S.br = 0
 by_ : S.by_.length ≤ 480 * S.ns.length
theorem rj_begin {fr to_ fi : Nat} (h : fr ≤ fi ∧ fi < to_) : Rj fr to_ (begS fr to_ fi) := by
 have hl : (newW (to_ - fr)).length = (to_ - fr + 63) / 64 := newW_len (by omega)
 refine ⟨fun y => ?_, by show (claimW fr to_ (newW (to_ - fr)) (fi : Int)).length = _; rw [claimW_len]; exact hl, h, rfl, Nat.le_refl _⟩
 show hasB fr to_ (claimW fr to_ (newW (to_ - fr)) (fi : Int)) y = _
 by_cases e : y = (fi : Int)
 · subst e
   rw [has_claim_self hl]
   refine (decide_eq_false fun hc => ?_).symm
   exact hc.2.2 fi (by simp [begS]) rfl
 · rw [has_claim hl _ _ e]
   unfold hasB
   by_cases hr : (fr : Int) ≤ y ∧ y < (to_ : Int)
   · rw [decide_eq_true hr, newW_bit (by omega), decide_eq_true (by omega)]
     refine (decide_eq_true ⟨hr.1, hr.2, fun m hm => ?_⟩).symm
     simp [begS] at hm
     rw [hm]
     exact fun h => e h.symm
   · rw [decide_eq_false hr]
     exact (decide_eq_false fun hc => hr ⟨hc.1, hc.2.1⟩).symm
theorem nextI_eq {b hs : List Int} {le : Int} {place : Nat} (hp : (place : Int) < secN le) : nextI b hs le (place : Int) = if b.length = 512 ∧ b = secL hs (place : Int) (leN (b.take 4)) (partOf b le place) then leN (b.take 4) else -1 := by
 unfold nextI partOf
 by_cases h : b.length = 512
 · rw [if_pos ⟨h, by omega, hp⟩]
   by_cases h2 : secL hs (place : Int) (leN (b.take 4)) ((b.drop 28).take (cntI le (place : Int)).toNat) = b
   · rw [if_pos h2, if_pos ⟨h, h2.symm⟩]
   · rw [if_neg h2, if_neg (fun h3 => h2 h3.2.symm)]
 · rw [if_neg (fun h3 => h h3.1), if_neg (fun h3 => h h3.1)]
/-- The document's look is the program's. -/
theorem look_fits {fr to_ : Nat} {S : RS} (h : Rj fr to_ S) (h1 : 1 ≤ fr) (hto : to_ ≤ 65536) {b hs : List Int} {le : Int} (hns : (S.ns.length : Int) < secN le) (hb : ∀ x ∈ b, 0 ≤ x ∧ x ≤ 255) :
 lookI b hs le S.ns.length fr to_ (S.ns ++ [S.nx]) = if fits b hs le fr to_ S then some (partOf b le S.ns.length, (leN (b.take 4)).toNat) else none := by
 have hv := leN4 hb
 unfold lookI
 rw [nextI_eq hns]
 by_cases hs1 : b.length = 512 ∧ b = secL hs (S.ns.length : Int) (leN (b.take 4)) (partOf b le S.ns.length)
 · rw [if_pos hs1, if_neg (by omega)]
   by_cases hla : (S.ns.length : Int) = secN le - 1
   · rw [if_pos hla]
     by_cases h0 : (leN (b.take 4)) = 0
     · rw [if_pos h0, if_pos ⟨⟨hs1.1, ⟨by omega, hns⟩, Or.inl ⟨hla, h0⟩, hs1.2⟩, Or.inl (by omega)⟩, h0]
       rfl
     · rw [if_neg h0, if_neg (fun hf => ?_)]
       have := hf.1.2.2.1
       rcases this with ⟨_, e⟩ | ⟨e, _⟩
       · exact h0 e
       · exact e hla
   · rw [if_neg hla]
     by_cases hc : (fr : Int) ≤ (leN (b.take 4)) ∧ (leN (b.take 4)) < (to_ : Int) ∧ ∀ m ∈ S.ns ++ [S.nx], (m : Int) ≠ (leN (b.take 4))
     · rw [if_pos hc, if_pos ⟨⟨hs1.1, ⟨by omega, hns⟩, Or.inr ⟨hla, by omega, by omega⟩, hs1.2⟩, Or.inr (by rw [h.has]; exact decide_eq_true hc)⟩]
     · rw [if_neg hc, if_neg (fun hf => ?_)]
       rcases hf.2 with e | e
       · omega
       · rw [h.has] at e
         exact hc (of_decide_eq_true e)
 · rw [if_neg hs1, if_pos (by omega), if_neg (fun hf => ?_)]
   have h9 := hf.1
   exact hs1 ⟨h9.1, h9.2.2.2⟩
/-- Has the reading ended? -/
def endR (le : Int) (S : RS) : Bool := decide (S.br ≠ 0 ∨ (S.ns.length : Int) = secN le)
theorem readS_no {b hs : List Int} {fi le : Int} {fr to_ : Nat} {S : RS} (h : ¬ fits b hs le fr to_ S) : readS b hs fi le fr to_ S = ⟨S.ns ++ [S.nx], S.ws, S.nx, [], (S.nx : Int)⟩ := by unfold readS; rw [if_neg h]
theorem readS_yes {b hs : List Int} {fi le : Int} {fr to_ : Nat} {S : RS} (h : fits b hs le fr to_ S) (h2 : ¬ ((S.ns.length : Int) + 1 = secN le ∧ shaOf (S.by_ ++ partOf b le S.ns.length) ≠ hs)) : readS b hs fi le fr to_ S = goneOn b le fr to_ S := by unfold readS; rw [if_pos h, if_neg h2]
theorem readS_bad {b hs : List Int} {fi le : Int} {fr to_ : Nat} {S : RS} (h : fits b hs le fr to_ S) (h2 : (S.ns.length : Int) + 1 = secN le ∧ shaOf (S.by_ ++ partOf b le S.ns.length) ≠ hs) : readS b hs fi le fr to_ S = failed (goneOn b le fr to_ S) fi := by unfold readS; rw [if_pos h, if_pos h2]
/-- A reading that goes on. -/
theorem Rj.step {fr to_ : Nat} {S : RS} (h : Rj fr to_ S) {b hs : List Int} {fi le : Int} (hb : ∀ x ∈ b, 0 ≤ x ∧ x ≤ 255) (hns : (S.ns.length : Int) < secN le) (he : endR le (readS b hs fi le fr to_ S) = false) (h1 : 1 ≤ fr) (hfi : fi ≠ 0) : Rj fr to_ (readS b hs fi le fr to_ S) ∧ fits b hs le fr to_ S ∧ readS b hs fi le fr to_ S = goneOn b le fr to_ S := by
 unfold endR at he
 have he := of_decide_eq_false he
 have hat := h.at_
 by_cases hf : fits b hs le fr to_ S
 · by_cases h2 : (S.ns.length : Int) + 1 = secN le ∧ shaOf (S.by_ ++ partOf b le S.ns.length) ≠ hs
   · rw [readS_bad hf h2] at he
     exact absurd (Or.inl hfi) he
   · have e := readS_yes (fi := fi) hf h2
     rw [e] at he ⊢
     have hnl : ¬ (S.ns.length : Int) + 1 = secN le := fun e2 => he (Or.inr (by show ((S.ns ++ [S.nx]).length : Int) = _; rw [List.length_append]; simpa using e2))
     have hv := leN4 hb
     have hhas : hasB fr to_ S.ws (leN (b.take 4)) = true := by
      rcases hf.2 with e3 | e3
      · exact absurd e3 hnl
      · exact e3
     have hr := hhas
     rw [h.has] at hr
     have hr := of_decide_eq_true hr
     refine ⟨⟨fun y => ?_, ?_, ?_, rfl, ?_⟩, hf, rfl⟩
     · show hasB fr to_ (if (S.ns.length : Int) + 1 = secN le then S.ws else claimW fr to_ S.ws (leN (b.take 4))) y = _
       rw [if_neg hnl]
       show _ = decide ((fr : Int) ≤ y ∧ y < (to_ : Int) ∧ ∀ m ∈ (S.ns ++ [S.nx]) ++ [(leN (b.take 4)).toNat], (m : Int) ≠ y)
       by_cases ey : y = leN (b.take 4)
       · rw [ey, has_claim_self h.wl]
         refine (decide_eq_false fun hc => ?_).symm
         exact hc.2.2 _ (List.mem_append_right _ (List.mem_singleton.2 rfl)) (by omega)
       · rw [has_claim h.wl _ _ ey, h.has]
         apply decide_eq_decide.2
         constructor
         · rintro ⟨q1, q2, q3⟩
           refine ⟨q1, q2, fun m hm => ?_⟩
           rcases List.mem_append.1 hm with hm | hm
           · exact q3 m hm
           · rw [List.mem_singleton.1 hm]; omega
         · rintro ⟨q1, q2, q3⟩
           exact ⟨q1, q2, fun m hm => q3 m (List.mem_append_left _ hm)⟩
     · show (if (S.ns.length : Int) + 1 = secN le then S.ws else claimW fr to_ S.ws (leN (b.take 4))).length = _
       rw [if_neg hnl, claimW_len]
       exact h.wl
     · show fr ≤ (leN (b.take 4)).toNat ∧ (leN (b.take 4)).toNat < to_
       omega
     · show (S.by_ ++ partOf b le S.ns.length).length ≤ 480 * (S.ns ++ [S.nx]).length
       have hc := cnt_ok (le := le) (place := (S.ns.length : Int)) (by omega) hns
       have hp : (partOf b le S.ns.length).length ≤ 480 := by unfold partOf; rw [List.length_take]; omega
       rw [List.length_append, List.length_append, List.length_singleton]
       have := h.by_
       omega
 · rw [readS_no hf] at he
   exact absurd (Or.inl (by show ((S.nx : Nat) : Int) ≠ 0; omega)) he
end Go.Proofs.YtdalbalphagmfaaGreatDoor

/- PathAgain: the walk. -/
import Derived.Test.YtmogbkgchhplkabDoorPaInt
namespace Go.Proofs.YtmogbkgchhplkabDoor
open Go.RowKit

theorem laid_set {w : World} {B g c n kk : Nat} {k : List ByteArray} (hk : k.length = n) (h : Row w B 9 (.slice (some ⟨g, 0, none⟩) (n + 3) c) (sV (k ++ mks))) (hj : kk < n) (y : ByteArray) : Row (w.setCell ⟨g, kk, none⟩ (.string y)) B 9 (.slice (some ⟨g, 0, none⟩) (n + 3) c) (sV (k.set kk y ++ mks)) := by
  have := h.set kk (.string y)
  have e : sV (k.set kk y ++ mks) = (sV (k ++ mks)).set kk (.string y) := by
    unfold sV
    rw [← List.map_set, List.set_append_left _ _ (by omega)]
  rw [e]; exact this.1
set_option maxRecDepth 100000 in
set_option maxHeartbeats 16000000 in
theorem again_walk {v tv nv : Value} {l ns : List ByteArray} {ts : List Int} (w : World) (hv : IsS w v l) (ht : IsI w tv ts) (hn : IsS w nv ns) (hM : Mx w) : Calls Tryd.prog 5 #[v, tv, nv] w fun e w' => e = .returned (.bool true) ∧ Below w.heap.size w w' := by
  have HT := hide (told_calls w hM)
  have HVS : Hid (∀ W, Below w.heap.size w W → IsS W v l) := fun W h => hv.below h
  have HCN : Hid (∀ W, Below w.heap.size w W → Calls Tryd.prog 13 #[v] W fun e w' => ∃ u, e = .returned u ∧ Row w' W.heap.size 9 u (sV (cutN l)) ∧ Below W.heap.size W w') := fun W h => cutNames_calls (hv.below h)
  have HTI : Hid (∀ W, Below w.heap.size w W → IsI W tv ts) := fun W h => ht.below h
  have HNS : Hid (∀ W, Below w.heap.size w W → IsS W nv ns) := fun W h => hn.below h
  have HCT : Hid (∀ (x : ByteArray) W, Calls Tryd.prog 7 #[.string x] W fun e w' => e = .returned (.string (cutS x)) ∧ w' = W) := cut_calls
  have hl40 := cutN_len l
  have hle := cutN_le l
  obtain ⟨av, cv, rfl, _, _, _, _⟩ := hv
  obtain ⟨hbd, at_, ct, rfl, hlt, hmt, _⟩ := ht
  obtain ⟨an, cn, rfl, hln, hmn, _, _⟩ := hn
  have HBD := hide hbd
  generalize cutN l = k0 at *
  have HLE := hide hle
  have HK0 : Hid (∀ W (u : Value), IsS W u k0 → Calls Tryd.prog 12 #[u] W fun e w' => ∃ g c, e = .returned (.slice (some ⟨g, 0, none⟩) k0.length c) ∧ Row w' W.heap.size 9 (.slice (some ⟨g, 0, none⟩) (k0.length + 3) c) (sV (k0 ++ mks)) ∧ Below W.heap.size W w') := fun W u h => laid_calls h (by omega)
  obtain ⟨n, hnk⟩ : ∃ n, n = k0.length := ⟨_, rfl⟩
  rw [← hnk] at HK0 hl40
  have HNK := hide hnk
  have HMX := hide hM
  clear hM hle hbd hnk HVS
  obtain ⟨nt, hnt⟩ : ∃ nt, nt = ts.length := ⟨_, rfl⟩
  obtain ⟨nn, hnn⟩ : ∃ nn, nn = ns.length := ⟨_, rfl⟩
  rw [← hnt] at hlt HTI ⊢
  rw [← hnn] at hln HNS ⊢
  have HNT := hide hnt
  have HNN := hide hnn
  clear hnt hnn
  go_enter Tryd.func5, Tryd.ntmps5
  go_wp2_with fail
  refine (unhide HT).mono ?_
  rintro e w1 ⟨rfl, hA1⟩
  have HCN1 := hide (unhide HCN w1 hA1)
  go_wp2_with fail
  refine (unhide HCN1).mono ?_
  rintro e w2 ⟨u, rfl, hr2, hB2⟩
  have hA2 := hA1.trans (hB2.mono hA1.size)
  have HK2 := hide (unhide HK0 w2 u hr2.isS)
  clear hr2
  go_wp2_with fail
  refine (unhide HK2).mono ?_
  rintro e w3 ⟨g, c, rfl, hr3, hB3⟩
  have hA3 := hA2.trans (hB3.mono hA2.size)
  have hgb : w.heap.size ≤ g ∧ n + 3 ≤ c := by
    obtain ⟨g', c', e0, hc1, _, hc3, _⟩ := hr3.head (by simp [sV, mks])
    injection e0 with e1 e2 e3
    injection e1 with e1
    injection e1 with e1
    subst e1 e3
    rw [sV_len, List.length_append, ← HNK.out] at hc1
    have h3 : mks.length = 3 := rfl
    exact ⟨Nat.le_trans hA2.size hc3, by omega⟩
  obtain ⟨hgB, hgc⟩ := hgb
  have HR3 : Hid (Row w3 w.heap.size 9 (.slice (some ⟨g, 0, none⟩) (n + 3) c) (sV (k0 ++ mks))) := hr3.mono hA2.size
  clear hr3 HT HCN HCN1 HK0 HK2
  go_wp2_with fail
  go_loopw [8] (fun iv W => ∃ (i : Nat) (k : List ByteArray), i ≤ 21 ∧ i ≤ nt + 1 ∧ iv = .int .i64 (i : Int) ∧ Hid (k.length = n ∧ (∀ x ∈ k, x.size ≤ 2000) ∧ Row W w.heap.size 9 (.slice (some ⟨g, 0, none⟩) (n + 3) c) (sV (k ++ mks))) ∧ Hid (Below w.heap.size w W)) (fun i _ => 21 - (intOf i).toNat)
  case atStart => exact ⟨0, k0, by omega, by omega, rfl, ⟨HNK.out.symm, HLE.out, HR3.out⟩, hA3⟩
  case round =>
    clear HLE HR3 HNK
    obtain ⟨i, k, hi21, hint, rfl, HK, HB⟩ := hrel
    obtain ⟨hkn, hke, hkr⟩ := HK.out
    by_cases hlt : i ≤ nt ∧ i ≤ 20
    · obtain ⟨hi1, hi2⟩ := hlt
      have q1 : (i : Int) ≤ (nt : Int) := by omega
      have q2 : (i : Int) ≤ 20 := by omega
      have HIN : Hid (IsS wr (.slice (some ⟨g, 0, none⟩) n c) k) := by
        have hkr2 := hkr
        rw [← hkn] at hkr2
        have := laid_isS hkr2
        rw [hkn] at this
        exact this
      have HTX : Hid (∀ (u : Value) W, IsS W u k → Calls Tryd.prog 14 #[u] W fun e w' => e = .returned (.tuple #[.string (textS k), .int .i64 (if textB k = true then 0 else 50)]) ∧ Below W.heap.size W w') := fun u W h => text_calls h hke (by omega)
      have HRT : Hid (∀ (u : Value) W, IsS W u k → Calls Tryd.prog 15 #[u] W fun e w' => e = .returned (.tuple #[.string (textS k), .bool (textB k)]) ∧ Below W.heap.size W w') := fun u W h => rtext_calls h hke (by omega)
      have HII : Hid (∀ (u : Value) W, Row W w.heap.size 9 (.slice (some ⟨g, 0, none⟩) (n + 3) c) (sV (k ++ mks)) → IsS W u k → Calls Tryd.prog 16 #[.slice (some ⟨g, 0, none⟩) n c, u] W fun e w' => e = .returned (.bool true) ∧ Below W.heap.size W w') := fun u W h1 h2 => by
        have h1' := h1
        rw [← hkn] at h1'
        have := intact_calls h1' h2 (by omega)
        rw [hkn] at this
        exact this
      have HR0 : Hid (Row wr wr.heap.size 9 (.slice none 0 0) (sV [])) := Row.nil wr wr.heap.size 9
      have HL0 : Hid (([] : List ByteArray).length + k.length ≤ 100000000) := by
        show _ ≤ _
        rw [hkn]; simp; omega
      have HRW := hide hkr
      have HKN := hide hkn
      have HKE := hide hke
      clear hkn hke hkr HK
      have qs : ((textS k).toList == (textS k).toList) = true := by simp
      generalize textS k = tx at *
      cases hq : textB k
      all_goals (
        rw [hq] at HTX HRT
        first | rw [if_pos rfl] at HTX | rw [if_neg (by decide)] at HTX
        clear hq
        go_wp2_with (at_builtin; refine wpList_appStr rfl (.const (.slice none 0 0)) (.tmp 30) rfl rfl HR0.out rfl HIN.out HL0.out (Nat.le_refl _) ?_; intro v1 w1' hr1 hg1)
        rw [List.nil_append] at hr1
        have hb1 : Below wr.heap.size wr w1' := (Below.refl _ wr).grown hg1 (Nat.le_refl _) (fun k hk => by cases hk)
        have HV1 := hide hr1.isS
        have HRW1 := hide (row_below HRW.out hb1)
        have HTX1 := hide (unhide HTX _ w1' ((HIN.out).below hb1))
        clear hr1 hg1 HTX HIN HRW HR0 HL0
        go_wp2_with fail
        refine (unhide HTX1).mono ?_
        rintro e w2' ⟨rfl, hb2⟩
        have hb12 := hb1.trans (hb2.mono hb1.size)
        have HV2 := hide ((HV1.out).below hb2)
        have HRT2 := hide (unhide HRT v1 w2' HV2.out)
        clear HTX1 HV1
        go_wp2_with fail
        refine (unhide HRT2).mono ?_
        rintro e w3' ⟨rfl, hb3⟩
        have hb13 := hb12.trans (hb3.mono hb12.size)
        have hb23 := hb2.trans (hb3.mono hb2.size)
        have HRW3 := hide (row_below HRW1.out hb23)
        have HII3 := hide (unhide HII v1 w3' HRW3.out ((HV2.out).below hb3))
        clear HRT2 HV2 HRW1
        go_wp2_with fail
        refine (unhide HII3).mono ?_
        rintro e w4' ⟨rfl, hb4⟩
        have hb14 := hb13.trans (hb4.mono hb13.size)
        have HRW4 := hide (row_below HRW3.out hb4)
        have HB4 : Hid (Below w.heap.size w w4') := (HB.out).trans (hb14.mono (HB.out).size)
        clear HII3 HII HRT HRW3 hb1 hb2 hb3 hb4 hb12 hb13 hb23 hb14
        by_cases hst : i < nt ∧ i < nn ∧ 0 < n
        · obtain ⟨s1, s2, s3⟩ := hst
          have p1 : (i : Int) < (nt : Int) := by omega
          have p2 : (i : Int) < (nn : Int) := by omega
          have p3 : (0 : Int) < (n : Int) := by omega
          obtain ⟨hbd, a2, c2, e2, _, _, hct⟩ := unhide HTI w4' HB4.out
          injection e2 with e3 e4 e5
          subst e3 e5
          obtain ⟨bt, ot, rfl, hcellt⟩ := hct (by rw [← HNT.out]; omega)
          have htc := hcellt i (by rw [← HNT.out]; exact s1)
          have htb := hbd _ (getD_mem (cs := ts) (j := i) (by rw [← HNT.out]; exact s1))
          obtain ⟨a3, c3, e6, _, _, _, hcn⟩ := unhide HNS w4' HB4.out
          injection e6 with e7 e8 e9
          subst e7 e9
          obtain ⟨bn, on, rfl, hcelln⟩ := hcn (by rw [← HNN.out]; omega)
          have hnc := hcelln i (by rw [← HNN.out]; exact s2)
          clear hbd hct hcn hcellt hcelln e4 e8
          generalize ts.getD i 0 = tq at *
          generalize ns.getD i default = nq' at *
          have HCT1 := hide (unhide HCT nq')
          have hcs := cutS_le nq'
          generalize cutS nq' = y at *
          obtain ⟨r, hr⟩ : ∃ r, r = tq.tmod (n : Int) := ⟨_, rfl⟩
          have hrb : -(n : Int) < r ∧ r < (n : Int) := by
            rw [hr]
            have h1 := Int.tmod_lt_of_pos tq p3
            have h2 := Int.lt_tmod_of_pos tq p3
            exact ⟨h2, h1⟩
          have hre := hr.symm
          clear hr
          obtain ⟨kk, hkk, hkr⟩ : ∃ kk : Nat, kk < n ∧ ((¬ r < 0 ∧ r = (kk : Int)) ∨ (r < 0 ∧ r + (n : Int) = (kk : Int))) := by
            by_cases h : r < 0
            · exact ⟨(r + (n : Int)).toNat, by omega, Or.inr ⟨h, by omega⟩⟩
            · exact ⟨r.toNat, by omega, Or.inl ⟨h, by omega⟩⟩
          have hml : (sV (k ++ mks)).length = n + 3 := by rw [sV_len, List.length_append, HKN.out]; rfl
          have hcell := (HRW4.out).cellAt (j := kk) (by rw [hml]; omega)
          obtain ⟨zv, hzv⟩ : ∃ zv, (sV (k ++ mks))[kk]? = some zv := ⟨_, List.getElem?_eq_getElem (by rw [hml]; omega)⟩
          rw [hzv] at hcell
          have hfz := (HRW4.out).frozenAt kk
          have HRN := hide (laid_set HKN.out HRW4.out hkk y)
          have HLN : Hid ((k.set kk y).length = n ∧ ∀ x ∈ k.set kk y, x.size ≤ 2000) := by
            refine ⟨by rw [List.length_set]; exact HKN.out, fun x hx => ?_⟩
            rcases List.mem_or_eq_of_mem_set hx with h | h
            · exact unhide HKE x h
            · rw [h]; exact hcs
          have HBN : Hid (Below w.heap.size w (w4'.setCell ⟨g, kk, none⟩ (.string y))) := (HB4.out).setCell (p := ⟨g, kk, none⟩) hgB _
          have hkc : kk < c := by omega
          have hkI : (kk : Int) < (n : Int) := by omega
          clear hml hzv HRW4 HKN HKE HB4 hcs
          rcases hkr with ⟨hr0, rfl⟩ | ⟨hr0, hr1⟩
          · have hk0 : ¬ (kk : Int) < 0 := by omega
            go_wp2_with fail
            refine (unhide HCT1 w4').mono ?_
            rintro e wq ⟨rfl, hwq⟩
            obtain rfl := hwq.symm
            clear hwq
            go_wp2
            exact ⟨⟨i + 1, k.set kk y, by omega, by omega, by go_num, ⟨HLN.out.1, HLN.out.2, HRN.out⟩, HBN⟩, by simp [intOf]; omega⟩
          · have hk0 : r < 0 := hr0
            go_wp2_with fail
            refine (unhide HCT1 w4').mono ?_
            rintro e wq ⟨rfl, hwq⟩
            obtain rfl := hwq.symm
            clear hwq
            go_wp2
            exact ⟨⟨i + 1, k.set kk y, by omega, by omega, by go_num, ⟨HLN.out.1, HLN.out.2, HRN.out⟩, HBN⟩, by simp [intOf]; omega⟩
        · have hst3 : (¬ (i : Int) < (nt : Int)) ∨ ((i : Int) < (nt : Int) ∧ ¬ (i : Int) < (nn : Int)) ∨ ((i : Int) < (nt : Int) ∧ (i : Int) < (nn : Int) ∧ ¬ (0 : Int) < (n : Int)) := by omega
          have HLN : Hid (k.length = n ∧ (∀ x ∈ k, x.size ≤ 2000) ∧ Row w4' w.heap.size 9 (.slice (some ⟨g, 0, none⟩) (n + 3) c) (sV (k ++ mks))) := ⟨HKN.out, HKE.out, HRW4.out⟩
          clear hst HKN HKE HRW4
          rcases hst3 with s1 | ⟨s1, s2⟩ | ⟨s1, s2, s3⟩
          all_goals (
            go_wp2
            exact ⟨⟨i + 1, k, by omega, by omega, by go_num, HLN, HB4⟩, by simp [intOf]; omega⟩))
    · have hx : (¬ (i : Int) ≤ (nt : Int)) ∨ ((i : Int) ≤ (nt : Int) ∧ ¬ (i : Int) ≤ 20) := by omega
      clear hlt hkn hke hkr
      rcases hx with s1 | ⟨s1, s2⟩
      all_goals (
        go_wp2
        go_ret
        exact ⟨rfl, HB.out⟩)
end Go.Proofs.YtmogbkgchhplkabDoor

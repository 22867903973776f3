/- The document's Decode. -/
import Derived.Test.YtpklbchbldipnabDoorNAf
namespace Go.Proofs.YtpklbchbldipnabDoor
open Go.RowKit Go.Maps

theorem decE_D (ah : Option (List Int)) (b : List Int) :
    (nmD b ≠ 0 → (decE nbL ah b).2.2 = nmD b) ∧ (nmD b = 0 → late ah (nmB b) = true → (decE nbL ah b).2.2 = 83) ∧
    (nmD b = 0 → late ah (nmB b) = false → dR (nmB b) (b.drop (nmK b)) ≠ 0 → (decE nbL ah b).2.2 = dR (nmB b) (b.drop (nmK b))) ∧
    (nmD b = 0 → late ah (nmB b) = false → dR (nmB b) (b.drop (nmK b)) = 0 → decE nbL ah b = (restE (nmB b) (b.drop (nmK b)), (b.drop (nmK b)).drop 73, 0)) := by
  have hE := nmE_D ah b
  refine ⟨fun h => ?_, fun h hl => ?_, fun h hl hd => ?_, fun h hl hd => ?_⟩
  · rw [if_pos h] at hE
    rw [decE_nm, hE, if_pos h]
  · rw [if_neg (by simpa using h), if_pos hl] at hE
    rw [decE_nm, hE, if_pos (by decide)]
  · rw [if_neg (by simpa using h), if_neg (by rw [hl]; decide)] at hE
    rw [decE_nm, hE, if_neg (by decide)]
    unfold dR at hd ⊢
    by_cases h1 : (b.drop (nmK b)).length < 73 ∨ 1 < (b.drop (nmK b)).headD 0
    · rw [if_pos h1, if_pos h1]
    · rw [if_neg h1] at hd ⊢
      rw [if_neg h1]
      by_cases h2 : sndE (restE (nmB b) (b.drop (nmK b))) = false
      · rw [if_pos h2, if_pos h2]
      · rw [if_neg h2] at hd; exact absurd rfl hd
  · rw [if_neg (by simpa using h), if_neg (by rw [hl]; decide)] at hE
    rw [decE_nm, hE, if_neg (by decide)]
    unfold dR at hd
    by_cases h1 : (b.drop (nmK b)).length < 73 ∨ 1 < (b.drop (nmK b)).headD 0
    · rw [if_pos h1] at hd; cases hd
    · rw [if_neg h1] at hd ⊢
      by_cases h2 : sndE (restE (nmB b) (b.drop (nmK b))) = false
      · rw [if_pos h2] at hd; cases hd
      · rw [if_neg h2]
theorem nmD_fine {xs : List Int} (hb : Byt xs) {n p : Nat} (hn : n = xs.length) (hp : p ≤ n) (h : nmD (xs.drop p) = 0) : p + nmK (xs.drop p) ≤ n ∧ (nmB (xs.drop p)).length ≤ 64 := by
  have hE := nmE_D none (xs.drop p)
  rw [if_neg (by simpa using h), if_neg (by show ¬ false = true; decide)] at hE
  rcases nmC hb hn hp with ⟨er, h0, h13, he, hq⟩ | ⟨he, hq⟩ | ⟨he, hq, hk, hl⟩
  · rw [hq] at hE; cases hE
  · rw [hq] at hE; cases hE
  · exact ⟨hk, hl⟩
theorem zEn_ok : EntOk zEn := ⟨by decide, ⟨by decide, by decide⟩, ⟨by decide, by decide⟩⟩
theorem OwnE.shape2 {w : World} {B : Nat} {v : Value} {l : List Ent} {i : Nat} (h : OwnE w B v l) (hl : l.length = i) : (0 < i ∧ ∃ b o c, v = .slice (some ⟨b, o, none⟩) i c) ∨ (¬ 0 < i ∧ ∃ a c, v = .slice a i c) := by
  obtain ⟨a, c, hv⟩ := h.shape
  rw [hl] at hv
  by_cases hi : 0 < i
  · have h1 := h.isEn
    rw [hv] at h1
    obtain ⟨b, o, ha, _⟩ := h1.spot hi
    exact Or.inl ⟨hi, b, o, c, by rw [hv, ha]⟩
  · exact Or.inr ⟨hi, a, c, hv⟩
def DDec (w : World) (D : List Ent × Int) (e : Ending) (w' : World) : Prop := ∃ u, e = .returned (.tuple #[u, .int .i64 D.2]) ∧ OwnE w' w.heap.size u D.1 ∧ Below w.heap.size w w'
theorem DDec.err {w w' : World} {D : List Ent × Int} {x : Int} (h : D = ([], x)) (hb : Below w.heap.size w w') : DDec w D (.returned (.tuple #[.slice none 0 0, .int .i64 x])) w' := by
  subst h
  exact ⟨_, rfl, OwnE.nil _ _, hb⟩
set_option maxRecDepth 100000 in
set_option maxHeartbeats 4000000 in
theorem ddecode_calls {w : World} {v : Value} {xs : List Int} (h : IsB w v xs) : Calls Tryd.prog 20 #[v] w fun e w' => DDec w (decL nbL xs) e w' := by
  obtain ⟨a, n, c, rfl⟩ := h.shape
  have hn := h.lenEq
  have hbt : Byt xs := h.mem
  have hcc : c ≤ 9223372036854775807 := by
    obtain ⟨_, a', c', hv, _, h2, _⟩ := id h
    injection hv with e1 e2 e3
    omega
  have hnc : n ≤ c := h.room
  obtain ⟨D, hD⟩ : ∃ D, decL nbL xs = D := ⟨_, rfl⟩
  rw [hD]
  unfold decL at hD
  have HH := hide h
  have HN := hide hn
  have HBT := hide hbt
  by_cases hl : 1048576 < n
  · rw [if_pos (by omega)] at hD
    have HD := hide hD
    have hlI : (1048576 : Int) < (n : Int) := by omega
    clear h hn hbt hD
    go_enter Tryd.func20, Tryd.ntmps20
    go_wp2
    go_ret2
    exact DDec.err HD.out.symm (Below.refl _ _)
  · rw [if_neg (by omega)] at hD
    have hlI : ¬ (1048576 : Int) < (n : Int) := by omega
    by_cases h0 : n < 1
    · have hx0 : xs = [] := List.eq_nil_of_length_eq_zero (by omega)
      rw [if_pos (by rw [hx0]; decide)] at hD
      have HD := hide hD
      have h0I : (n : Int) < 1 := by omega
      clear h hn hbt hD hx0
      go_enter Tryd.func20, Tryd.ntmps20
      go_wp2
      go_ret2
      exact DDec.err HD.out.symm (Below.refl _ _)
    · have h0I : ¬ (n : Int) < 1 := by omega
      have h00 : (0 : Int) < (n : Int) := by omega
      obtain ⟨b, o, rfl⟩ := h.spot (by omega)
      obtain ⟨hm, hm0, hm1⟩ := h.byteAt (j := 0) (by omega)
      have hhd : xs.headD 0 = xs[0]?.getD 0 := by cases xs <;> rfl
      rw [hhd] at hD
      rw [Nat.add_zero] at hm
      by_cases hmk : xs[0]?.getD 0 = 1
      · rw [if_neg (by simpa using hmk)] at hD
        rw [hmk] at hm
        have ht : xs.tail = xs.drop 1 := by cases xs <;> rfl
        rw [ht] at hD
        have HRD := hide (read_calls h (p := 1) (by omega) (by omega))
        by_cases h2 : (rU 0 0 (xs.drop 1)).2.2 = 0
        · rw [if_neg (by simpa using h2)] at hD
          have hok := rU_ok (l := xs.drop 1) (i := 0) (acc := 0) (fun x hx => hbt x (List.mem_of_mem_drop hx)) (Int.le_refl 0) h2
          rw [List.length_drop, ← hn] at hok
          by_cases h3 : 1024 < (rU 0 0 (xs.drop 1)).1
          · rw [if_pos h3] at hD
            have HD := hide hD
            have HV := hide h2
            have HV3 := hide h3
            clear h hn hbt hD ht hok h2 h3 hhd hmk hm0 hm1
            go_enter Tryd.func20, Tryd.ntmps20
            go_wp2_with fail
            refine (unhide HRD).mono ?_
            rintro e w3 ⟨hw3, _, hyes⟩
            obtain rfl := hw3.symm
            obtain ⟨N, hT, rfl⟩ := hyes HV.out
            have hN1 : ¬ N < 0 := by have := hT.1; omega
            have hN2 : 1024 < N := ((hT.iff64 1024 (by decide)).1).2 HV3.out
            clear hw3 hyes HRD
            go_wp2
            go_ret2
            exact DDec.err HD.out.symm (Below.refl _ _)
          · rw [if_neg h3] at hD
            rw [List.drop_drop] at hD
            have hq1 : 1 + (rU 0 0 (xs.drop 1)).2.1 ≤ n := by omega
            obtain ⟨cnt, hcnt⟩ : ∃ cnt : Nat, (rU 0 0 (xs.drop 1)).1 = (cnt : Int) := ⟨_, (Int.toNat_of_nonneg hok.1).symm⟩
            rw [hcnt, Int.toNat_natCast] at hD
            have hc1 : cnt ≤ 1024 := by omega
            obtain ⟨p0, hp0⟩ : ∃ p0, 1 + (rU 0 0 (xs.drop 1)).2.1 = p0 := ⟨_, rfl⟩
            rw [hp0] at hD hq1
            have HD : Hid (D = decF nbL (cnt - 0) (ahN [] 0) [] (xs.drop p0)) := hD.symm
            have HV := hide h2
            clear h hn hbt hD ht hok h2 h3 hhd hmk hm0 hm1
            go_enter Tryd.func20, Tryd.ntmps20
            go_wp2_with fail
            refine (unhide HRD).mono ?_
            rintro e w3 ⟨hw3, _, hyes⟩
            obtain rfl := hw3.symm
            obtain ⟨N, hT, rfl⟩ := hyes HV.out
            have hNV : N = (cnt : Int) := by
              rw [← hcnt]
              exact (hT.iff64 1024 (by decide)).2 (by omega) (by decide)
            subst hNV
            simp only [hp0]
            have hN1 : ¬ (cnt : Int) < 0 := by omega
            have hN2 : ¬ 1024 < (cnt : Int) := by omega
            clear hw3 hyes HRD hT hcnt hp0 HV hm
            go_wp2_with fail
            go_loopw [5, 6, 7] (fun pv lv iv W => ∃ (i : Nat) (li : List Ent) (p : Nat), i ≤ cnt ∧ iv = .int .i64 (i : Int) ∧ p ≤ n ∧ pv = .int .i64 (p : Int) ∧ Hid (li.length = i) ∧ OwnE W w.heap.size lv li ∧ Below w.heap.size w W ∧ Hid (D = decF nbL (cnt - i) (ahN li i) li (xs.drop p))) (fun _ _ i _ => cnt - (intOf i).toNat)
            case atStart => exact ⟨0, [], p0, by omega, rfl, hq1, rfl, rfl, OwnE.nil _ _, Below.refl _ _, HD⟩
            case round =>
              clear hq1 HD
              obtain ⟨i, li, p, hic, rfl, hpn, rfl, HLI, ho, hbw, HD⟩ := hrel
              rcases OwnE.shape2 ho HLI.out with ⟨hi0, bl, ol, cl, hlv⟩ | ⟨hi0, al, cl, hlv⟩
              · subst hlv
                by_cases hlt : i < cnt
                · have hltI : (i : Int) < (cnt : Int) := by omega
                  rw [show cnt - i = (cnt - (i + 1)) + 1 by omega, decF_step] at HD
                  have HED := hide (decE_D (ahN li i) (xs.drop p))
                  have HEK : Hid ((decE nbL (ahN li i) (xs.drop p)).2.2 = 0 → EnOk (decE nbL (ahN li i) (xs.drop p)).1) := decE_ok (HBT.out.drop p) nbL_le
                  have HEN := hide (dentry_calls (HH.out.below hbw) hpn (by omega))
                  have HFN : Hid (nmD (xs.drop p) = 0 → p + nmK (xs.drop p) ≤ n ∧ (nmB (xs.drop p)).length ≤ 64) := nmD_fine HBT.out HN.out hpn
                  have HBN : Hid (Byt (nmB (xs.drop p))) := fun x hx => HBT.out x (List.mem_of_mem_drop (List.mem_of_mem_drop (List.mem_of_mem_take hx)))
                  have HDRP : Hid ((xs.drop (p + nmK (xs.drop p))) = (xs.drop p).drop (nmK (xs.drop p))) := by show _ = _; rw [List.drop_drop]
                  generalize hE : decE nbL (ahN li i) (xs.drop p) = E at *
                  clear hE
                  go_wp2_with fail
                  refine (unhide HEN).mono ?_
                  rintro e w5 ⟨hb5, hno5, hyes5⟩
                  have hbw5 := hbw.trans (hb5.mono hbw.size)
                  have ho5 := ho.below hb5
                  by_cases hq : nmD (xs.drop p) = 0
                  · obtain rfl := hyes5 hq
                    have hk4 := unhide HFN hq
                    obtain ⟨x0, hx0⟩ : ∃ x0 : Ent, { zEn with nm := nmB (xs.drop p) } = x0 := ⟨_, rfl⟩
                    have HXN : Hid (x0.nm = nmB (xs.drop p)) := by show _ = _; rw [← hx0]
                    have HOKX : Hid (EntOk x0) := by rw [← hx0]; exact ⟨HBN.out, zEn_ok.key, zEn_ok.hash⟩
                    rw [hx0]
                    obtain ⟨g8, hg8⟩ : ∃ g8, w5.heap.size = g8 := ⟨_, rfl⟩
                    have HG8 := hide hg8
                    clear hg8
                    have hpkI : ((p + nmK (xs.drop p) : Nat) : Int) ≤ (n : Int) := by omega
                    obtain ⟨pk, hpk⟩ : ∃ pk, p + nmK (xs.drop p) = pk := ⟨_, rfl⟩
                    rw [hpk] at hpkI hk4 HDRP ⊢
                    clear hno5 hyes5 HEN HFN hx0 ho hb5
                    go_wp2_with (first
                      | (refine wpList_allocZ rfl 38 rfl infoEn ?_)
                      | (refine wpList_storeAll rfl (.tmp 8) (.tmp 41) 38 rfl rfl rfl (Arr.new w5 z68 38) (infoEof HOKX.out) (by rw [z68_len, enV_len HOKX.out]) (enV_one x0) ?_; intro w6 hA6 hw6))
                    have hb6 : Below w5.heap.size w5 w6 := hw6.below _ _ (lit_blw _ _) (Nat.le_refl _)
                    have HW6 := hide (hbw5.trans (hb6.mono hbw5.size))
                    have HO6 := hide (ho5.below hb6)
                    rw [HG8.out] at hA6
                    rw [HG8.out]
                    have HA6 := hide hA6
                    have HB6 := hide hb6
                    have hbw5s : Hid (w.heap.size ≤ w5.heap.size) := hbw5.size
                    have HO5 := hide ho5
                    clear hw6 hA6 hb6 hbw5 ho5
                    have HQ0 := hide hq
                    clear hq
                    have hi0I : (0 : Int) < (i : Int) := by omega
                    have hok2 := en_get (P := EnOk) HO6.out.1 (show i - 1 < li.length by rw [HLI.out]; omega)
                    have HCA : Hid (∀ W, Calls Tryd.prog 45 #[.string (mkS (li.getD (i - 1) .nul).nm), .string (mkS x0.nm)] W fun e w' => e = .returned (.bool (!late (ahN li i) (nmB (xs.drop p)))) ∧ Below W.heap.size W w') := fun W => by
                      have hq2 : (!late (ahN li i) (nmB (xs.drop p))) = ahd (li.getD (i - 1) .nul).nm x0.nm := by
                        unfold ahN
                        rw [if_neg (by omega), HXN.out]
                        show (!(!_)) = _
                        rw [Bool.not_not]
                      rw [hq2]
                      exact ahead_calls hok2.ok.nm HOKX.out.nm hok2.nl (by rw [HXN.out]; omega) W
                    have HS8 : Hid (∀ W, Below w6.heap.size w6 W → W.cell? ⟨bl, ol + (i - 1) * 68, none⟩ = some (.string (mkS (li.getD (i - 1) .nul).nm)) ∧ W.cell? ⟨g8, 0, none⟩ = some (.string (mkS x0.nm))) := fun W hW => ⟨(HO6.out.isEn.below hW).name (by omega), by rw [(HA6.out.below hW).cell 0]; rfl⟩
                    generalize mkS (li.getD (i - 1) .nul).nm = sp at *
                    generalize mkS x0.nm = sx at *
                    obtain ⟨k, hk⟩ : ∃ k, i - 1 = k := ⟨_, rfl⟩
                    have hJ2 : (k : Int) < (i : Int) := by omega
                    have hJ4 : IntKind.i64.wrap ((i : Int) - 1) = (k : Int) := by rw [IntWalk.i64_in _ ⟨by omega, by omega⟩]; omega
                    have hJ5 : (k : Int) < 9223372036854775807 := by omega
                    rw [hk] at HS8
                    clear hok2 hk hpk
                    focus (go_region_held3 (fun W => W.cell? ⟨bl, ol + k * 68, none⟩ = some (.string sp) ∧ W.cell? ⟨g8, 0, none⟩ = some (.string sx))
                      ((refine unhide HS8 _ ?_; (repeat (first | assumption | exact below_drew hb9 | exact Below.refl _ _ | refine Below.drew ?_))))
                      (first
                        | (go_at_call 45; refine (unhide HCA _).mono ?_; rintro e w9 ⟨rfl, hb9⟩)))
                    have hbd := below_drew hb9
                    have hbw9 := HW6.out.trans (hbd.mono HW6.out.size)
                    have HA9 := hide (HA6.out.below hbd)
                    have HB9 := hide (HB6.out.trans (hbd.mono HB6.out.size))
                    have HO9 := hide (HO6.out.below hbd)
                    clear hb9 hbd HCA HS8
                    clear hJ2 hJ4 hJ5
                    try (rename (World.cell? w9 _ = _ ∧ World.cell? w9 _ = _) => hZ2; clear hZ2)
                    try (rename (World.cell? w9 _ = _) => hZ1; clear hZ1)
                    try (rename (World.cell? w9 _ = _) => hZ1; clear hZ1)
                    cases hlt2 : late (ahN li i) (nmB (xs.drop p)) with
                    | true =>
                      have HF := hide (HED.out.2.1 HQ0.out hlt2)
                      rw [if_pos (by rw [HF.out]; decide), HF.out] at HD
                      clear hlt2
                      go_wp2
                      go_ret2
                      exact DDec.err HD.out hbw9
                    | false =>
                      have HLF := hide hlt2
                      clear hlt2
                      have HRE := hide (drest_calls (HH.out.below hbw9) (p := pk) hk4.1 (by omega) HOKX.out)
                      rw [HXN.out, HDRP.out] at HRE
                      by_cases hdr : dR (nmB (xs.drop p)) ((xs.drop p).drop (nmK (xs.drop p))) = 0
                      · have HEF := hide (HED.out.2.2.2 HQ0.out HLF.out hdr)
                        have HOKY : Hid (EnOk E.1) := unhide HEK (by rw [HEF.out])
                        have HE1 : Hid (restE (nmB (xs.drop p)) ((xs.drop p).drop (nmK (xs.drop p))) = E.1) := by show _ = _; rw [HEF.out]
                        have HE2 : Hid (E.2.1 = xs.drop (pk + 73)) := by show _ = _; rw [HEF.out, ← HDRP.out, List.drop_drop]
                        have HP73 : Hid (pk + 73 ≤ n) := by
                          show _ ≤ _
                          unfold dR at hdr
                          by_cases hz : ((xs.drop p).drop (nmK (xs.drop p))).length < 73 ∨ 1 < ((xs.drop p).drop (nmK (xs.drop p))).headD 0
                          · rw [if_pos hz] at hdr; cases hdr
                          · have h1 : ¬ ((xs.drop p).drop (nmK (xs.drop p))).length < 73 := fun h => hz (Or.inl h)
                            rw [← HDRP.out, List.length_drop, ← HN.out] at h1
                            omega
                        rw [if_neg (by rw [HEF.out]; simp), HE2.out] at HD
                        rw [HE1.out, hdr] at HRE
                        generalize E.1 = y at *
                        clear hdr HEF HE1 HEK HED
                        go_wp2_with (first
                          | (refine wpList_load_mid rfl 38 (.tmp 8) rfl g8 0 rfl (enV x0) _ HA9.out.range Tryd.underlying38 rfl (infoEof HOKX.out) ?_)
                          | (go_at_call 46; refine (unhide HRE).mono ?_; rintro e w10 ⟨hb10, _, hyes10⟩; obtain rfl := hyes10 rfl; have hA10 := HA9.out.below hb10; have hb510 := HB9.out.trans (hb10.mono HB9.out.size); have hbw10 := hbw9.trans (hb10.mono hbw9.size); have ho10 := HO9.out.below hb10; clear hyes10 hb10)
                          | (refine wpList_storeAll rfl (.tmp 8) (.tmp 66) 38 rfl rfl rfl hA10 (infoEof HOKY.out.ok) (by rw [enV_len HOKX.out, enV_len HOKY.out.ok]) (enV_one y) ?_; intro w11 hA11 hw11; have hb511 := hw11.below _ _ hb510 (Nat.le_of_eq HG8.out); have hbw11 := hw11.below _ _ hbw10 (Nat.le_trans hbw5s.out (Nat.le_of_eq HG8.out)); have ho11 := HO5.out.below hb511)
                          | (refine wpList_load_mid rfl 38 (.tmp 8) rfl g8 0 rfl (enV y) _ hA11.range Tryd.underlying38 rfl (infoEof HOKY.out.ok) ?_)
                          | (refine wpList_buildEn rfl (.tmp 73) rfl rfl (enV_len HOKY.out.ok) ?_)
                          | (at_builtin; refine wpList_appEn rfl (.tmp 72) (.tmp 74) rfl rfl (ho11.below (lit_blw _ _)) rfl (isEn_one w11 y HOKY.out) (by rw [HLI.out]; simp; omega) (Nat.le_trans hbw11.size (lit_blw _ _).size) ?_; intro v12 w12 ho12 hg12 hvb12))
                        have hbw12 : Below w.heap.size w w12 := below_app (hbw11.trans ((lit_blw _ _).mono hbw11.size)) hg12 (Nat.le_trans hbw11.size (lit_blw _ _).size) hvb12
                        have HD2 : Hid (D = decF nbL (cnt - (i + 1)) (ahN (li ++ [y]) (i + 1)) (li ++ [y]) (xs.drop (pk + 73))) := by show _ = _; rw [ahN_snoc li y HLI.out]; exact HD.out
                        have HPC : Hid ((pk : Int) + 73 = ((pk + 73 : Nat) : Int)) := by show _ = _; omega
                        clear hA10 hb510 hbw10 ho10 hA11 hw11 hb511 hbw11 ho11 hg12 hvb12
                        go_roundw
                        case rel => exact ⟨i + 1, li ++ [y], pk + 73, by omega, by go_num, HP73.out, by first | rfl | (rw [HPC.out]), by show _ = _; rw [List.length_append, HLI.out]; rfl, ho12, hbw12, HD2⟩
                        case measure => simp [intOf]; omega
                      · have HEF := hide (HED.out.2.2.1 HQ0.out HLF.out hdr)
                        rw [if_pos (by rw [HEF.out]; exact hdr), HEF.out] at HD
                        have hdb : (dR (nmB (xs.drop p)) ((xs.drop p).drop (nmK (xs.drop p))) != 0) = true := by simpa using hdr
                        have HDR := hide hdr
                        generalize dR (nmB (xs.drop p)) ((xs.drop p).drop (nmK (xs.drop p))) = q2 at *
                        clear hdr HEF HEK HED
                        go_wp2_with (first
                          | (refine wpList_load_mid rfl 38 (.tmp 8) rfl g8 0 rfl (enV x0) _ HA9.out.range Tryd.underlying38 rfl (infoEof HOKX.out) ?_)
                          | (go_at_call 46; refine (unhide HRE).mono ?_; rintro e w10 ⟨hb10, hno10, _⟩; obtain ⟨y, u10, hy10, rfl⟩ := hno10 HDR.out; have hA10 := HA9.out.below hb10; have hbw10 := hbw9.trans (hb10.mono hbw9.size); clear hno10 hb10)
                          | (refine wpList_storeAll rfl (.tmp 8) (.tmp 66) 38 rfl rfl rfl hA10 (infoEof hy10) (by rw [enV_len HOKX.out, enV_len hy10]) (enV_one y) ?_; intro w11 hA11 hw11; have hbw11 := hw11.below _ _ hbw10 (Nat.le_trans hbw5s.out (Nat.le_of_eq HG8.out))))
                        go_ret2
                        exact DDec.err HD.out hbw11
                  · obtain ⟨x0, u0, hx0, rfl⟩ := hno5 hq
                    have HF := hide (HED.out.1 hq)
                    have hqb : (nmD (xs.drop p) != 0) = true := by simpa using hq
                    rw [if_pos (by rw [HF.out]; exact hq), HF.out] at HD
                    have HOKX := hide hx0
                    generalize nmD (xs.drop p) = q at *
                    clear hno5 hyes5 HEN hx0 hq
                    go_wp2_with (first
                      | (refine wpList_allocZ rfl 38 rfl infoEn ?_)
                      | (refine wpList_storeAll rfl (.tmp 8) (.tmp 41) 38 rfl rfl rfl (Arr.new w5 z68 38) (infoEof HOKX.out) (by rw [z68_len, enV_len HOKX.out]) (enV_one x0) ?_; intro w6 hA6 hw6))
                    go_ret2
                    exact DDec.err HD.out (hbw5.trans ((hw6.below _ _ (lit_blw _ _) (Nat.le_refl _)).mono hbw5.size))
                · have hltI : ¬ (i : Int) < (cnt : Int) := by omega
                  rw [show cnt - i = 0 by omega] at HD
                  have HDE : Hid (D = if xs.drop p = [] then (li, 0) else ([], 80)) := HD.out
                  have HLD : Hid ((xs.drop p).length = n - p) := by show _ = _; rw [List.length_drop, HN.out]
                  by_cases hpe : p = n
                  · have hd : ((p : Int) != (n : Int)) = false := by rw [hpe]; simp
                    have HF : Hid (D = (li, 0)) := by
                      show _ = _
                      rw [HDE.out, if_pos (List.eq_nil_of_length_eq_zero (by rw [HLD.out]; omega))]
                    clear hpe HDE HD
                    go_wp2
                    go_ret2
                    exact ⟨_, by rw [HF.out]; rfl, by rw [HF.out]; exact ho, hbw⟩
                  · have hd : ((p : Int) != (n : Int)) = true := by simp; omega
                    have HF : Hid (D = ([], 80)) := by
                      show _ = _
                      rw [HDE.out, if_neg (fun h => by have := HLD.out; rw [h] at this; simp at this; omega)]
                    clear hpe HDE HD
                    go_wp2
                    go_ret2
                    exact DDec.err HF.out hbw
              · subst hlv
                by_cases hlt : i < cnt
                · have hltI : (i : Int) < (cnt : Int) := by omega
                  rw [show cnt - i = (cnt - (i + 1)) + 1 by omega, decF_step] at HD
                  have HED := hide (decE_D (ahN li i) (xs.drop p))
                  have HEK : Hid ((decE nbL (ahN li i) (xs.drop p)).2.2 = 0 → EnOk (decE nbL (ahN li i) (xs.drop p)).1) := decE_ok (HBT.out.drop p) nbL_le
                  have HEN := hide (dentry_calls (HH.out.below hbw) hpn (by omega))
                  have HFN : Hid (nmD (xs.drop p) = 0 → p + nmK (xs.drop p) ≤ n ∧ (nmB (xs.drop p)).length ≤ 64) := nmD_fine HBT.out HN.out hpn
                  have HBN : Hid (Byt (nmB (xs.drop p))) := fun x hx => HBT.out x (List.mem_of_mem_drop (List.mem_of_mem_drop (List.mem_of_mem_take hx)))
                  have HDRP : Hid ((xs.drop (p + nmK (xs.drop p))) = (xs.drop p).drop (nmK (xs.drop p))) := by show _ = _; rw [List.drop_drop]
                  generalize hE : decE nbL (ahN li i) (xs.drop p) = E at *
                  clear hE
                  go_wp2_with fail
                  refine (unhide HEN).mono ?_
                  rintro e w5 ⟨hb5, hno5, hyes5⟩
                  have hbw5 := hbw.trans (hb5.mono hbw.size)
                  have ho5 := ho.below hb5
                  by_cases hq : nmD (xs.drop p) = 0
                  · obtain rfl := hyes5 hq
                    have hk4 := unhide HFN hq
                    obtain ⟨x0, hx0⟩ : ∃ x0 : Ent, { zEn with nm := nmB (xs.drop p) } = x0 := ⟨_, rfl⟩
                    have HXN : Hid (x0.nm = nmB (xs.drop p)) := by show _ = _; rw [← hx0]
                    have HOKX : Hid (EntOk x0) := by rw [← hx0]; exact ⟨HBN.out, zEn_ok.key, zEn_ok.hash⟩
                    rw [hx0]
                    obtain ⟨g8, hg8⟩ : ∃ g8, w5.heap.size = g8 := ⟨_, rfl⟩
                    have HG8 := hide hg8
                    clear hg8
                    have hpkI : ((p + nmK (xs.drop p) : Nat) : Int) ≤ (n : Int) := by omega
                    obtain ⟨pk, hpk⟩ : ∃ pk, p + nmK (xs.drop p) = pk := ⟨_, rfl⟩
                    rw [hpk] at hpkI hk4 HDRP ⊢
                    clear hno5 hyes5 HEN HFN hx0 ho hb5
                    go_wp2_with (first
                      | (refine wpList_allocZ rfl 38 rfl infoEn ?_)
                      | (refine wpList_storeAll rfl (.tmp 8) (.tmp 41) 38 rfl rfl rfl (Arr.new w5 z68 38) (infoEof HOKX.out) (by rw [z68_len, enV_len HOKX.out]) (enV_one x0) ?_; intro w6 hA6 hw6))
                    have hb6 : Below w5.heap.size w5 w6 := hw6.below _ _ (lit_blw _ _) (Nat.le_refl _)
                    have HW6 := hide (hbw5.trans (hb6.mono hbw5.size))
                    have HO6 := hide (ho5.below hb6)
                    rw [HG8.out] at hA6
                    rw [HG8.out]
                    have HA6 := hide hA6
                    have HB6 := hide hb6
                    have hbw5s : Hid (w.heap.size ≤ w5.heap.size) := hbw5.size
                    have HO5 := hide ho5
                    clear hw6 hA6 hb6 hbw5 ho5
                    have HQ0 := hide hq
                    clear hq
                    have hi0I : ¬ (0 : Int) < (i : Int) := by omega
                    have hdi : decide ((0 : Int) < (i : Int)) = false := decide_eq_false hi0I
                    have HLF : Hid (late (ahN li i) (nmB (xs.drop p)) = false) := by
                      show _ = _
                      rw [show i = 0 by omega]
                      rfl
                    clear hpk
                    go_quiet (fail)
                    have hbw9 := below_drewN (n := nq) HW6.out
                    have HA9 := hide (HA6.out.below (drewn_below w6 nq))
                    have HB9 := hide (below_drewN (n := nq) HB6.out)
                    have HO9 := hide (HO6.out.below (drewn_below w6 nq))
                    generalize w6.drewN nq = w9 at *
                    have HRE := hide (drest_calls (HH.out.below hbw9) (p := pk) hk4.1 (by omega) HOKX.out)
                    rw [HXN.out, HDRP.out] at HRE
                    by_cases hdr : dR (nmB (xs.drop p)) ((xs.drop p).drop (nmK (xs.drop p))) = 0
                    · have HEF := hide (HED.out.2.2.2 HQ0.out HLF.out hdr)
                      have HOKY : Hid (EnOk E.1) := unhide HEK (by rw [HEF.out])
                      have HE1 : Hid (restE (nmB (xs.drop p)) ((xs.drop p).drop (nmK (xs.drop p))) = E.1) := by show _ = _; rw [HEF.out]
                      have HE2 : Hid (E.2.1 = xs.drop (pk + 73)) := by show _ = _; rw [HEF.out, ← HDRP.out, List.drop_drop]
                      have HP73 : Hid (pk + 73 ≤ n) := by
                        show _ ≤ _
                        unfold dR at hdr
                        by_cases hz : ((xs.drop p).drop (nmK (xs.drop p))).length < 73 ∨ 1 < ((xs.drop p).drop (nmK (xs.drop p))).headD 0
                        · rw [if_pos hz] at hdr; cases hdr
                        · have h1 : ¬ ((xs.drop p).drop (nmK (xs.drop p))).length < 73 := fun h => hz (Or.inl h)
                          rw [← HDRP.out, List.length_drop, ← HN.out] at h1
                          omega
                      rw [if_neg (by rw [HEF.out]; simp), HE2.out] at HD
                      rw [HE1.out, hdr] at HRE
                      generalize E.1 = y at *
                      clear hdr HEF HE1 HEK HED
                      go_wp2_with (first
                        | (refine wpList_load_mid rfl 38 (.tmp 8) rfl g8 0 rfl (enV x0) _ HA9.out.range Tryd.underlying38 rfl (infoEof HOKX.out) ?_)
                        | (go_at_call 46; refine (unhide HRE).mono ?_; rintro e w10 ⟨hb10, _, hyes10⟩; obtain rfl := hyes10 rfl; have hA10 := HA9.out.below hb10; have hb510 := HB9.out.trans (hb10.mono HB9.out.size); have hbw10 := hbw9.trans (hb10.mono hbw9.size); have ho10 := HO9.out.below hb10; clear hyes10 hb10)
                        | (refine wpList_storeAll rfl (.tmp 8) (.tmp 66) 38 rfl rfl rfl hA10 (infoEof HOKY.out.ok) (by rw [enV_len HOKX.out, enV_len HOKY.out.ok]) (enV_one y) ?_; intro w11 hA11 hw11; have hb511 := hw11.below _ _ hb510 (Nat.le_of_eq HG8.out); have hbw11 := hw11.below _ _ hbw10 (Nat.le_trans hbw5s.out (Nat.le_of_eq HG8.out)); have ho11 := HO5.out.below hb511)
                        | (refine wpList_load_mid rfl 38 (.tmp 8) rfl g8 0 rfl (enV y) _ hA11.range Tryd.underlying38 rfl (infoEof HOKY.out.ok) ?_)
                        | (refine wpList_buildEn rfl (.tmp 73) rfl rfl (enV_len HOKY.out.ok) ?_)
                        | (at_builtin; refine wpList_appEn rfl (.tmp 72) (.tmp 74) rfl rfl (ho11.below (lit_blw _ _)) rfl (isEn_one w11 y HOKY.out) (by rw [HLI.out]; simp; omega) (Nat.le_trans hbw11.size (lit_blw _ _).size) ?_; intro v12 w12 ho12 hg12 hvb12))
                      have hbw12 : Below w.heap.size w w12 := below_app (hbw11.trans ((lit_blw _ _).mono hbw11.size)) hg12 (Nat.le_trans hbw11.size (lit_blw _ _).size) hvb12
                      have HD2 : Hid (D = decF nbL (cnt - (i + 1)) (ahN (li ++ [y]) (i + 1)) (li ++ [y]) (xs.drop (pk + 73))) := by show _ = _; rw [ahN_snoc li y HLI.out]; exact HD.out
                      have HPC : Hid ((pk : Int) + 73 = ((pk + 73 : Nat) : Int)) := by show _ = _; omega
                      clear hA10 hb510 hbw10 ho10 hA11 hw11 hb511 hbw11 ho11 hg12 hvb12
                      go_roundw
                      case rel => exact ⟨i + 1, li ++ [y], pk + 73, by omega, by go_num, HP73.out, by first | rfl | (rw [HPC.out]), by show _ = _; rw [List.length_append, HLI.out]; rfl, ho12, hbw12, HD2⟩
                      case measure => simp [intOf]; omega
                    · have HEF := hide (HED.out.2.2.1 HQ0.out HLF.out hdr)
                      rw [if_pos (by rw [HEF.out]; exact hdr), HEF.out] at HD
                      have hdb : (dR (nmB (xs.drop p)) ((xs.drop p).drop (nmK (xs.drop p))) != 0) = true := by simpa using hdr
                      have HDR := hide hdr
                      generalize dR (nmB (xs.drop p)) ((xs.drop p).drop (nmK (xs.drop p))) = q2 at *
                      clear hdr HEF HEK HED
                      go_wp2_with (first
                        | (refine wpList_load_mid rfl 38 (.tmp 8) rfl g8 0 rfl (enV x0) _ HA9.out.range Tryd.underlying38 rfl (infoEof HOKX.out) ?_)
                        | (go_at_call 46; refine (unhide HRE).mono ?_; rintro e w10 ⟨hb10, hno10, _⟩; obtain ⟨y, u10, hy10, rfl⟩ := hno10 HDR.out; have hA10 := HA9.out.below hb10; have hbw10 := hbw9.trans (hb10.mono hbw9.size); clear hno10 hb10)
                        | (refine wpList_storeAll rfl (.tmp 8) (.tmp 66) 38 rfl rfl rfl hA10 (infoEof hy10) (by rw [enV_len HOKX.out, enV_len hy10]) (enV_one y) ?_; intro w11 hA11 hw11; have hbw11 := hw11.below _ _ hbw10 (Nat.le_trans hbw5s.out (Nat.le_of_eq HG8.out))))
                      go_ret2
                      exact DDec.err HD.out hbw11
                  · obtain ⟨x0, u0, hx0, rfl⟩ := hno5 hq
                    have HF := hide (HED.out.1 hq)
                    have hqb : (nmD (xs.drop p) != 0) = true := by simpa using hq
                    rw [if_pos (by rw [HF.out]; exact hq), HF.out] at HD
                    have HOKX := hide hx0
                    generalize nmD (xs.drop p) = q at *
                    clear hno5 hyes5 HEN hx0 hq
                    go_wp2_with (first
                      | (refine wpList_allocZ rfl 38 rfl infoEn ?_)
                      | (refine wpList_storeAll rfl (.tmp 8) (.tmp 41) 38 rfl rfl rfl (Arr.new w5 z68 38) (infoEof HOKX.out) (by rw [z68_len, enV_len HOKX.out]) (enV_one x0) ?_; intro w6 hA6 hw6))
                    go_ret2
                    exact DDec.err HD.out (hbw5.trans ((hw6.below _ _ (lit_blw _ _) (Nat.le_refl _)).mono hbw5.size))
                · have hltI : ¬ (i : Int) < (cnt : Int) := by omega
                  rw [show cnt - i = 0 by omega] at HD
                  have HDE : Hid (D = if xs.drop p = [] then (li, 0) else ([], 80)) := HD.out
                  have HLD : Hid ((xs.drop p).length = n - p) := by show _ = _; rw [List.length_drop, HN.out]
                  by_cases hpe : p = n
                  · have hd : ((p : Int) != (n : Int)) = false := by rw [hpe]; simp
                    have HF : Hid (D = (li, 0)) := by
                      show _ = _
                      rw [HDE.out, if_pos (List.eq_nil_of_length_eq_zero (by rw [HLD.out]; omega))]
                    clear hpe HDE HD
                    go_wp2
                    go_ret2
                    exact ⟨_, by rw [HF.out]; rfl, by rw [HF.out]; exact ho, hbw⟩
                  · have hd : ((p : Int) != (n : Int)) = true := by simp; omega
                    have HF : Hid (D = ([], 80)) := by
                      show _ = _
                      rw [HDE.out, if_neg (fun h => by have := HLD.out; rw [h] at this; simp at this; omega)]
                    clear hpe HDE HD
                    go_wp2
                    go_ret2
                    exact DDec.err HF.out hbw
        · rw [if_pos (by simpa using h2)] at hD
          have HD := hide hD
          have HV := hide h2
          clear h hn hbt hD ht h2 hhd hmk hm0 hm1
          go_enter Tryd.func20, Tryd.ntmps20
          go_wp2_with fail
          refine (unhide HRD).mono ?_
          rintro e w3 ⟨hw3, hno, _⟩
          obtain rfl := hw3.symm
          obtain rfl := hno HV.out
          clear hw3 hno HRD
          go_wp2
          go_ret2
          exact DDec.err HD.out.symm (Below.refl _ _)
      · rw [if_pos (by simpa using hmk)] at hD
        have HD := hide hD
        have hmb : (xs[0]?.getD 0 != 1) = true := by simpa using hmk
        generalize xs[0]?.getD 0 = m at *
        clear h hn hbt hD hhd hmk
        go_enter Tryd.func20, Tryd.ntmps20
        go_wp2
        go_ret2
        exact DDec.err HD.out.symm (Below.refl _ _)
end Go.Proofs.YtpklbchbldipnabDoor

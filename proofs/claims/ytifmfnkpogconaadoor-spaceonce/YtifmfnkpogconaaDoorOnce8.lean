/- SpaceOnce: what follows the switch. -/
import Derived.Test.YtifmfnkpogconaaDoorOnce7
namespace Go.Proofs.YtifmfnkpogconaaDoor
open Go.RowKit

def OnceEnd (w : World) (g gw gg n f t : Nat) (fv : Value) (W : World) : Prop := ∃ ws bs, fv = .int .i64 (((allR f bs).length : Nat) : Int) ∧ Om w W g gw gg n f t ws bs ∧ Tw f t ws bs
set_option maxRecDepth 100000 in
set_option maxHeartbeats 4000000 in
theorem once_tail {w wc : World} {g gw gg n f t : Nat} {Q' : Exit → Act → World → Prop} (hn3 : n ≤ 500) (hf1 : f < 60000) (u2 u3 u4 u5 u6 u8 u10 u11 u12 u13 u14 u15 u16 u17 u18 u19 u20 u21 u22 u23 u24 u25 u26 u27 u28 u29 u30 u31 u32 u33 u34 u35 u36 u37 u38 u39 u40 u41 u42 u43 u44 u45 u46 u47 u48 u49 u50 u51 u52 u53 u54 u55 u56 u57 u58 u59 u60 u61 u62 u63 u64 u65 u66 u67 u68 u69 u70 u71 u72 u73 u74 u75 u76 u77 u78 u79 u80 u81 u82 u83 u84 u85 u86 u87 u88 u89 u90 u91 u92 u93 u94 u95 u96 u97 u98 u99 u100 u101 u102 u103 u104 u105 u106 u107 u108 u109 u110 u111 u112 u113 u114 u115 u116 u117 u118 u119 u120 u121 u122 u123 u124 u125 u126 u127 u128 u129 u130 u131 u132 u133 u134 u135 u136 u137 u138 u139 u140 u141 u142 u143 u144 u145 u146 u147 u148 u149 u150 u151 u152 u153 u154 u155 u156 u157 u158 u159 u160 u161 u162 u163 u164 u165 u166 u167 u168 u169 u170 u171 u172 u173 u174 u175 u176 u177 u178 u179 u180 u181 u182 u183 u184 u185 u186 u187 u188 u189 u190 u191 u192 u193 u194 u195 u196 u197 u198 u199 u200 u201 u202 u203 u204 u205 u206 u207 u208 u209 u210 u211 u212 u213 u214 u215 u216 u217 u218 u219 u220 u221 u222 u223 u224 u225 u226 u227 u228 u229 u230 u231 u232 u233 u234 u235 u236 u237 u238 u239 u240 u241 u242 u243 u244 u245 u246 u247 : Value) (hmid : OnceMid w g gw gg n f t u10 u13 wc)
    (hR : ∀ (v6 v10 v21 v22 v208 v209 v210 v211 v212 v213 v214 v215 v216 v217 v218 v219 v220 v221 v222 v223 v224 v225 v226 v227 v228 v229 v230 v231 v232 v233 v234 v235 v236 v237 v238 v239 v240 v241 v242 v243 v244 v245 v246 : Value) (W : World), OnceEnd w g gw gg n f t v10 W → Q' .normal ⟨#[.int .i64 (f : Int), .int .i64 (n : Int), u2, u3, u4, u5, v6, .pointer (some ⟨g, 0, none⟩), u8, .slice (some ⟨gg, 0, none⟩) n n, v10, u11, u12, u13, u14, u15, u16, u17, u18, u19, u20, v21, v22, u23, u24, u25, u26, u27, u28, u29, u30, u31, u32, u33, u34, u35, u36, u37, u38, u39, u40, u41, u42, u43, u44, u45, u46, u47, u48, u49, u50, u51, u52, u53, u54, u55, u56, u57, u58, u59, u60, u61, u62, u63, u64, u65, u66, u67, u68, u69, u70, u71, u72, u73, u74, u75, u76, u77, u78, u79, u80, u81, u82, u83, u84, u85, u86, u87, u88, u89, u90, u91, u92, u93, u94, u95, u96, u97, u98, u99, u100, u101, u102, u103, u104, u105, u106, u107, u108, u109, u110, u111, u112, u113, u114, u115, u116, u117, u118, u119, u120, u121, u122, u123, u124, u125, u126, u127, u128, u129, u130, u131, u132, u133, u134, u135, u136, u137, u138, u139, u140, u141, u142, u143, u144, u145, u146, u147, u148, u149, u150, u151, u152, u153, u154, u155, u156, u157, u158, u159, u160, u161, u162, u163, u164, u165, u166, u167, u168, u169, u170, u171, u172, u173, u174, u175, u176, u177, u178, u179, u180, u181, u182, u183, u184, u185, u186, u187, u188, u189, u190, u191, u192, u193, u194, u195, u196, u197, u198, u199, u200, u201, u202, u203, u204, u205, u206, u207, v208, v209, v210, v211, v212, v213, v214, v215, v216, v217, v218, v219, v220, v221, v222, v223, v224, v225, v226, v227, v228, v229, v230, v231, v232, v233, v234, v235, v236, v237, v238, v239, v240, v241, v242, v243, v244, v245, v246, u247], []⟩ W) : Code.wp Tryd.prog (nav [1, 1, 1, 1, 1, 1, 1, 0, 1, 2, 2, 1, 0, 2, 1, 1, 1] (Tryd.f6.body.getD .skip)) Q' ⟨#[.int .i64 (f : Int), .int .i64 (n : Int), u2, u3, u4, u5, u6, .pointer (some ⟨g, 0, none⟩), u8, .slice (some ⟨gg, 0, none⟩) n n, u10, u11, u12, u13, u14, u15, u16, u17, u18, u19, u20, u21, u22, u23, u24, u25, u26, u27, u28, u29, u30, u31, u32, u33, u34, u35, u36, u37, u38, u39, u40, u41, u42, u43, u44, u45, u46, u47, u48, u49, u50, u51, u52, u53, u54, u55, u56, u57, u58, u59, u60, u61, u62, u63, u64, u65, u66, u67, u68, u69, u70, u71, u72, u73, u74, u75, u76, u77, u78, u79, u80, u81, u82, u83, u84, u85, u86, u87, u88, u89, u90, u91, u92, u93, u94, u95, u96, u97, u98, u99, u100, u101, u102, u103, u104, u105, u106, u107, u108, u109, u110, u111, u112, u113, u114, u115, u116, u117, u118, u119, u120, u121, u122, u123, u124, u125, u126, u127, u128, u129, u130, u131, u132, u133, u134, u135, u136, u137, u138, u139, u140, u141, u142, u143, u144, u145, u146, u147, u148, u149, u150, u151, u152, u153, u154, u155, u156, u157, u158, u159, u160, u161, u162, u163, u164, u165, u166, u167, u168, u169, u170, u171, u172, u173, u174, u175, u176, u177, u178, u179, u180, u181, u182, u183, u184, u185, u186, u187, u188, u189, u190, u191, u192, u193, u194, u195, u196, u197, u198, u199, u200, u201, u202, u203, u204, u205, u206, u207, u208, u209, u210, u211, u212, u213, u214, u215, u216, u217, u218, u219, u220, u221, u222, u223, u224, u225, u226, u227, u228, u229, u230, u231, u232, u233, u234, u235, u236, u237, u238, u239, u240, u241, u242, u243, u244, u245, u246, u247], []⟩ wc := by
  have HRR := hide hR
  clear hR
  unfold Tryd.f6
  simp only [nav, Option.getD_some]
  obtain ⟨ws3, bs3, l3, j3, rfl, hr3, hl3', hM3, hTw3⟩ := hmid
  obtain ⟨a3, c3, hs3⟩ := hr3.shape
  rw [iV_len] at hs3
  have hlb3 : l3.length ≤ 65536 := by
    have h1 := allR_le f bs3
    have h2 := hM3.len
    rw [hl3', List.length_take]
    omega
  obtain ⟨lN, hlN⟩ : ∃ lN, lN = l3.length := ⟨_, rfl⟩
  rw [← hlN] at hs3 hlb3
  subst hs3
  have HLN := hide hlN
  have HST : Hid (OnceIn w g gw gg n f t ws3 (.slice a3 lN c3) l3 (.int .i64 (((allR f bs3).length : Nat) : Int)) (.int .i64 0) (.int .i64 0) wc) := by
    refine ⟨0, bs3, 0, by omega, by omega, rfl, rfl, rfl, hM3, fun i hi => by omega, ?_, ?_, hr3⟩
    · rw [List.drop_zero, Nat.sub_zero, hl3']
      exact take_len _ _
    · rw [List.drop_zero]; exact hTw3
  clear hr3 hl3' hM3 hTw3 hlN
  go_wp2_with fail
  go_loopw [10, 21, 22] (fun fv av kv W => OnceIn w g gw gg n f t ws3 (.slice a3 lN c3) l3 fv av kv W) (fun _ _ k _ => lN - (intOf k).toNat)
  case atStart => exact HST.out
  case round =>
    clear HST
    obtain ⟨k2, bs4, a, hk2, ha, rfl, rfl, rfl, hM4, hlow, hdr, hTw4, hr4⟩ := hrel
    rw [← HLN.out] at hk2 hdr
    have hb4 : bs4.length = n := hM4.len
    have hfb4 : (allR f bs4).length ≤ n := by rw [← hb4]; exact allR_le f bs4
    by_cases hlt2 : k2 < lN
    · have hk2l : k2 < l3.length := by rw [← HLN.out]; exact hlt2
      obtain ⟨q, hq⟩ : ∃ q, q = l3[k2] := ⟨_, rfl⟩
      have hdrop : l3.drop k2 = q :: l3.drop (k2 + 1) := by rw [hq]; exact List.drop_eq_getElem_cons hk2l
      obtain ⟨rest, hrest⟩ : ∃ rest, allR f bs4 = q :: rest := by
        rw [hdrop] at hdr
        cases hA : allR f bs4 with
        | nil => rw [hA] at hdr; simp at hdr
        | cons x xs =>
          rw [hA, show lN - k2 = (lN - k2 - 1) + 1 by omega, List.take_succ_cons] at hdr
          injection hdr with e1 _
          exact ⟨xs, by rw [e1]⟩
      obtain ⟨g3, c33, hv3, hc1, hc2, _, _⟩ := hr4.head (by rw [iV_len]; omega)
      injection hv3 with e1 e22 e3
      subst e1 e3
      clear e22
      rw [iV_len, ← HLN.out] at hc1
      have hcq : wr.cell? ⟨g3, k2, none⟩ = some (.int .i64 (q : Int)) := by
        rw [hr4.cellAt (by rw [iV_len]; exact hk2l)]
        unfold iV
        rw [List.getElem?_map, List.getElem?_eq_getElem hk2l, hq]; rfl
      have HCELL : Hid (∀ i, i < n → wr.cell? ⟨gg, i, none⟩ = some (.bool (!(bs4.getD i false))) ∧ wr.frozen? ⟨gg, i, none⟩ = false) := fun i hi => hM4.cell hi
      have HM4 := hide hM4
      have HTW4 := hide hTw4
      have HDR := hide hdr
      have HDP := hide hdrop
      have HR4 := hide hr4
      have HRE := hide hrest
      have HLO : Hid (∀ i, i < a → bs4.getD i false = false) := hlow
      have hkI : (k2 : Int) < (lN : Int) := by omega
      have hqb : q < 70000 := by
        have : q ∈ allR f bs4 := by rw [hrest]; exact List.mem_cons_self ..
        unfold allR setR at this
        obtain ⟨i, hi, rfl⟩ := List.mem_map.1 this
        have := List.mem_range.1 (List.mem_filter.1 hi).1
        omega
      clear hM4 hTw4 hdr hdrop hr4 hrest hlow hq hk2l
      obtain ⟨fN, hfN⟩ : ∃ fN, fN = (allR f bs4).length := ⟨_, rfl⟩
      rw [← hfN] at hfb4 ⊢
      have HFN := hide hfN
      clear hfN
      go_wp2_with fail
      go_loop [21] (fun av => ∃ (a : Nat), a ≤ n ∧ av = .int .i64 (a : Int) ∧ Hid (∀ i, i < a → bs4.getD i false = false)) (fun a => n - (intOf a).toNat)
      case atStart => exact ⟨a, ha, rfl, HLO⟩
      case round =>
        clear HLO ha
        obtain ⟨a, ha, rfl, HLO⟩ := hrel
        by_cases han : a < n
        · obtain ⟨e1, e2⟩ := unhide HCELL a han
          have haI : (a : Int) < (n : Int) := by omega
          have ha0 : (0 : Int) ≤ (a : Int) := by omega
          by_cases hba : bs4.getD a false = true
          · rw [hba] at e1
            have hfst := allR_first (f := f) (by omega) hba (unhide HLO)
            have hqa : q = f + a := by
              have := (HRE.out).symm.trans hfst
              injection this
            subst hqa
            have hre : allR f (bs4.set a false) = rest := by
              have := (HRE.out).symm.trans hfst
              injection this with _ e
              exact e.symm
            have hmk := (HM4.out).mark a true
            rw [Bool.not_true] at hmk
            have HNX : Hid (OnceIn w g gw gg n f t ws3 (.slice (some ⟨g3, 0, none⟩) lN c3) l3 (.int .i64 ((fN : Int) - 1)) (.int .i64 (a : Int)) (.int .i64 ((k2 : Int) + 1)) (wr.setCell ⟨gg, a, none⟩ (.bool true))) := by
              have hle := allR_less (f := f) (bs := bs4) (j := a) (by omega) hba
              refine ⟨k2 + 1, bs4.set a false, a, by rw [← HLN.out]; omega, by omega, ?_, rfl, by congr 1, hmk.1, fun i hi => ?_, ?_, ?_, ?_⟩
              · congr 1; have := HFN.out; omega
              · rw [getD_set (by omega), if_neg (by omega)]; exact unhide HLO i hi
              · have h1 := HDR.out
                rw [HDP.out, HRE.out, show lN - k2 = (lN - (k2 + 1)) + 1 by omega, List.take_succ_cons] at h1
                injection h1 with _ h2
                rw [h2, hre, HLN.out]
              · have h1 := HTW4.out
                rw [HDP.out] at h1
                have e : clrR f bs4 ((f + a) :: l3.drop (k2 + 1)) = clrR f (bs4.set a false) (l3.drop (k2 + 1)) := by
                  show clrR f (bs4.set (f + a - f) false) _ = _
                  rw [Nat.add_sub_cancel_left]
                rw [← e]; exact h1
              · exact (HR4.out).ch hmk.2 (by decide)
            have hfp : 0 < fN := by
              have := HFN.out
              rw [HRE.out] at this
              simp at this
              omega
            have gqa : ((((f + a : Nat) : Int)) != ((f : Int) + (a : Int))) = false := by simp
            clear hfst hmk hre hba HM4 HTW4 HDR HDP HR4 HRE HLO HCELL HFN
            go_wp2
            go_roundw
            case rel =>
              first
              | exact HNX.out
              | exact ⟨_, _, _, _, HNX.out, rfl, rfl, rfl, rfl⟩
            case measure => simp [intOf]; omega
          · have hba2 : bs4.getD a false = false := by simpa using hba
            rw [hba2] at e1
            have HLO2 : Hid (∀ i, i < a + 1 → bs4.getD i false = false) := fun i hi => by
              by_cases e : i = a
              · subst e; exact hba2
              · exact unhide HLO i (by omega)
            clear hba hba2
            go_wp2
            go_roundw
            case rel => exact ⟨a + 1, by omega, by go_num, HLO2⟩
            case measure => simp [intOf]; omega
        · exfalso
          have hnone := allR_none (f := f) (bs := bs4) fun i hi => unhide HLO i (by omega)
          have := (HRE.out).symm.trans hnone
          cases this
    · have hk2e : k2 = lN := by omega
      have hTwE : Tw f t ws3 bs4 := by
        rw [List.drop_eq_nil_of_le (by rw [← HLN.out]; omega)] at hTw4
        exact hTw4
      have hfe : freeN ws3 = (allR f bs4).length := by rw [hTwE.all hM4.s, freeN_allF]
      have HF := hide (free_calls hM4.s)
      rw [hfe] at HF
      obtain ⟨fN, hfN⟩ : ∃ fN, fN = (allR f bs4).length := ⟨_, rfl⟩
      rw [← hfN] at HF hfb4 ⊢
      have gff : ((fN : Int) != (fN : Int)) = false := by simp
      have HNX : Hid (OnceEnd w g gw gg n f t (.int .i64 (fN : Int)) wr) := ⟨ws3, bs4, by rw [hfN], hM4, hTwE⟩
      have hlk : (lN : Int) ≤ (k2 : Int) := by omega
      clear hM4 hlow hdr hTw4 hr4 hTwE hfe hfN hb4
      go_wp2_with fail
      refine (unhide HF).mono ?_
      rintro e w7 ⟨rfl, hw7⟩
      obtain rfl := hw7.symm
      clear hw7
      go_wp2
      exact unhide HRR _ _ _ _ _ _ _ _ _ _ _ _ _ _ _ _ _ _ _ _ _ _ _ _ _ _ _ _ _ _ _ _ _ _ _ _ _ _ _ _ _ _ _ _ HNX.out
end Go.Proofs.YtifmfnkpogconaaDoor

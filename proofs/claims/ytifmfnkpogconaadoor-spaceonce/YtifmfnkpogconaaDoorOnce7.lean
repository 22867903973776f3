/- SpaceOnce: the switch, a theorem a kind. -/
import Derived.Test.YtifmfnkpogconaaDoorOnce6
namespace Go.Proofs.YtifmfnkpogconaaDoor
open Go.RowKit

/-- A statement within a statement. -/
def nav : List Nat → Code → Code
  | 0 :: p, .seq a _ => nav p a
  | 1 :: p, .seq _ b => nav p b
  | 2 :: p, .block _ b => nav p b
  | 2 :: p, .loop b => nav p b
  | _, c => c
set_option maxRecDepth 100000 in
set_option maxHeartbeats 4000000 in
theorem once_sw_1 {w W0 : World} {g gw gg n f t fN gO : Nat} {ws : List Nat} {bs : List Bool} {K O N : Int} {Q' : Exit → Act → World → Prop} (hK : K = 1) (hn3 : n ≤ 500) (hn0 : 0 < n) (hf1 : f < 60000) (hTT : f + n = t) (hfb : fN ≤ n) (HFN : Hid (fN = (allR f bs).length)) (HM0 : Hid (Om w W0 g gw gg n f t ws bs)) (HTW : Hid (Tw f t ws bs)) (HT0 : Hid (Tz W0))
    (HO0 : Hid (W0.heap[gO]? = some (.cells #[.int .i64 K, .int .i64 O, .int .i64 N] 39 (0, 0)))) (u2 u3 u4 u5 u6 u8 u11 u14 u15 u16 u17 u18 u19 u20 u21 u22 u23 u24 u25 u26 u27 u28 u29 u30 u31 u32 u33 u34 u35 u36 u37 u38 u39 u40 u41 u42 u43 u44 u45 u46 u47 u48 u49 u50 u51 u52 u53 u54 u55 u56 u57 u58 u59 u60 u61 u62 u63 u64 u65 u66 u67 u68 u69 u70 u71 u72 u73 u74 u75 u76 u77 u78 u79 u80 u81 u82 u83 u84 u85 u86 u87 u88 u89 u90 u91 u92 u93 u94 u95 u96 u97 u98 u99 u100 u101 u102 u103 u104 u105 u106 u107 u108 u109 u110 u111 u112 u113 u114 u115 u116 u117 u118 u119 u120 u121 u122 u123 u124 u125 u126 u127 u128 u129 u130 u131 u132 u133 u134 u135 u136 u137 u138 u139 u140 u141 u142 u143 u144 u145 u146 u147 u148 u149 u150 u151 u152 u153 u154 u155 u156 u157 u158 u159 u160 u161 u162 u163 u164 u165 u166 u167 u168 u169 u170 u171 u172 u173 u174 u175 u176 u177 u178 u179 u180 u181 u182 u183 u184 u185 u186 u187 u188 u189 u190 u191 u192 u193 u194 u195 u196 u197 u198 u199 u200 u201 u202 u203 u204 u205 u206 u207 u208 u209 u210 u211 u212 u213 u214 u215 u216 u217 u218 u219 u220 u221 u222 u223 u224 u225 u226 u227 u228 u229 u230 u231 u232 u233 u234 u235 u236 u237 u238 u239 u240 u241 u242 u243 u244 u245 u246 u247 : Value)
    (hR : ∀ (v6 v10 v13 v14 v15 v16 v17 v18 v19 v20 v60 v61 v62 v63 v64 v65 v66 v67 v68 v69 v70 v71 v72 v73 v74 v75 v76 v77 v78 v79 v80 v81 v82 v83 v84 v85 v86 v87 v88 v89 v90 v91 v92 v93 v94 v95 v96 v97 v98 v99 v100 v101 v102 v103 v104 v105 v106 v107 v108 v109 v110 v111 v112 v113 v114 v115 v116 v117 v118 v119 v120 v121 v122 v123 v124 v125 v126 v127 v128 v129 v130 v131 v132 v133 v134 v135 v136 v137 v138 v139 v140 v141 v142 v143 v144 v145 v146 v147 v148 v149 v150 v151 v152 v153 v154 v155 v156 v157 v158 v159 v160 v161 v162 v163 v164 v165 v166 v167 v168 v169 v170 v171 v172 v173 v174 v175 v176 v177 v178 v179 v180 v181 v182 v183 v184 v185 v186 v187 v188 v189 v190 v191 v192 v193 v194 v195 v196 v197 v198 v199 v200 v201 v202 v203 v204 v205 v206 v207 : Value) (W : World), OnceMid w g gw gg n f t v10 v13 W → Q' .normal ⟨#[.int .i64 (f : Int), .int .i64 (n : Int), u2, u3, u4, u5, v6, .pointer (some ⟨g, 0, none⟩), u8, .slice (some ⟨gg, 0, none⟩) n n, v10, u11, .pointer (some ⟨gO, 0, none⟩), v13, v14, v15, v16, v17, v18, v19, v20, u21, u22, u23, u24, u25, u26, u27, u28, u29, u30, u31, u32, u33, u34, u35, u36, u37, u38, u39, u40, u41, u42, u43, u44, u45, u46, u47, u48, u49, u50, u51, u52, u53, u54, u55, u56, u57, u58, u59, v60, v61, v62, v63, v64, v65, v66, v67, v68, v69, v70, v71, v72, v73, v74, v75, v76, v77, v78, v79, v80, v81, v82, v83, v84, v85, v86, v87, v88, v89, v90, v91, v92, v93, v94, v95, v96, v97, v98, v99, v100, v101, v102, v103, v104, v105, v106, v107, v108, v109, v110, v111, v112, v113, v114, v115, v116, v117, v118, v119, v120, v121, v122, v123, v124, v125, v126, v127, v128, v129, v130, v131, v132, v133, v134, v135, v136, v137, v138, v139, v140, v141, v142, v143, v144, v145, v146, v147, v148, v149, v150, v151, v152, v153, v154, v155, v156, v157, v158, v159, v160, v161, v162, v163, v164, v165, v166, v167, v168, v169, v170, v171, v172, v173, v174, v175, v176, v177, v178, v179, v180, v181, v182, v183, v184, v185, v186, v187, v188, v189, v190, v191, v192, v193, v194, v195, v196, v197, v198, v199, v200, v201, v202, v203, v204, v205, v206, v207, u208, u209, u210, u211, u212, u213, u214, u215, u216, u217, u218, u219, u220, u221, u222, u223, u224, u225, u226, u227, u228, u229, u230, u231, u232, u233, u234, u235, u236, u237, u238, u239, u240, u241, u242, u243, u244, u245, u246, u247], []⟩ W) : Code.wp Tryd.prog (nav [1, 1, 1, 1, 1, 1, 1, 0, 1, 2, 2, 1, 0, 2, 1, 1, 0] (Tryd.f6.body.getD .skip)) Q' ⟨#[.int .i64 (f : Int), .int .i64 (n : Int), u2, u3, u4, u5, u6, .pointer (some ⟨g, 0, none⟩), u8, .slice (some ⟨gg, 0, none⟩) n n, .int .i64 (fN : Int), u11, .pointer (some ⟨gO, 0, none⟩), .slice none 0 0, u14, u15, u16, u17, u18, u19, u20, u21, u22, u23, u24, u25, u26, u27, u28, u29, u30, u31, u32, u33, u34, u35, u36, u37, u38, u39, u40, u41, u42, u43, u44, u45, u46, u47, u48, u49, u50, u51, u52, u53, u54, u55, u56, u57, u58, u59, u60, u61, u62, u63, u64, u65, u66, u67, u68, u69, u70, u71, u72, u73, u74, u75, u76, u77, u78, u79, u80, u81, u82, u83, u84, u85, u86, u87, u88, u89, u90, u91, u92, u93, u94, u95, u96, u97, u98, u99, u100, u101, u102, u103, u104, u105, u106, u107, u108, u109, u110, u111, u112, u113, u114, u115, u116, u117, u118, u119, u120, u121, u122, u123, u124, u125, u126, u127, u128, u129, u130, u131, u132, u133, u134, u135, u136, u137, u138, u139, u140, u141, u142, u143, u144, u145, u146, u147, u148, u149, u150, u151, u152, u153, u154, u155, u156, u157, u158, u159, u160, u161, u162, u163, u164, u165, u166, u167, u168, u169, u170, u171, u172, u173, u174, u175, u176, u177, u178, u179, u180, u181, u182, u183, u184, u185, u186, u187, u188, u189, u190, u191, u192, u193, u194, u195, u196, u197, u198, u199, u200, u201, u202, u203, u204, u205, u206, u207, u208, u209, u210, u211, u212, u213, u214, u215, u216, u217, u218, u219, u220, u221, u222, u223, u224, u225, u226, u227, u228, u229, u230, u231, u232, u233, u234, u235, u236, u237, u238, u239, u240, u241, u242, u243, u244, u245, u246, u247], []⟩ W0 := by
  obtain ⟨jI, hjI, hy0, hy1, hy2⟩ := info_part infoI
  have HPN : Hid (∀ (z : Int) W, 0 ≤ z → z < (n : Int) → Calls Tryd.prog 15 #[.int .i64 z, .int .i64 (n : Int)] W fun e w' => e = .returned (.int .i64 z) ∧ w' = W) := fun z W h0 h1 => (place4_calls z n hn0 (by omega) W).mono fun e w' ⟨e1, e2⟩ => ⟨by rw [e1, pl_id h0 h1]; congr 2; omega, e2⟩
  have HTF : Hid (t - f = n) := by show _ = _; omega
  have HTT : Hid ((f : Int) + (n : Int) = (t : Int)) := by show _ = _; omega
  have d0 : W0.cell? ⟨gO, 0, none⟩ = some (.int .i64 K) := cell_of_row _ _ 0 _ _ _ HO0.out
  have d5 : W0.cell? ⟨gO, 2, none⟩ = some (.int .i64 N) := by rw [cell_of_row _ _ 2 _ _ _ HO0.out]; rfl
  have HRR := hide hR
  have hused := And.intro hf1 (And.intro hfb HT0.out)
  clear hR hTT hused
  unfold Tryd.f6
  simp only [nav, Option.getD_some]
  have hMs := (HM0.out).s
  have hall := (HTW.out).all hMs
  subst hK
  cases hl : allF f 0 ws with
  | nil =>
    have H1 : Hid (Calls Tryd.prog 18 #[.pointer (some ⟨g, 0, none⟩)] W0 fun e w' => e = .returned (.tuple #[.int .i64 0, .bool false]) ∧ w' = W0) := (take_calls hMs HT0.out).mono fun e w' hd => by
      rcases hd with ⟨_, e1, e2⟩ | ⟨_, _, e1, _⟩
      · exact ⟨e1, e2⟩
      · rw [hl] at e1; cases e1
    have hf0 : fN = 0 := by
      have := HFN.out
      rw [hall, hl] at this
      exact this
    have HR : Hid (OnceMid w g gw gg n f t (.int .i64 (fN : Int)) (.slice none 0 0) W0) := ⟨ws, bs, [], 0, by rw [HFN.out], Row.nil _ _ _, by simp, HM0.out, HTW.out⟩
    rw [hf0] at HR ⊢
    clear hl hall hMs hf0
    go_wp2_with fail
    refine (unhide H1).mono ?_
    rintro e w4 ⟨rfl, hw4⟩
    obtain rfl := hw4.symm
    clear hw4
    go_wp2
    exact unhide HRR _ _ _ _ _ _ _ _ _ _ _ _ _ _ _ _ _ _ _ _ _ _ _ _ _ _ _ _ _ _ _ _ _ _ _ _ _ _ _ _ _ _ _ _ _ _ _ _ _ _ _ _ _ _ _ _ _ _ _ _ _ _ _ _ _ _ _ _ _ _ _ _ _ _ _ _ _ _ _ _ _ _ _ _ _ _ _ _ _ _ _ _ _ _ _ _ _ _ _ _ _ _ _ _ _ _ _ _ _ _ _ _ _ _ _ _ _ _ _ _ _ _ _ _ _ _ _ _ _ _ _ _ _ _ _ _ _ _ _ _ _ _ _ _ _ _ _ _ _ _ _ _ _ _ _ _ _ _ _ HR.out
  | cons q l =>
    have H1 : Hid (Calls Tryd.prog 18 #[.pointer (some ⟨g, 0, none⟩)] W0 fun e w' => e = .returned (.tuple #[.int .i64 (q : Int), .bool true]) ∧ Hid (Om w w' g gw gg n f t (claimW f t ws (q : Int)) bs)) := (take_calls hMs HT0.out).mono fun e w' hd => by
      rcases hd with ⟨e0, _, _⟩ | ⟨_, _, e1, e2, e3, e4⟩
      · rw [hl] at e0; cases e0
      · rw [hl] at e1
        injection e1 with e1 _
        subst e1
        exact ⟨e2, ((HM0.out).move e3 e4).1⟩
    have hf0 : (0 : Int) < (fN : Int) := by
      have := HFN.out
      rw [hall, hl] at this
      simp at this
      omega
    have HTK : Hid (Tw f t (claimW f t ws (q : Int)) (clrR f bs [q])) := by
      have := (HTW.out).takeAll hMs 1
      rw [hall, hl] at this
      exact this
    have HE : Hid ((allR f bs).take 1 = [q]) := by show _ = _; rw [hall, hl]; rfl
    clear hl hall hMs
    go_wp2_with fail
    refine (unhide H1).mono ?_
    rintro e w4 ⟨rfl, HM4⟩
    have hz4 := (HM4.out).bel.size
    go_wp2_with (at_builtin; refine wpList_append_own _ rfl _ _ 49 rfl w.heap.size 3 jI (.int .i64 0) 1 8 Tryd.underlying49 hjI hy0 hy1 hy2 rfl (by decide) _ 0 [] rfl (World.ownsRow_nil _ _ _ _) ⟨w4.heap.size, 0, none⟩ 1 1 [.int .i64 (q : Int)] rfl rfl (cell_one_new _ _ _) (by intro u hu; simp at hu; subst hu; rfl) (by unfold maxLen; omega) (by omega) (by simp; omega) ?_; intro v5 w5 hown5 hgrow5 hnil5)
    have hb5 : Below w4.heap.size w4 w5 := by
      have h1 := (World.grownBy_alloc w4 (.cells #[.int .i64 (q : Int)] 3) none).trans hgrow5
      exact ⟨h1.os, h1.tape, h1.output, h1.size, fun k hk => h1.block k hk (by simp)⟩
    exact unhide HRR _ _ _ _ _ _ _ _ _ _ _ _ _ _ _ _ _ _ _ _ _ _ _ _ _ _ _ _ _ _ _ _ _ _ _ _ _ _ _ _ _ _ _ _ _ _ _ _ _ _ _ _ _ _ _ _ _ _ _ _ _ _ _ _ _ _ _ _ _ _ _ _ _ _ _ _ _ _ _ _ _ _ _ _ _ _ _ _ _ _ _ _ _ _ _ _ _ _ _ _ _ _ _ _ _ _ _ _ _ _ _ _ _ _ _ _ _ _ _ _ _ _ _ _ _ _ _ _ _ _ _ _ _ _ _ _ _ _ _ _ _ _ _ _ _ _ _ _ _ _ _ _ _ _ _ _ _ _ _ ⟨_, bs, [q], 1, by rw [HFN.out], hown5, (HE.out).symm, (HM4.out).below hb5, HTK.out⟩
set_option maxRecDepth 100000 in
set_option maxHeartbeats 4000000 in
theorem once_sw_2 {w W0 : World} {g gw gg n f t fN gO : Nat} {ws : List Nat} {bs : List Bool} {K O N : Int} {Q' : Exit → Act → World → Prop} (hK : K = 2) (hn3 : n ≤ 500) (hn0 : 0 < n) (hf1 : f < 60000) (hTT : f + n = t) (hfb : fN ≤ n) (HFN : Hid (fN = (allR f bs).length)) (HM0 : Hid (Om w W0 g gw gg n f t ws bs)) (HTW : Hid (Tw f t ws bs)) (HT0 : Hid (Tz W0))
    (HO0 : Hid (W0.heap[gO]? = some (.cells #[.int .i64 K, .int .i64 O, .int .i64 N] 39 (0, 0)))) (u2 u3 u4 u5 u6 u8 u11 u14 u15 u16 u17 u18 u19 u20 u21 u22 u23 u24 u25 u26 u27 u28 u29 u30 u31 u32 u33 u34 u35 u36 u37 u38 u39 u40 u41 u42 u43 u44 u45 u46 u47 u48 u49 u50 u51 u52 u53 u54 u55 u56 u57 u58 u59 u60 u61 u62 u63 u64 u65 u66 u67 u68 u69 u70 u71 u72 u73 u74 u75 u76 u77 u78 u79 u80 u81 u82 u83 u84 u85 u86 u87 u88 u89 u90 u91 u92 u93 u94 u95 u96 u97 u98 u99 u100 u101 u102 u103 u104 u105 u106 u107 u108 u109 u110 u111 u112 u113 u114 u115 u116 u117 u118 u119 u120 u121 u122 u123 u124 u125 u126 u127 u128 u129 u130 u131 u132 u133 u134 u135 u136 u137 u138 u139 u140 u141 u142 u143 u144 u145 u146 u147 u148 u149 u150 u151 u152 u153 u154 u155 u156 u157 u158 u159 u160 u161 u162 u163 u164 u165 u166 u167 u168 u169 u170 u171 u172 u173 u174 u175 u176 u177 u178 u179 u180 u181 u182 u183 u184 u185 u186 u187 u188 u189 u190 u191 u192 u193 u194 u195 u196 u197 u198 u199 u200 u201 u202 u203 u204 u205 u206 u207 u208 u209 u210 u211 u212 u213 u214 u215 u216 u217 u218 u219 u220 u221 u222 u223 u224 u225 u226 u227 u228 u229 u230 u231 u232 u233 u234 u235 u236 u237 u238 u239 u240 u241 u242 u243 u244 u245 u246 u247 : Value)
    (hR : ∀ (v6 v10 v13 v14 v15 v16 v17 v18 v19 v20 v60 v61 v62 v63 v64 v65 v66 v67 v68 v69 v70 v71 v72 v73 v74 v75 v76 v77 v78 v79 v80 v81 v82 v83 v84 v85 v86 v87 v88 v89 v90 v91 v92 v93 v94 v95 v96 v97 v98 v99 v100 v101 v102 v103 v104 v105 v106 v107 v108 v109 v110 v111 v112 v113 v114 v115 v116 v117 v118 v119 v120 v121 v122 v123 v124 v125 v126 v127 v128 v129 v130 v131 v132 v133 v134 v135 v136 v137 v138 v139 v140 v141 v142 v143 v144 v145 v146 v147 v148 v149 v150 v151 v152 v153 v154 v155 v156 v157 v158 v159 v160 v161 v162 v163 v164 v165 v166 v167 v168 v169 v170 v171 v172 v173 v174 v175 v176 v177 v178 v179 v180 v181 v182 v183 v184 v185 v186 v187 v188 v189 v190 v191 v192 v193 v194 v195 v196 v197 v198 v199 v200 v201 v202 v203 v204 v205 v206 v207 : Value) (W : World), OnceMid w g gw gg n f t v10 v13 W → Q' .normal ⟨#[.int .i64 (f : Int), .int .i64 (n : Int), u2, u3, u4, u5, v6, .pointer (some ⟨g, 0, none⟩), u8, .slice (some ⟨gg, 0, none⟩) n n, v10, u11, .pointer (some ⟨gO, 0, none⟩), v13, v14, v15, v16, v17, v18, v19, v20, u21, u22, u23, u24, u25, u26, u27, u28, u29, u30, u31, u32, u33, u34, u35, u36, u37, u38, u39, u40, u41, u42, u43, u44, u45, u46, u47, u48, u49, u50, u51, u52, u53, u54, u55, u56, u57, u58, u59, v60, v61, v62, v63, v64, v65, v66, v67, v68, v69, v70, v71, v72, v73, v74, v75, v76, v77, v78, v79, v80, v81, v82, v83, v84, v85, v86, v87, v88, v89, v90, v91, v92, v93, v94, v95, v96, v97, v98, v99, v100, v101, v102, v103, v104, v105, v106, v107, v108, v109, v110, v111, v112, v113, v114, v115, v116, v117, v118, v119, v120, v121, v122, v123, v124, v125, v126, v127, v128, v129, v130, v131, v132, v133, v134, v135, v136, v137, v138, v139, v140, v141, v142, v143, v144, v145, v146, v147, v148, v149, v150, v151, v152, v153, v154, v155, v156, v157, v158, v159, v160, v161, v162, v163, v164, v165, v166, v167, v168, v169, v170, v171, v172, v173, v174, v175, v176, v177, v178, v179, v180, v181, v182, v183, v184, v185, v186, v187, v188, v189, v190, v191, v192, v193, v194, v195, v196, v197, v198, v199, v200, v201, v202, v203, v204, v205, v206, v207, u208, u209, u210, u211, u212, u213, u214, u215, u216, u217, u218, u219, u220, u221, u222, u223, u224, u225, u226, u227, u228, u229, u230, u231, u232, u233, u234, u235, u236, u237, u238, u239, u240, u241, u242, u243, u244, u245, u246, u247], []⟩ W) : Code.wp Tryd.prog (nav [1, 1, 1, 1, 1, 1, 1, 0, 1, 2, 2, 1, 0, 2, 1, 1, 0] (Tryd.f6.body.getD .skip)) Q' ⟨#[.int .i64 (f : Int), .int .i64 (n : Int), u2, u3, u4, u5, u6, .pointer (some ⟨g, 0, none⟩), u8, .slice (some ⟨gg, 0, none⟩) n n, .int .i64 (fN : Int), u11, .pointer (some ⟨gO, 0, none⟩), .slice none 0 0, u14, u15, u16, u17, u18, u19, u20, u21, u22, u23, u24, u25, u26, u27, u28, u29, u30, u31, u32, u33, u34, u35, u36, u37, u38, u39, u40, u41, u42, u43, u44, u45, u46, u47, u48, u49, u50, u51, u52, u53, u54, u55, u56, u57, u58, u59, u60, u61, u62, u63, u64, u65, u66, u67, u68, u69, u70, u71, u72, u73, u74, u75, u76, u77, u78, u79, u80, u81, u82, u83, u84, u85, u86, u87, u88, u89, u90, u91, u92, u93, u94, u95, u96, u97, u98, u99, u100, u101, u102, u103, u104, u105, u106, u107, u108, u109, u110, u111, u112, u113, u114, u115, u116, u117, u118, u119, u120, u121, u122, u123, u124, u125, u126, u127, u128, u129, u130, u131, u132, u133, u134, u135, u136, u137, u138, u139, u140, u141, u142, u143, u144, u145, u146, u147, u148, u149, u150, u151, u152, u153, u154, u155, u156, u157, u158, u159, u160, u161, u162, u163, u164, u165, u166, u167, u168, u169, u170, u171, u172, u173, u174, u175, u176, u177, u178, u179, u180, u181, u182, u183, u184, u185, u186, u187, u188, u189, u190, u191, u192, u193, u194, u195, u196, u197, u198, u199, u200, u201, u202, u203, u204, u205, u206, u207, u208, u209, u210, u211, u212, u213, u214, u215, u216, u217, u218, u219, u220, u221, u222, u223, u224, u225, u226, u227, u228, u229, u230, u231, u232, u233, u234, u235, u236, u237, u238, u239, u240, u241, u242, u243, u244, u245, u246, u247], []⟩ W0 := by
  obtain ⟨jI, hjI, hy0, hy1, hy2⟩ := info_part infoI
  have HPN : Hid (∀ (z : Int) W, 0 ≤ z → z < (n : Int) → Calls Tryd.prog 15 #[.int .i64 z, .int .i64 (n : Int)] W fun e w' => e = .returned (.int .i64 z) ∧ w' = W) := fun z W h0 h1 => (place4_calls z n hn0 (by omega) W).mono fun e w' ⟨e1, e2⟩ => ⟨by rw [e1, pl_id h0 h1]; congr 2; omega, e2⟩
  have HTF : Hid (t - f = n) := by show _ = _; omega
  have HTT : Hid ((f : Int) + (n : Int) = (t : Int)) := by show _ = _; omega
  have d0 : W0.cell? ⟨gO, 0, none⟩ = some (.int .i64 K) := cell_of_row _ _ 0 _ _ _ HO0.out
  have d5 : W0.cell? ⟨gO, 2, none⟩ = some (.int .i64 N) := by rw [cell_of_row _ _ 2 _ _ _ HO0.out]; rfl
  have HRR := hide hR
  have hused := And.intro hf1 (And.intro hfb HT0.out)
  clear hR hTT hused
  unfold Tryd.f6
  simp only [nav, Option.getD_some]
  have hMs := (HM0.out).s
  have hall := (HTW.out).all hMs
  subst hK
  have hff : freeN ws = fN := by rw [HFN.out, hall, freeN_allF]
  by_cases hn : 0 ≤ N ∧ N ≤ (fN : Int)
  · obtain ⟨j, rfl⟩ : ∃ j : Nat, N = (j : Int) := ⟨N.toNat, by omega⟩
    have hjf : j ≤ fN := by omega
    have H1 : Hid (Calls Tryd.prog 19 #[.pointer (some ⟨g, 0, none⟩), .int .i64 (j : Int)] W0 fun e w' => ∃ a c, e = .returned (.tuple #[.slice a j c, .bool true]) ∧ Hid (OnceMid w g gw gg n f t (.int .i64 (fN : Int)) (.slice a j c) w') ∧ w'.cell? ⟨gO, 2, none⟩ = some (.int .i64 (j : Int))) := (takeAll_calls hMs HT0.out j (by rw [hff]; exact hjf)).mono fun e w' ⟨v, e1, e2, e3, e4⟩ => by
      obtain ⟨a, c, hs⟩ := e2.shape
      rw [iV_len, List.length_take, freeN_allF, hff, Nat.min_eq_left hjf] at hs
      subst hs
      obtain ⟨m1, m2⟩ := (HM0.out).move e3 e4
      refine ⟨a, c, e1, ⟨_, bs, (allR f bs).take j, j, by rw [HFN.out], ?_, rfl, m1, ?_⟩, ?_⟩
      · rw [hall]; exact e2.mono (HM0.out).bel.size
      · exact (HTW.out).takeAll hMs j
      · rw [cell_of_row w' _ 2 _ _ _ (m2.cells HO0.out (by decide))]; rfl
    have hjI : (j : Int) ≤ (fN : Int) := by omega
    have gjj : ((j : Int) != (j : Int)) = false := by simp
    clear hall hMs hff hn
    go_wp2_with fail
    refine (unhide H1).mono ?_
    rintro e w4 ⟨a4, c4, rfl, HR, d6⟩
    go_wp2
    exact unhide HRR _ _ _ _ _ _ _ _ _ _ _ _ _ _ _ _ _ _ _ _ _ _ _ _ _ _ _ _ _ _ _ _ _ _ _ _ _ _ _ _ _ _ _ _ _ _ _ _ _ _ _ _ _ _ _ _ _ _ _ _ _ _ _ _ _ _ _ _ _ _ _ _ _ _ _ _ _ _ _ _ _ _ _ _ _ _ _ _ _ _ _ _ _ _ _ _ _ _ _ _ _ _ _ _ _ _ _ _ _ _ _ _ _ _ _ _ _ _ _ _ _ _ _ _ _ _ _ _ _ _ _ _ _ _ _ _ _ _ _ _ _ _ _ _ _ _ _ _ _ _ _ _ _ _ _ _ _ _ _ HR.out
  · have H1 := hide (takeAll_no hMs N (by rw [hff]; omega))
    have HR : Hid (OnceMid w g gw gg n f t (.int .i64 (fN : Int)) (.slice none 0 0) W0) := ⟨ws, bs, [], 0, by rw [HFN.out], Row.nil _ _ _, by simp, HM0.out, HTW.out⟩
    have hcond : N < 0 ∨ (0 ≤ N ∧ (fN : Int) < N) := by omega
    clear hall hMs hff hn
    rcases hcond with hcd | ⟨hcd, hcd2⟩
    all_goals (
      go_wp2_with fail
      refine (unhide H1).mono ?_
      rintro e w4 ⟨rfl, hw4⟩
      obtain rfl := hw4.symm
      clear hw4
      go_wp2
      exact unhide HRR _ _ _ _ _ _ _ _ _ _ _ _ _ _ _ _ _ _ _ _ _ _ _ _ _ _ _ _ _ _ _ _ _ _ _ _ _ _ _ _ _ _ _ _ _ _ _ _ _ _ _ _ _ _ _ _ _ _ _ _ _ _ _ _ _ _ _ _ _ _ _ _ _ _ _ _ _ _ _ _ _ _ _ _ _ _ _ _ _ _ _ _ _ _ _ _ _ _ _ _ _ _ _ _ _ _ _ _ _ _ _ _ _ _ _ _ _ _ _ _ _ _ _ _ _ _ _ _ _ _ _ _ _ _ _ _ _ _ _ _ _ _ _ _ _ _ _ _ _ _ _ _ _ _ _ _ _ _ _ HR.out)
set_option maxRecDepth 100000 in
set_option maxHeartbeats 4000000 in
theorem once_sw_3 {w W0 : World} {g gw gg n f t fN gO : Nat} {ws : List Nat} {bs : List Bool} {K O N : Int} {Q' : Exit → Act → World → Prop} (hK : K = 3) (hn3 : n ≤ 500) (hn0 : 0 < n) (hf1 : f < 60000) (hTT : f + n = t) (hfb : fN ≤ n) (HFN : Hid (fN = (allR f bs).length)) (HM0 : Hid (Om w W0 g gw gg n f t ws bs)) (HTW : Hid (Tw f t ws bs)) (HT0 : Hid (Tz W0))
    (HO0 : Hid (W0.heap[gO]? = some (.cells #[.int .i64 K, .int .i64 O, .int .i64 N] 39 (0, 0)))) (u2 u3 u4 u5 u6 u8 u11 u14 u15 u16 u17 u18 u19 u20 u21 u22 u23 u24 u25 u26 u27 u28 u29 u30 u31 u32 u33 u34 u35 u36 u37 u38 u39 u40 u41 u42 u43 u44 u45 u46 u47 u48 u49 u50 u51 u52 u53 u54 u55 u56 u57 u58 u59 u60 u61 u62 u63 u64 u65 u66 u67 u68 u69 u70 u71 u72 u73 u74 u75 u76 u77 u78 u79 u80 u81 u82 u83 u84 u85 u86 u87 u88 u89 u90 u91 u92 u93 u94 u95 u96 u97 u98 u99 u100 u101 u102 u103 u104 u105 u106 u107 u108 u109 u110 u111 u112 u113 u114 u115 u116 u117 u118 u119 u120 u121 u122 u123 u124 u125 u126 u127 u128 u129 u130 u131 u132 u133 u134 u135 u136 u137 u138 u139 u140 u141 u142 u143 u144 u145 u146 u147 u148 u149 u150 u151 u152 u153 u154 u155 u156 u157 u158 u159 u160 u161 u162 u163 u164 u165 u166 u167 u168 u169 u170 u171 u172 u173 u174 u175 u176 u177 u178 u179 u180 u181 u182 u183 u184 u185 u186 u187 u188 u189 u190 u191 u192 u193 u194 u195 u196 u197 u198 u199 u200 u201 u202 u203 u204 u205 u206 u207 u208 u209 u210 u211 u212 u213 u214 u215 u216 u217 u218 u219 u220 u221 u222 u223 u224 u225 u226 u227 u228 u229 u230 u231 u232 u233 u234 u235 u236 u237 u238 u239 u240 u241 u242 u243 u244 u245 u246 u247 : Value)
    (hR : ∀ (v6 v10 v13 v14 v15 v16 v17 v18 v19 v20 v60 v61 v62 v63 v64 v65 v66 v67 v68 v69 v70 v71 v72 v73 v74 v75 v76 v77 v78 v79 v80 v81 v82 v83 v84 v85 v86 v87 v88 v89 v90 v91 v92 v93 v94 v95 v96 v97 v98 v99 v100 v101 v102 v103 v104 v105 v106 v107 v108 v109 v110 v111 v112 v113 v114 v115 v116 v117 v118 v119 v120 v121 v122 v123 v124 v125 v126 v127 v128 v129 v130 v131 v132 v133 v134 v135 v136 v137 v138 v139 v140 v141 v142 v143 v144 v145 v146 v147 v148 v149 v150 v151 v152 v153 v154 v155 v156 v157 v158 v159 v160 v161 v162 v163 v164 v165 v166 v167 v168 v169 v170 v171 v172 v173 v174 v175 v176 v177 v178 v179 v180 v181 v182 v183 v184 v185 v186 v187 v188 v189 v190 v191 v192 v193 v194 v195 v196 v197 v198 v199 v200 v201 v202 v203 v204 v205 v206 v207 : Value) (W : World), OnceMid w g gw gg n f t v10 v13 W → Q' .normal ⟨#[.int .i64 (f : Int), .int .i64 (n : Int), u2, u3, u4, u5, v6, .pointer (some ⟨g, 0, none⟩), u8, .slice (some ⟨gg, 0, none⟩) n n, v10, u11, .pointer (some ⟨gO, 0, none⟩), v13, v14, v15, v16, v17, v18, v19, v20, u21, u22, u23, u24, u25, u26, u27, u28, u29, u30, u31, u32, u33, u34, u35, u36, u37, u38, u39, u40, u41, u42, u43, u44, u45, u46, u47, u48, u49, u50, u51, u52, u53, u54, u55, u56, u57, u58, u59, v60, v61, v62, v63, v64, v65, v66, v67, v68, v69, v70, v71, v72, v73, v74, v75, v76, v77, v78, v79, v80, v81, v82, v83, v84, v85, v86, v87, v88, v89, v90, v91, v92, v93, v94, v95, v96, v97, v98, v99, v100, v101, v102, v103, v104, v105, v106, v107, v108, v109, v110, v111, v112, v113, v114, v115, v116, v117, v118, v119, v120, v121, v122, v123, v124, v125, v126, v127, v128, v129, v130, v131, v132, v133, v134, v135, v136, v137, v138, v139, v140, v141, v142, v143, v144, v145, v146, v147, v148, v149, v150, v151, v152, v153, v154, v155, v156, v157, v158, v159, v160, v161, v162, v163, v164, v165, v166, v167, v168, v169, v170, v171, v172, v173, v174, v175, v176, v177, v178, v179, v180, v181, v182, v183, v184, v185, v186, v187, v188, v189, v190, v191, v192, v193, v194, v195, v196, v197, v198, v199, v200, v201, v202, v203, v204, v205, v206, v207, u208, u209, u210, u211, u212, u213, u214, u215, u216, u217, u218, u219, u220, u221, u222, u223, u224, u225, u226, u227, u228, u229, u230, u231, u232, u233, u234, u235, u236, u237, u238, u239, u240, u241, u242, u243, u244, u245, u246, u247], []⟩ W) : Code.wp Tryd.prog (nav [1, 1, 1, 1, 1, 1, 1, 0, 1, 2, 2, 1, 0, 2, 1, 1, 0] (Tryd.f6.body.getD .skip)) Q' ⟨#[.int .i64 (f : Int), .int .i64 (n : Int), u2, u3, u4, u5, u6, .pointer (some ⟨g, 0, none⟩), u8, .slice (some ⟨gg, 0, none⟩) n n, .int .i64 (fN : Int), u11, .pointer (some ⟨gO, 0, none⟩), .slice none 0 0, u14, u15, u16, u17, u18, u19, u20, u21, u22, u23, u24, u25, u26, u27, u28, u29, u30, u31, u32, u33, u34, u35, u36, u37, u38, u39, u40, u41, u42, u43, u44, u45, u46, u47, u48, u49, u50, u51, u52, u53, u54, u55, u56, u57, u58, u59, u60, u61, u62, u63, u64, u65, u66, u67, u68, u69, u70, u71, u72, u73, u74, u75, u76, u77, u78, u79, u80, u81, u82, u83, u84, u85, u86, u87, u88, u89, u90, u91, u92, u93, u94, u95, u96, u97, u98, u99, u100, u101, u102, u103, u104, u105, u106, u107, u108, u109, u110, u111, u112, u113, u114, u115, u116, u117, u118, u119, u120, u121, u122, u123, u124, u125, u126, u127, u128, u129, u130, u131, u132, u133, u134, u135, u136, u137, u138, u139, u140, u141, u142, u143, u144, u145, u146, u147, u148, u149, u150, u151, u152, u153, u154, u155, u156, u157, u158, u159, u160, u161, u162, u163, u164, u165, u166, u167, u168, u169, u170, u171, u172, u173, u174, u175, u176, u177, u178, u179, u180, u181, u182, u183, u184, u185, u186, u187, u188, u189, u190, u191, u192, u193, u194, u195, u196, u197, u198, u199, u200, u201, u202, u203, u204, u205, u206, u207, u208, u209, u210, u211, u212, u213, u214, u215, u216, u217, u218, u219, u220, u221, u222, u223, u224, u225, u226, u227, u228, u229, u230, u231, u232, u233, u234, u235, u236, u237, u238, u239, u240, u241, u242, u243, u244, u245, u246, u247], []⟩ W0 := by
  obtain ⟨jI, hjI, hy0, hy1, hy2⟩ := info_part infoI
  have HPN : Hid (∀ (z : Int) W, 0 ≤ z → z < (n : Int) → Calls Tryd.prog 15 #[.int .i64 z, .int .i64 (n : Int)] W fun e w' => e = .returned (.int .i64 z) ∧ w' = W) := fun z W h0 h1 => (place4_calls z n hn0 (by omega) W).mono fun e w' ⟨e1, e2⟩ => ⟨by rw [e1, pl_id h0 h1]; congr 2; omega, e2⟩
  have HTF : Hid (t - f = n) := by show _ = _; omega
  have HTT : Hid ((f : Int) + (n : Int) = (t : Int)) := by show _ = _; omega
  have d0 : W0.cell? ⟨gO, 0, none⟩ = some (.int .i64 K) := cell_of_row _ _ 0 _ _ _ HO0.out
  have d5 : W0.cell? ⟨gO, 2, none⟩ = some (.int .i64 N) := by rw [cell_of_row _ _ 2 _ _ _ HO0.out]; rfl
  have HRR := hide hR
  have hused := And.intro hf1 (And.intro hfb HT0.out)
  clear hR hTT hused
  unfold Tryd.f6
  simp only [nav, Option.getD_some]
  have hMs := (HM0.out).s
  have hall := (HTW.out).all hMs
  subst hK
  have H1 := hide (claim_calls hMs N)
  have HR0 : Hid (∀ w', Sp w' w.heap.size g gw f t (claimW f t ws N) → W0.grownBy w' (some gw) → Om w w' g gw gg n f t (claimW f t ws N) bs ∧ w'.cell? ⟨gO, 2, none⟩ = some (.int .i64 N)) := fun w' e3 e4 => by
    obtain ⟨m1, m2⟩ := (HM0.out).move e3 e4
    exact ⟨m1, by rw [cell_of_row w' _ 2 _ _ _ (m2.cells HO0.out (by decide))]; rfl⟩
  by_cases hin : (f : Int) ≤ N ∧ N < (f : Int) + (n : Int)
  · obtain ⟨j, rfl⟩ : ∃ j : Nat, N = (f : Int) + (j : Int) := ⟨(N - f).toNat, by omega⟩
    have hjn : j < n := by omega
    have hjt : j < t - f := by rw [HTF.out]; exact hjn
    have hbl : bs.length = n := (HM0.out).len
    have has := (HTW.out).hasAt hjt
    have HCL2 := hide ((HTW.out).claimAt hjt)
    rw [has] at H1
    have HPJ : Hid (∀ W, Calls Tryd.prog 15 #[.int .i64 (j : Int), .int .i64 (n : Int)] W fun e w' => e = .returned (.int .i64 (j : Int)) ∧ w' = W) := fun W => unhide HPN (j : Int) W (by omega) (by omega)
    have hfj : (f : Int) + (j : Int) - (f : Int) = (j : Int) := by omega
    have hjI2 : (j : Int) < (n : Int) := by omega
    have hj0 : (0 : Int) ≤ (j : Int) := by omega
    have hc1 : (f : Int) ≤ (f : Int) + (j : Int) := by omega
    have hc2 : (f : Int) + (j : Int) < (f : Int) + (n : Int) := by omega
    by_cases hb : bs.getD j false = true
    · rw [hb] at H1
      have HX : Hid (∀ w4, Om w w4 g gw gg n f t (claimW f t ws ((f : Int) + (j : Int))) bs → w4.cell? ⟨gg, j, none⟩ = some (.bool false) ∧ w4.frozen? ⟨gg, j, none⟩ = false ∧ Hid (OnceMid w g gw gg n f t (.int .i64 ((fN : Int) - 1)) (.slice none 0 0) (w4.setCell ⟨gg, j, none⟩ (.bool true)))) := fun w4 hm => by
        obtain ⟨c1, c2⟩ := hm.cell hjn
        rw [hb] at c1
        have hmk := (hm.mark j true).1
        rw [Bool.not_true] at hmk
        have hle := allR_less (f := f) (bs := bs) (j := j) (by omega) hb
        refine ⟨c1, c2, _, bs.set j false, [], 0, ?_, Row.nil _ _ _, by simp, hmk, HCL2.out⟩
        congr 1; have := HFN.out; omega
      have hfp : 0 < fN := by
        have hle := allR_less (f := f) (bs := bs) (j := j) (by omega) hb
        have := HFN.out
        omega
      clear hall hMs hin hb hbl hjt has HTW HFN
      go_wp2_with fail
      refine (unhide H1).mono ?_
      rintro e w4 ⟨rfl, e2, e3⟩
      obtain ⟨m4, d6⟩ := unhide HR0 w4 e2 e3
      obtain ⟨c1, c2, HR⟩ := unhide HX w4 m4
      clear e2 e3 m4
      go_wp2_with fail
      refine (unhide HPJ w4).mono ?_
      rintro e w5 ⟨rfl, hw5⟩
      obtain rfl := hw5.symm
      clear hw5
      go_wp2
      exact unhide HRR _ _ _ _ _ _ _ _ _ _ _ _ _ _ _ _ _ _ _ _ _ _ _ _ _ _ _ _ _ _ _ _ _ _ _ _ _ _ _ _ _ _ _ _ _ _ _ _ _ _ _ _ _ _ _ _ _ _ _ _ _ _ _ _ _ _ _ _ _ _ _ _ _ _ _ _ _ _ _ _ _ _ _ _ _ _ _ _ _ _ _ _ _ _ _ _ _ _ _ _ _ _ _ _ _ _ _ _ _ _ _ _ _ _ _ _ _ _ _ _ _ _ _ _ _ _ _ _ _ _ _ _ _ _ _ _ _ _ _ _ _ _ _ _ _ _ _ _ _ _ _ _ _ _ _ _ _ _ _ HR.out
    · have hb2 : bs.getD j false = false := by simpa using hb
      rw [hb2] at H1
      have HX : Hid (∀ w4, Om w w4 g gw gg n f t (claimW f t ws ((f : Int) + (j : Int))) bs → w4.cell? ⟨gg, j, none⟩ = some (.bool true) ∧ Hid (OnceMid w g gw gg n f t (.int .i64 (fN : Int)) (.slice none 0 0) w4)) := fun w4 hm => by
        obtain ⟨c1, c2⟩ := hm.cell hjn
        rw [hb2] at c1
        have hcw : claimW f t ws ((f : Int) + (j : Int)) = ws := by
          unfold claimW
          rw [has, hb2]; rfl
        refine ⟨c1, _, bs, [], 0, by rw [HFN.out], Row.nil _ _ _, by simp, hm, ?_⟩
        rw [hcw]; exact HTW.out
      clear hall hMs hin hb hbl hjt
      go_wp2_with fail
      refine (unhide H1).mono ?_
      rintro e w4 ⟨rfl, e2, e3⟩
      obtain ⟨m4, d6⟩ := unhide HR0 w4 e2 e3
      obtain ⟨c1, HR⟩ := unhide HX w4 m4
      clear e2 e3 m4 hb2 has HTW HFN
      go_wp2_with fail
      refine (unhide HPJ w4).mono ?_
      rintro e w5 ⟨rfl, hw5⟩
      obtain rfl := hw5.symm
      clear hw5
      go_wp2
      exact unhide HRR _ _ _ _ _ _ _ _ _ _ _ _ _ _ _ _ _ _ _ _ _ _ _ _ _ _ _ _ _ _ _ _ _ _ _ _ _ _ _ _ _ _ _ _ _ _ _ _ _ _ _ _ _ _ _ _ _ _ _ _ _ _ _ _ _ _ _ _ _ _ _ _ _ _ _ _ _ _ _ _ _ _ _ _ _ _ _ _ _ _ _ _ _ _ _ _ _ _ _ _ _ _ _ _ _ _ _ _ _ _ _ _ _ _ _ _ _ _ _ _ _ _ _ _ _ _ _ _ _ _ _ _ _ _ _ _ _ _ _ _ _ _ _ _ _ _ _ _ _ _ _ _ _ _ _ _ _ _ _ HR.out
  · have hno : hasB f t ws N = false := by
      unfold hasB
      rw [decide_eq_false (by have := HTT.out; omega)]; rfl
    rw [hno] at H1
    have hcw : claimW f t ws N = ws := by unfold claimW; rw [hno]; rfl
    have HX : Hid (∀ w4, Om w w4 g gw gg n f t (claimW f t ws N) bs → Hid (OnceMid w g gw gg n f t (.int .i64 (fN : Int)) (.slice none 0 0) w4)) := fun w4 hm => by
      rw [hcw] at hm
      exact ⟨ws, bs, [], 0, by rw [HFN.out], Row.nil _ _ _, by simp, hm, HTW.out⟩
    have hcond : N < (f : Int) ∨ ((f : Int) ≤ N ∧ (f : Int) + (n : Int) ≤ N) := by omega
    clear hall hMs hin hno hcw
    rcases hcond with hcd | ⟨hcd, hcd2⟩
    all_goals (
      go_wp2_with fail
      refine (unhide H1).mono ?_
      rintro e w4 ⟨rfl, e2, e3⟩
      obtain ⟨m4, d6⟩ := unhide HR0 w4 e2 e3
      have HR := unhide HX w4 m4
      clear e2 e3 m4
      go_wp2
      exact unhide HRR _ _ _ _ _ _ _ _ _ _ _ _ _ _ _ _ _ _ _ _ _ _ _ _ _ _ _ _ _ _ _ _ _ _ _ _ _ _ _ _ _ _ _ _ _ _ _ _ _ _ _ _ _ _ _ _ _ _ _ _ _ _ _ _ _ _ _ _ _ _ _ _ _ _ _ _ _ _ _ _ _ _ _ _ _ _ _ _ _ _ _ _ _ _ _ _ _ _ _ _ _ _ _ _ _ _ _ _ _ _ _ _ _ _ _ _ _ _ _ _ _ _ _ _ _ _ _ _ _ _ _ _ _ _ _ _ _ _ _ _ _ _ _ _ _ _ _ _ _ _ _ _ _ _ _ _ _ _ _ HR.out)
set_option maxRecDepth 100000 in
set_option maxHeartbeats 4000000 in
theorem once_sw_4 {w W0 : World} {g gw gg n f t fN gO : Nat} {ws : List Nat} {bs : List Bool} {K O N : Int} {Q' : Exit → Act → World → Prop} (hK : K = 4) (hn3 : n ≤ 500) (hn0 : 0 < n) (hf1 : f < 60000) (hTT : f + n = t) (hfb : fN ≤ n) (HFN : Hid (fN = (allR f bs).length)) (HM0 : Hid (Om w W0 g gw gg n f t ws bs)) (HTW : Hid (Tw f t ws bs)) (HT0 : Hid (Tz W0))
    (HO0 : Hid (W0.heap[gO]? = some (.cells #[.int .i64 K, .int .i64 O, .int .i64 N] 39 (0, 0)))) (u2 u3 u4 u5 u6 u8 u11 u14 u15 u16 u17 u18 u19 u20 u21 u22 u23 u24 u25 u26 u27 u28 u29 u30 u31 u32 u33 u34 u35 u36 u37 u38 u39 u40 u41 u42 u43 u44 u45 u46 u47 u48 u49 u50 u51 u52 u53 u54 u55 u56 u57 u58 u59 u60 u61 u62 u63 u64 u65 u66 u67 u68 u69 u70 u71 u72 u73 u74 u75 u76 u77 u78 u79 u80 u81 u82 u83 u84 u85 u86 u87 u88 u89 u90 u91 u92 u93 u94 u95 u96 u97 u98 u99 u100 u101 u102 u103 u104 u105 u106 u107 u108 u109 u110 u111 u112 u113 u114 u115 u116 u117 u118 u119 u120 u121 u122 u123 u124 u125 u126 u127 u128 u129 u130 u131 u132 u133 u134 u135 u136 u137 u138 u139 u140 u141 u142 u143 u144 u145 u146 u147 u148 u149 u150 u151 u152 u153 u154 u155 u156 u157 u158 u159 u160 u161 u162 u163 u164 u165 u166 u167 u168 u169 u170 u171 u172 u173 u174 u175 u176 u177 u178 u179 u180 u181 u182 u183 u184 u185 u186 u187 u188 u189 u190 u191 u192 u193 u194 u195 u196 u197 u198 u199 u200 u201 u202 u203 u204 u205 u206 u207 u208 u209 u210 u211 u212 u213 u214 u215 u216 u217 u218 u219 u220 u221 u222 u223 u224 u225 u226 u227 u228 u229 u230 u231 u232 u233 u234 u235 u236 u237 u238 u239 u240 u241 u242 u243 u244 u245 u246 u247 : Value)
    (hR : ∀ (v6 v10 v13 v14 v15 v16 v17 v18 v19 v20 v60 v61 v62 v63 v64 v65 v66 v67 v68 v69 v70 v71 v72 v73 v74 v75 v76 v77 v78 v79 v80 v81 v82 v83 v84 v85 v86 v87 v88 v89 v90 v91 v92 v93 v94 v95 v96 v97 v98 v99 v100 v101 v102 v103 v104 v105 v106 v107 v108 v109 v110 v111 v112 v113 v114 v115 v116 v117 v118 v119 v120 v121 v122 v123 v124 v125 v126 v127 v128 v129 v130 v131 v132 v133 v134 v135 v136 v137 v138 v139 v140 v141 v142 v143 v144 v145 v146 v147 v148 v149 v150 v151 v152 v153 v154 v155 v156 v157 v158 v159 v160 v161 v162 v163 v164 v165 v166 v167 v168 v169 v170 v171 v172 v173 v174 v175 v176 v177 v178 v179 v180 v181 v182 v183 v184 v185 v186 v187 v188 v189 v190 v191 v192 v193 v194 v195 v196 v197 v198 v199 v200 v201 v202 v203 v204 v205 v206 v207 : Value) (W : World), OnceMid w g gw gg n f t v10 v13 W → Q' .normal ⟨#[.int .i64 (f : Int), .int .i64 (n : Int), u2, u3, u4, u5, v6, .pointer (some ⟨g, 0, none⟩), u8, .slice (some ⟨gg, 0, none⟩) n n, v10, u11, .pointer (some ⟨gO, 0, none⟩), v13, v14, v15, v16, v17, v18, v19, v20, u21, u22, u23, u24, u25, u26, u27, u28, u29, u30, u31, u32, u33, u34, u35, u36, u37, u38, u39, u40, u41, u42, u43, u44, u45, u46, u47, u48, u49, u50, u51, u52, u53, u54, u55, u56, u57, u58, u59, v60, v61, v62, v63, v64, v65, v66, v67, v68, v69, v70, v71, v72, v73, v74, v75, v76, v77, v78, v79, v80, v81, v82, v83, v84, v85, v86, v87, v88, v89, v90, v91, v92, v93, v94, v95, v96, v97, v98, v99, v100, v101, v102, v103, v104, v105, v106, v107, v108, v109, v110, v111, v112, v113, v114, v115, v116, v117, v118, v119, v120, v121, v122, v123, v124, v125, v126, v127, v128, v129, v130, v131, v132, v133, v134, v135, v136, v137, v138, v139, v140, v141, v142, v143, v144, v145, v146, v147, v148, v149, v150, v151, v152, v153, v154, v155, v156, v157, v158, v159, v160, v161, v162, v163, v164, v165, v166, v167, v168, v169, v170, v171, v172, v173, v174, v175, v176, v177, v178, v179, v180, v181, v182, v183, v184, v185, v186, v187, v188, v189, v190, v191, v192, v193, v194, v195, v196, v197, v198, v199, v200, v201, v202, v203, v204, v205, v206, v207, u208, u209, u210, u211, u212, u213, u214, u215, u216, u217, u218, u219, u220, u221, u222, u223, u224, u225, u226, u227, u228, u229, u230, u231, u232, u233, u234, u235, u236, u237, u238, u239, u240, u241, u242, u243, u244, u245, u246, u247], []⟩ W) : Code.wp Tryd.prog (nav [1, 1, 1, 1, 1, 1, 1, 0, 1, 2, 2, 1, 0, 2, 1, 1, 0] (Tryd.f6.body.getD .skip)) Q' ⟨#[.int .i64 (f : Int), .int .i64 (n : Int), u2, u3, u4, u5, u6, .pointer (some ⟨g, 0, none⟩), u8, .slice (some ⟨gg, 0, none⟩) n n, .int .i64 (fN : Int), u11, .pointer (some ⟨gO, 0, none⟩), .slice none 0 0, u14, u15, u16, u17, u18, u19, u20, u21, u22, u23, u24, u25, u26, u27, u28, u29, u30, u31, u32, u33, u34, u35, u36, u37, u38, u39, u40, u41, u42, u43, u44, u45, u46, u47, u48, u49, u50, u51, u52, u53, u54, u55, u56, u57, u58, u59, u60, u61, u62, u63, u64, u65, u66, u67, u68, u69, u70, u71, u72, u73, u74, u75, u76, u77, u78, u79, u80, u81, u82, u83, u84, u85, u86, u87, u88, u89, u90, u91, u92, u93, u94, u95, u96, u97, u98, u99, u100, u101, u102, u103, u104, u105, u106, u107, u108, u109, u110, u111, u112, u113, u114, u115, u116, u117, u118, u119, u120, u121, u122, u123, u124, u125, u126, u127, u128, u129, u130, u131, u132, u133, u134, u135, u136, u137, u138, u139, u140, u141, u142, u143, u144, u145, u146, u147, u148, u149, u150, u151, u152, u153, u154, u155, u156, u157, u158, u159, u160, u161, u162, u163, u164, u165, u166, u167, u168, u169, u170, u171, u172, u173, u174, u175, u176, u177, u178, u179, u180, u181, u182, u183, u184, u185, u186, u187, u188, u189, u190, u191, u192, u193, u194, u195, u196, u197, u198, u199, u200, u201, u202, u203, u204, u205, u206, u207, u208, u209, u210, u211, u212, u213, u214, u215, u216, u217, u218, u219, u220, u221, u222, u223, u224, u225, u226, u227, u228, u229, u230, u231, u232, u233, u234, u235, u236, u237, u238, u239, u240, u241, u242, u243, u244, u245, u246, u247], []⟩ W0 := by
  obtain ⟨jI, hjI, hy0, hy1, hy2⟩ := info_part infoI
  have HPN : Hid (∀ (z : Int) W, 0 ≤ z → z < (n : Int) → Calls Tryd.prog 15 #[.int .i64 z, .int .i64 (n : Int)] W fun e w' => e = .returned (.int .i64 z) ∧ w' = W) := fun z W h0 h1 => (place4_calls z n hn0 (by omega) W).mono fun e w' ⟨e1, e2⟩ => ⟨by rw [e1, pl_id h0 h1]; congr 2; omega, e2⟩
  have HTF : Hid (t - f = n) := by show _ = _; omega
  have HTT : Hid ((f : Int) + (n : Int) = (t : Int)) := by show _ = _; omega
  have d0 : W0.cell? ⟨gO, 0, none⟩ = some (.int .i64 K) := cell_of_row _ _ 0 _ _ _ HO0.out
  have d5 : W0.cell? ⟨gO, 2, none⟩ = some (.int .i64 N) := by rw [cell_of_row _ _ 2 _ _ _ HO0.out]; rfl
  have HRR := hide hR
  have hused := And.intro hf1 (And.intro hfb HT0.out)
  clear hR hTT hused
  unfold Tryd.f6
  simp only [nav, Option.getD_some]
  have hMs := (HM0.out).s
  have hall := (HTW.out).all hMs
  subst hK
  have H1 := hide (give_calls hMs N)
  have HR0 : Hid (∀ w', Sp w' w.heap.size g gw f t (giveW f t ws N) → W0.grownBy w' (some gw) → Om w w' g gw gg n f t (giveW f t ws N) bs ∧ w'.cell? ⟨gO, 2, none⟩ = some (.int .i64 N)) := fun w' e3 e4 => by
    obtain ⟨m1, m2⟩ := (HM0.out).move e3 e4
    exact ⟨m1, by rw [cell_of_row w' _ 2 _ _ _ (m2.cells HO0.out (by decide))]; rfl⟩
  by_cases hin : (f : Int) ≤ N ∧ N < (f : Int) + (n : Int)
  · obtain ⟨j, rfl⟩ : ∃ j : Nat, N = (f : Int) + (j : Int) := ⟨(N - f).toNat, by omega⟩
    have hjn : j < n := by omega
    have hjt : j < t - f := by rw [HTF.out]; exact hjn
    have hbl : bs.length = n := (HM0.out).len
    have hgi := (HTW.out).giveAtB hjt
    rw [hgi] at H1
    have HPJ : Hid (∀ W, Calls Tryd.prog 15 #[.int .i64 (j : Int), .int .i64 (n : Int)] W fun e w' => e = .returned (.int .i64 (j : Int)) ∧ w' = W) := fun W => unhide HPN (j : Int) W (by omega) (by omega)
    have hfj : (f : Int) + (j : Int) - (f : Int) = (j : Int) := by omega
    have hjI2 : (j : Int) < (n : Int) := by omega
    have hj0 : (0 : Int) ≤ (j : Int) := by omega
    have hc1 : (f : Int) ≤ (f : Int) + (j : Int) := by omega
    have hc2 : (f : Int) + (j : Int) < (f : Int) + (n : Int) := by omega
    by_cases hb : bs.getD j false = true
    · rw [hb] at H1
      have HX : Hid (∀ w4, Om w w4 g gw gg n f t (giveW f t ws ((f : Int) + (j : Int))) bs → w4.cell? ⟨gg, j, none⟩ = some (.bool false) ∧ Hid (OnceMid w g gw gg n f t (.int .i64 (fN : Int)) (.slice none 0 0) w4)) := fun w4 hm => by
        obtain ⟨c1, c2⟩ := hm.cell hjn
        rw [hb] at c1
        have hcw : giveW f t ws ((f : Int) + (j : Int)) = ws := by
          unfold giveW
          rw [hgi, hb]; rfl
        refine ⟨c1, _, bs, [], 0, by rw [HFN.out], Row.nil _ _ _, by simp, hm, ?_⟩
        rw [hcw]; exact HTW.out
      clear hall hMs hin hbl hjt
      go_wp2_with fail
      refine (unhide H1).mono ?_
      rintro e w4 ⟨rfl, e2, e3⟩
      obtain ⟨m4, d6⟩ := unhide HR0 w4 e2 e3
      obtain ⟨c1, HR⟩ := unhide HX w4 m4
      clear e2 e3 m4 hb hgi HTW HFN
      go_wp2_with fail
      refine (unhide HPJ w4).mono ?_
      rintro e w5 ⟨rfl, hw5⟩
      obtain rfl := hw5.symm
      clear hw5
      go_wp2
      exact unhide HRR _ _ _ _ _ _ _ _ _ _ _ _ _ _ _ _ _ _ _ _ _ _ _ _ _ _ _ _ _ _ _ _ _ _ _ _ _ _ _ _ _ _ _ _ _ _ _ _ _ _ _ _ _ _ _ _ _ _ _ _ _ _ _ _ _ _ _ _ _ _ _ _ _ _ _ _ _ _ _ _ _ _ _ _ _ _ _ _ _ _ _ _ _ _ _ _ _ _ _ _ _ _ _ _ _ _ _ _ _ _ _ _ _ _ _ _ _ _ _ _ _ _ _ _ _ _ _ _ _ _ _ _ _ _ _ _ _ _ _ _ _ _ _ _ _ _ _ _ _ _ _ _ _ _ _ _ _ _ _ HR.out
    · have hb2 : bs.getD j false = false := by simpa using hb
      have HGA := hide ((HTW.out).giveAt hjt hb2)
      rw [hb2] at H1
      have HX : Hid (∀ w4, Om w w4 g gw gg n f t (giveW f t ws ((f : Int) + (j : Int))) bs → w4.cell? ⟨gg, j, none⟩ = some (.bool true) ∧ w4.frozen? ⟨gg, j, none⟩ = false ∧ Hid (OnceMid w g gw gg n f t (.int .i64 ((fN : Int) + 1)) (.slice none 0 0) (w4.setCell ⟨gg, j, none⟩ (.bool false)))) := fun w4 hm => by
        obtain ⟨c1, c2⟩ := hm.cell hjn
        rw [hb2] at c1
        have hmk := (hm.mark j false).1
        rw [Bool.not_false] at hmk
        have hle := allR_more (f := f) (bs := bs) (j := j) (by omega) hb2
        refine ⟨c1, c2, _, bs.set j true, [], 0, ?_, Row.nil _ _ _, by simp, hmk, HGA.out⟩
        congr 1; have := HFN.out; omega
      clear hall hMs hin hb hb2 hbl hjt hgi HTW HFN
      go_wp2_with fail
      refine (unhide H1).mono ?_
      rintro e w4 ⟨rfl, e2, e3⟩
      obtain ⟨m4, d6⟩ := unhide HR0 w4 e2 e3
      obtain ⟨c1, c2, HR⟩ := unhide HX w4 m4
      clear e2 e3 m4
      go_wp2_with fail
      refine (unhide HPJ w4).mono ?_
      rintro e w5 ⟨rfl, hw5⟩
      obtain rfl := hw5.symm
      clear hw5
      go_wp2
      exact unhide HRR _ _ _ _ _ _ _ _ _ _ _ _ _ _ _ _ _ _ _ _ _ _ _ _ _ _ _ _ _ _ _ _ _ _ _ _ _ _ _ _ _ _ _ _ _ _ _ _ _ _ _ _ _ _ _ _ _ _ _ _ _ _ _ _ _ _ _ _ _ _ _ _ _ _ _ _ _ _ _ _ _ _ _ _ _ _ _ _ _ _ _ _ _ _ _ _ _ _ _ _ _ _ _ _ _ _ _ _ _ _ _ _ _ _ _ _ _ _ _ _ _ _ _ _ _ _ _ _ _ _ _ _ _ _ _ _ _ _ _ _ _ _ _ _ _ _ _ _ _ _ _ _ _ _ _ _ _ _ _ HR.out
  · have hno : giveB f t ws N = false := by
      unfold giveB
      rw [decide_eq_false (by have := HTT.out; omega)]; rfl
    rw [hno] at H1
    have hcw : giveW f t ws N = ws := by unfold giveW; rw [hno]; rfl
    have HX : Hid (∀ w4, Om w w4 g gw gg n f t (giveW f t ws N) bs → Hid (OnceMid w g gw gg n f t (.int .i64 (fN : Int)) (.slice none 0 0) w4)) := fun w4 hm => by
      rw [hcw] at hm
      exact ⟨ws, bs, [], 0, by rw [HFN.out], Row.nil _ _ _, by simp, hm, HTW.out⟩
    have hcond : N < (f : Int) ∨ ((f : Int) ≤ N ∧ (f : Int) + (n : Int) ≤ N) := by omega
    clear hall hMs hin hno hcw
    rcases hcond with hcd | ⟨hcd, hcd2⟩
    all_goals (
      go_wp2_with fail
      refine (unhide H1).mono ?_
      rintro e w4 ⟨rfl, e2, e3⟩
      obtain ⟨m4, d6⟩ := unhide HR0 w4 e2 e3
      have HR := unhide HX w4 m4
      clear e2 e3 m4
      go_wp2
      exact unhide HRR _ _ _ _ _ _ _ _ _ _ _ _ _ _ _ _ _ _ _ _ _ _ _ _ _ _ _ _ _ _ _ _ _ _ _ _ _ _ _ _ _ _ _ _ _ _ _ _ _ _ _ _ _ _ _ _ _ _ _ _ _ _ _ _ _ _ _ _ _ _ _ _ _ _ _ _ _ _ _ _ _ _ _ _ _ _ _ _ _ _ _ _ _ _ _ _ _ _ _ _ _ _ _ _ _ _ _ _ _ _ _ _ _ _ _ _ _ _ _ _ _ _ _ _ _ _ _ _ _ _ _ _ _ _ _ _ _ _ _ _ _ _ _ _ _ _ _ _ _ _ _ _ _ _ _ _ _ _ _ HR.out)
set_option maxRecDepth 100000 in
set_option maxHeartbeats 4000000 in
theorem once_sw_none {w W0 : World} {g gw gg n f t fN gO : Nat} {ws : List Nat} {bs : List Bool} {K O N : Int} {Q' : Exit → Act → World → Prop} (k1 : K ≠ 1) (k2 : K ≠ 2) (k3 : K ≠ 3) (k4 : K ≠ 4) (hn3 : n ≤ 500) (hn0 : 0 < n) (hf1 : f < 60000) (hTT : f + n = t) (hfb : fN ≤ n) (HFN : Hid (fN = (allR f bs).length)) (HM0 : Hid (Om w W0 g gw gg n f t ws bs)) (HTW : Hid (Tw f t ws bs)) (HT0 : Hid (Tz W0))
    (HO0 : Hid (W0.heap[gO]? = some (.cells #[.int .i64 K, .int .i64 O, .int .i64 N] 39 (0, 0)))) (u2 u3 u4 u5 u6 u8 u11 u14 u15 u16 u17 u18 u19 u20 u21 u22 u23 u24 u25 u26 u27 u28 u29 u30 u31 u32 u33 u34 u35 u36 u37 u38 u39 u40 u41 u42 u43 u44 u45 u46 u47 u48 u49 u50 u51 u52 u53 u54 u55 u56 u57 u58 u59 u60 u61 u62 u63 u64 u65 u66 u67 u68 u69 u70 u71 u72 u73 u74 u75 u76 u77 u78 u79 u80 u81 u82 u83 u84 u85 u86 u87 u88 u89 u90 u91 u92 u93 u94 u95 u96 u97 u98 u99 u100 u101 u102 u103 u104 u105 u106 u107 u108 u109 u110 u111 u112 u113 u114 u115 u116 u117 u118 u119 u120 u121 u122 u123 u124 u125 u126 u127 u128 u129 u130 u131 u132 u133 u134 u135 u136 u137 u138 u139 u140 u141 u142 u143 u144 u145 u146 u147 u148 u149 u150 u151 u152 u153 u154 u155 u156 u157 u158 u159 u160 u161 u162 u163 u164 u165 u166 u167 u168 u169 u170 u171 u172 u173 u174 u175 u176 u177 u178 u179 u180 u181 u182 u183 u184 u185 u186 u187 u188 u189 u190 u191 u192 u193 u194 u195 u196 u197 u198 u199 u200 u201 u202 u203 u204 u205 u206 u207 u208 u209 u210 u211 u212 u213 u214 u215 u216 u217 u218 u219 u220 u221 u222 u223 u224 u225 u226 u227 u228 u229 u230 u231 u232 u233 u234 u235 u236 u237 u238 u239 u240 u241 u242 u243 u244 u245 u246 u247 : Value)
    (hR : ∀ (v6 v10 v13 v14 v15 v16 v17 v18 v19 v20 v60 v61 v62 v63 v64 v65 v66 v67 v68 v69 v70 v71 v72 v73 v74 v75 v76 v77 v78 v79 v80 v81 v82 v83 v84 v85 v86 v87 v88 v89 v90 v91 v92 v93 v94 v95 v96 v97 v98 v99 v100 v101 v102 v103 v104 v105 v106 v107 v108 v109 v110 v111 v112 v113 v114 v115 v116 v117 v118 v119 v120 v121 v122 v123 v124 v125 v126 v127 v128 v129 v130 v131 v132 v133 v134 v135 v136 v137 v138 v139 v140 v141 v142 v143 v144 v145 v146 v147 v148 v149 v150 v151 v152 v153 v154 v155 v156 v157 v158 v159 v160 v161 v162 v163 v164 v165 v166 v167 v168 v169 v170 v171 v172 v173 v174 v175 v176 v177 v178 v179 v180 v181 v182 v183 v184 v185 v186 v187 v188 v189 v190 v191 v192 v193 v194 v195 v196 v197 v198 v199 v200 v201 v202 v203 v204 v205 v206 v207 : Value) (W : World), OnceMid w g gw gg n f t v10 v13 W → Q' .normal ⟨#[.int .i64 (f : Int), .int .i64 (n : Int), u2, u3, u4, u5, v6, .pointer (some ⟨g, 0, none⟩), u8, .slice (some ⟨gg, 0, none⟩) n n, v10, u11, .pointer (some ⟨gO, 0, none⟩), v13, v14, v15, v16, v17, v18, v19, v20, u21, u22, u23, u24, u25, u26, u27, u28, u29, u30, u31, u32, u33, u34, u35, u36, u37, u38, u39, u40, u41, u42, u43, u44, u45, u46, u47, u48, u49, u50, u51, u52, u53, u54, u55, u56, u57, u58, u59, v60, v61, v62, v63, v64, v65, v66, v67, v68, v69, v70, v71, v72, v73, v74, v75, v76, v77, v78, v79, v80, v81, v82, v83, v84, v85, v86, v87, v88, v89, v90, v91, v92, v93, v94, v95, v96, v97, v98, v99, v100, v101, v102, v103, v104, v105, v106, v107, v108, v109, v110, v111, v112, v113, v114, v115, v116, v117, v118, v119, v120, v121, v122, v123, v124, v125, v126, v127, v128, v129, v130, v131, v132, v133, v134, v135, v136, v137, v138, v139, v140, v141, v142, v143, v144, v145, v146, v147, v148, v149, v150, v151, v152, v153, v154, v155, v156, v157, v158, v159, v160, v161, v162, v163, v164, v165, v166, v167, v168, v169, v170, v171, v172, v173, v174, v175, v176, v177, v178, v179, v180, v181, v182, v183, v184, v185, v186, v187, v188, v189, v190, v191, v192, v193, v194, v195, v196, v197, v198, v199, v200, v201, v202, v203, v204, v205, v206, v207, u208, u209, u210, u211, u212, u213, u214, u215, u216, u217, u218, u219, u220, u221, u222, u223, u224, u225, u226, u227, u228, u229, u230, u231, u232, u233, u234, u235, u236, u237, u238, u239, u240, u241, u242, u243, u244, u245, u246, u247], []⟩ W) : Code.wp Tryd.prog (nav [1, 1, 1, 1, 1, 1, 1, 0, 1, 2, 2, 1, 0, 2, 1, 1, 0] (Tryd.f6.body.getD .skip)) Q' ⟨#[.int .i64 (f : Int), .int .i64 (n : Int), u2, u3, u4, u5, u6, .pointer (some ⟨g, 0, none⟩), u8, .slice (some ⟨gg, 0, none⟩) n n, .int .i64 (fN : Int), u11, .pointer (some ⟨gO, 0, none⟩), .slice none 0 0, u14, u15, u16, u17, u18, u19, u20, u21, u22, u23, u24, u25, u26, u27, u28, u29, u30, u31, u32, u33, u34, u35, u36, u37, u38, u39, u40, u41, u42, u43, u44, u45, u46, u47, u48, u49, u50, u51, u52, u53, u54, u55, u56, u57, u58, u59, u60, u61, u62, u63, u64, u65, u66, u67, u68, u69, u70, u71, u72, u73, u74, u75, u76, u77, u78, u79, u80, u81, u82, u83, u84, u85, u86, u87, u88, u89, u90, u91, u92, u93, u94, u95, u96, u97, u98, u99, u100, u101, u102, u103, u104, u105, u106, u107, u108, u109, u110, u111, u112, u113, u114, u115, u116, u117, u118, u119, u120, u121, u122, u123, u124, u125, u126, u127, u128, u129, u130, u131, u132, u133, u134, u135, u136, u137, u138, u139, u140, u141, u142, u143, u144, u145, u146, u147, u148, u149, u150, u151, u152, u153, u154, u155, u156, u157, u158, u159, u160, u161, u162, u163, u164, u165, u166, u167, u168, u169, u170, u171, u172, u173, u174, u175, u176, u177, u178, u179, u180, u181, u182, u183, u184, u185, u186, u187, u188, u189, u190, u191, u192, u193, u194, u195, u196, u197, u198, u199, u200, u201, u202, u203, u204, u205, u206, u207, u208, u209, u210, u211, u212, u213, u214, u215, u216, u217, u218, u219, u220, u221, u222, u223, u224, u225, u226, u227, u228, u229, u230, u231, u232, u233, u234, u235, u236, u237, u238, u239, u240, u241, u242, u243, u244, u245, u246, u247], []⟩ W0 := by
  obtain ⟨jI, hjI, hy0, hy1, hy2⟩ := info_part infoI
  have HPN : Hid (∀ (z : Int) W, 0 ≤ z → z < (n : Int) → Calls Tryd.prog 15 #[.int .i64 z, .int .i64 (n : Int)] W fun e w' => e = .returned (.int .i64 z) ∧ w' = W) := fun z W h0 h1 => (place4_calls z n hn0 (by omega) W).mono fun e w' ⟨e1, e2⟩ => ⟨by rw [e1, pl_id h0 h1]; congr 2; omega, e2⟩
  have HTF : Hid (t - f = n) := by show _ = _; omega
  have HTT : Hid ((f : Int) + (n : Int) = (t : Int)) := by show _ = _; omega
  have d0 : W0.cell? ⟨gO, 0, none⟩ = some (.int .i64 K) := cell_of_row _ _ 0 _ _ _ HO0.out
  have d5 : W0.cell? ⟨gO, 2, none⟩ = some (.int .i64 N) := by rw [cell_of_row _ _ 2 _ _ _ HO0.out]; rfl
  have HRR := hide hR
  have hused := And.intro hf1 (And.intro hfb HT0.out)
  clear hR hTT hused
  unfold Tryd.f6
  simp only [nav, Option.getD_some]
  have hMs := (HM0.out).s
  have hall := (HTW.out).all hMs
  have b1 := eq_nat K 1 k1
  have b2 := eq_nat K 2 k2
  have b3 := eq_nat K 3 k3
  have b4 := eq_nat K 4 k4
  have HR : Hid (OnceMid w g gw gg n f t (.int .i64 (fN : Int)) (.slice none 0 0) W0) := ⟨ws, bs, [], 0, by rw [HFN.out], Row.nil _ _ _, by simp, HM0.out, HTW.out⟩
  clear k1 k2 k3 k4 hall hMs
  go_wp2
  exact unhide HRR _ _ _ _ _ _ _ _ _ _ _ _ _ _ _ _ _ _ _ _ _ _ _ _ _ _ _ _ _ _ _ _ _ _ _ _ _ _ _ _ _ _ _ _ _ _ _ _ _ _ _ _ _ _ _ _ _ _ _ _ _ _ _ _ _ _ _ _ _ _ _ _ _ _ _ _ _ _ _ _ _ _ _ _ _ _ _ _ _ _ _ _ _ _ _ _ _ _ _ _ _ _ _ _ _ _ _ _ _ _ _ _ _ _ _ _ _ _ _ _ _ _ _ _ _ _ _ _ _ _ _ _ _ _ _ _ _ _ _ _ _ _ _ _ _ _ _ _ _ _ _ _ _ _ _ _ _ _ _ HR.out
end Go.Proofs.YtifmfnkpogconaaDoor

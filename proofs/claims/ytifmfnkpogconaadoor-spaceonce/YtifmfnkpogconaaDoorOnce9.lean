/- SpaceOnce's walk, the call. -/
import Derived.Test.YtifmfnkpogconaaDoorOnce8
namespace Go.Proofs.YtifmfnkpogconaaDoor
open Go.RowKit

set_option maxRecDepth 100000 in
set_option maxHeartbeats 4000000 in
theorem once_walk {w : World} (x y : Int) {vs : Value} {os : List OpI} (ho : IsOps w vs os) (hT : Tz w) : Calls Tryd.prog 6 #[.int .i64 x, .int .i64 y, vs] w fun e w' => e = .returned (.bool true) ∧ Below w.heap.size w w' := by
  have hG : 0 < w.heap.size := World.block_lt_of_cell? _ _ (hT 0 (by decide))
  obtain ⟨i0, hi, hz0, hz1, hz2⟩ := info_part infoBo
  have hf1 : pl x 60000 < 60000 := pl_lt (by decide)
  have hm1 : pl y 500 < 500 := pl_lt (by decide)
  have HP1 : Hid (Calls Tryd.prog 15 #[.int .i64 x, .int .i64 60000] w fun e w' => e = .returned (.int .i64 ((pl x 60000 : Nat) : Int)) ∧ w' = w) := place4_calls x 60000 (by decide) (by decide) w
  have HP2 : Hid (Calls Tryd.prog 15 #[.int .i64 y, .int .i64 500] w fun e w' => e = .returned (.int .i64 ((pl y 500 : Nat) : Int)) ∧ w' = w) := place4_calls y 500 (by decide) (by decide) w
  generalize pl x 60000 = f at *
  generalize pl y 500 = m at *
  obtain ⟨n, hn⟩ : ∃ n, n = 1 + m := ⟨_, rfl⟩
  have HNN : Hid ((1 + (m : Int)) = (n : Int)) := by show _ = _; omega
  have hn0 : 0 < n := by omega
  have hn3 : n ≤ 500 := by omega
  obtain ⟨t, ht⟩ : ∃ t, t = f + n := ⟨_, rfl⟩
  have HTT : Hid ((f : Int) + (n : Int) = (t : Int)) := by show _ = _; omega
  have hft : f < t := by omega
  have ht6 : t ≤ 65536 := by omega
  have HTF : Hid (t - f = n) := by show _ = _; omega
  have HN : Hid (∀ W, Calls Tryd.prog 16 #[.int .i64 (f : Int), .int .i64 ((f : Int) + (n : Int))] W fun e w' => ∃ g gw, e = .returned (.tuple #[.pointer (some ⟨g, 0, none⟩), .int .i64 0]) ∧ Hid (Sp w' W.heap.size g gw f t (newW n) ∧ Below W.heap.size W w')) := by
    show ∀ W, _
    intro W
    rw [HTT.out, ← HTF.out]
    exact (spNew_calls f t hft ht6).mono fun e w' ⟨g, gw, e1, e2, _, e4⟩ => ⟨g, gw, e1, e2, e4⟩
  have HN0 : Hid (∀ W, Calls Tryd.prog 17 #[.int .i64 0] W fun e w' => e = .returned (.int .i64 0) ∧ w' = W) := fun W => num4_calls 0 W
  have HTZ : Hid (∀ W, Below w.heap.size w W → Tz W) := fun W hW => hT.keep hW hG
  obtain ⟨av, cv, hvv, hvc, hvm, hcl⟩ := ho.cells
  subst hvv
  obtain ⟨L, hL⟩ : ∃ L, L = os.length := ⟨_, rfl⟩
  rw [← hL] at hvc hcl ⊢
  have HCL := hide hcl
  clear hT ho ht hn hcl hL
  go_enter Tryd.func6, Tryd.ntmps6
  go_wp2_with fail
  refine (unhide HP1).mono ?_
  rintro e w1 ⟨rfl, hw1⟩
  obtain rfl := hw1.symm
  clear hw1
  go_wp2_with fail
  refine (unhide HP2).mono ?_
  rintro e w1 ⟨rfl, hw1⟩
  obtain rfl := hw1.symm
  clear hw1
  go_wp2_with fail
  rw [HNN.out]
  clear HNN hm1 HP1 HP2
  refine (unhide HN w).mono ?_
  rintro e w1 ⟨g, gw, rfl, HS1⟩
  go_wp2_with fail
  refine (unhide HN0 w1).mono ?_
  rintro e w3 ⟨rfl, hw3⟩
  obtain rfl := hw3.symm
  clear hw3
  have hz12 : w.heap.size ≤ w1.heap.size := (HS1.out).2.size
  go_wp2_with (at_make; refine wpList_make_full _ rfl _ _ 48 rfl w.heap.size 4 i0 (.bool false) 1 Tryd.underlying48 hi hz0 hz1 .i64 .i64 _ _ n rfl rfl rfl rfl (by rw [hz2]; omega) (by unfold maxLen; omega) hz12 ?_; intro w3 hown hgrow)
  have HM0 : Hid (Om w w3 g gw w1.heap.size n f t (newW n) (List.replicate n true) ∧ Tw f t (newW n) (List.replicate n true) ∧ (allR f (List.replicate n true)).length = n) := by
    obtain ⟨s1, b1⟩ := HS1.out
    have b3 : Below w1.heap.size w1 w3 := ⟨hgrow.os, hgrow.tape, hgrow.output, hgrow.size, fun k hk => hgrow.block k hk (by simp)⟩
    rw [madeB] at hown
    have h2 := Tw.new hft
    rw [HTF.out] at h2
    refine ⟨⟨b1.trans (b3.mono hz12), s1.below b3, ?_, by simp⟩, h2, by rw [allR_full]; simp⟩
    have e : (List.replicate n true).map (!·) = List.replicate n false := by simp
    rw [e]
    unfold Row
    rw [bV_len, List.length_replicate]
    exact hown
  generalize w1.heap.size = gg at *
  clear hown hgrow HS1 HN HN0 hz12
  go_loopw [10, 11] (fun fv iv wr => OnceRel w g gw gg n f t L fv iv wr) (fun _ i _ => 300 - (intOf i).toNat)
  case atStart =>
    obtain ⟨m1, m2, m3⟩ := HM0.out
    exact ⟨0, _, _, by omega, by omega, by rw [m3], rfl, m1, m2⟩
  case round =>
    clear HM0
    obtain ⟨k, ws, bs, hkL, hk3, rfl, rfl, hM, hTw⟩ := hrel
    have HM := hide hM
    have HTW := hide hTw
    have hfb : (allR f bs).length ≤ n := by
      have := hM.len
      have := @allR_le f bs
      omega
    clear hM hTw
    by_cases hlt : k < L ∧ k < 300
    · obtain ⟨hl1, hl2⟩ := hlt
      obtain ⟨b, off, rfl, f1, f2, f3⟩ := unhide HCL wr (HM.out).bel k hl1
      generalize os.getD k .nul = o at *
      obtain ⟨K, O, N⟩ := o
      have hO := heap_alloc_new wr (.cells #[.int .i64 K, .int .i64 O, .int .i64 N] 39)
      have HM0 := hide ((HM.out).below (alloc_below wr (.cells #[.int .i64 K, .int .i64 O, .int .i64 N] 39)))
      have hlI : (k : Int) < (L : Int) := by omega
      have hl3 : (k : Int) < 300 := by omega
      have HO0 := hide hO
      clear hO HM
      obtain ⟨fN, hfN⟩ : ∃ fN, fN = (allR f bs).length := ⟨_, rfl⟩
      rw [← hfN] at hfb ⊢
      have HFN := hide hfN
      clear hfN
      go_upto_region 12 with fail
      go_cut [13] from 46 to 246 (fun a wc => a = .slice none 0 0 ∧ wc = wr.alloc (.cells #[.int .i64 K, .int .i64 O, .int .i64 N] 39))
      case first =>
        go_wp2
        go_meet
        exact ⟨rfl, rfl⟩
      case rest =>
        obtain ⟨rfl, hwc⟩ := hcut
        subst hwc
        refine ‹∀ (a : Act) (w : World), Code.wp _ _ _ a w → _› _ _ ?_
        apply wp_seq_k
        intro KT hKT
        clear f1 f2 f3
        have HT0 := hide (unhide HTZ _ (HM0.out).bel)
        have HFT : Hid (f + n = t) := by have := HTT.out; show _ = _; omega
        have hk : K = 1 ∨ K = 2 ∨ K = 3 ∨ K = 4 ∨ (K ≠ 1 ∧ K ≠ 2 ∧ K ≠ 3 ∧ K ≠ 4) := by omega
        rcases hk with hk | hk | hk | hk | ⟨k1, k2, k3, k4⟩
        all_goals (
          first
          | refine once_sw_1 hk hn3 hn0 hf1 HFT.out hfb HFN HM0 HTW HT0 HO0 _ _ _ _ _ _ _ _ _ _ _ _ _ _ _ _ _ _ _ _ _ _ _ _ _ _ _ _ _ _ _ _ _ _ _ _ _ _ _ _ _ _ _ _ _ _ _ _ _ _ _ _ _ _ _ _ _ _ _ _ _ _ _ _ _ _ _ _ _ _ _ _ _ _ _ _ _ _ _ _ _ _ _ _ _ _ _ _ _ _ _ _ _ _ _ _ _ _ _ _ _ _ _ _ _ _ _ _ _ _ _ _ _ _ _ _ _ _ _ _ _ _ _ _ _ _ _ _ _ _ _ _ _ _ _ _ _ _ _ _ _ _ _ _ _ _ _ _ _ _ _ _ _ _ _ _ _ _ _ _ _ _ _ _ _ _ _ _ _ _ _ _ _ _ _ _ _ _ _ _ _ _ _ _ _ _ _ _ _ _ _ _ _ _ _ _ _ _ _ _ _ _ _ _ _ _ _ _ _ _ _ _ _ _ _ _ _ _ _ _ _ _ _ _ _ _ _ _ _ _ _ _ _ _ _ _ _ _ _ _ _ ?_
          | refine once_sw_2 hk hn3 hn0 hf1 HFT.out hfb HFN HM0 HTW HT0 HO0 _ _ _ _ _ _ _ _ _ _ _ _ _ _ _ _ _ _ _ _ _ _ _ _ _ _ _ _ _ _ _ _ _ _ _ _ _ _ _ _ _ _ _ _ _ _ _ _ _ _ _ _ _ _ _ _ _ _ _ _ _ _ _ _ _ _ _ _ _ _ _ _ _ _ _ _ _ _ _ _ _ _ _ _ _ _ _ _ _ _ _ _ _ _ _ _ _ _ _ _ _ _ _ _ _ _ _ _ _ _ _ _ _ _ _ _ _ _ _ _ _ _ _ _ _ _ _ _ _ _ _ _ _ _ _ _ _ _ _ _ _ _ _ _ _ _ _ _ _ _ _ _ _ _ _ _ _ _ _ _ _ _ _ _ _ _ _ _ _ _ _ _ _ _ _ _ _ _ _ _ _ _ _ _ _ _ _ _ _ _ _ _ _ _ _ _ _ _ _ _ _ _ _ _ _ _ _ _ _ _ _ _ _ _ _ _ _ _ _ _ _ _ _ _ _ _ _ _ _ _ _ _ _ _ _ _ _ _ _ _ _ ?_
          | refine once_sw_3 hk hn3 hn0 hf1 HFT.out hfb HFN HM0 HTW HT0 HO0 _ _ _ _ _ _ _ _ _ _ _ _ _ _ _ _ _ _ _ _ _ _ _ _ _ _ _ _ _ _ _ _ _ _ _ _ _ _ _ _ _ _ _ _ _ _ _ _ _ _ _ _ _ _ _ _ _ _ _ _ _ _ _ _ _ _ _ _ _ _ _ _ _ _ _ _ _ _ _ _ _ _ _ _ _ _ _ _ _ _ _ _ _ _ _ _ _ _ _ _ _ _ _ _ _ _ _ _ _ _ _ _ _ _ _ _ _ _ _ _ _ _ _ _ _ _ _ _ _ _ _ _ _ _ _ _ _ _ _ _ _ _ _ _ _ _ _ _ _ _ _ _ _ _ _ _ _ _ _ _ _ _ _ _ _ _ _ _ _ _ _ _ _ _ _ _ _ _ _ _ _ _ _ _ _ _ _ _ _ _ _ _ _ _ _ _ _ _ _ _ _ _ _ _ _ _ _ _ _ _ _ _ _ _ _ _ _ _ _ _ _ _ _ _ _ _ _ _ _ _ _ _ _ _ _ _ _ _ _ _ _ ?_
          | refine once_sw_4 hk hn3 hn0 hf1 HFT.out hfb HFN HM0 HTW HT0 HO0 _ _ _ _ _ _ _ _ _ _ _ _ _ _ _ _ _ _ _ _ _ _ _ _ _ _ _ _ _ _ _ _ _ _ _ _ _ _ _ _ _ _ _ _ _ _ _ _ _ _ _ _ _ _ _ _ _ _ _ _ _ _ _ _ _ _ _ _ _ _ _ _ _ _ _ _ _ _ _ _ _ _ _ _ _ _ _ _ _ _ _ _ _ _ _ _ _ _ _ _ _ _ _ _ _ _ _ _ _ _ _ _ _ _ _ _ _ _ _ _ _ _ _ _ _ _ _ _ _ _ _ _ _ _ _ _ _ _ _ _ _ _ _ _ _ _ _ _ _ _ _ _ _ _ _ _ _ _ _ _ _ _ _ _ _ _ _ _ _ _ _ _ _ _ _ _ _ _ _ _ _ _ _ _ _ _ _ _ _ _ _ _ _ _ _ _ _ _ _ _ _ _ _ _ _ _ _ _ _ _ _ _ _ _ _ _ _ _ _ _ _ _ _ _ _ _ _ _ _ _ _ _ _ _ _ _ _ _ _ _ _ ?_
          | refine once_sw_none k1 k2 k3 k4 hn3 hn0 hf1 HFT.out hfb HFN HM0 HTW HT0 HO0 _ _ _ _ _ _ _ _ _ _ _ _ _ _ _ _ _ _ _ _ _ _ _ _ _ _ _ _ _ _ _ _ _ _ _ _ _ _ _ _ _ _ _ _ _ _ _ _ _ _ _ _ _ _ _ _ _ _ _ _ _ _ _ _ _ _ _ _ _ _ _ _ _ _ _ _ _ _ _ _ _ _ _ _ _ _ _ _ _ _ _ _ _ _ _ _ _ _ _ _ _ _ _ _ _ _ _ _ _ _ _ _ _ _ _ _ _ _ _ _ _ _ _ _ _ _ _ _ _ _ _ _ _ _ _ _ _ _ _ _ _ _ _ _ _ _ _ _ _ _ _ _ _ _ _ _ _ _ _ _ _ _ _ _ _ _ _ _ _ _ _ _ _ _ _ _ _ _ _ _ _ _ _ _ _ _ _ _ _ _ _ _ _ _ _ _ _ _ _ _ _ _ _ _ _ _ _ _ _ _ _ _ _ _ _ _ _ _ _ _ _ _ _ _ _ _ _ _ _ _ _ _ _ _ _ _ _ _ _ _ _ ?_
          intro v6 v10 v13 v14 v15 v16 v17 v18 v19 v20 v60 v61 v62 v63 v64 v65 v66 v67 v68 v69 v70 v71 v72 v73 v74 v75 v76 v77 v78 v79 v80 v81 v82 v83 v84 v85 v86 v87 v88 v89 v90 v91 v92 v93 v94 v95 v96 v97 v98 v99 v100 v101 v102 v103 v104 v105 v106 v107 v108 v109 v110 v111 v112 v113 v114 v115 v116 v117 v118 v119 v120 v121 v122 v123 v124 v125 v126 v127 v128 v129 v130 v131 v132 v133 v134 v135 v136 v137 v138 v139 v140 v141 v142 v143 v144 v145 v146 v147 v148 v149 v150 v151 v152 v153 v154 v155 v156 v157 v158 v159 v160 v161 v162 v163 v164 v165 v166 v167 v168 v169 v170 v171 v172 v173 v174 v175 v176 v177 v178 v179 v180 v181 v182 v183 v184 v185 v186 v187 v188 v189 v190 v191 v192 v193 v194 v195 v196 v197 v198 v199 v200 v201 v202 v203 v204 v205 v206 v207 W2 hmid
          refine hKT _ _ ?_
          refine once_tail hn3 hf1 _ _ _ _ _ _ _ _ _ _ _ _ _ _ _ _ _ _ _ _ _ _ _ _ _ _ _ _ _ _ _ _ _ _ _ _ _ _ _ _ _ _ _ _ _ _ _ _ _ _ _ _ _ _ _ _ _ _ _ _ _ _ _ _ _ _ _ _ _ _ _ _ _ _ _ _ _ _ _ _ _ _ _ _ _ _ _ _ _ _ _ _ _ _ _ _ _ _ _ _ _ _ _ _ _ _ _ _ _ _ _ _ _ _ _ _ _ _ _ _ _ _ _ _ _ _ _ _ _ _ _ _ _ _ _ _ _ _ _ _ _ _ _ _ _ _ _ _ _ _ _ _ _ _ _ _ _ _ _ _ _ _ _ _ _ _ _ _ _ _ _ _ _ _ _ _ _ _ _ _ _ _ _ _ _ _ _ _ _ _ _ _ _ _ _ _ _ _ _ _ _ _ _ _ _ _ _ _ _ _ _ _ _ _ _ _ _ _ _ _ _ _ _ _ _ _ _ _ _ _ _ _ _ _ _ _ _ _ _ _ _ _ _ _ hmid ?_
          intro y6 y10 y21 y22 y208 y209 y210 y211 y212 y213 y214 y215 y216 y217 y218 y219 y220 y221 y222 y223 y224 y225 y226 y227 y228 y229 y230 y231 y232 y233 y234 y235 y236 y237 y238 y239 y240 y241 y242 y243 y244 y245 y246 W3 hend
          obtain ⟨ws5, bs5, hv10, hM5, hTw5⟩ := hend
          subst hv10
          have HNX : Hid (OnceRel w g gw gg n f t L (.int .i64 (((allR f bs5).length : Nat) : Int)) (.int .i64 ((k : Int) + 1)) W3) := ⟨k + 1, ws5, bs5, by omega, by omega, rfl, by congr 1, hM5, hTw5⟩
          generalize (allR f bs5).length = fN5 at *
          clear hM5 hTw5 hmid
          go_wp2
          go_roundw
          case rel =>
            first
            | exact HNX.out
            | exact ⟨_, _, _, HNX.out, rfl, rfl, rfl⟩
            | (repeat apply Exists.intro
               refine ⟨HNX.out, ?_⟩
               repeat (first | rfl | refine ⟨rfl, ?_⟩))
          case measure => simp [intOf]; omega)
    · have hcond : ((L : Int) ≤ (k : Int)) ∨ ((k : Int) < (L : Int) ∧ (300 : Int) ≤ (k : Int)) := by omega
      have HS0 := hide (started_calls (unhide HTZ wr (HM.out).bel))
      have HB0 := hide (HM.out).bel
      rcases hcond with hcd | ⟨hcd, hcd2⟩
      all_goals (
        go_wp2_with fail
        refine (unhide HS0).mono ?_
        rintro e w5 ⟨rfl, hb5⟩
        go_wp2
        go_ret
        exact ⟨rfl, (HB0.out).trans (hb5.mono (HB0.out).size)⟩)
end Go.Proofs.YtifmfnkpogconaaDoor

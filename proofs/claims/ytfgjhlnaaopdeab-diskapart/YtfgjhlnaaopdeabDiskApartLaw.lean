/- DiskApart: two disks know nothing of one another: what is done to one changes nothing of the other: the statement itself, for every input, with no condition but the form's own reach. -/
import Derived.Test.YtfgjhlnaaopdeabLawOp
namespace Go.Proofs.Ytfgjhlnaaopdeab
section apartWalk
open Go.RowKit Go.Maps

/-- The blocks of F are none of the document's lists. -/
def Tn (w : World) (F : Nat → Prop) : Prop := ∀ b, F b → ∀ cs t m, w.heap[b]? = some (.cells cs t m) → t ≠ 104 ∧ t ≠ 5
theorem owns_tn {F : Nat → Prop} {w w' : World} {base : Nat} {t : TypeId} {size : Nat} {v : Value} {n : Nat} {cs : List Value} (h : w.ownsRow base t size v n cs) (hu : Up F w w') (hT : Tn w F) (h1 : t = 104 ∨ t = 5) : w'.ownsRow base t size v n cs :=
  owns_up h hu (fun g hg hF => by
    rcases h.2 with ⟨rfl, _⟩ | ⟨g', cap, cur, rfl, _, hgg, _⟩
    · cases hg
    · simp only [Value.ownBlock, Option.some.injEq] at hg
      subst hg
      have := hT _ hF _ _ _ hgg
      exact h1.elim this.1 this.2)
theorem IsAts.tn {F : Nat → Prop} {w w' : World} {v : Value} {l : Ats} (h : IsAts w v l) (hu : Up F w w') (hT : Tn w F) : IsAts w' v l := by
  obtain ⟨es, h1, h2, h3⟩ := h.rd
  exact ⟨es, owns_tn h1 hu hT (Or.inl rfl), h2, fun j hj => ⟨(h3 j hj).1, ⟨owns_tn (h3 j hj).2.1 hu hT (Or.inr rfl), (h3 j hj).2.2⟩⟩⟩
theorem Pr.tn {w : World} {g p gl gm : Nat} {V : Nat → Value} {D : AD} {R : RD} (h : Pr w g p gl gm V D R) : Tn w (Fp g p gl gm V) := by
  rintro b (rfl | hb) cs t m hc
  · obtain ⟨_, _, _, _, _, _, hG, _⟩ := h.blk
    unfold Arr at hG
    rw [hG] at hc
    simp only [Option.some.injEq, Obj.cells.injEq] at hc
    rw [← hc.2.1]
    exact ⟨by decide, by decide⟩
  · rcases h.dk.tm b hb cs t m hc with rfl | rfl
    · exact ⟨by decide, by decide⟩
    · exact ⟨by decide, by decide⟩
theorem Pr.up {F : Nat → Prop} {w w' : World} {g p gl gm : Nat} {V : Nat → Value} {D : AD} {R : RD} (h : Pr w g p gl gm V D R) (hu : Up F w w') (hT : Tn w F) (hF : ∀ b, Fp g p gl gm V b → ¬ F b) : Pr w' g p gl gm V D R := by
  obtain ⟨a1, n1, c1, a2, n2, c2, hG, hL, hW⟩ := h.blk
  exact ⟨⟨a1, n1, c1, a2, n2, c2, hG.up hu (hF g (Or.inl rfl)), hL.tn hu hT, hW.tn hu hT⟩, h.dk.up hu (fun b hb => hF b (Or.inr hb)), h.rel⟩
theorem Pr.lt {w : World} {g p gl gm : Nat} {V : Nat → Value} {D : AD} {R : RD} (h : Pr w g p gl gm V D R) {b : Nat} (hb : Fp g p gl gm V b) : b < w.heap.size := by
  rcases hb with rfl | hb
  · obtain ⟨_, _, _, _, _, _, hG, _⟩ := h.blk; exact hG.lt
  · exact h.dk.lt hb
/-- Two pairs, behind so many calls. -/
def Tp (w wr : World) (k g1 g2 n : Nat) : Prop := ∃ p1 gl1 gm1 V1 D1 R1 p2 gl2 gm2 V2 D2 R2, Pr wr g1 p1 gl1 gm1 V1 D1 R1 ∧ Pr wr g2 p2 gl2 gm2 V2 D2 R2 ∧ Bp k D1 R1 ∧ Bp k D2 R2 ∧ D1.la.length = n ∧ D2.la.length = n ∧
  (∀ b, Fp g1 p1 gl1 gm1 V1 b → w.heap.size ≤ b) ∧ (∀ b, Fp g2 p2 gl2 gm2 V2 b → w.heap.size ≤ b) ∧ (∀ b, Fp g1 p1 gl1 gm1 V1 b → ¬ Fp g2 p2 gl2 gm2 V2 b) ∧ Below w.heap.size w wr
theorem Tp.symm {w wr : World} {k g1 g2 n : Nat} (h : Tp w wr k g1 g2 n) : Tp w wr k g2 g1 n := by
  obtain ⟨p1, gl1, gm1, V1, D1, R1, p2, gl2, gm2, V2, D2, R2, a, b, c, d, e, f, g, i, j, k'⟩ := h
  exact ⟨p2, gl2, gm2, V2, D2, R2, p1, gl1, gm1, V1, D1, R1, b, a, d, c, f, e, i, g, fun x h1 h2 => j x h2 h1, k'⟩
theorem Tp.bel {w wr : World} {k g1 g2 n : Nat} (h : Tp w wr k g1 g2 n) : Below w.heap.size w wr := by
  obtain ⟨_, _, _, _, _, _, _, _, _, _, _, _, _, _, _, _, _, _, _, _, _, h⟩ := h
  exact h
theorem Tp.mono {w wr : World} {k g1 g2 n : Nat} (h : Tp w wr k g1 g2 n) : Tp w wr (k + 1) g1 g2 n := by
  obtain ⟨p1, gl1, gm1, V1, D1, R1, p2, gl2, gm2, V2, D2, R2, a, b, c, d, e⟩ := h
  exact ⟨p1, gl1, gm1, V1, D1, R1, p2, gl2, gm2, V2, D2, R2, a, b, c.up, d.up, e⟩
theorem tp_does {w wr : World} {k g1 g2 n : Nat} {o : OpD} (h : Tp w wr k g1 g2 n) (hk : k ≤ 200) (hn : n ≤ 64) (hok : o.ok w) :
    Calls Try.prog 29 #[.pointer (some ⟨g1, 0, none⟩), .agg o.cells.toArray] wr fun e w' => e = .returned (.bool true) ∧ Tp w w' (k + 1) g1 g2 n := by
  obtain ⟨p1, gl1, gm1, V1, D1, R1, p2, gl2, gm2, V2, D2, R2, hP1, hP2, hB1, hB2, hl1, hl2, hF1, hF2, hsep, hbw⟩ := h
  have hfar := opd_far hok
  refine (does_any hP1 hB1 hk (by omega) (hok.below hbw) (fun b hb hFb => by have := hfar b hb; have := hF1 b hFb; omega)).mono ?_
  rintro e w' ⟨rfl, p', gl', gm', V', D', R', hP', hB', hl', hft, hU⟩
  have hs := hbw.size
  have hft2 : ∀ b, Fp g1 p' gl' gm' V' b → Fp g1 p1 gl1 gm1 V1 b ∨ wr.heap.size ≤ b := fun b hb => by
    rcases hb with rfl | hb
    · exact Or.inl (Or.inl rfl)
    · exact (hft b hb).imp Or.inr id
  refine ⟨rfl, p', gl', gm', V', D', R', p2, gl2, gm2, V2, D2, R2, hP', hP2.up hU hP1.tn (fun b hb hb1 => hsep b hb1 hb), hB', hB2.up, by omega, hl2, fun b hb => ?_, hF2, fun b hb hb2 => ?_, hbw.trans (hU.below hs (fun x hx => hF1 x hx))⟩
  · rcases hft2 b hb with hb | hb
    · exact hF1 b hb
    · omega
  · rcases hft2 b hb with hb | hb
    · exact hsep b hb hb2
    · have := hP2.lt hb2; omega
theorem tp_told {w wr : World} {k g1 g2 n : Nat} (h : Tp w wr k g1 g2 n) (hk : k ≤ 200) :
    Calls Try.prog 30 #[.pointer (some ⟨g1, 0, none⟩)] wr fun e w' => e = .returned (.bool true) ∧ Below w.heap.size w w' ∧ Ply w w' k g2 n := by
  obtain ⟨p1, gl1, gm1, V1, D1, R1, p2, gl2, gm2, V2, D2, R2, hP1, hP2, hB1, hB2, hl1, hl2, hF1, hF2, hsep, hbw⟩ := h
  refine (told_calls hP1 hB1.rd.1 (by have := hB1.rd; omega)).mono ?_
  rintro e w' ⟨rfl, hU⟩
  have hb := hbw.trans (hU.below hbw.size (fun x hx => hF1 x hx))
  exact ⟨rfl, hb, p2, gl2, gm2, V2, D2, R2, hP2.up hU hP1.tn (fun b hb hb1 => hsep b hb1 hb), hB2, hl2, hF2, hb⟩
theorem ply_told {w wr : World} {k g n : Nat} (h : Ply w wr k g n) (hk : k ≤ 200) :
    Calls Try.prog 30 #[.pointer (some ⟨g, 0, none⟩)] wr fun e w' => e = .returned (.bool true) ∧ Below w.heap.size w w' := by
  obtain ⟨p, gl, gm, V, D, R, hP, hB, hl, hF, hbw⟩ := h
  refine (told_calls hP hB.rd.1 (by have := hB.rd; omega)).mono ?_
  rintro e w' ⟨rfl, hU⟩
  exact ⟨rfl, hbw.trans (hU.below hbw.size (fun x hx => hF x hx))⟩
section
variable {ops : Array Oper} {rest : List Oper} {o : Oper} {a : Act} {Q : Exit → Act → World → Prop} {w : World}
theorem wpList_loadG (hw : Region.wanted o (yielded ops a.tmps) = true) (x : Operand) (t : TypeId) (ho : o.op = .load t x) {b of : Nat} {cs : List Value} {d : TypeDesc} (hx : a.eval x = .pointer (some ⟨b, of, none⟩)) (hr : w.rangeAt b of cs) (hu : Try.prog.underlying t = some d) (hd : d.isRow = true) (hi : (Try.prog.info? t).map (·.size) = some cs.length)
    (hk : wpList Try.prog ops Q rest (a.put o.dst (.agg cs.toArray)) w) : wpList Try.prog ops Q (o :: rest) a w :=
  wpList_on hw fun _ hK => wp_load_mid _ x ho b of hx cs _ hr hu hd hi (hK _ _ hk)
end
set_option maxRecDepth 100000 in
set_option maxHeartbeats 4000000 in
theorem apart_walk {w : World} {v1 v2 : Value} {os1 os2 : List OpD} (h1 : IsOpsD w v1 os1) (h2 : IsOpsD w v2 os2) :
    Calls Try.prog 7 #[v1, v2] w fun e w' => e = .returned (.bool true) ∧ Below w.heap.size w w' := by
  obtain ⟨a1, c1, rfl, hl1, hm1, hcells1⟩ := h1.val
  obtain ⟨a2, c2, rfl, hl2, hm2, hcells2⟩ := h2.val
  have HC1 := hide hcells1
  have HE1 := hide h1.each
  have HC2 := hide hcells2
  have HE2 := hide h2.each
  have HS := hide (fun W => started_good (w := W) (n := 9) (by decide) (by decide))
  clear h1 h2 hcells1 hcells2
  generalize os1.length = m1 at *
  generalize os2.length = m2 at *
  go_enter Try.func7, Try.ntmps7
  go_wp2_with fail
  refine (unhide HS w).mono ?_
  rintro e w1 ⟨g1, p1, gl1, gm1, V1, rfl, hP1, hB1⟩
  have HP1 := hide hP1
  have HB1 := hide hB1
  clear hP1 hB1
  go_wp2_with fail
  refine (unhide HS w1).mono ?_
  rintro e w2 ⟨g2, p2, gl2, gm2, V2, rfl, hP2, hB2⟩
  have HT : Hid (Tp w w2 0 g1 g2 9) := by
    have hz : ∀ R : RD, R = ⟨9, [], [], 0, 0, 0⟩ → Bp 0 (zeroD 9) R := fun R hR => by subst hR; exact ⟨⟨Int.le_refl _, Int.le_refl _⟩, ⟨Int.le_refl _, Int.le_refl _⟩, ⟨Int.le_refl _, Int.le_refl _⟩, fun _ => Nat.le_refl _, Nat.le_refl _, Nat.zero_le _⟩
    have hs := HB1.out.b.size
    refine ⟨p1, gl1, gm1, V1, _, _, p2, gl2, gm2, V2, _, _, HP1.out.below hB2.b, hP2, hz _ rfl, hz _ rfl, by simp [zeroD], by simp [zeroD], HB1.out.fp, fun b hb => Nat.le_trans hs (hB2.fp b hb), fun b hb hb2 => ?_, HB1.out.b.trans (hB2.b.mono hs)⟩
    have h1 := HP1.out.lt hb
    have h2 := hB2.fp b hb2
    omega
  clear HP1 HB1 hP2 hB2 HS
  go_wp2
  go_loopw [9] (fun iv wr => ∃ k : Nat, k ≤ m1 ∧ k ≤ 40 ∧ iv = .int .i64 (k : Int) ∧ Hid (Tp w wr (2 * k) g1 g2 9)) (fun iv _ => m1 - (intOf iv).toNat)
  case atStart => exact ⟨0, by omega, by omega, rfl, HT⟩
  case round =>
    clear HT
    obtain ⟨k, hk, hk1, rfl, HT⟩ := hrel
    by_cases hlt : k < m1
    · by_cases hlt2 : k < 40
      · have hd1 : decide ((k : Int) < (m1 : Int)) = true := by simpa using hlt
        have hd2 : decide ((k : Int) < 40) = true := by simp; omega
        obtain ⟨b1, off1, rfl, hbw1, hrg1⟩ := unhide HC1 (by omega)
        have hok1 := unhide HE1 k hlt
        have hrgk1 := hrg1 k hlt
        have hund := Try.underlying67
        have hinf1 : (Try.prog.info? 67).map (·.size) = some (os1.getD k .nul).cells.length := infoOpD
        have HR1 : Hid (∀ W, Below w.heap.size w W → W.rangeAt b1 (off1 + k * 6) (os1.getD k .nul).cells) := fun W hW => range_of_block hrgk1 (hW.block b1 hbw1)
        have HD1 : Hid (∀ W q, Tp w W q g1 g2 9 → q ≤ 200 → Calls Try.prog 29 #[.pointer (some ⟨g1, 0, none⟩), .agg (os1.getD k .nul).cells.toArray] W fun e w' => e = .returned (.bool true) ∧ Tp w w' (q + 1) g1 g2 9) := fun W q hT hq => tp_does hT hq (by decide) hok1
        clear hrg1 hrgk1 hok1
        generalize (os1.getD k .nul).cells = cs1 at *
        by_cases hlt3 : k < m2
        · have hd3 : decide ((k : Int) < (m2 : Int)) = true := by simpa using hlt3
          obtain ⟨b2, off2, rfl, hbw2, hrg2⟩ := unhide HC2 (by omega)
          have hok2 := unhide HE2 k hlt3
          have hrgk2 := range_of_block (hrg2 k hlt3) (HT.out.bel.block b2 hbw2)
          have hinf2 : (Try.prog.info? 67).map (·.size) = some (os2.getD k .nul).cells.length := infoOpD
          have HD2 := hide (tp_does HT.out.symm (by omega) (by decide) hok2)
          clear hrg2 hok2 HT
          generalize (os2.getD k .nul).cells = cs2 at *
          go_wp2_with (first
            | (refine wpList_loadG (by rfl) (.tmp 50) 67 rfl rfl hrgk2 hund rfl hinf2 ?_))
          refine (unhide HD2).mono ?_
          rintro e w3 ⟨rfl, hT3⟩
          have hr3 := unhide HR1 w3 hT3.bel
          have HD3 := hide (unhide HD1 w3 _ hT3.symm (by omega))
          clear HD2 hT3 HD1 HR1
          go_wp2_with (first
            | (refine wpList_loadG (by rfl) (.tmp 59) 67 rfl rfl hr3 hund rfl hinf1 ?_))
          refine (unhide HD3).mono ?_
          rintro e w4 ⟨rfl, hT4⟩
          have HT4 : Hid (Tp w w4 (2 * (k + 1)) g1 g2 9) := hT4
          clear hT4 HD3
          go_wp2
          go_roundw
          case rel => exact ⟨k + 1, by omega, by omega, by go_num, HT4⟩
          case measure => simp [intOf]; omega
        · have hd3 : decide ((k : Int) < (m2 : Int)) = false := by simp; omega
          have hr3 := unhide HR1 wr HT.out.bel
          have HD3 := hide (unhide HD1 wr _ HT.out (by omega))
          clear HT HD1 HR1
          go_wp2_with (first
            | (refine wpList_loadG (by rfl) (.tmp 59) 67 rfl rfl hr3 hund rfl hinf1 ?_))
          refine (unhide HD3).mono ?_
          rintro e w4 ⟨rfl, hT4⟩
          have HT4 : Hid (Tp w w4 (2 * (k + 1)) g1 g2 9) := hT4.mono
          clear hT4 HD3
          go_wp2
          go_roundw
          case rel => exact ⟨k + 1, by omega, by omega, by go_num, HT4⟩
          case measure => simp [intOf]; omega
      · have hd1 : decide ((k : Int) < (m1 : Int)) = true := by simpa using hlt
        have hd2 : decide ((k : Int) < 40) = false := by simp; omega
        have HTO := hide (tp_told HT.out (by omega))
        clear HT
        go_wp2_with fail
        refine (unhide HTO).mono ?_
        rintro e w3 ⟨rfl, hb3, hP3⟩
        have HT3 := hide (ply_told hP3 (by omega))
        clear HTO hP3
        go_wp2_with fail
        refine (unhide HT3).mono ?_
        rintro e w4 ⟨rfl, hb4⟩
        go_wp2
        go_ret
        exact ⟨rfl, hb4⟩
    · have hd1 : decide ((k : Int) < (m1 : Int)) = false := by simp; omega
      have HTO := hide (tp_told HT.out (by omega))
      clear HT
      go_wp2_with fail
      refine (unhide HTO).mono ?_
      rintro e w3 ⟨rfl, hb3, hP3⟩
      have HT3 := hide (ply_told hP3 (by omega))
      clear HTO hP3
      go_wp2_with fail
      refine (unhide HT3).mono ?_
      rintro e w4 ⟨rfl, hb4⟩
      go_wp2
      go_ret
      exact ⟨rfl, hb4⟩
end apartWalk
namespace diskApartL
open Go.ChangeShapes Go.WideShapes Go.ChangeAt Go.RowKit

set_option maxRecDepth 100000 in
theorem contract (H : Type) (enc : TypeId × Value → H) (W : World) (base : Nat) (args : Array Value) (ds gs : List (DataW H)) (before : List MemPlace)
    (hval : ∀ (j : Nat) t v, Try.f7.params[j]? = some t → args[j]? = some v → Value.okWide Try.prog W .any base t v)
    (hW : DataW.Whole enc Try.prog Try.f7.params.toList Rows.diskApartSpec.vars false W args.toList ds gs before)
    (hsz : (DataW.weightsEach Try.prog (Try.f7.params.toList ++ Rows.diskApartSpec.plain.varTypes Try.prog) (ds ++ gs)).all (· ≤ reachBytes) = true)
    (_hL : laidMetH Try.prog Rows.diskApartRow.laid W) :
    Calls Try.prog 7 args W fun e W' => ∃ v, e = .returned v ∧ Rows.diskApartSpec.post enc Try.prog Try.f7 false true false false W args v W' := by
  have hW' := hW
  obtain ⟨p, q, hA0, hV, rfl, hfz, hnd⟩ := hW
  have hA : DataW.TrodAll enc Try.prog W 0 (fun _ => true) true Try.f7.params.toList args.toList ds p := hA0
  have hpar := Try.params7
  rw [hpar] at hA hval hsz
  obtain ⟨v0, vs0, d0, ds0, p0, q0, hargs, rfl, rfl, h0, r0⟩ := trodAll_cons hA
  obtain ⟨v1, vs1, d1, ds1, p1, q1, rfl, rfl, rfl, h1, r1⟩ := trodAll_cons r0
  obtain ⟨rfl, rfl, rfl⟩ := trodAll_nil r1
  obtain rfl : args = #[v0, v1] := by cases args; simp_all
  obtain ⟨rfl, rfl⟩ := trodVars_none hV
  obtain ⟨xs0, hx0⟩ := open_opsD (hval 0 61 v0 rfl rfl) h0 (weights_of hsz (j := 0) rfl rfl)
  obtain ⟨xs1, hx1⟩ := open_opsD (hval 1 61 v1 rfl rfl) h1 (weights_of hsz (j := 1) rfl rfl)
  refine (apart_walk hx0 hx1).mono fun e W' ⟨he, hb⟩ => ?_
  subst he
  refine ⟨_, rfl, law_post hW' rfl rfl rfl ?_ hb⟩
  rw [hpar]
  intro t ht
  simp only [List.mem_cons, List.not_mem_nil, or_false] at ht
  rcases ht with rfl | rfl
  all_goals exact ⟨by kernel_rfl, of_decide_eq_true (by kernel_rfl)⟩

/- The world of the witness: the settled one, the table holding what its initialiser lays. -/
theorem laid_met (os : Os) : laidMet Try.prog Rows.diskApartRow.laid ((World.holding Try.prog os ⟨#[], #[], []⟩).forCall (fun _ _ => 0) ⟨#[], #[.slice none 0 0, .slice none 0 0], []⟩).memory :=
  laidMet_of_run' 8 (by kernel_rfl) (by kernel_rfl)
theorem reads (os : Os) {H : Type} (enc : TypeId × Value → H) : ∃ places, DataW.whole enc Try.prog ((World.holding Try.prog os ⟨#[], #[], []⟩).forCall (fun _ _ => 0) ⟨#[], #[.slice none 0 0, .slice none 0 0], []⟩).memory Try.f7.params.toList Rows.diskApartSpec.vars false #[Value.slice none 0 0, .slice none 0 0].toList 8 = some ([.nil, .nil], [], places) :=
  ⟨[], by kernel_rfl⟩

set_option maxRecDepth 100000 in
theorem lifted (os : Os) (started : os.Started) (H : Type) (enc : TypeId × Value → H) (F : Stop.Interp) :
    ReturnsInHanded {} Try.checked os 7 .any ((OpenSpec.ofChange Rows.diskApartSpec).preRow enc Try.prog Try.f7 Rows.diskApartRow.domain false Rows.diskApartRow.laid) (((OpenSpec.ofChange Rows.diskApartSpec).at F).post enc Try.prog Try.f7 false true false false) := by
  obtain ⟨places, hx⟩ := reads os enc
  refine returnsInHanded_of_row (C := Try.checked) (s := OpenSpec.ofChange Rows.diskApartSpec) own started (by kernel_rfl) Try.func7
    (witness_row_at (enc := enc) (C := Try.checked) false (World.holding Try.prog os ⟨#[], #[], []⟩) #[.slice none 0 0, .slice none 0 0] rfl (by kernel_rfl) (by kernel_rfl) (by kernel_rfl)
      (OpenSpec.preRow_of_cond 8 hx (by kernel_rfl) (fun k hk => by cases hk) (by kernel_rfl) (laid_met os))) ?_
  intro W base args ds gs before hval hW _ _ hsz hL _ _
  exact contract H enc W base args ds gs before hval hW hsz hL

theorem said : Rows.DiskApartSaid :=
  OpenClaim.holds_of_cond 7 Try.f7 rfl rfl rfl rfl rfl rfl rfl ⟨rfl, rfl, rfl, rfl, rfl⟩ rfl rfl rfl rfl rfl (by kernel_rfl) Try.func7 (by kernel_rfl)
    (of_decide_eq_true (by kernel_rfl)) (by unfold Func.isWrapper; first | (rw [if_pos (by decide +kernel)]; kernel_rfl) | (rw [if_neg (by decide +kernel)]; exact ⟨rfl, rfl⟩))
    (fun os started H enc _ F => by rw [OpenClaim.pre_eq_preRow]; exact lifted os started H enc F)

end diskApartL

/-- The statement. -/
theorem diskApart_holds : Rows.DiskApartSaid := diskApartL.said
end Go.Proofs.Ytfgjhlnaaopdeab

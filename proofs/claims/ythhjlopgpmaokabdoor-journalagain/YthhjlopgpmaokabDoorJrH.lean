/- What Decode answers. -/
import Derived.Test.YthhjlopgpmaokabDoorJrG
import Derived.Test.YthhjlopgpmaokabDoorKD
namespace Go.Proofs.YthhjlopgpmaokabDoor
open Go.RowKit Go.Maps

def decR (b : List Int) : JR := (decO b).getD .nul
def decE (b : List Int) : Int := if (decO b).isSome = true then 0 else 61
theorem decR_none {b : List Int} (h : decO b = none) : decR b = .nul ∧ decE b = 61 := by unfold decR decE; rw [h]; exact ⟨rfl, rfl⟩
theorem decR_some {b : List Int} {r : JR} (h : decO b = some r) : decR b = r ∧ decE b = 0 := by unfold decR decE; rw [h]; exact ⟨rfl, rfl⟩
theorem jequal_calls {w : World} {va vb : Value} {xs ys : List Int} (ha : IsB w va xs) (hb : IsB w vb ys) : Calls Tryd.prog 52 #[va, vb] w fun e w' => e = .returned (.bool (decide (xs = ys))) ∧ w' = w := by
  have c1 := conv_isB ha
  have c2 := conv_isB hb
  have he : ((mkS xs).toList == (mkS ys).toList) = decide (xs = ys) := by
    rw [Bool.eq_iff_iff, beq_iff_eq, decide_eq_true_iff, ByteArray.toList_eq, ByteArray.toList_eq]
    exact ⟨fun h => mkS_inj ha.mem hb.mem (congrArg ByteArray.mk (Array.toList_inj.1 h)), fun h => by rw [h]⟩
  clear ha hb
  go_enter Tryd.func52, Tryd.ntmps52
  go_wp2
  go_ret
  exact ⟨by rfl, rfl⟩
theorem nul_len : JR.nul.p.length = 32 := by simp [JR.nul]
set_option maxRecDepth 100000 in
set_option maxHeartbeats 2000000 in
theorem jdec_short {w : World} {v : Value} {b : List Int} (h : IsB w v b) (hl : b.length ≠ 512) :
    Calls Tryd.prog 23 #[v] w fun e w' => e = .returned (.tuple #[.agg (jrV .nul (.slice none 0 0)).toArray, .int .i64 61]) ∧ Below w.heap.size w w' := by
  obtain ⟨_, va, vc, rfl, hlc, hvm, _, _⟩ := id h
  have hne : ((b.length : Int) != 512) = true := by simpa using (by omega : ¬ (b.length : Int) = 512)
  generalize b.length = n at *
  have hlen : z34R.length = (jrV .nul (.slice none 0 0)).length := by rw [jrV_len nul_len]; decide
  have hinf := infoRof nul_len (.slice none 0 0)
  have hone := jrV_one JR.nul (v := .slice none 0 0) rfl
  have HB1 := hide (jalloc_below w (.cells z34R.toArray 52))
  clear h hl
  go_enter Tryd.func23, Tryd.ntmps23
  go_wp2_with (first
    | (refine wpList_allocJ rfl 52 rfl infoR ?_)
    | (refine wpList_bldJ rfl 52 rfl bldR0 ?_)
    | (refine wpList_storeJ rfl (.tmp 2) (.tmp 10) 52 rfl rfl rfl (Arr.new w z34R 52) hinf hlen hone ?_; intro w2 hA2 hg2))
  have HB2 := hide (jbelow_grown HB1.out hg2 HB1.out.size (Nat.le_refl _))
  have hA3 : Arr w2 w.heap.size 52 (jrV .nul (.slice none 0 0)) := hA2
  refine bodyPost_ret (results_rowJ2 rfl rfl rfl hA3 Tryd.underlying52 rfl hinf) rfl ?_
  exact ⟨rfl, HB2.out⟩
set_option maxRecDepth 100000 in
set_option maxHeartbeats 4000000 in
theorem jdec_long {w : World} {v : Value} {b : List Int} (h : IsB w v b) (hl : b.length = 512) (ht : Tab w) :
    Calls Tryd.prog 23 #[v] w fun e w' => ∃ u, e = .returned (.tuple #[.agg (jrV (decR b) u).toArray, .int .i64 (decE b)]) ∧ OwnJ w' w.heap.size u (decR b).rs ∧ Below w.heap.size w w' := by
  have hby := isB_by h
  have hok := namB_ok hby hl
  have hb1 := jalloc_below w (.cells z34R.toArray 52)
  have hA1 := Arr.new w z34R 52
  obtain ⟨w1, hw1⟩ : ∃ w1, w1 = w.alloc (.cells z34R.toArray 52) := ⟨_, rfl⟩
  rw [← hw1] at hb1 hA1
  have HNM := hide (named_calls (h.below hb1) hl)
  have HIS : Hid (∀ W, Below w.heap.size w W → IsB W v b ∧ Tab W) := hide (fun W hW => ⟨h.below hW, ht.below hW⟩)
  obtain ⟨_, va, vc, rfl, hlc, hvm, _, _⟩ := id h
  have HDY : Hid (encE (namB b) = 0 → encL (namB b) = b → decR b = namB b ∧ decE b = 0) := hide (fun h1 h2 => decR_some (dec_yes hl h1 h2))
  have HDN : Hid (¬ (encE (namB b) = 0 ∧ encL (namB b) = b) → decR b = .nul ∧ decE b = 61) := hide (fun h1 => decR_none (dec_no fun hc => h1 hc.2))
  rw [hl] at *
  have hlen0 : z34R.length = (jrV .nul (.slice none 0 0)).length := by rw [jrV_len nul_len]; decide
  have hinf0 := infoRof nul_len (.slice none 0 0)
  have hone0 := jrV_one JR.nul (v := .slice none 0 0) rfl
  have hinf := fun u => infoRof (r := namB b) hok.len u
  have hlen := fun u => (show z34R.length = (jrV (namB b) u).length by rw [jrV_len hok.len]; decide)
  have HOK := hide hok
  have HB1 := hide hb1
  have HA1 := hide hA1
  have HW1 := hide hw1
  obtain ⟨g2, hg2⟩ : ∃ g2, g2 = w.heap.size := ⟨_, rfl⟩
  have HG2 := hide hg2
  rw [← hg2] at HA1
  clear h hby hok hb1 hA1 hw1 hg2
  go_enter Tryd.func23, Tryd.ntmps23
  go_wp2_with (first
    | (refine wpList_allocJ rfl 52 rfl infoR ?_; rw [← HW1.out, ← HG2.out])
    | fail)
  refine (unhide HNM).mono ?_
  rintro e w2 ⟨u, rfl, ho2, hb2⟩
  have hA2 := HA1.out.below hb2
  have hu1 := ho2.isJ.one
  have hon := jrV_one (namB b) hu1
  have hbw2 := below_then HB1.out hb2
  have ho2' : OwnJ w2 w.heap.size u (namB b).rs := ho2.mono HB1.out.size
  have hba := jalloc_below w2 (.cells z34R.toArray 52)
  have HX : Hid (∀ w3, Arr w3 w2.heap.size 52 (jrV (namB b) u) → (w2.alloc (.cells z34R.toArray 52)).grownBy w3 (some w2.heap.size) → OwnJ w3 w.heap.size u (namB b).rs ∧ Arr w3 g2 52 z34R ∧ Below w.heap.size w w3) := hide (fun w3 hA3 hg3 => by
    have hlt := hA2.lt
    refine ⟨⟨ho2'.1, ?_⟩, arr_grown (hA2.below hba) hg3 (by simp; omega), jbelow_grown (below_then hbw2 hba) hg3 (Nat.le_trans hbw2.size hba.size) hbw2.size⟩
    refine (owns_below ho2'.2 hba).kept hg3 ?_
    by_cases e : u.ownBlock = some w2.heap.size
    · have := (World.ownsRow.lt ho2'.2 _ e).2; omega
    · exact Or.inr e)
  clear HNM ho2 hb2 hA2 hu1 ho2' hba hbw2 HA1
  go_wp2_with (first
    | (refine wpList_allocJ rfl 52 rfl infoR ?_)
    | (refine wpList_storeJ rfl (.tmp 4) (.tmp 12) 52 rfl rfl rfl (Arr.new w2 z34R 52) (hinf u) (hlen u) hon ?_; intro w3 hA3 hg3
       obtain ⟨ho3, hA23, hb3⟩ := unhide HX w3 hA3 hg3
       have hrng := hA3.rangeJ
       obtain ⟨hi3, ht3⟩ := unhide HIS w3 hb3
       have HEN := hide (jenc_calls HOK.out ho3.isJ ht3)
       have HO3 := hide ho3
       have HA3 := hide hA3
       have HA23 := hide hA23
       have HB3 := hide hb3
       clear hA3 hg3 ho3 hA23 hb3 hi3 ht3)
    | (refine wpList_loadJ rfl 52 (.tmp 4) rfl _ 0 rfl (jrV (namB b) u) _ hrng Tryd.underlying52 rfl (hinf u) ?_)
    | fail)
  refine (unhide HEN).mono ?_
  rintro e w4 ⟨fv, rfl, ho4, hb4⟩
  have hA4 := HA3.out.below hb4
  have hA24 := HA23.out.below hb4
  have hb4w := below_then HB3.out hb4
  have hoj4 := HO3.out.below hb4
  obtain ⟨hi4, _⟩ := unhide HIS w4 hb4w
  obtain ⟨fa, fn, fc, rfl⟩ := ho4.shape
  have hrng4 := hA4.rangeJ
  have HQ : Hid (∀ w5, w4.grownBy w5 (some g2) → OwnJ w5 w.heap.size u (namB b).rs ∧ Below w.heap.size w w5) := hide (fun w5 hg5 => ⟨⟨hoj4.1, hoj4.2.kept hg5 (OwnJ.block hoj4 hA24 (by decide))⟩, jbelow_grown hb4w hg5 hb4w.size (by rw [HG2.out]; exact Nat.le_refl _)⟩)
  have HA24 := hide hA24
  have HIF := hide ho4.isB
  have HI4 := hide hi4
  clear HEN ho4 hb4 hA4 hA24 hb4w hoj4 hi4 HA3 HA23 HB3 HO3 hrng
  by_cases he : encE (namB b) = 0
  · have HE := hide he
    rw [he]
    have HIF2 : Hid (IsB w4 (.slice fa fn fc) (encL (namB b))) := hide (by have := HIF.out; rw [encR_yes HE.out] at this; exact this)
    clear HIF he
    by_cases heq : encL (namB b) = b
    · obtain ⟨q1, q2⟩ := unhide HDY HE.out heq
      have HEQ : Hid (Calls Tryd.prog 52 #[.slice fa fn fc, .slice va 512 vc] w4 fun e w' => e = .returned (.bool true) ∧ w' = w4) := hide (by have := jequal_calls HIF2.out HI4.out; rw [decide_eq_true heq] at this; exact this)
      have HQ1 := hide (And.intro q1 q2)
      clear q1 q2 heq HDY HDN HIF2 HI4
      go_wp2_with fail
      refine (unhide HEQ).mono ?_
      rintro e w5 ⟨rfl, hw5⟩
      obtain rfl := hw5.symm
      clear hw5 HEQ
      go_wp2_with (first
        | (refine wpList_loadJ rfl 52 (.tmp 4) rfl _ 0 rfl (jrV (namB b) u) _ hrng4 Tryd.underlying52 rfl (hinf u) ?_)
        | (refine wpList_storeJ rfl (.tmp 2) (.tmp 27) 52 rfl rfl rfl HA24.out (hinf u) (hlen u) hon ?_; intro w6 hA6 hg6))
      obtain ⟨ho6, hb6⟩ := unhide HQ w6 hg6
      have hA7 : Arr w6 g2 52 (jrV (namB b) u) := hA6
      refine bodyPost_ret (results_rowJ2 rfl rfl rfl hA7 Tryd.underlying52 rfl (hinf u)) rfl ?_
      rw [HQ1.out.1, HQ1.out.2]
      exact ⟨u, rfl, ho6, hb6⟩
    · obtain ⟨q1, q2⟩ := unhide HDN (fun hc => heq hc.2)
      have HEQ : Hid (Calls Tryd.prog 52 #[.slice fa fn fc, .slice va 512 vc] w4 fun e w' => e = .returned (.bool false) ∧ w' = w4) := hide (by have := jequal_calls HIF2.out HI4.out; rw [decide_eq_false heq] at this; exact this)
      have HQ1 := hide (And.intro q1 q2)
      clear q1 q2 heq HDY HDN HIF2 HI4
      go_wp2_with fail
      refine (unhide HEQ).mono ?_
      rintro e w5 ⟨rfl, hw5⟩
      obtain rfl := hw5.symm
      clear hw5 HEQ
      go_wp2_with (first
        | (refine wpList_bldJ rfl 52 rfl bldR0 ?_)
        | (refine wpList_storeJ rfl (.tmp 2) (.tmp 26) 52 rfl rfl rfl HA24.out hinf0 hlen0 hone0 ?_; intro w6 hA6 hg6))
      obtain ⟨ho6, hb6⟩ := unhide HQ w6 hg6
      have hA7 : Arr w6 g2 52 (jrV .nul (.slice none 0 0)) := hA6
      refine bodyPost_ret (results_rowJ2 rfl rfl rfl hA7 Tryd.underlying52 rfl hinf0) rfl ?_
      rw [HQ1.out.1, HQ1.out.2]
      exact ⟨_, rfl, OwnJ.nil _ _, hb6⟩
  · obtain ⟨q1, q2⟩ := unhide HDN (fun hc => he hc.1)
    have hne : (encE (namB b) != 0) = true := by simpa using he
    have HQ1 := hide (And.intro q1 q2)
    generalize encE (namB b) = ee at *
    clear q1 q2 he HDY HDN HI4 HIF
    go_wp2_with (first
      | (refine wpList_bldJ rfl 52 rfl bldR0 ?_)
      | (refine wpList_storeJ rfl (.tmp 2) (.tmp 26) 52 rfl rfl rfl HA24.out hinf0 hlen0 hone0 ?_; intro w6 hA6 hg6))
    obtain ⟨ho6, hb6⟩ := unhide HQ w6 hg6
    have hA7 : Arr w6 g2 52 (jrV .nul (.slice none 0 0)) := hA6
    refine bodyPost_ret (results_rowJ2 rfl rfl rfl hA7 Tryd.underlying52 rfl hinf0) rfl ?_
    rw [HQ1.out.1, HQ1.out.2]
    exact ⟨_, rfl, OwnJ.nil _ _, hb6⟩
/-- What Decode answers. -/
theorem jdec_calls {w : World} {v : Value} {b : List Int} (h : IsB w v b) (ht : Tab w) :
    Calls Tryd.prog 23 #[v] w fun e w' => ∃ u, e = .returned (.tuple #[.agg (jrV (decR b) u).toArray, .int .i64 (decE b)]) ∧ OwnJ w' w.heap.size u (decR b).rs ∧ Below w.heap.size w w' := by
  by_cases hl : b.length = 512
  · exact jdec_long h hl ht
  · obtain ⟨q1, q2⟩ := decR_none (short_none hl)
    rw [q1, q2]
    exact (jdec_short h hl).mono fun _ _ ⟨h1, h2⟩ => ⟨_, h1, OwnJ.nil _ _, h2⟩
end Go.Proofs.YthhjlopgpmaokabDoor

/- chain: calls with two faults at once. chain: the same numbers. chain: a chain of three pieces is written and read. -/
import Derived.Test.YtlofoklfggmbiaaDoorRK
namespace Go.Proofs.YtlofoklfggmbiaaDoor
open Go.RowKit Go.Maps

section
variable {ops : Array Oper} {rest : List Oper} {o : Oper} {a : Act} {Q : Exit → Act → World → Prop} {w : World}
theorem wpList_build1 (hgd : o.guard = none) (t : TypeId) (i : Nat) (x : Operand) (ho : o.op = .build t #[(i, x)]) {vx v : Value} (hx : a.eval x = vx) (hrun : (Instr.build t #[(i, vx)]).run Tryd.prog w = .ok v w) (hk : wpList Tryd.prog ops Q rest (a.put o.dst v) w) : wpList Tryd.prog ops Q (o :: rest) a w := by
 refine wpList_plain hgd fun K hK => ?_
 unfold Oper.wp execOp
 simp only [ho, List.map_toArray, List.map_cons, List.map_nil, hx, Sem.run_bind, hrun, Result.andThen_ok, Sem.run_pure]
 exact hK _ _ hk
end
theorem refLen_run (n : Int) (W : World) : (Instr.build 34 #[(2, .int .i64 n)]).run Tryd.prog W = .ok (.agg (refV (List.replicate 32 (0 : Int)) 0 n).toArray) W := by kernel_rfl
theorem refFirst_run (n : Int) (W : World) : (Instr.build 34 #[(1, .int .i64 n)]).run Tryd.prog W = .ok (.agg (refV (List.replicate 32 (0 : Int)) n 0).toArray) W := by kernel_rfl
theorem new2 : newW 2 = [3] ∧ freeN [3] = 2 ∧ (allF 0 0 [3]).take 2 = [0, 1] := by decide
set_option maxRecDepth 100000 in
set_option maxHeartbeats 4000000 in
theorem both_calls {w : World} (hT : TT w) : Calls Tryd.prog 46 #[] w fun e w' => e = .returned (.bool true) ∧ Below w.heap.size w w' := by
 have HND := hide (new_calls (w := w) (n := 4) (by omega) (by omega))
 have HNS : Hid (∀ W, Calls Tryd.prog 29 #[.int .i64 0, .int .i64 2] W fun e w' => ∃ g gw, e = .returned (.tuple #[.pointer (some ⟨g, 0, none⟩), .int .i64 0]) ∧ Sp w' W.heap.size g gw 0 2 [3] ∧ Below W.heap.size W w') := hide (fun W => (spNew_calls (w := W) 0 2 (by omega) (by omega)).mono (fun e w' ⟨g, gw, h1, h2, _, h4⟩ => ⟨g, gw, h1, by rw [show 2 - 0 = 2 from rfl, new2.1] at h2; exact h2, h4⟩))
 have HNUM := hide (fun n W => num6_calls n W)
 have hlz : (List.replicate 32 (0 : Int)).length = 32 := by simp
 obtain ⟨i0, hi, hz0, hz1, hz2⟩ := info_parts info8
 have HT := hide hT
 clear hT
 go_enter Tryd.func46, Tryd.ntmps46
 go_wp2_with fail
 refine (unhide HND).mono ?_
 rintro e w1 ⟨p, gl, gm, V, rfl, hD1, _, _, _, _, hb1⟩
 have HD1 := hide hD1
 have HB1 := hide hb1
 clear hD1 hb1 HND
 go_wp2_with fail
 refine (unhide HNS w1).mono ?_
 rintro e w2 ⟨g, gw, rfl, hS2, hb2⟩
 have HD2 := hide (HD1.out.below hb2)
 have HS2 := hide hS2
 have HB2 := hide (below_then HB1.out hb2)
 have HT2 := hide (HT.out.below HB2.out)
 clear HNS hS2 hb2 HD1 HB1 HT
 go_wp2_with (at_make; refine wpList_make_full _ rfl _ _ 26 rfl w2.heap.size 5 i0 (.int .u8 0) 1 Tryd.underlying26 hi hz0 hz1 .i64 .i64 _ _ 1048577 rfl rfl rfl rfl (by rw [hz2]; omega) (by unfold maxLen; omega) (Nat.le_refl _) ?_; intro w3 hown3 hg3)

 have hb3 : Below w2.heap.size w2 w3 := (Below.refl _ _).grown hg3 (Nat.le_refl _) (fun b hb => by cases hb)
 have HE : Hid (∀ W, Below w3.heap.size w3 W → Dk W p gl gm V (zeroD 4) ∧ Sp W w1.heap.size g gw 0 2 [3] ∧ TT W ∧ Below w.heap.size w W) := hide (fun W hW => ⟨HD2.out.below (below_then hb3 hW), HS2.out.below (below_then hb3 hW), HT2.out.below (below_then hb3 hW), below_then HB2.out (below_then hb3 hW)⟩)
 have hbw : Below w3.heap.size w3 w3 := Below.refl _ _
 clear hown3 hg3 hb3 HD2 HS2 HT2 HB2

 go_wp2_with fail
 refine (newWriter_nil1 _ _).mono ?_
 rintro e w4 ⟨rfl, hb4⟩
 obtain rfl := hb4.symm
 go_wp2_with fail
 refine (newWriter_nil2 _ _).mono ?_
 rintro e w5 ⟨rfl, hb5⟩
 obtain rfl := hb5.symm
 go_wp2_with fail
 refine (newWriter_long ⟨p, 0, none⟩ ⟨g, 0, none⟩ _ 1048577 _ (by decide)).mono ?_
 rintro e w6 ⟨rfl, hb6⟩
 obtain rfl := hb6.symm
 go_wp2_with fail
 refine (newWriter_full (p := p) (n := 1000) (unhide HE _ hbw).2.1 (by omega) (by rw [new2.2.1]; decide)).mono ?_
 rintro e w7 ⟨rfl, hb7⟩
 have hbw7 : Below w3.heap.size w3 w7 := below_then hbw hb7
 clear hb7
 go_wp2_with fail
 refine (newWriter_sector (n := 900) (k := 2) (unhide HE _ hbw7).1 (unhide HE _ hbw7).2.1 (unhide HE _ hbw7).2.2.1.tz (by omega) (by decide) (by rw [new2.2.1]; omega) (by rw [new2.2.2]; exact Or.inl rfl)).mono ?_
 rintro e w8 ⟨rfl, hb8⟩
 have hbw8 : Below w3.heap.size w3 w8 := below_then hbw7 hb8
 clear hb8
 go_wp2_with (refine wpList_build1 rfl 34 2 (.const (.int .i64 (-1))) rfl (vx := .int .i64 (-1)) rfl (refLen_run (-1) _) ?_)
 refine (newReader_nil 1 _ 0 (-1)).mono ?_
 rintro e w9 ⟨rfl, hb9⟩
 have hbw9 : Below w3.heap.size w3 w9 := below_then hbw8 hb9
 clear hb9
 go_wp2_with (refine wpList_build1 rfl 34 2 (.const (.int .i64 (-1))) rfl (vx := .int .i64 (-1)) rfl (refLen_run (-1) _) ?_)
 refine (newReader_arg (unhide HE _ hbw9).1 0 _ 0 (-1) (Or.inl (by omega))).mono ?_
 rintro e w10 ⟨rfl, hb10⟩
 have hbw10 : Below w3.heap.size w3 w10 := below_then hbw9 hb10
 clear hb10
 go_wp2_with (refine wpList_build1 rfl 34 2 (.const (.int .i64 (-1))) rfl (vx := .int .i64 (-1)) rfl (refLen_run (-1) _) ?_)
 refine (newReader_arg (unhide HE _ hbw10).1 5 _ 0 (-1) (Or.inr (by decide))).mono ?_
 rintro e w11 ⟨rfl, hb11⟩
 have hbw11 : Below w3.heap.size w3 w11 := below_then hbw10 hb11
 clear hb11
 go_wp2_with (refine wpList_build1 rfl 34 2 (.const (.int .i64 1048577)) rfl (vx := .int .i64 1048577) rfl (refLen_run 1048577 _) ?_)
 refine (newReader_long (heap := 2) (unhide HE _ hbw11).1 hlz 0 1048577 (by omega) (by decide) (by decide)).mono ?_
 rintro e w12 ⟨rfl, hb12⟩
 have hbw12 : Below w3.heap.size w3 w12 := below_then hbw11 hb12
 clear hb12
 go_wp2_with (refine wpList_build1 rfl 34 1 (.const (.int .i64 1)) rfl (vx := .int .i64 1) rfl (refFirst_run 1 _) ?_)
 refine (newReader_first (heap := 2) (unhide HE _ hbw12).1 hlz 1 0 (by omega) (by decide) (by decide) (Or.inl (by omega))).mono ?_
 rintro e w13 ⟨rfl, hb13⟩
 have hbw13 : Below w3.heap.size w3 w13 := below_then hbw12 hb13
 clear hb13
 go_wp2_with (refine wpList_build1 rfl 34 1 (.const (.int .i64 4)) rfl (vx := .int .i64 4) rfl (refFirst_run 4 _) ?_)
 refine (newReader_none (heap := 4) (unhide HE _ hbw13).1 hlz 4 0 (by omega) (by decide) (by decide)).mono ?_
 rintro e w14 ⟨rfl, hb14⟩
 have hbw14 : Below w3.heap.size w3 w14 := below_then hbw13 hb14
 clear hb14
 have HFR := hide (free_calls (unhide HE _ hbw14).2.1)
 rw [new2.2.1] at HFR
 have HEND := hide (unhide HE _ hbw14).2.2.2
 clear HE hbw hbw7 hbw8 hbw9 hbw10 hbw11 hbw12 hbw13 hbw14 hlz
 go_wp2_with (first
  | (go_at_call 10; refine (unhide HNUM _ _).mono ?_; rintro e wn ⟨rfl, hwn⟩; obtain rfl := hwn.symm)
  | (go_at_call 12; refine (unhide HFR).mono ?_; rintro e wn ⟨rfl, hwn⟩; obtain rfl := hwn.symm))
 go_ret
 exact ⟨rfl, HEND.out⟩
end Go.Proofs.YtlofoklfggmbiaaDoor

namespace Go.Proofs.YtlofoklfggmbiaaDoor
open Go.RowKit Go.Maps

theorem same_more {xs ys : List Nat} {j : Nat} (hl : xs.length = ys.length) (h : xs.take j = ys.take j) (hj : j < xs.length) (e : xs.getD j 0 = ys.getD j 0) : xs.take (j + 1) = ys.take (j + 1) := by rw [take_succD hj, take_succD (by omega), h, e]
set_option maxRecDepth 100000 in
set_option maxHeartbeats 4000000 in
theorem sameInts6_calls {w : World} {B1 B2 : Nat} {va vb : Value} {xs ys : List Nat} (ha : Row w B1 3 va (iV xs)) (hb : Row w B2 3 vb (iV ys)) :
 Calls Tryd.prog 45 #[va, vb] w fun e w' => e = .returned (.bool (decide (xs = ys))) ∧ Below w.heap.size w w' := by
 obtain ⟨aa, ca, e1⟩ := ha.shapeI
 obtain ⟨ab, cb, e2⟩ := hb.shapeI
 rw [iV_len] at e1 e2
 subst e1 e2
 by_cases hl : xs.length = ys.length
 · obtain ⟨n, hn⟩ : ∃ n, n = xs.length := ⟨_, rfl⟩
   have hn2 : ys.length = n := by omega
   rw [hn2] at hb ⊢
   rw [← hn] at ha ⊢
   have HA := hide ha
   have HB := hide hb
   have HN : Hid (xs.length = n ∧ ys.length = n) := hide ⟨hn.symm, hn2⟩
   have hnm : (n : Int) ≤ 9223372036854775807 := by
    rcases ha.2 with ⟨_, h0⟩ | ⟨g, cap, cur, _, _, _, h1, h2, _⟩
    · rw [iV_len] at h0; omega
    · unfold maxLen at h2; rw [iV_len] at h1; omega
   obtain ⟨r, hr⟩ : ∃ r, r = decide (xs = ys) := ⟨_, rfl⟩
   rw [← hr]
   have HR := hide hr
   clear ha hb hn hn2 hl hr
   go_enter Tryd.func45, Tryd.ntmps45
   go_wp2_with fail
   go_loopw [5] (fun iv W => ∃ (j : Nat), j ≤ n ∧ iv = .int .i64 (j : Int) ∧ Hid (Below w.heap.size w W ∧ xs.take j = ys.take j)) (fun i _ => n - (intOf i).toNat)
   case atStart => exact ⟨0, by omega, rfl, hide ⟨Below.refl _ _, rfl⟩⟩
   case round =>
    obtain ⟨j, hjn, rfl, hh⟩ := hrel
    by_cases hlt : j < n
    · have hra := owns_below HA.out hh.out.1
      have hrb := owns_below HB.out hh.out.1
      obtain ⟨ga, ca2, hv, hc1, hc2, _, hcA⟩ := owns_shape hra (by rw [iV_len, HN.out.1]; omega)
      injection hv with e1 e2 e3
      subst e1 e3
      obtain ⟨gb, cb2, hv, hc3, hc4, _, hcB⟩ := owns_shape hrb (by rw [iV_len, HN.out.2]; omega)
      injection hv with e1 e4 e3
      subst e1 e3
      have hjx : j < xs.length := by rw [HN.out.1]; exact hlt
      have hjy : j < ys.length := by rw [HN.out.2]; exact hlt
      obtain ⟨q, hq⟩ : ∃ q, q = xs.getD j 0 := ⟨_, rfl⟩
      obtain ⟨z, hz⟩ : ∃ z, z = ys.getD j 0 := ⟨_, rfl⟩
      have hcj : wr.cell? ⟨ga, j, none⟩ = some (.int .i64 (q : Int)) := by rw [hcA j (by rw [iV_len]; omega), iV_at hjx, hq]
      have hcj2 : wr.cell? ⟨gb, j, none⟩ = some (.int .i64 (z : Int)) := by rw [hcB j (by rw [iV_len]; omega), iV_at hjy, hz]
      have hlti : (j : Int) < (n : Int) := by omega
      have HS : Hid (∀ W, Below wr.heap.size wr W → W.cell? ⟨ga, j, none⟩ = some (.int .i64 (q : Int)) ∧ W.cell? ⟨gb, j, none⟩ = some (.int .i64 (z : Int))) := hide (fun W hW => ⟨bkeptC hW hcj, bkeptC hW hcj2⟩)
      have HQ : Hid (q = xs.getD j 0 ∧ z = ys.getD j 0) := hide ⟨hq, hz⟩
      have hwj : IntKind.i64.wrap ((j : Int) + 1) = (j : Int) + 1 := IntWalk.i64_in _ (by omega)
      rw [iV_len, HN.out.1] at hc1
      rw [iV_len, HN.out.2] at hc3
      clear hra hrb hcA hcB e2 e4 hjx hjy hq hz hcj hcj2
      go_wp2_with fail
      refine wp_region_held_drew (S := fun W => W.cell? ⟨ga, j, none⟩ = some (.int .i64 (q : Int)) ∧ W.cell? ⟨gb, j, none⟩ = some (.int .i64 (z : Int))) (by kernel_rfl) (unhide HS _ (Below.refl _ _).drew) (fun hHeld => ?_)
      refine wpAnyH_take (i := 0) (v := .slice (some ⟨ga, 0, none⟩) n ca) rfl (by kernel_rfl) (by kernel_rfl) (by kernel_rfl) (fun _ _ _ h => h) (Or.inl ⟨by rfl, fun w hSw => by obtain ⟨hS1, hS2⟩ := hSw; go_simp⟩) (by assumption) ?_
      simp only [fGa, fGz, Act.put, fSa, fSz, fSs]
      refine wpAnyH_take (i := 1) (v := .int .i64 (j : Int)) rfl (by kernel_rfl) (by kernel_rfl) (by kernel_rfl) (fun _ _ _ h => h) (Or.inl ⟨by rfl, fun w hSw => by obtain ⟨hS1, hS2⟩ := hSw; go_simp⟩) (by assumption) ?_
      simp only [fGa, fGs, fGz, Act.put, fSa, fSz, fSs]
      refine wpAnyH_take (i := 2) (v := .pointer (some ⟨ga, j, none⟩)) rfl (by kernel_rfl) (by kernel_rfl) (by kernel_rfl) (fun _ _ _ h => h) (Or.inl ⟨by rfl, fun w hSw => by obtain ⟨hS1, hS2⟩ := hSw; go_simp⟩) (by assumption) ?_
      simp only [fGa, fGs, fGz, Act.put, fSa, fSz, fSs]
      refine wpAnyH_take (i := 3) (v := .int .i64 (q : Int)) rfl (by kernel_rfl) (by kernel_rfl) (by kernel_rfl) (fun _ _ _ h => h) (Or.inl ⟨by rfl, fun w hSw => by obtain ⟨hS1, hS2⟩ := hSw; go_simp⟩) (by assumption) ?_
      simp only [fGa, fGs, fGz, Act.put, fSa, fSz, fSs]
      refine wpAnyH_take (i := 4) (v := .slice (some ⟨gb, 0, none⟩) n cb) rfl (by kernel_rfl) (by kernel_rfl) (by kernel_rfl) (fun _ _ _ h => h) (Or.inl ⟨by rfl, fun w hSw => by obtain ⟨hS1, hS2⟩ := hSw; go_simp⟩) (by assumption) ?_
      simp only [fGa, fGs, fGz, Act.put, fSa, fSz, fSs]
      refine wpAnyH_take (i := 5) (v := .int .i64 (j : Int)) rfl (by kernel_rfl) (by kernel_rfl) (by kernel_rfl) (fun _ _ _ h => h) (Or.inl ⟨by rfl, fun w hSw => by obtain ⟨hS1, hS2⟩ := hSw; go_simp⟩) (by assumption) ?_
      simp only [fGa, fGs, fGz, Act.put, fSa, fSz, fSs]
      refine wpAnyH_take (i := 6) (v := .pointer (some ⟨gb, j, none⟩)) rfl (by kernel_rfl) (by kernel_rfl) (by kernel_rfl) (fun _ _ _ h => h) (Or.inl ⟨by rfl, fun w hSw => by obtain ⟨hS1, hS2⟩ := hSw; go_simp⟩) (by assumption) ?_
      simp only [fGa, fGs, fGz, Act.put, fSa, fSz, fSs]
      refine wpAnyH_take (i := 7) (v := .int .i64 (z : Int)) rfl (by kernel_rfl) (by kernel_rfl) (by kernel_rfl) (fun _ _ _ h => h) (Or.inl ⟨by rfl, fun w hSw => by obtain ⟨hS1, hS2⟩ := hSw; go_simp⟩) (by assumption) ?_
      simp only [fGa, fGs, fGz, Act.put, fSa, fSz, fSs]
      refine wpAnyH_take (i := 8) (v := .bool ((q : Int) != (z : Int))) rfl (by kernel_rfl) (by kernel_rfl) (by kernel_rfl) (fun _ _ _ h => h) (Or.inl ⟨by rfl, fun w hSw => by obtain ⟨hS1, hS2⟩ := hSw; go_simp⟩) (by assumption) ?_
      simp only [fGa, fGs, fGz, Act.put, fSa, fSz, fSs]
      refine wpAnyH_done (by kernel_rfl) ?_ _
      by_cases hqz : q = z
      · have hqI : ((q : Int) == (z : Int)) = true := by simp [hqz]
        have hqb : ¬ (q : Int) ≠ (z : Int) := by omega
        have HX : Hid (Below w.heap.size w wr.drew ∧ xs.take (j + 1) = ys.take (j + 1)) := hide ⟨hh.out.1.drew, same_more (by rw [HN.out.1, HN.out.2]) hh.out.2 (by rw [HN.out.1]; exact hlt) (by rw [← HQ.out.1, ← HQ.out.2, hqz])⟩
        have hdq : ((q : Int) != (z : Int)) = false := by simp [hqz]
        rw [hdq]
        clear hqz hqI hqb hdq hHeld HS hh
        go_wp2
        go_roundw
        case rel => exact ⟨j + 1, by omega, by go_num, HX⟩
        case measure => simp [intOf]; omega
      · have hne : r = false := by
         rw [HR.out]
         refine decide_eq_false (fun e => hqz ?_)
         rw [HQ.out.1, HQ.out.2, e]
        subst hne
        have HX : Hid (Below w.heap.size w wr.drew) := hide hh.out.1.drew
        have hdq : ((q : Int) != (z : Int)) = true := by simp; omega
        rw [hdq]
        clear hqz hdq hHeld HS hh
        go_wp2
        go_ret
        exact ⟨rfl, HX.out⟩
    · have hjN : ¬ (j : Int) < (n : Int) := by omega
      have ht : r = true := by
       rw [HR.out]
       refine decide_eq_true ?_
       have := hh.out.2
       rw [List.take_of_length_le (by rw [HN.out.1]; omega), List.take_of_length_le (by rw [HN.out.2]; omega)] at this
       exact this
      subst ht
      have HX : Hid (Below w.heap.size w wr) := hide hh.out.1
      clear hh
      go_wp2
      go_ret
      exact ⟨rfl, HX.out⟩
 · have hne : decide (xs = ys) = false := decide_eq_false (fun e => hl (by rw [e]))
   rw [hne]
   have hln : ¬ (xs.length : Int) = (ys.length : Int) := by omega
   generalize xs.length = n at *
   generalize ys.length = m at *
   clear ha hb hne
   go_enter Tryd.func45, Tryd.ntmps45
   go_wp2
   go_ret
   exact ⟨rfl, Below.refl _ _⟩
end Go.Proofs.YtlofoklfggmbiaaDoor

namespace Go.Proofs.YtlofoklfggmbiaaDoor
open Go.RowKit Go.Maps

theorem new10 : newW (20 - 10) = [1023] ∧ freeN [1023] = 10 ∧ (allF 10 0 [1023]).take 3 = [10, 11, 12] ∧ freeN (claimAll 10 20 [1023] [10, 11, 12]) = 7 := by decide
/-- The bytes that are put. -/
def bs1000 : List Int := (List.replicate 1000 (0 : Int)).set 999 7
theorem bs1000_len : bs1000.length = 1000 := by unfold bs1000; rw [List.length_set, List.length_replicate]
theorem bs1000_b : ∀ x ∈ bs1000, 0 ≤ x ∧ x ≤ 255 := by
 intro x hx
 unfold bs1000 at hx
 rcases List.mem_or_eq_of_mem_set hx with hx | hx
 · have := List.eq_of_mem_replicate hx; omega
 · omega
theorem isB_arrN {w : World} {g n : Nat} {xs : List Int} (h : Arr w g 5 (xs.map (Value.int .u8))) (hl : xs.length = n) (hn : n ≤ 9223372036854775807) (hb : ∀ x ∈ xs, 0 ≤ x ∧ x ≤ 255) : IsB w (.slice (some ⟨g, 0, none⟩) n n) xs := by
 have h1 := isB_pre (n := n) (cap := n) (t := 5) (xs := xs) h hb (by omega) (Nat.le_refl _) hn
 rw [List.take_of_length_le (by omega)] at h1
 exact h1
theorem row_lit (w : World) (ks : List Nat) (hl : ks.length ≤ 1000) : Row (w.alloc (.cells (iV ks).toArray 3)) w.heap.size 3 (.slice (some ⟨w.heap.size, 0, none⟩) ks.length ks.length) (iV ks) := by
 refine ⟨by simp, Or.inr ⟨w.heap.size, ks.length, (iV ks).toArray, by rw [iV_len], Nat.le_refl _, heap_alloc_new w _, by rw [iV_len]; exact Nat.le_refl _, by unfold maxLen; omega, by simp [iV_len], ?_⟩⟩
 rw [Nat.mul_one, iV_len]
 simp [← iV_len ks]
set_option maxRecDepth 100000 in
set_option maxHeartbeats 8000000 in
theorem started_calls {w : World} (hT : TT w) : Calls Tryd.prog 13 #[] w fun e w' => e = .returned (.bool true) ∧ Below w.heap.size w w' := by
 have HND := hide (new_calls (w := w) (n := 20) (by omega) (by omega))
 have HNS : Hid (∀ W, Calls Tryd.prog 29 #[.int .i64 10, .int .i64 20] W fun e w' => ∃ g gw, e = .returned (.tuple #[.pointer (some ⟨g, 0, none⟩), .int .i64 0]) ∧ Sp w' W.heap.size g gw 10 20 [1023] ∧ W.heap.size ≤ g ∧ Below W.heap.size W w') := hide (fun W => (spNew_calls (w := W) 10 20 (by omega) (by omega)).mono (fun e w' ⟨g, gw, h1, h2, h3, h4⟩ => ⟨g, gw, h1, by rw [new10.1] at h2; exact h2, h3, h4⟩))
 have HNUM := hide (fun n W => num6_calls n W)
 obtain ⟨i0, hi, hz0, hz1, hz2⟩ := info_parts info8
 have HT := hide hT
 have HTS := hide hT.size
 have hsl := shaOf_len bs1000
 clear hT
 go_enter Tryd.func13, Tryd.ntmps13
 go_wp2_with fail
 refine (unhide HND).mono ?_
 rintro e w1 ⟨p, gl, gm, V, rfl, hD1, hp1, hgl1, hgm1, hV1, hb1⟩
 have HF1 : Hid (∀ x, Ft p gl gm V x → w.heap.size ≤ x) := hide (fun x hx => by
  rcases hx with rfl | rfl | rfl | ⟨i, hi⟩
  · exact hp1
  · exact hgl1
  · exact hgm1
  · rw [hV1 i] at hi; simp [Value.ownBlock] at hi)
 have HD1 := hide hD1
 have HB1 := hide hb1
 clear hD1 hb1 HND hp1 hgl1 hgm1 hV1
 go_wp2_with fail
 refine (unhide HNS w1).mono ?_
 rintro e w2 ⟨g, gw, rfl, hS2, hg2, hb2⟩
 have HD2 := hide (HD1.out.below hb2)
 have HS2 := hide hS2
 have HG2 : Hid (w1.heap.size ≤ g ∧ w1.heap.size ≤ gw ∧ ∀ x, Ft p gl gm V x → x < w1.heap.size) := hide ⟨hg2, hS2.cellsG.2.1, fun x hx => HD1.out.lt hx⟩
 have HB2 := hide (below_then HB1.out hb2)
 have HT2 := hide (HT.out.below HB2.out)
 clear HNS hS2 hb2 HD1 HB1 HT hg2
 go_wp2_with (first
  | (go_at_call 10; refine (unhide HNUM _ _).mono ?_; rintro e wn ⟨rfl, hwn⟩; obtain rfl := hwn.symm; clear hwn)
  | (at_make; refine wpList_make_full _ rfl _ _ 26 rfl w2.heap.size 5 i0 (.int .u8 0) 1 Tryd.underlying26 hi hz0 hz1 .i64 .i64 _ _ 1000 rfl rfl rfl rfl (by rw [hz2]; omega) (by unfold maxLen; omega) (Nat.le_refl _) ?_; intro w3 hown3 hg3
     rw [made8] at hown3
     have hA3 := arrFull hown3
     have hc9 : w3.cell? ⟨w2.heap.size, 999, none⟩ = some (.int .u8 0) := arr_cell hA3 (by rw [List.getElem?_replicate, if_pos (by omega)])
     have hf9 := hA3.frozen 999
     have HA3 := hide hA3
     have HB3 : Hid (Below w2.heap.size w2 w3) := hide ((Below.refl _ _).grown hg3 (Nat.le_refl _) (fun b hb => by cases hb))
     clear hown3 hg3 hA3))
 have hA4 : Arr (w3.setCell ⟨w2.heap.size, 999, none⟩ (.int .u8 7)) w2.heap.size 5 (bs1000.map (Value.int .u8)) := by
  have h9 := HA3.out.set 999 (.int .u8 7)
  unfold bs1000
  rw [List.map_set, List.map_replicate]
  exact h9
 have hb4 : Below w2.heap.size w2 (w3.setCell ⟨w2.heap.size, 999, none⟩ (.int .u8 7)) := ((Up.of_below HB3.out).trans (F := fun b => b = w2.heap.size) up_set (fun _ h => Or.inl h)).below (Nat.le_refl _) (fun x hx => by omega)
 obtain ⟨w4, hw4⟩ : ∃ w4, w3.setCell ⟨w2.heap.size, 999, none⟩ (.int .u8 7) = w4 := ⟨_, rfl⟩
 rw [hw4] at hA4 hb4 ⊢
 have hI4 : IsB w4 (.slice (some ⟨w2.heap.size, 0, none⟩) 1000 1000) bs1000 := isB_arrN hA4 bs1000_len (by omega) bs1000_b
 obtain ⟨hgp, hgwp, hFlt⟩ := HG2.out
 have hgw2 := HS2.out.ltw
 have hTs := HTS.out
 have HPUT := hide (put_good (k := 3) (HD2.out.below hb4) (HS2.out.below hb4) (HT2.out.below hb4) (by omega) (by decide) (by rw [new10.2.1]; omega) (fun x hx => by rw [new10.2.2.1] at hx; simp only [List.mem_cons, List.not_mem_nil, or_false] at hx; show _ ∧ x < (List.replicate 20 zsec).length; rw [List.length_replicate]; omega) hI4 (fun _ x hx => by simp only [blkOf, Option.some.injEq] at hx; omega) (by have := HB2.out.size; have := (HF1.out p (Or.inl rfl)); have := hFlt p (Or.inl rfl); omega) (fun x hx => by have := hFlt x hx; have := HF1.out x hx; have := HB2.out.size; omega) (Int.le_refl _) (by decide) (fun x => by show ([] : List (List Int)).length ≤ _; simp) (ks := [10, 11, 12]) new10.2.2.1.symm)
 have HFt : Hid (∀ x, Ft p gl gm V x → GB ≤ x ∧ w.heap.size ≤ x ∧ x < w1.heap.size) := hide (fun x hx => ⟨by have := HF1.out x hx; omega, HF1.out x hx, hFlt x hx⟩)
 have HT4 := hide (HT2.out.below hb4)
 have HI4 := hide hI4
 have HB4 := hide (below_then HB2.out hb4)
 have HG4 : Hid (w.heap.size ≤ gw ∧ gw < w2.heap.size ∧ GB ≤ gw ∧ w2.heap.size < w4.heap.size ∧ w1.heap.size ≤ w2.heap.size ∧ w1.heap.size ≤ g ∧ w1.heap.size ≤ gw) := hide ⟨by have := HF1.out p (Or.inl rfl); have := hFlt p (Or.inl rfl); omega, hgw2, by have := HF1.out p (Or.inl rfl); have := hFlt p (Or.inl rfl); omega, hA4.lt, by omega, hgp, hgwp⟩
 clear hA4 hb4 hw4 hI4 hgp hgwp hFlt hgw2 hTs HA3 HB3 hc9 hf9 HD2 HS2 HT2 HB2 HF1 HG2 HTS hi hz0 hz1 hz2 i0
 refine (unhide HPUT).mono ?_
 rintro e w5 ⟨g2, c2, V', rfl, hR5, hD5, hS5, hF5, hU5⟩
 have hFge : ∀ x, Ft p gl gm V' x → GB ≤ x := fun x hx => by
  rcases hF5 x hx with h | h
  · exact (HFt.out x h).1
  · have := HG4.out; omega
 have hT5 : TT w5 := HT4.out.up hU5 (fun b hb => by
  rcases hb with rfl | hb
  · exact HG4.out.2.2.1
  · exact (HFt.out b hb).1)
 have hI5 : IsB w5 (.slice (some ⟨w2.heap.size, 0, none⟩) 1000 1000) bs1000 := HI4.out.up hU5 (fun b hb hf => by
  simp only [blkOf, Option.some.injEq] at hb
  have := HG4.out
  rcases hf with h | h
  · omega
  · have := (HFt.out b h).2.2
    omega)
 have hB5 : Below w.heap.size w w5 := HB4.out.trans (hU5.below HB4.out.size (fun x hx => by
  rcases hx with h | h
  · have := HG4.out; omega
  · exact (HFt.out x h).2.1))
 -- the ref's block
 have hba : Below w5.heap.size w5 (w5.alloc (.cells zRef.toArray 34)) := (Below.refl _ _).alloc (Nat.le_refl _) _
 have hAa := Arr.new w5 zRef 34
 have hiR := infoRef hsl 10 1000
 have hzl : zRef.length = (refV (shaOf bs1000) 10 1000).length := by rw [refV_len hsl]; rfl
 have h1R := refV_one (shaOf bs1000) 10 1000
 have hund := Tryd.underlying34
 have HE5 : Hid (∀ W, Below w5.heap.size w5 W → Row W w4.heap.size 3 (.slice (some ⟨g2, 0, none⟩) 3 c2) (iV [10, 11, 12]) ∧ Dk W p gl gm V' (putAll (zeroD 20) bs1000 [10, 11, 12] 3) ∧ Sp W w1.heap.size g gw 10 20 (claimAll 10 20 [1023] [10, 11, 12]) ∧ TT W ∧ IsB W (.slice (some ⟨w2.heap.size, 0, none⟩) 1000 1000) bs1000 ∧ Below w.heap.size w W) := hide (fun W hW => ⟨owns_below hR5 hW, hD5.below hW, hS5.below hW, hT5.below hW, hI5.below hW, below_then hB5 hW⟩)
 have HFge := hide hFge
 have HGS : Hid (gw < w4.heap.size ∧ w4.heap.size ≤ w5.heap.size ∧ g2 < w5.heap.size ∧ w4.heap.size ≤ g2 ∧ w.heap.size ≤ p ∧ p < w1.heap.size ∧ w1.heap.size ≤ w2.heap.size ∧ w2.heap.size < w4.heap.size ∧ w1.heap.size ≤ g ∧ w1.heap.size ≤ gw) := hide ⟨by have := HG4.out; omega, hU5.size, (hR5.lt g2 rfl).2, (hR5.lt g2 rfl).1, (HFt.out p (Or.inl rfl)).2.1, (HFt.out p (Or.inl rfl)).2.2, HG4.out.2.2.2.2.1, HG4.out.2.2.2.1, HG4.out.2.2.2.2.2.1, HG4.out.2.2.2.2.2.2⟩
 have HBA := hide hba
 obtain ⟨wa, hwa⟩ : ∃ wa, w5.alloc (.cells zRef.toArray 34) = wa := ⟨_, rfl⟩
 rw [hwa] at hAa HBA
 have HWA := hide hwa
 clear HPUT hR5 hD5 hS5 hF5 hU5 hFge hT5 hI5 hB5 hba hwa HFt HT4 HI4 HB4 HG4
 have hrv : refV (shaOf bs1000) (([10, 11, 12] : List Nat).getD 0 0 : Nat) ((1000 : Nat) : Int) = refV (shaOf bs1000) 10 1000 := rfl
 rw [hrv]
 clear hrv
 obtain ⟨rV, hrV⟩ : ∃ rV, refV (shaOf bs1000) 10 1000 = rV := ⟨_, rfl⟩
 rw [hrV] at hiR hzl h1R ⊢
 have HRV := hide hrV
 clear hrV
 go_wp2_with (first
  | (refine wpList_allocRef rfl rfl ?_; rw [HWA.out])
  | (refine wpList_storeArr2 (cs' := rV) rfl (.tmp 6) (.tmp 44) 34 rfl rfl rfl hAa hiR hzl h1R ?_; intro w6 hA6 hWr6
     have hrng : w6.rangeAt w5.heap.size 0 rV := arr_range (ds := []) (by rw [List.append_nil]; exact hA6)
     have HA6 := hide hA6
     have HB6 := hide (hWr6.below w5.heap.size w5 HBA.out (Nat.le_refl _))
     clear hA6 hWr6)
  | (refine wpList_load_mid rfl 34 (.tmp 6) rfl w5.heap.size 0 rfl rV _ hrng hund rfl hiR ?_))
 have hla : (putAll (zeroD 20) bs1000 [10, 11, 12] 3).la.length = 20 := by rw [putAll_la]; show (List.replicate 20 zsec).length = 20; rw [List.length_replicate]
 obtain ⟨e1, e2, e3, e4, e5, e6⟩ := unhide HE5 w6 HB6.out
 have hgot := put_got (heap := 10) (sd := (putAll (zeroD 20) bs1000 [10, 11, 12] 3).la.length) (bs := bs1000) (ks := [10, 11, 12]) (D := zeroD 20) (by rw [bs1000_len]; omega) (by rw [bs1000_len]; decide) (by decide) (fun x hx => by rw [hla]; simp only [List.mem_cons, List.not_mem_nil, or_false] at hx; omega) (by decide) (by rw [hla]; omega) 10 (N := (putAll (zeroD 20) bs1000 [10, 11, 12] 3).now) (fun t ht => rfl)
 have hget := get_good (heap := 10) (fi := 10) (k := 3) e2 e4 HFge.out hsl (sha_bytes bs1000) 1000 (by omega) (by rw [hla]; omega) (by decide) (by omega) ⟨by omega, by rw [hla]; omega⟩ (by rw [putAll_rd]; exact Int.le_refl _) (by rw [putAll_rd]; decide)
 rw [bs1000_len] at hgot
 obtain ⟨h1, h2, h3⟩ := hgot
 obtain ⟨G, hG⟩ : ∃ G, G = goS (putAll (zeroD 20) bs1000 [10, 11, 12] 3).now (shaOf bs1000) ((10 : Nat) : Int) 1000 10 (putAll (zeroD 20) bs1000 [10, 11, 12] 3).la.length 3 (begS 10 (putAll (zeroD 20) bs1000 [10, 11, 12] 3).la.length 10) := ⟨_, rfl⟩
 have hG1 : G.by_ = bs1000 := by rw [hG]; exact h1
 have hG2 : G.br = 0 := by rw [hG]; exact h2
 have hoe : outE G = 0 := by unfold outE; rw [if_pos hG2]
 have HGET : Hid (Calls Tryd.prog 17 #[.pointer (some ⟨p, 0, none⟩), .int .i64 10, .agg rV.toArray] w6 fun e w' => ∃ ra rn rc, e = .returned (.tuple #[.slice ra rn rc, .int .i64 0, .int .i64 0]) ∧ Own8 w' w6.heap.size (.slice ra rn rc) bs1000 ∧ Up (fun b => b = p) w6 w') := hide (by
  rw [← hG, hG2, hoe, hG1] at hget
  rw [← HRV.out]
  refine Calls.mono hget ?_
  rintro e w' ⟨ra, rn, rc, n, rfl, q1, q2, q3, q4⟩
  exact ⟨ra, rn, rc, rfl, q1, q4⟩)
 have hp4 : p < w2.heap.size ∧ g2 ≠ p ∧ g ≠ p ∧ gw ≠ p ∧ w5.heap.size ≠ p ∧ w2.heap.size ≠ p ∧ GB ≤ p ∧ w.heap.size ≤ p := by have := HGS.out; have := HFge.out p (Or.inl rfl); omega
 have HX7 : Hid (∀ W, Up (fun b => b = p) w6 W → Row W w4.heap.size 3 (.slice (some ⟨g2, 0, none⟩) 3 c2) (iV [10, 11, 12]) ∧ Sp W w1.heap.size g gw 10 20 (claimAll 10 20 [1023] [10, 11, 12]) ∧ TT W ∧ IsB W (.slice (some ⟨w2.heap.size, 0, none⟩) 1000 1000) bs1000 ∧ Below w.heap.size w W ∧ Arr W w5.heap.size 34 (refV (shaOf bs1000) 10 1000)) := hide (fun W hU => ⟨owns_up e1 hU (fun x hx => by simp only [Value.ownBlock, Option.some.injEq] at hx; omega), e3.up hU (by omega) (by omega), e4.up hU (fun b hb => by omega), e5.up hU (fun b hb => by simp only [blkOf, Option.some.injEq] at hb; omega), e6.trans (hU.below e6.size (fun x hx => by omega)), by have h9 := HA6.out; rw [← HRV.out] at h9; exact h9.up hU (by omega)⟩)
 clear hla e1 e2 e3 e4 e5 e6 hget h1 h2 h3 hG hG1 hG2 hoe G hp4 HFge HGS HE5 HBA HWA HA6 hAa h1R hzl hiR hrng hund HB6
 refine (unhide HGET).mono ?_
 rintro e w7 ⟨ra, rn, rc, rfl, ho7, hU7⟩
 obtain ⟨k1, k2, k3, k4, k5, k6⟩ := unhide HX7 w7 hU7
 have HSAME := hide (same6_calls k4 ho7.isB)
 rw [decide_eq_true rfl] at HSAME
 have hb8 : Below w7.heap.size w7 (w7.alloc (.cells (iV [10, 11, 12]).toArray 3)) := (Below.refl _ _).alloc (Nat.le_refl _) _
 have HINT := hide (sameInts6_calls (owns_below k1 hb8) (row_lit w7 [10, 11, 12] (by decide)))
 rw [decide_eq_true rfl] at HINT
 have HE7 : Hid (∀ W, Below (w7.alloc (.cells (iV [10, 11, 12]).toArray 3)).heap.size (w7.alloc (.cells (iV [10, 11, 12]).toArray 3)) W → W.cell? ⟨w5.heap.size, 32, none⟩ = some (.int .i64 10) ∧ W.cell? ⟨w5.heap.size, 33, none⟩ = some (.int .i64 1000) ∧ Calls Tryd.prog 12 #[.pointer (some ⟨g, 0, none⟩)] W (fun e w' => e = .returned (.int .i64 7) ∧ w' = W) ∧ Calls Tryd.prog 46 #[] W (fun e w' => e = .returned (.bool true) ∧ Below w.heap.size w w')) := hide (fun W hW => by
  have hW7 : Below w7.heap.size w7 W := below_then hb8 hW
  have hAr := k6.below hW7
  have hfr := free_calls (k2.below hW7)
  rw [new10.2.2.2] at hfr
  refine ⟨arr_cell hAr (refV_32 hsl 10 1000), arr_cell hAr (refV_33 hsl 10 1000), hfr, (both_calls (k3.below hW7)).mono ?_⟩
  rintro e w' ⟨h1, h2⟩
  exact ⟨h1, below_then (below_then k5 hW7) h2⟩)
 clear HGET HX7 ho7 hU7 k1 k2 k3 k4 k5 k6 hb8 HRV
 go_wp2_with (first
  | (go_at_call 10; refine (unhide HNUM _ _).mono ?_; rintro e wn ⟨rfl, hwn⟩; obtain rfl := hwn.symm; clear hwn)
  | (go_at_call 18; refine (unhide HSAME).mono ?_; rintro e wn ⟨rfl, hwn⟩; obtain rfl := hwn.symm; clear hwn)
  | (go_at_call 45; refine (unhide HINT).mono ?_; rintro e w9 ⟨rfl, hb9⟩; obtain ⟨q1, q2, q3, q4⟩ := unhide HE7 w9 hb9; have HFR := hide q3; have HBO := hide q4; clear q3 q4 hb9)
  | (go_at_call 12; refine (unhide HFR).mono ?_; rintro e wn ⟨rfl, hwn⟩; obtain rfl := hwn.symm; clear hwn)
  | (go_at_call 46; refine (unhide HBO).mono ?_; rintro e w10 ⟨rfl, hb10⟩))
 go_ret
 exact ⟨rfl, hb10⟩
end Go.Proofs.YtlofoklfggmbiaaDoor

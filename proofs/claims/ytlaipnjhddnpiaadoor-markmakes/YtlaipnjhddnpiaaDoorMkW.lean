/- What MarkMakes answers. -/
import Derived.Test.YtlaipnjhddnpiaaDoorMkA
namespace Go.Proofs.YtlaipnjhddnpiaaDoor
open Go.RowKit Go.Maps

def mzR : List Value := [.int .i64 0, .slice none 0 0, .slice none 0 0, .slice none 0 0, .slice none 0 0, .bool false, .int .i64 0, .int .i64 0, .slice none 0 0, .slice none 0 0, .bool false, .int .i64 0]
def mcR (x : Int) : List Value := [.int .i64 x, .slice none 0 0, .slice none 0 0, .slice none 0 0, .slice none 0 0, .bool false, .int .i64 0, .int .i64 0, .slice none 0 0, .slice none 0 0, .bool false, .int .i64 (-1)]
theorem infoMz : (Tryd.prog.info? 35).map (fun i => (i.zero, i.size, i.bytes)) = some (some (.agg mzR.toArray), 12, 192) := by kernel_rfl
theorem infoMs : (Tryd.prog.info? 35).map (·.size) = some 12 := by kernel_rfl
theorem bldMz (W : World) : (Instr.build 35 #[]).run Tryd.prog W = .ok (.agg mzR.toArray) W := by kernel_rfl
theorem bldMc (x : Int) (W : World) : (Instr.build 35 #[(0, .int .i64 x), (11, .int .i64 (-1))]).run Tryd.prog W = .ok (.agg (mcR x).toArray) W := by kernel_rfl
theorem mz_one : ∀ u ∈ mzR, u.oneCell' = true := by decide
theorem mc_one (x : Int) : ∀ u ∈ mcR x, u.oneCell' = true := by
  intro u hu
  simp only [mcR, List.mem_cons, List.not_mem_nil, or_false] at hu
  rcases hu with rfl | rfl | rfl | rfl | rfl | rfl | rfl | rfl | rfl | rfl | rfl | rfl <;> rfl
theorem acts_eq0 (W : World) : (binOp .eql 43 (.agg #[.int .i64 0, .int .i64 0, .int .i64 0]) (.agg #[.int .i64 0, .int .i64 0, .int .i64 0])).run Tryd.prog W = .ok (.bool true) W := by kernel_rfl
theorem bldA0 (W : World) : (Instr.build 43 #[]).run Tryd.prog W = .ok (.agg #[.int .i64 0, .int .i64 0, .int .i64 0]) W := by kernel_rfl
theorem acts_guard0 (op : BinOp) (x y : Operand) (xs ys : Array Value) (w : World) : (eqGuard op 43 x y (.agg xs) (.agg ys)).run Tryd.prog w = .ok () w := run_eqGuard_agg w op 43 x y xs ys (by kernel_rfl)
/-- The document's New. -/
theorem rnew_calls {w : World} {n : Nat} {x : Int} (hn : n ≤ 65536) : Calls Tryd.prog 6 #[.int .i64 (n : Int), .int .i64 x] w fun e w' => ∃ cs : List Value, e = .returned (.tuple #[.agg cs.toArray, .int .i64 (if x < 1 ∨ (n : Int) ≤ x then 1 else 0)]) ∧ cs.length = 12 ∧ (∀ u ∈ cs, u.oneCell' = true) ∧ Below w.heap.size w w' := by
  have hA2 := Arr.new w mzR 35
  have hba2 := jalloc_below w (.cells mzR.toArray 35)
  have HST : Hid (∀ W, (w.alloc (.cells mzR.toArray 35)).grownBy W (some w.heap.size) → Below w.heap.size w W) := hide (fun W hg => jbelow_grown hba2 hg hba2.size (Nat.le_refl _))
  have hsub : IntKind.i64.wrap ((n : Int) - 1) = (n : Int) - 1 := IntWalk.i64_in _ (by omega)
  have hlz : mzR.length = mzR.length := rfl
  have hlc : mzR.length = (mcR x).length := rfl
  have hiz : (Tryd.prog.info? 35).map (·.size) = some mzR.length := infoMs
  have hic : (Tryd.prog.info? 35).map (·.size) = some (mcR x).length := infoMs
  clear hba2
  by_cases h : x < 1 ∨ (n : Int) ≤ x
  · rw [if_pos h]
    by_cases h1 : x < 1
    · clear h
      go_enter Tryd.func6, Tryd.ntmps6
      go_wp2_with (first
        | (refine wpList_allocJ rfl 35 rfl infoMz ?_)
        | (refine wpList_bldJ rfl 35 rfl bldMz ?_)
        | (refine wpList_storeJ rfl (.tmp 4) (.tmp 14) 35 rfl rfl rfl hA2 hiz hlz mz_one ?_; intro w4 hA4 hg4
           have HB4 := hide (unhide HST w4 hg4)
           have HA4 := hide hA4
           clear hA4 hg4 hA2 HST))
      refine bodyPost_ret (results_rowJ2 rfl rfl rfl HA4.out Tryd.underlying35 rfl hiz) rfl ?_
      exact ⟨_, rfl, rfl, mz_one, HB4.out⟩
    · have h2 : (n : Int) - 1 < x := by omega
      clear h
      go_enter Tryd.func6, Tryd.ntmps6
      go_wp2_with (first
        | (refine wpList_allocJ rfl 35 rfl infoMz ?_)
        | (refine wpList_bldJ rfl 35 rfl bldMz ?_)
        | (refine wpList_storeJ rfl (.tmp 4) (.tmp 14) 35 rfl rfl rfl hA2 hiz hlz mz_one ?_; intro w4 hA4 hg4
           have HB4 := hide (unhide HST w4 hg4)
           have HA4 := hide hA4
           clear hA4 hg4 hA2 HST))
      refine bodyPost_ret (results_rowJ2 rfl rfl rfl HA4.out Tryd.underlying35 rfl hiz) rfl ?_
      exact ⟨_, rfl, rfl, mz_one, HB4.out⟩
  · rw [if_neg h]
    have h1 : decide (x < 1) = false := by simp; omega
    have h2 : decide ((n : Int) - 1 < x) = false := by simp; omega
    have hbc := bldMc
    clear h
    go_enter Tryd.func6, Tryd.ntmps6
    go_wp2_with (first
      | (refine wpList_allocJ rfl 35 rfl infoMz ?_)
      | (refine wpList_storeJ rfl (.tmp 4) (.tmp 16) (ds := mcR x) 35 rfl rfl rfl hA2 hic hlc (mc_one x) ?_; intro w4 hA4 hg4
         have HB4 := hide (unhide HST w4 hg4)
         have HA4 := hide hA4
         clear hA4 hg4 hA2 HST))
    refine bodyPost_ret (results_rowJ2 rfl rfl rfl HA4.out Tryd.underlying35 rfl hic) rfl ?_
    exact ⟨_, rfl, rfl, mc_one x, HB4.out⟩
set_option maxRecDepth 100000 in
set_option maxHeartbeats 4000000 in
theorem markMakes_walk {w : World} (x0 x1 : Int) : Calls Tryd.prog 3 #[.int .i64 x0, .int .i64 x1] w fun e w' => e = .returned (.bool true) ∧ Below w.heap.size w w' := by
  have HN0 := hide (mknew_nil w x1)
  by_cases hx : x0 < 2 ∨ 65536 < x0
  · have HDB := hide (disk_bad (w := w) hx)
    clear hx
    go_enter Tryd.func3, Tryd.ntmps3
    go_wp2_with fail
    refine (unhide HN0).mono ?_
    rintro e w1 ⟨rfl, hw1⟩
    obtain rfl := hw1.symm
    clear hw1 HN0
    go_wp2_with fail
    refine (unhide HDB).mono ?_
    rintro e w1 ⟨rfl, hw1⟩
    obtain rfl := hw1.symm
    clear hw1 HDB
    go_wp2
    go_ret
    exact ⟨rfl, Below.refl _ _⟩
  obtain ⟨n, hn⟩ := Int.eq_ofNat_of_zero_le (show 0 ≤ x0 by omega)
  subst hn
  have hn2 : 2 ≤ n := by omega
  have hn6 : n ≤ 65536 := by omega
  have HDN := hide (new_calls (w := w) hn2 hn6)
  clear hx
  go_enter Tryd.func3, Tryd.ntmps3
  go_wp2_with fail
  refine (unhide HN0).mono ?_
  rintro e w1 ⟨rfl, hw1⟩
  obtain rfl := hw1.symm
  clear hw1 HN0
  go_wp2_with fail
  refine (unhide HDN).mono ?_
  rintro e wd ⟨p, gl, gm, V, rfl, hD, _, _, _, _, hbd⟩
  obtain ⟨d0, d1, d2, d3, d4⟩ := hD.cells
  rw [show (zeroD n).la.length = n by simp [zeroD]] at d0
  have HC := hide (And.intro d2 (And.intro d3 d4))
  have HBD := hide hbd
  have HRN : Hid (∀ W, Calls Tryd.prog 6 #[.int .i64 (n : Int), .int .i64 x1] W fun e w' => ∃ cs : List Value, e = .returned (.tuple #[.agg cs.toArray, .int .i64 (if x1 < 1 ∨ (n : Int) ≤ x1 then 1 else 0)]) ∧ cs.length = 12 ∧ (∀ u ∈ cs, u.oneCell' = true) ∧ Below W.heap.size W w') := hide (fun W => rnew_calls hn6)
  clear HDN hD hbd d1 d2 d3 d4
  by_cases hb : x1 < 1 ∨ (n : Int) ≤ x1
  · have HNB := hide (mknew_bad d0 hb)
    rw [if_pos hb] at HRN
    clear hb d0
    go_wp2_with fail
    refine (unhide HNB).mono ?_
    rintro e w1 ⟨rfl, hw1⟩
    obtain rfl := hw1.symm
    clear hw1 HNB
    go_wp2_with fail
    refine (unhide HRN _).mono ?_
    rintro e w3 ⟨cs, rfl, hcl, hco, hb3⟩
    have HA4 := hide (Arr.new w3 mzR 35)
    have hba := jalloc_below w3 (.cells mzR.toArray 35)
    have HST : Hid (∀ W, (w3.alloc (.cells mzR.toArray 35)).grownBy W (some w3.heap.size) → Below w.heap.size w W) := hide (fun W hg => below_then (below_then HBD.out hb3) (jbelow_grown hba hg hba.size (Nat.le_refl _)))
    have hi : (Tryd.prog.info? 35).map (·.size) = some cs.length := by rw [hcl]; exact infoMs
    have hlc : mzR.length = cs.length := by rw [hcl]; rfl
    have HCO := hide hco
    clear hb3 hba HRN hcl hco
    go_wp2_with (first
      | (refine wpList_allocJ rfl 35 rfl infoMz ?_)
      | (refine wpList_storeJ rfl (.tmp 11) (.tmp 45) 35 rfl rfl rfl HA4.out hi hlc HCO.out ?_; intro w4 hA4 hg4
         have HB4 := hide (unhide HST w4 hg4)
         clear hA4 hg4 HA4 HST))
    go_ret
    exact ⟨rfl, HB4.out⟩
  · have HNG := hide (mknew_good d0 (by omega) (by omega : x1 < (n : Int)))
    rw [if_neg hb] at HRN
    clear hb d0
    go_wp2_with fail
    refine (unhide HNG).mono ?_
    rintro e w2 ⟨pm, gk, gh, rfl, hM2⟩
    have HM2 := hide hM2
    clear hM2 HNG
    go_wp2_with fail
    refine (unhide HRN _).mono ?_
    rintro e w3 ⟨cs, rfl, hcl, hco, hb3⟩
    have HA4 := hide (Arr.new w3 mzR 35)
    have hba := jalloc_below w3 (.cells mzR.toArray 35)
    have HST : Hid (∀ W, (w3.alloc (.cells mzR.toArray 35)).grownBy W (some w3.heap.size) → Mk wd W pm p x1 gk gh) := hide (fun W hg => HM2.out.below (below_then hb3 (jbelow_grown hba hg hba.size (Nat.le_refl _))))
    have hi : (Tryd.prog.info? 35).map (·.size) = some cs.length := by rw [hcl]; exact infoMs
    have hlc : mzR.length = cs.length := by rw [hcl]; rfl
    have HCO := hide hco
    clear hb3 hba HRN hcl hco
    go_wp2_with (first
      | (refine wpList_allocJ rfl 35 rfl infoMz ?_)
      | (refine wpList_storeJ rfl (.tmp 11) (.tmp 45) 35 rfl rfl rfl HA4.out hi hlc HCO.out ?_; intro w4 hA4 hg4
         have HS4 := hide (step_none (unhide HST w4 hg4))
         clear hA4 hg4 HA4 HST)
      | fail)
    refine (unhide HS4).mono ?_
    rintro e w5 ⟨rfl, hM5⟩
    have HB5 := hide (broken_none hM5)
    have HH5 := hide (held_none hM5)
    clear hM5 HS4 HM2
    go_wp2_with fail
    refine (unhide HB5).mono ?_
    rintro e wx ⟨rfl, hwx⟩
    obtain rfl := hwx
    clear HB5
    go_wp2_with fail
    refine (unhide HH5).mono ?_
    rintro e w6 ⟨rfl, hM6⟩
    have hbe := hM6.be
    obtain ⟨e2, e3, e4⟩ := HC.out
    have hp := World.block_lt_of_cell? wd _ e2
    have HAC := hide (acts_calls ((hbe.cell (p := ⟨p, 2, none⟩) hp).trans e2) ((hbe.cell (p := ⟨p, 3, none⟩) hp).trans e3) ((hbe.cell (p := ⟨p, 4, none⟩) hp).trans e4))
    have HB6 := hide (below_then HBD.out hbe)
    clear hM6 hbe e2 e3 e4 hp HH5 HC
    have hae := acts_eq0
    have hab := bldA0
    have hag := acts_guard0
    go_wp2_with fail
    refine (unhide HAC).mono ?_
    rintro e w7 ⟨rfl, hb7⟩
    have HB7 := hide (below_then HB6.out hb7)
    have hrd : (zeroD n).rd = 0 := rfl
    clear hb7 HAC HB6
    go_wp2
    go_ret
    exact ⟨rfl, HB7.out⟩
end Go.Proofs.YtlaipnjhddnpiaaDoor

/- What made answers. -/
import Derived.Test.YthhjlopgpmaokabDoorJrTo
namespace Go.Proofs.YthhjlopgpmaokabDoor
open Go.RowKit Go.Maps

def kk3 (x y : Int) : List Int := x :: y :: 9 :: List.replicate 29 0
theorem kk3_len (x y : Int) : (kk3 x y).length = 32 := by simp [kk3]
theorem kk3_by {x y : Int} (hx : 0 ≤ x ∧ x ≤ 255) (hy : 0 ≤ y ∧ y ≤ 255) : By8 (kk3 x y) := by
  intro z hz
  simp only [kk3, List.mem_cons] at hz
  rcases hz with rfl | rfl | rfl | hz
  · exact hx
  · exact hy
  · omega
  · have := List.eq_of_mem_replicate hz; omega
def madeK (i : Nat) : List Int := kk3 ((i : Int) % 256) ((i / 256 : Nat) : Int)
def madeF (i c : Nat) : JF := ⟨madeK i, (((i * 7 + c) % 65536 : Nat) : Int), (((i * 31 + c) % 262145 : Nat) : Int)⟩
def madeU (i c : Nat) : List JF := (List.range c).map (madeF i)
def madeRs (i : Nat) : List JF := madeU i (i % 8 + 1)
theorem madeU_succ (i c : Nat) : madeU i (c + 1) = madeU i c ++ [madeF i c] := by simp [madeU, List.range_succ]
theorem madeU_len (i c : Nat) : (madeU i c).length = c := by simp [madeU]
theorem madeK_len (i : Nat) : (madeK i).length = 32 := kk3_len _ _
theorem madeK_by {i : Nat} (h : i ≤ 65535) : By8 (madeK i) := kk3_by (by omega) (by omega)
theorem madeF_ok {i : Nat} (h : i ≤ 65535) (c : Nat) : (madeF i c).Ok := ⟨madeK_len i, madeK_by h, ⟨by show -9223372036854775808 ≤ (((i * 7 + c) % 65536 : Nat) : Int); omega, by show (((i * 7 + c) % 65536 : Nat) : Int) ≤ _; omega⟩, ⟨by show -9223372036854775808 ≤ (((i * 31 + c) % 262145 : Nat) : Int); omega, by show (((i * 31 + c) % 262145 : Nat) : Int) ≤ _; omega⟩⟩
theorem madeRs_len (i : Nat) : (madeRs i).length = i % 8 + 1 := madeU_len _ _
theorem madeRs_may (i : Nat) : mayRs (madeRs i) = true := by
  unfold mayRs
  rw [madeRs_len]
  simp only [Bool.and_eq_true, decide_eq_true_eq, List.all_eq_true]
  refine ⟨by omega, fun x hx => ?_⟩
  obtain ⟨c, _, rfl⟩ := List.mem_map.1 hx
  unfold JF.may madeF
  simp only [decide_eq_true_eq]
  omega
theorem madeR_ok {i : Nat} (h : i ≤ 65535) {n : Int} (hn : i64I n) : (⟨n, madeK i, madeRs i⟩ : JR).Ok := ⟨madeK_len i, madeK_by h, hn, fun x hx => by
  obtain ⟨c, _, rfl⟩ := List.mem_map.1 hx
  exact madeF_ok h c⟩
theorem madeR_enc (i : Nat) {n : Int} (h0 : 0 ≤ n) (h1 : n ≤ 1099511627776) : encE (⟨n, madeK i, madeRs i⟩ : JR) = 0 := encE_zero (by show ¬ (n < 0 ∨ 1099511627776 < n); omega) (madeRs_may i)
theorem bK3 (x y : Int) (W : World) : (Instr.build 33 #[(0, .int .u8 x), (1, .int .u8 y), (2, .int .u8 9)]).run Tryd.prog W = .ok (.agg ((kk3 x y).map (Value.int .u8)).toArray) W := by kernel_rfl
/-- made's loop. -/
structure MdS (w W : World) (g2 g4 B : Nat) (KV : List Value) (i c : Nat) (v : Value) : Prop where
  a2 : Arr W g2 33 z32J
  a4 : Arr W g4 33 KV
  own : OwnJ W B v (madeU i c)
  be : Below w.heap.size w W
theorem MdS.next {w W W' : World} {g2 g4 B : Nat} {KV : List Value} {i c c' : Nat} {v v' : Value} {o : Obj} (h : MdS w W g2 g4 B KV i c v) (hg : (W.alloc o).grownBy W' v.ownBlock) (hv : OwnJ W' B v' (madeU i c')) (hB : w.heap.size ≤ B) : MdS w W' g2 g4 B KV i c' v' := by
  have hb := jalloc_below W o
  refine ⟨arr_grown (h.a2.below hb) hg ?_, arr_grown (h.a4.below hb) hg ?_, hv, (below_then h.be hb).grown hg (Nat.le_trans h.be.size hb.size) (fun j hj => Nat.le_trans hB (World.ownsRow.lt h.own.2 j hj).1)⟩
  · intro e; rcases OwnJ.block h.own h.a2 (by decide) with q | q
    · rw [q] at e; cases e
    · exact q e.symm
  · intro e; rcases OwnJ.block h.own h.a4 (by decide) with q | q
    · rw [q] at e; cases e
    · exact q e.symm
set_option maxRecDepth 100000 in
set_option maxHeartbeats 2000000 in
theorem made_calls {w : World} {i : Nat} (hi : i ≤ 65535) : Calls Tryd.prog 12 #[.int .i64 (i : Int)] w fun e w' => ∃ u, e = .returned (.tuple #[.agg ((madeK i).map (Value.int .u8)).toArray, u]) ∧ OwnJ w' w.heap.size u (madeRs i) ∧ Below w.heap.size w w' := by
  have hKl := madeK_len i
  have hinfK := infoKof hKl
  have hlenK : z32J.length = ((madeK i).map (Value.int .u8)).length := by rw [List.length_map, hKl]; decide
  have honeK : ∀ u ∈ (madeK i).map (Value.int .u8), u.oneCell' = true := u8_one _
  have hq1 : ((i : Int)).tdiv 256 = ((i / 256 : Nat) : Int) := by rw [Int.tdiv_eq_ediv_of_nonneg (by omega)]; rfl
  have hq2 : (i : Int) / 256 = ((i / 256 : Nat) : Int) := rfl
  have hq3 : ((i / 256 : Nat) : Int) % 256 = ((i / 256 : Nat) : Int) := by omega
  have hr8 : ((i : Int)).tmod 8 = ((i % 8 : Nat) : Int) := by rw [Int.tmod_eq_emod_of_nonneg (by omega)]; rfl
  have hr8' : (i : Int) % 8 = ((i % 8 : Nat) : Int) := rfl
  have hbk : ∀ W, (Instr.build 33 #[(0, .int .u8 ((i : Int) % 256)), (1, .int .u8 ((i / 256 : Nat) : Int)), (2, .int .u8 9)]).run Tryd.prog W = .ok (.agg ((madeK i).map (Value.int .u8)).toArray) W := fun W => bK3 _ _ W
  have HBR := hide (fun (c : Nat) W => buildRf hKl (((i * 7 + c) % 65536 : Nat) : Int) (((i * 31 + c) % 262145 : Nat) : Int) W)
  have HBS := hide (fun (c : Nat) W => bslRf (r := madeF i c) hKl W)
  have HFO := hide (fun (c : Nat) => madeF_ok hi c)
  have HRS : Hid (madeRs i = madeU i (i % 8 + 1)) := hide rfl
  have HEQ : Hid (∀ c, (⟨madeK i, (((i * 7 + c) % 65536 : Nat) : Int), (((i * 31 + c) % 262145 : Nat) : Int)⟩ : JF) = madeF i c) := hide (fun _ => rfl)
  generalize hKV : (madeK i).map (Value.int .u8) = KV at *
  obtain ⟨m8, hm8⟩ : ∃ m8, m8 = i % 8 := ⟨_, rfl⟩
  rw [← hm8] at hr8 hr8' HRS
  obtain ⟨q5, hq5⟩ : ∃ q5, q5 = i / 256 := ⟨_, rfl⟩
  rw [← hq5] at hq1 hq2 hq3 hbk
  have HM8 : Hid (m8 ≤ 7) := hide (by omega)
  have hA1 := Arr.new w z32J 33
  have hb1 := jalloc_below w (.cells z32J.toArray 33)
  obtain ⟨w1, hw1⟩ : ∃ w1, w1 = w.alloc (.cells z32J.toArray 33) := ⟨_, rfl⟩
  rw [← hw1] at hA1 hb1
  have hA2 := Arr.new w1 z32J 33
  have hb2 := jalloc_below w1 (.cells z32J.toArray 33)
  have hlt := hA1.lt
  have HW1 := hide hw1
  obtain ⟨g2, hg2⟩ : ∃ g2, g2 = w.heap.size := ⟨_, rfl⟩
  have HG2 := hide hg2
  have HALL : Hid (∀ w3, Arr w3 w1.heap.size 33 KV → (w1.alloc (.cells z32J.toArray 33)).grownBy w3 (some w1.heap.size) → MdS w w3 g2 w1.heap.size w.heap.size KV i 0 (.slice none 0 0)) := hide (fun w3 hA hg => ⟨by rw [hg2]; exact arr_grown (hA1.below hb2) hg (by simp; omega), hA, OwnJ.nil _ _, jbelow_grown (below_then hb1 hb2) hg (Nat.le_trans hb1.size hb2.size) hb1.size⟩)
  have HA2 := hide hA2
  clear hA1 hb1 hA2 hb2 hw1 hg2 hlt hm8 hq5 hKV
  go_enter Tryd.func12, Tryd.ntmps12
  go_wp2_with (first
    | (refine wpList_allocJ rfl 33 rfl infoKf ?_; rw [← HW1.out, ← HG2.out]; clear HW1)
    | (refine wpList_bld3J rfl 33 0 1 2 (.tmp 8) (.tmp 11) _ rfl (vx := .int .u8 ((i : Int) % 256)) (vy := .int .u8 (q5 : Int)) (vz := .int .u8 9) rfl rfl rfl hbk ?_)
    | (refine wpList_allocJ rfl 33 rfl infoKf ?_)
    | (refine wpList_storeJ rfl (.tmp 4) (.tmp 12) 33 rfl rfl rfl HA2.out hinfK hlenK honeK ?_; intro w3 hA3 hg3
       have HS3 := hide (unhide HALL w3 hA3 hg3)
       clear hA3 hg3)
    | fail)
  clear HALL HA2
  generalize w1.heap.size = g4 at *
  go_loopw [5, 6] (fun lv cv W => ∃ (c : Nat) (vv : Value), c ≤ m8 + 1 ∧ cv = .int .i64 (c : Int) ∧ vv = lv ∧ Hid (MdS w W g2 g4 w.heap.size KV i c vv)) (fun _ cv _ => m8 + 1 - (intOf cv).toNat)
  case atStart => exact ⟨0, _, by omega, rfl, rfl, HS3⟩
  case round =>
    clear HS3
    obtain ⟨c, lv, hc, rfl, rfl, HC⟩ := hrel
    have hm7 := HM8.out
    by_cases hlt : c ≤ m8
    · have hcI : (c : Int) ≤ (m8 : Int) := by omega
      have hrk4 := HC.out.a4.rangeJ
      obtain ⟨x1, hx1e⟩ : ∃ x1 : Nat, x1 = i * 7 + c := ⟨_, rfl⟩
      obtain ⟨x2, hx2e⟩ : ∃ x2 : Nat, x2 = i * 31 + c := ⟨_, rfl⟩
      have hx1 : (i : Int) * 7 + (c : Int) = (x1 : Int) := by omega
      have hx2 : (i : Int) * 31 + (c : Int) = (x2 : Int) := by omega
      have hx1w : IntKind.i64.wrap (x1 : Int) = (x1 : Int) := IntWalk.i64_in _ (by omega)
      have hx2w : IntKind.i64.wrap (x2 : Int) = (x2 : Int) := IntWalk.i64_in _ (by omega)
      have hy1 : ((x1 : Int)).tmod 65536 = (((i * 7 + c) % 65536 : Nat) : Int) := by rw [Int.tmod_eq_emod_of_nonneg (by omega)]; omega
      have hy2 : ((x2 : Int)).tmod 262145 = (((i * 31 + c) % 262145 : Nat) : Int) := by rw [Int.tmod_eq_emod_of_nonneg (by omega)]; omega
      have hy1' : (x1 : Int) % 65536 = (((i * 7 + c) % 65536 : Nat) : Int) := by omega
      have hy2' : (x2 : Int) % 262145 = (((i * 31 + c) % 262145 : Nat) : Int) := by omega
      have hw7 : IntKind.i64.wrap ((i : Int) * 7) = (i : Int) * 7 := IntWalk.i64_in _ (by omega)
      have hw31 : IntKind.i64.wrap ((i : Int) * 31) = (i : Int) * 31 := IntWalk.i64_in _ (by omega)
      have hb4 := jalloc_below wr (.cells (jfV (madeF i c)).toArray 73)
      have hI4 := OwnJ.isJ (ownJ_lit (w := wr) (HFO.out c))
      have hO4 := HC.out.own.below hb4
      have hl4 : (madeU i c).length + [madeF i c].length ≤ 100000000000 := by rw [madeU_len]; simp; omega
      have hB4 : w.heap.size ≤ (wr.alloc (.cells (jfV (madeF i c)).toArray 73)).heap.size := Nat.le_trans HC.out.be.size hb4.size
      have hbrc := HBR.out c
      have hbsc := HBS.out c
      rw [HEQ.out c] at hbrc
      have HNX : Hid (∀ v' w', OwnJ w' w.heap.size v' (madeU i c ++ [madeF i c]) → (wr.alloc (.cells (jfV (madeF i c)).toArray 73)).grownBy w' lv.ownBlock → MdS w w' g2 g4 w.heap.size KV i (c + 1) v') := hide (fun v' w' h1 h2 => HC.out.next h2 (by rw [madeU_succ]; exact h1) (Nat.le_refl _))
      generalize (((i * 7 + c) % 65536 : Nat) : Int) = f1 at *
      generalize (((i * 31 + c) % 262145 : Nat) : Int) = f2 at *
      generalize hmf : madeF i c = mf at *
      clear hb4 hmf hx1e hx2e
      go_wp2_with (first
        | (refine wpList_loadJ rfl 33 (.tmp 4) rfl _ 0 rfl KV _ hrk4 Tryd.underlying33 rfl hinfK ?_)
        | (refine wpList_bld3J rfl 73 0 1 2 (.tmp 20) (.tmp 25) (.tmp 30) rfl (vx := .agg KV.toArray) (vy := .int .i64 f1) (vz := .int .i64 f2) rfl rfl rfl hbrc ?_)
        | (refine wpList_bslice1 rfl 34 (.tmp 31) rfl (v := .agg (jfV mf).toArray) rfl (hbsc _) ?_)
        | (at_builtin; refine wpList_appJ rfl (.tmp 19) (.tmp 32) rfl rfl hO4 rfl hI4 hl4 hB4 ?_; intro v7 w7 ho7 hg7 _
           have HS7 := hide (unhide HNX v7 w7 ho7 hg7)
           clear ho7 hg7)
        | fail)
      refine ⟨⟨c + 1, _, by omega, by go_num, rfl, HS7⟩, ?_⟩
      simp [intOf]; omega
    · have hcI : ¬ (c : Int) ≤ (m8 : Int) := by omega
      have hO : OwnJ wr w.heap.size lv (madeRs i) := by
        have := HC.out.own
        rw [show c = m8 + 1 by omega, ← HRS.out] at this
        exact this
      have hrk4 := HC.out.a4.rangeJ
      have HO := hide hO
      have HA2 := hide HC.out.a2
      have HBE := hide HC.out.be
      clear hO HC
      go_wp2_with (first
        | (refine wpList_loadJ rfl 33 (.tmp 4) rfl _ 0 rfl KV _ hrk4 Tryd.underlying33 rfl hinfK ?_)
        | (refine wpList_storeJ rfl (.tmp 2) (.tmp 34) 33 rfl rfl rfl HA2.out hinfK hlenK honeK ?_; intro w5 hA5 hg5)
        | fail)
      have hA6 : Arr w5 g2 33 KV := hA5
      refine bodyPost_ret (results_rowJ2 rfl rfl rfl hA6 Tryd.underlying33 rfl hinfK) rfl ?_
      exact ⟨_, rfl, HO.out.kept hg5 (OwnJ.block HO.out HA2.out (by decide)), jbelow_grown HBE.out hg5 HBE.out.size (by rw [HG2.out]; exact Nat.le_refl _)⟩
end Go.Proofs.YthhjlopgpmaokabDoor

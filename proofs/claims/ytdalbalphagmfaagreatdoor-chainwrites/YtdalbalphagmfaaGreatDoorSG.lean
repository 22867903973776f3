/- chain: two writers and a reader of one disk, beside one another. Spaces, in words: what is free behind so many were taken. The program's words and the document's list beside one another: what claiming needs. Slices of ints that may be negative. chain's statements: numbers and sectors made of any. chain's statements: an image, sector by sector. chain's statements: a scene in memory, and its steps. chain's statements: a scene laid: the disk, the space, the document's space. -/
import Derived.Test.YtdalbalphagmfaaGreatDoorRL
import Derived.Test.YtdalbalphagmfaaGreatDoorSH
import Derived.Test.YtdalbalphagmfaaGreatDoorQV
import Derived.Test.YtdalbalphagmfaaGreatDoorQA
import Derived.Test.YtdalbalphagmfaaGreatDoorRJ
import Derived.Test.YtdalbalphagmfaaGreatDoorRI
namespace Go.Proofs.YtdalbalphagmfaaGreatDoor
open Go.RowKit Go.Maps

/-- A finished writer's Step. -/
theorem wstep_done {w : World} {p pw gn cn : Nat} {rv : Value} {bs : List Int} {ks : List Nat} (hW : Wr w p pw gn cn rv bs ks ks.length) :
 Calls Tryz.prog 39 #[.pointer (some ⟨pw, 0, none⟩)] w fun e w' => e = .returned (.tuple #[.bool true, .int .i64 0]) ∧ Below w.heap.size w w' := by
 obtain ⟨_, _, hV34, _, hV36, _⟩ := writerV_cells (p := p) (shaOf_len bs) ((ks.getD 0 0 : Nat) : Int) (bs.length : Int) (.slice (some ⟨gn, 0, none⟩) ks.length cn) (ks.length : Int) rv
 have HB := hide (behind_calls (arr_cell hW.arr hV36) (arr_cell hW.arr hV34))
 have e : ((ks.length : Int) == secN (bs.length : Int)) = true := by simp [hW.cnt]
 rw [e] at HB
 clear hW hV34 hV36 e
 go_enter Tryz.func39, Tryz.ntmps39
 go_wp2_with fail
 refine (unhide HB).mono ?_
 rintro e w1 ⟨rfl, hw1⟩
 have hb1 : Below w.heap.size w w1 := by rw [hw1]; exact (Below.refl _ _).drew
 clear hw1 HB
 go_wp2
 go_ret2
 exact ⟨rfl, hb1⟩
end Go.Proofs.YtdalbalphagmfaaGreatDoor

namespace Go.Proofs.YtdalbalphagmfaaGreatDoor
open Go.RowKit Go.Maps

theorem allF_nodup {w : World} {B g gw fr to_ : Nat} {ws : List Nat} (h : Sp w B g gw fr to_ ws) : (allF fr 0 ws).Nodup := by
 rw [h.all]
 unfold setB
 refine List.Pairwise.map _ (fun a b hab e => hab (by omega)) (List.Pairwise.filter _ List.nodup_range)
end Go.Proofs.YtdalbalphagmfaaGreatDoor

namespace Go.Proofs.YtdalbalphagmfaaGreatDoor
open Go.RowKit

/-- The list says of each number what the words say. -/
structure Tw (fr to_ : Nat) (ws : List Nat) (bs : List Bool) : Prop where
 len : bs.length = to_ - fr
 wide : to_ - fr ≤ 64 * ws.length
 at_ : ∀ i, i < to_ - fr → bs.getD i false = bitAt ws i
theorem Tw.has {fr to_ : Nat} {ws : List Nat} {bs : List Bool} (h : Tw fr to_ ws bs) (n : Int) : hasR fr to_ bs n = hasB fr to_ ws n := by
 unfold hasR hasB
 by_cases hn : (fr : Int) ≤ n ∧ n < (to_ : Int)
 · rw [h.at_ _ (by omega)]
 · rw [decide_eq_false hn]; rfl
theorem Tw.set {fr to_ : Nat} {ws : List Nat} {bs : List Bool} (h : Tw fr to_ ws bs) {a : Nat} (ha : a < to_ - fr) {b : Bool} (hb : bitAt ws a = !b) : Tw fr to_ (flip ws a) (bs.set a b) := by
 have hw := h.wide
 refine ⟨by rw [List.length_set]; exact h.len, by rw [flip_len]; exact hw, fun i hi => ?_⟩
 rw [flip_bit (by omega), List.getD_eq_getElem?_getD]
 by_cases hia : i = a
 · rw [if_pos hia, hia, List.getElem?_set_self (by rw [h.len]; exact ha), hb]
   simp
 · rw [if_neg hia, List.getElem?_set_ne (fun e => hia e.symm), ← List.getD_eq_getElem?_getD, h.at_ i hi]
theorem Tw.claim {fr to_ : Nat} {ws : List Nat} {bs : List Bool} (h : Tw fr to_ ws bs) (n : Int) : Tw fr to_ (claimW fr to_ ws n) (claimR fr to_ bs n) := by
 unfold claimW claimR
 rw [h.has n]
 by_cases hb : hasB fr to_ ws n = true
 · rw [if_pos hb, if_pos hb]
   unfold hasB at hb
   simp only [Bool.and_eq_true, decide_eq_true_eq] at hb
   exact h.set (by omega) (by rw [hb.2]; rfl)
 · rw [if_neg hb, if_neg hb]
   exact h
theorem Tw.new {fr to_ : Nat} (h : fr < to_) : Tw fr to_ (newW (to_ - fr)) (List.replicate (to_ - fr) true) := by
 refine ⟨by rw [List.length_replicate], by rw [newW_len (by omega)]; omega, fun i hi => ?_⟩
 rw [newW_bit (by omega), decide_eq_true hi, List.getD_eq_getElem?_getD, List.getElem?_replicate, if_pos hi]
 rfl
end Go.Proofs.YtdalbalphagmfaaGreatDoor

namespace Go.Proofs.YtdalbalphagmfaaGreatDoor

/-- The value is a slice of ints; in this world it reads the list. -/
structure IsT (w : World) (v : Value) (cs : List Int) : Prop where
 val : ∃ a cap, v = .slice a cs.length cap ∧ cs.length ≤ cap ∧ cap ≤ 9223372036854775807 ∧
  (0 < cs.length → ∃ b off, a = some ⟨b, off, none⟩ ∧ ∀ j, j < cs.length → w.cell? ⟨b, off + j, none⟩ = some (.int .i64 (cs.getD j 0)))
end Go.Proofs.YtdalbalphagmfaaGreatDoor

namespace Go.Proofs.YtdalbalphagmfaaGreatDoor
open Go.RowKit Go.Maps

/-- A number from lo to hi made of any. -/
def wholeI (n lo hi : Int) : Int := lo + n % (hi - lo + 1)
theorem wholeI_in (n : Int) {lo hi : Int} (h : lo ≤ hi) : lo ≤ wholeI n lo hi ∧ wholeI n lo hi ≤ hi := by
 unfold wholeI
 have h1 := Int.emod_nonneg n (show hi - lo + 1 ≠ 0 by omega)
 have h2 := Int.emod_lt_of_pos n (show 0 < hi - lo + 1 by omega)
 omega
theorem tmod_emod (n m : Int) (hm : 0 < m) : (n.tmod m < 0 → n % m = n.tmod m + m) ∧ (0 ≤ n.tmod m → n % m = n.tmod m) ∧ -m < n.tmod m ∧ n.tmod m < m := by
 have h1 : n = m * n.tdiv m + n.tmod m := (Int.mul_tdiv_add_tmod n m).symm
 have h2 : n % m = n.tmod m % m := by
  have : n % m = (m * n.tdiv m + n.tmod m) % m := by rw [← h1]
  rw [this, Int.add_comm, Int.add_mul_emod_self_left]
 have h3 : -m < n.tmod m ∧ n.tmod m < m := by
  have a1 := Int.tmod_lt_of_pos n hm
  have a2 := Int.lt_tmod_of_pos n hm
  exact ⟨a2, a1⟩
 refine ⟨fun h => ?_, fun h => ?_, h3.1, h3.2⟩
 · rw [h2]
   have : n.tmod m % m = (n.tmod m + m) % m := by rw [Int.add_emod_right]
   rw [this, Int.emod_eq_of_lt (by omega) (by omega)]
 · rw [h2, Int.emod_eq_of_lt h (by omega)]
set_option maxHeartbeats 1000000 in
theorem whole6_calls (n : Int) {lo hi : Int} (h0 : 0 ≤ lo) (h1 : lo ≤ hi) (h2 : hi ≤ 4000000) (w : World) : Calls Tryz.prog 15 #[.int .i64 n, .int .i64 lo, .int .i64 hi] w fun e w' => e = .returned (.int .i64 (wholeI n lo hi)) ∧ w' = w := by
 obtain ⟨m, hm⟩ : ∃ m, m = hi - lo + 1 := ⟨_, rfl⟩
 obtain ⟨k1, k2, k3, k4⟩ := tmod_emod n m (by omega)
 obtain ⟨m1, hm1⟩ : ∃ m1, m1 = m - 1 := ⟨_, rfl⟩
 have e1 : IntKind.i64.wrap (hi - lo) = m1 := by rw [show hi - lo = m1 by omega]; exact IntWalk.i64_in _ (by omega)
 have e2 : IntKind.i64.wrap (m1 + 1) = m := by rw [show m1 + 1 = m by omega]; exact IntWalk.i64_in _ (by omega)
 have hmz : ¬ m = 0 := by omega
 have e3 : IntKind.i64.wrap (n.tmod m) = n.tmod m := IntWalk.i64_in _ (by omega)
 have hr : wholeI n lo hi = lo + n % m := by unfold wholeI; rw [hm]
 rw [hr]
 obtain ⟨r, hre⟩ : ∃ r, r = n.tmod m := ⟨_, rfl⟩
 rw [← hre] at k1 k2 k3 k4
 have e4 : n.tmod m = r := hre.symm
 have e3' : IntKind.i64.wrap r = r := by rw [hre]; exact e3
 by_cases hneg : r < 0
 · have q1 := k1 hneg
   obtain ⟨z, hz⟩ : ∃ z, z = r + m := ⟨_, rfl⟩
   have f1 : IntKind.i64.wrap (r + hi) = r + hi := IntWalk.i64_in _ (by omega)
   obtain ⟨z1, hz1⟩ : ∃ z1, z1 = z - 1 := ⟨_, rfl⟩
   have f2 : IntKind.i64.wrap (r + hi - lo) = z1 := by rw [show r + hi - lo = z1 by omega]; exact IntWalk.i64_in _ (by omega)
   have f3 : IntKind.i64.wrap (z1 + 1) = z := by rw [show z1 + 1 = z by omega]; exact IntWalk.i64_in _ (by omega)
   have f4 : IntKind.i64.wrap (lo + z) = lo + z := IntWalk.i64_in _ (by omega)
   rw [q1, ← hz]
   clear k1 k2 k3 k4 hm hz hre q1 hr e3 h0 h1 h2 hm1 hz1
   go_enter Tryz.func15, Tryz.ntmps15
   go_wp2
   go_ret
   exact ⟨rfl, rfl⟩
 · have q1 := k2 (by omega)
   have f4 : IntKind.i64.wrap (lo + r) = lo + r := IntWalk.i64_in _ (by omega)
   rw [q1]
   clear k1 k2 k3 k4 hm hre q1 hr e3 h0 h1 h2 hm1
   go_enter Tryz.func15, Tryz.ntmps15
   go_wp2
   go_ret
   exact ⟨rfl, rfl⟩
/-- 512 bytes that begin with these. -/
def sec6 (b : List Int) : List Int := b.take 512 ++ List.replicate (512 - b.length) 0
theorem sec6_is {b : List Int} (hb : ∀ x ∈ b, 0 ≤ x ∧ x ≤ 255) : IsSec (sec6 b) := by
 refine ⟨by simp [sec6]; omega, fun x hx => ?_⟩
 rcases List.mem_append.1 hx with hx | hx
 · exact hb x (List.mem_of_mem_take hx)
 · have := List.eq_of_mem_replicate hx; omega
set_option maxRecDepth 100000 in
set_option maxHeartbeats 1000000 in
theorem sector6_calls {w : World} {a : Option Addr} {n c : Nat} {b : List Int} (h : IsB w (.slice a n c) b) :
 Calls Tryz.prog 17 #[.slice a n c] w fun e w' => e = .returned (.slice (some ⟨w.heap.size, 0, none⟩) 512 512) ∧ Arr w' w.heap.size 5 ((sec6 b).map (Value.int .u8)) ∧ Below w.heap.size w w' := by
 have hbn := h.lenEq
 obtain ⟨i0, hi, hz0, hz1, hz2⟩ := info_parts info8
 have HI := hide h
 have HBN := hide hbn
 clear hbn h
 go_enter Tryz.func17, Tryz.ntmps17
 go_wp2_with (first
  | (at_make; refine wpList_make_full _ rfl _ _ 26 rfl w.heap.size 5 i0 (.int .u8 0) 1 Tryz.underlying26 hi hz0 hz1 .i64 .i64 _ _ 512 rfl rfl rfl rfl (by rw [hz2]; omega) (by unfold maxLen; omega) (Nat.le_refl _) ?_
     intro w1 hown hg1
     rw [made8] at hown
     have HA := hide (arrFull hown)
     have hb1 : Below w.heap.size w w1 := (Below.refl _ _).grown hg1 (Nat.le_refl _) (fun k hk => by cases hk)
     have HB := hide hb1
     have HI1 := hide (HI.out.below hb1)
     obtain ⟨cs, hcs⟩ : ∃ cs, cs = (b.take 512).map (Value.int .u8) := ⟨_, rfl⟩
     have F1 : Hid (cs.length = Nat.min n 512) := hide (by rw [hcs, List.length_map, List.length_take, HBN.out]; show min 512 _ = min _ 512; omega)
     have F2 : Hid (0 < cs.length → ∃ ad, a = some ad ∧ ∀ j v, cs[j]? = some v → w1.cell? (ad.add j) = some v) := hide (fun hp => by
      have hpb : 0 < b.length := by rw [hcs, List.length_map, List.length_take] at hp; omega
      obtain ⟨_, a', cap, hv, _, _, _, hc⟩ := HI1.out
      obtain ⟨bb, off, ha, hcell⟩ := hc hpb
      injection hv with e1 _ _
      refine ⟨⟨bb, off, none⟩, by rw [e1, ha], fun j v hj => ?_⟩
      have hjl : j < b.length ∧ j < 512 := by
       have := (List.getElem?_eq_some_iff.1 hj).1
       rw [hcs, List.length_map, List.length_take] at this
       omega
      rw [Addr.add_lit, hcell j hjl.1]
      rw [hcs, List.getElem?_map, List.getElem?_take_of_lt hjl.2, List.getElem?_eq_getElem hjl.1] at hj
      rw [List.getD_eq_getElem?_getD, List.getElem?_eq_getElem hjl.1]
      exact hj)
     have F3 : Hid (0 + cs.length ≤ (List.replicate 512 (Value.int .u8 0)).length) := hide (by rw [hcs, List.length_map, List.length_take, List.length_replicate]; omega)
     have F4 : Hid (∀ v ∈ cs, v.oneCell' = true) := hide (by rw [hcs]; exact u8_one _)
     have HE : Hid (splice (List.replicate 512 (Value.int .u8 0)) 0 cs = (sec6 b).map (Value.int .u8)) := hide (by
      rw [hcs, show List.replicate 512 (Value.int .u8 0) = (([] ++ List.replicate 512 (0 : Int)) : List Int).map (Value.int .u8) by rw [List.nil_append, List.map_replicate], splice_map, splice_zeros (A := []) (off := 0) (n := 512) rfl (by rw [List.length_take]; omega)]
      unfold sec6
      rw [List.nil_append, List.length_take]
      congr 3
      omega)
     clear hown hg1 hb1 hcs HI hi hz0 hz1 hz2)
  | (refine wpList_copy_splice rfl (.tmp 5) (.tmp 6) 26 26 rfl 5 Tryz.underlying26 infoS8 (some ⟨w.heap.size, 0, none⟩) a 512 512 n c rfl rfl w.heap.size 0 _ 5 HA.out _ F1.out (fun hpos => ⟨rfl, F2.out hpos⟩) F3.out F4.out w.heap.size w HB.out (Nat.le_refl _) ?_; intro w6 hg6 hb6))
 go_ret
 rw [HE.out] at hg6
 exact ⟨rfl, hg6.out, hb6⟩
end Go.Proofs.YtdalbalphagmfaaGreatDoor

namespace Go.Proofs.YtdalbalphagmfaaGreatDoor
open Go.RowKit Go.Maps

theorem infoSl6 : (Tryz.prog.info? 26).map (fun i => (i.zero, i.size, i.bytes)) = some (some (.slice none 0 0), 1, 24) := by kernel_rfl
section
variable {ops : Array Oper} {o : Oper} {a : Act} {w : World} {K : Act → World → Prop} {Q : Exit → Act → World → Prop} {E : Prop}
set_option maxRecDepth 100000 in
/-- One slice appended to a row of slices, and where it lies then. -/
theorem step_appSl (hgd : o.guard = none) (x y : Operand) (ho : o.op = .call { callee := .builtin .append, args := #[x, y], argTypes := #[34, 34] }) {B g : Nat} {v u : Value} {us : List Value} (hx : a.eval x = v) (hrow : Row w B 26 v us) (hy : a.eval y = .slice (some ⟨g, 0, none⟩) 1 1)
 (hc : w.cell? ⟨g, 0, none⟩ = some u) (h1 : u.oneCell' = true) (hl : us.length ≤ 1000000) (hB : B ≤ w.heap.size)
 (hk : ∀ v' w', Row w' B 26 v' (us ++ [u]) → w.grownBy w' v.ownBlock → (v'.ownBlock = v.ownBlock ∨ v'.ownBlock = some w.heap.size) → K (a.put o.dst v') w') : if Region.wanted o (yielded ops a.tmps) = true then Oper.wp Tryz.prog o a w K Q else E := by
 rw [if_pos (by simp [Region.wanted, hgd])]
 obtain ⟨i0, hi, hz0, hz1, hz2⟩ := info_parts infoSl6
 obtain ⟨v', w', hr, h2, h3, h4, h5⟩ := run_append_share (P := Tryz.prog) w B 34 o.type 26 i0 (.slice none 0 0) 24 Tryz.underlying34 hi hz0 hz1 hz2 rfl v us hrow ⟨g, 0, none⟩ 1 1 [u] rfl (fun j z hu => by
  cases j with
  | zero =>
    injection hu with hu
    subst hu
    exact hc
  | succ j => simp at hu) (fun z hz => by rw [List.mem_singleton.1 hz]; exact h1) (by unfold maxLen; omega) (by omega) hB
 unfold Oper.wp execOp
 simp only [ho, resolve, invoke, builtin, Sem.run_bind, Sem.run_pure, Result.andThen_ok, List.map_toArray, List.map_cons, List.map_nil, hx, hy, hr]
 exact hk v' w' h2 h3 h4
/-- 512 zeros are made. -/
theorem step_make512 (hgd : o.guard = none) (l c : Operand) (ho : o.op = .makeSlice 26 l c) (hl : a.eval l = .int .i64 512) (hc : a.eval c = .int .i64 512) (hk : ∀ w', Arr w' w.heap.size 5 (zsec.map (Value.int .u8)) → Below w.heap.size w w' → K (a.put o.dst (.slice (some ⟨w.heap.size, 0, none⟩) 512 512)) w') : if Region.wanted o (yielded ops a.tmps) = true then Oper.wp Tryz.prog o a w K Q else E := by
 rw [if_pos (by simp [Region.wanted, hgd])]
 obtain ⟨i0, hi, hz0, hz1, hz2⟩ := info_parts info8
 obtain ⟨w', hrun, r1, r2⟩ := run_make_full (P := Tryz.prog) w w.heap.size 26 5 i0 (.int .u8 0) 1 Tryz.underlying26 hi hz0 hz1 .i64 .i64 512 (by rw [hz2]; omega) (by unfold maxLen; omega) (Nat.le_refl _)
 have h512 : ((512 : Nat) : Int) = 512 := rfl
 rw [h512] at hrun
 unfold Oper.wp execOp
 simp only [ho, hl, hc, Sem.run_bind, hrun, Result.andThen_ok, Sem.run_pure]
 rw [made8] at r1
 refine hk w' ?_ ((Below.refl _ _).grown r2 (Nat.le_refl _) (fun b hb => by cases hb))
 unfold zsec
 rw [List.map_replicate]
 exact arrFull r1
theorem loadSls_run {W : World} {ad : Addr} {v : Value} (h : W.cell? ad = some v) : (Instr.loadAt 34 (.pointer (some ad))).run Tryz.prog W = .ok v W := by
 have hu := Tryz.underlying34
 go_simp
theorem step_loadSls (hgd : o.guard = none) (x : Operand) (ho : o.op = .load 34 x) {ad : Addr} {v : Value} (hx : a.eval x = .pointer (some ad)) (hc : w.cell? ad = some v) (hk : K (a.put o.dst v) w) : if Region.wanted o (yielded ops a.tmps) = true then Oper.wp Tryz.prog o a w K Q else E := by
 rw [if_pos (by simp [Region.wanted, hgd])]
 unfold Oper.wp execOp
 simp only [ho, hx, Sem.run_bind, loadSls_run hc, Result.andThen_ok, Sem.run_pure]
 exact hk
theorem storeSls_run {W : World} {ad : Addr} {v u : Value} {aa : Option Addr} {n c : Nat} (hv : v = .slice aa n c) (h : W.cell? ad = some u) (hf : W.frozen? ad = false) : (Instr.storeAt 34 (.pointer (some ad)) v).run Tryz.prog W = .ok () (W.setCell ad v) := by
 subst hv
 obtain ⟨b, o, s⟩ := ad
 have hs : s = none := by
  cases s with
  | none => rfl
  | some x => simp [World.cell?] at h; split at h <;> simp at h
 subst hs
 go_simp
theorem step_storeSls (hgd : o.guard = none) (x y : Operand) (ho : o.op = .store 34 x y) {ad : Addr} {v u : Value} {aa : Option Addr} {n c : Nat} (hx : a.eval x = .pointer (some ad)) (hy : a.eval y = v) (hv : v = .slice aa n c) (hc : w.cell? ad = some u) (hf : w.frozen? ad = false) (hk : K (a.put o.dst undef) (w.setCell ad v)) : if Region.wanted o (yielded ops a.tmps) = true then Oper.wp Tryz.prog o a w K Q else E := by
 rw [if_pos (by simp [Region.wanted, hgd])]
 unfold Oper.wp execOp
 simp only [ho, hx, hy, Sem.run_bind, storeSls_run hv hc hf, Result.andThen_ok, Sem.run_pure]
 exact hk
end
/-- An image in memory: a row of sectors, each in a block of its own make. -/
structure Im (W : World) (B : Nat) (v : Value) (us : List Value) (ims : List (List Int)) : Prop where
 own : Row W B 26 v us
 len : us.length = ims.length
 each : ∀ j, j < us.length → ∃ g, B ≤ g ∧ us[j]? = some (.slice (some ⟨g, 0, none⟩) 512 512) ∧ Arr W g 5 ((ims.getD j []).map (Value.int .u8))
 secs : ∀ s ∈ ims, IsSec s
theorem Im.nil (W : World) (B : Nat) : Im W B (.slice none 0 0) [] [] := ⟨World.ownsRow_nil _ _ _ _, rfl, fun j hj => by simp at hj, by simp⟩
theorem Im.up {F : Nat → Prop} {W W' : World} {B : Nat} {v : Value} {us : List Value} {ims : List (List Int)} (h : Im W B v us ims) (hu : Up F W W') (hF : ∀ b, B ≤ b → ¬ F b) : Im W' B v us ims :=
 ⟨owns_up h.own hu (fun g hg => hF g (row_blk h.own hg).1), h.len, fun j hj => by
   obtain ⟨g, h1, h2, h3⟩ := h.each j hj
   exact ⟨g, h1, h2, h3.up hu (hF g h1)⟩, h.secs⟩
theorem Im.below {W W' : World} {B : Nat} {v : Value} {us : List Value} {ims : List (List Int)} (h : Im W B v us ims) (hb : Below W.heap.size W W') : Im W' B v us ims := h.up (F := fun _ => False) (Up.of_below hb) (fun _ _ h => h)
/-- A sector more. -/
theorem Im.push {W W1 W2 : World} {B g : Nat} {v v' : Value} {us : List Value} {ims : List (List Int)} {s : List Int} (h : Im W B v us ims) (hb : Below W.heap.size W W1) (hg : B ≤ g) (hA : Arr W1 g 5 (s.map (Value.int .u8))) (hs : IsSec s) (hr : Row W2 B 26 v' (us ++ [.slice (some ⟨g, 0, none⟩) 512 512])) (hgr : W1.grownBy W2 v.ownBlock) : Im W2 B v' (us ++ [.slice (some ⟨g, 0, none⟩) 512 512]) (ims ++ [s]) := by
 have h1 := h.below hb
 have hu := up_own hgr
 have hne : ∀ x c m, W1.heap[x]? = some (.cells c 5 m) → ¬ v.ownBlock = some x := fun x c m hx e => by
  obtain ⟨_, c2, m2, h2⟩ := row_blk h1.own e
  exact blk_unlike h2 hx (by decide) rfl
 refine ⟨hr, by rw [List.length_append, List.length_append, h.len]; rfl, fun j hj => ?_, fun x hx => ?_⟩
 · rw [List.length_append, List.length_singleton] at hj
   by_cases e : j < us.length
   · obtain ⟨g1, q1, q2, q3⟩ := h1.each j e
     have hji : j < ims.length := by rw [← h.len]; exact e
     refine ⟨g1, q1, by rw [List.getElem?_append_left e]; exact q2, ?_⟩
     rw [List.getD_eq_getElem?_getD, List.getElem?_append_left hji, ← List.getD_eq_getElem?_getD]
     exact q3.up hu (hne g1 _ _ q3)
   · obtain rfl : j = us.length := by omega
     refine ⟨g, hg, by rw [List.getElem?_append_right (Nat.le_refl _)]; simp, ?_⟩
     rw [List.getD_eq_getElem?_getD, h.len, List.getElem?_append_right (Nat.le_refl _)]
     simp only [Nat.sub_self, List.getElem?_cons_zero, Option.getD_some]
     exact hA.up hu (hne g _ _ hA)
 · rcases List.mem_append.1 hx with hx | hx
   · exact h.secs x hx
   · rw [List.mem_singleton.1 hx]; exact hs
end Go.Proofs.YtdalbalphagmfaaGreatDoor

namespace Go.Proofs.YtdalbalphagmfaaGreatDoor
open Go.RowKit Go.Maps

theorem whole_enter (v u z : Value) (W : World) : (callFunc 15 #[v, u, z]).run Tryz.prog W = .ok (.enter 15 #[v, u, z]) W := by kernel_rfl
theorem sec6_enter (v : Value) (W : World) : (callFunc 17 #[v]).run Tryz.prog W = .ok (.enter 17 #[v]) W := by kernel_rfl
theorem Im.upT {F : Nat → Prop} {W W' : World} {B : Nat} {v : Value} {us : List Value} {ims : List (List Int)} (h : Im W B v us ims) (hu : Up F W W') (h1 : ∀ b c m, W.heap[b]? = some (.cells c 26 m) → ¬ F b) (h2 : ∀ b c m, W.heap[b]? = some (.cells c 5 m) → ¬ F b) : Im W' B v us ims :=
 ⟨owns_up h.own hu (fun g hg => by
   obtain ⟨_, c, m, hc⟩ := row_blk h.own hg
   exact h1 g c m hc), h.len, fun j hj => by
   obtain ⟨g, q1, q2, q3⟩ := h.each j hj
   exact ⟨g, q1, q2, q3.up hu (h2 g _ _ q3)⟩, h.secs⟩
/-- The scene's own block, the base's block, the image. -/
structure L6 (w : World) (B gx : Nat) (SC : List Value) (d s r : Value) (W : World) (ims : List (List Int)) : Prop where
 ex : ∃ a c us, Arr W gx 47 [d, s, .slice a ims.length c, r] ∧ Im W B (.slice a ims.length c) us ims
 sc : Arr W B 25 SC
 low : Below B w W
 bx : B ≤ gx
 bs : B ≤ W.heap.size
section
variable {w W W1 W2 : World} {B gx : Nat} {SC : List Value} {d s r : Value} {ims : List (List Int)}
theorem L6.below (h : L6 w B gx SC d s r W ims) (hb : Below W.heap.size W W1) : L6 w B gx SC d s r W1 ims := by
 obtain ⟨a, c, us, h1, h2⟩ := h.ex
 exact ⟨⟨a, c, us, h1.below hb, h2.below hb⟩, h.sc.below hb, h.low.trans (hb.mono h.bs), h.bx, Nat.le_trans h.bs hb.size⟩
/-- Nothing but blocks of F from B on, none of them of a scene. -/
theorem L6.up {F : Nat → Prop} (h : L6 w B gx SC d s r W ims) (hu : Up F W W1) (hB : ∀ b, F b → B ≤ b) (hF : ∀ b c t m, W.heap[b]? = some (.cells c t m) → t = 26 ∨ t = 5 ∨ t = 47 ∨ t = 25 → ¬ F b) : L6 w B gx SC d s r W1 ims := by
 obtain ⟨a, c, us, h1, h2⟩ := h.ex
 exact ⟨⟨a, c, us, h1.up hu (hF _ _ _ _ h1 (Or.inr (Or.inr (Or.inl rfl)))), h2.upT hu (fun b c m hb => hF b c _ m hb (Or.inl rfl)) (fun b c m hb => hF b c _ m hb (Or.inr (Or.inl rfl)))⟩, h.sc.up hu (hF _ _ _ _ h.sc (Or.inr (Or.inr (Or.inr rfl)))), h.low.trans (hu.below h.bs hB), h.bx, Nat.le_trans h.bs hu.size⟩
/-- A field of the base is stored. -/
theorem L6.field (h : L6 w B gx SC d s r W ims) {j : Nat} {u : Value} {d' s' r' : Value} (hj : ∀ v, [d, s, v, r].set j u = [d', s', v, r']) : L6 w B gx SC d' s' r' (W.setCell ⟨gx, j, none⟩ u) ims := by
 obtain ⟨a, c, us, h1, h2⟩ := h.ex
 have hu : Up (fun b => b = gx) W (W.setCell ⟨gx, j, none⟩ u) := up_set
 refine ⟨⟨a, c, us, by rw [← hj]; exact h1.set j u, h2.upT hu (fun b c m hb e => blk_unlike hb h1 (by decide) e) (fun b c m hb e => blk_unlike hb h1 (by decide) e)⟩, h.sc.up hu (fun e => blk_unlike h.sc h1 (by decide) e), h.low.trans (hu.below h.bs (fun x e => by rw [e]; exact h.bx)), h.bx, Nat.le_trans h.bs hu.size⟩
theorem L6.cells (h : L6 w B gx SC d s r W ims) : ∃ a c us, W.cell? ⟨gx, 2, none⟩ = some (.slice a ims.length c) ∧ (∀ j, W.frozen? ⟨gx, j, none⟩ = false) ∧ W.cell? ⟨gx, 0, none⟩ = some d ∧ W.cell? ⟨gx, 1, none⟩ = some s ∧ W.cell? ⟨gx, 3, none⟩ = some r ∧ Im W B (.slice a ims.length c) us ims ∧ Arr W gx 47 [d, s, .slice a ims.length c, r] := by
 obtain ⟨a, c, us, h1, h2⟩ := h.ex
 exact ⟨a, c, us, arr_cell h1 rfl, fun j => h1.frozen j, arr_cell h1 rfl, arr_cell h1 rfl, arr_cell h1 rfl, h2, h1⟩
/-- A sector more in the image. -/
theorem L6.push (h : L6 w B gx SC d s r W ims) {a : Option Addr} {c N : Nat} (hN : ims.length = N) {us : List Value} (hI : Im W B (.slice a N c) us ims) (hA : Arr W gx 47 [d, s, .slice a N c, r]) (hb : Below W.heap.size W W1) {g : Nat} (hg : B ≤ g) {x : List Int} (hG : Arr W1 g 5 (x.map (Value.int .u8))) (hx : IsSec x) {v' : Value} (hr : Row W2 B 26 v' (us ++ [.slice (some ⟨g, 0, none⟩) 512 512])) (hgr : W1.grownBy W2 (Value.slice a N c).ownBlock) :
 (∃ aa nn cc, v' = .slice aa nn cc) ∧ W2.cell? ⟨gx, 2, none⟩ = some (.slice a N c) ∧ W2.frozen? ⟨gx, 2, none⟩ = false ∧ L6 w B gx SC d s r (W2.setCell ⟨gx, 2, none⟩ v') (ims ++ [x]) := by
 subst hN
 have hI2 := hI.push hb hg hG hx hr hgr
 obtain ⟨aa, cc, hv⟩ := hr.shape
 have hl : (us ++ [Value.slice (some ⟨g, 0, none⟩) 512 512]).length = (ims ++ [x]).length := hI2.len
 rw [hl] at hv
 have hu := up_own hgr
 have hne : ∀ b q t m, W1.heap[b]? = some (.cells q t m) → t ≠ 26 → ¬ (Value.slice a ims.length c).ownBlock = some b := fun b q t m hb2 ht e => by
  obtain ⟨_, c2, m2, h2⟩ := row_blk (hI.below hb).own e
  exact blk_unlike h2 hb2 (fun e => ht e.symm) rfl
 have hA1 := hA.below hb
 have hS1 := h.sc.below hb
 have hA2 := hA1.up hu (hne _ _ _ _ hA1 (by decide))
 have hS2 := hS1.up hu (hne _ _ _ _ hS1 (by decide))
 have hB1 : B ≤ W1.heap.size := Nat.le_trans h.bs hb.size
 have hB2 : B ≤ W2.heap.size := Nat.le_trans hB1 hu.size
 have hlow : Below B w W2 := (h.low.trans (hb.mono h.bs)).trans (hu.below hB1 (fun b e => (row_blk (hI.below hb).own e).1))
 have hus : Up (fun b => b = gx) W2 (W2.setCell ⟨gx, 2, none⟩ v') := up_set
 refine ⟨⟨_, _, _, hv⟩, arr_cell hA2 rfl, hA2.frozen 2, ⟨⟨aa, cc, us ++ [.slice (some ⟨g, 0, none⟩) 512 512], ?_, ?_⟩, hS2.up hus (fun e => blk_unlike hS2 hA2 (by decide) e), hlow.trans (hus.below hB2 (fun x e => by rw [e]; exact h.bx)), h.bx, Nat.le_trans hB2 hus.size⟩⟩
 · rw [← hv]
   exact hA2.set 2 v'
 · rw [← hv]
   exact hI2.upT hus (fun b c m hb e => blk_unlike hb hA2 (by decide) e) (fun b c m hb e => blk_unlike hb hA2 (by decide) e)
/-- A sector of the image is another one. -/
theorem L6.put (h : L6 w B gx SC d s r W ims) {ga c N : Nat} (hN : ims.length = N) {us : List Value} (hI : Im W B (.slice (some ⟨ga, 0, none⟩) N c) us ims) (hA : Arr W gx 47 [d, s, .slice (some ⟨ga, 0, none⟩) N c, r]) {j : Nat} (hj : j < ims.length) {g : Nat} (hg : B ≤ g) {x : List Int} (hG : Arr W g 5 (x.map (Value.int .u8))) (hx : IsSec x) :
 (∃ u, W.cell? ⟨ga, j, none⟩ = some u) ∧ W.frozen? ⟨ga, j, none⟩ = false ∧ L6 w B gx SC d s r (W.setCell ⟨ga, j, none⟩ (.slice (some ⟨g, 0, none⟩) 512 512)) (ims.set j x) := by
 subst hN
 have hlen := hI.len
 have hown := hI.own
 obtain ⟨_, ⟨e, e2⟩ | ⟨ga2, cap, cur, e, hge, hblk, q1, q2, q3, q4⟩⟩ := hI.own
 · injection e with e1 e3 e4
   omega
 injection e with e1 e3 e4
 injection e1 with e1
 injection e1 with e1
 subst e1
 have hju : j < us.length := by omega
 have hcell := Row.cellAt hown hju
 have hu : Up (fun b => b = ga) W (W.setCell ⟨ga, j, none⟩ (.slice (some ⟨g, 0, none⟩) 512 512)) := up_set
 refine ⟨⟨us[j], by rw [hcell]; exact List.getElem?_eq_getElem hju⟩, ?_, ⟨⟨some ⟨ga, 0, none⟩, c, us.set j (.slice (some ⟨g, 0, none⟩) 512 512), ?_, ?_⟩, h.sc.up hu (fun e => blk_unlike h.sc hblk (by decide) e), h.low.trans (hu.below h.bs (fun x e => by rw [e]; exact hge)), h.bx, Nat.le_trans h.bs hu.size⟩⟩
 · simp [World.frozen?, hblk]
 · rw [List.length_set]
   exact hA.up hu (fun e => blk_unlike hA hblk (by decide) e)
 · rw [List.length_set]
   refine ⟨?_, by rw [List.length_set, List.length_set]; exact hlen, fun i hi => ?_, fun y hy => ?_⟩
   · have := (Row.set hown j (.slice (some ⟨g, 0, none⟩) 512 512)).1
     exact this
   · rw [List.length_set] at hi
     by_cases e : i = j
     · subst e
       refine ⟨g, hg, List.getElem?_set_self hju, ?_⟩
       rw [List.getD_eq_getElem?_getD, List.getElem?_set_self hj]
       exact hG.up hu (fun e => blk_unlike hG hblk (by decide) e)
     · obtain ⟨g1, p1, p2, p3⟩ := hI.each i hi
       refine ⟨g1, p1, by rw [List.getElem?_set_ne (fun q => e q.symm)]; exact p2, ?_⟩
       rw [List.getD_eq_getElem?_getD, List.getElem?_set_ne (fun q => e q.symm), ← List.getD_eq_getElem?_getD]
       exact p3.up hu (fun e => blk_unlike p3 hblk (by decide) e)
   · rcases List.mem_or_eq_of_mem_set hy with hy | hy
     · exact hI.secs y hy
     · rw [hy]; exact hx
theorem Im.cells {W : World} {B ga N c : Nat} {us : List Value} {ims : List (List Int)} (h : Im W B (.slice (some ⟨ga, 0, none⟩) N c) us ims) (hN : ims.length = N) : N ≤ c ∧ c ≤ 9223372036854775807 ∧ ∀ j, j < N → ∃ u, W.cell? ⟨ga, 0 + j, none⟩ = some u ∧ IsB W u (ims.getD j []) := by
 subst hN
 have hl := h.len
 have hown := h.own
 obtain ⟨_, ⟨e, e2⟩ | ⟨ga2, cap, cur, e, _, _, q1, q2, _⟩⟩ := h.own
 · cases e
 injection e with e1 e3 e4
 subst e4
 refine ⟨by omega, by unfold maxLen at q2; omega, fun j hj => ?_⟩
 obtain ⟨g, p1, p2, p3⟩ := h.each j (by omega)
 have hs : IsSec (ims.getD j []) := h.secs _ (by
  rw [List.getD_eq_getElem?_getD, List.getElem?_eq_getElem hj]
  exact List.getElem_mem hj)
 refine ⟨_, by rw [Nat.zero_add, Row.cellAt hown (by omega)]; exact p2, isB_arr p3 hs.1.symm (Nat.le_refl _) (by omega) hs.2⟩
theorem L6.image (h : L6 w B gx SC d s r W ims) {N : Nat} (hN : ims.length = N) (hp : 0 < N) : ∃ ga c us, W.cell? ⟨gx, 2, none⟩ = some (.slice (some ⟨ga, 0, none⟩) N c) ∧ Im W B (.slice (some ⟨ga, 0, none⟩) N c) us ims ∧ Arr W gx 47 [d, s, .slice (some ⟨ga, 0, none⟩) N c, r] := by
 subst hN
 obtain ⟨a, c, us, h1, h2⟩ := h.ex
 have hl := h2.len
 obtain ⟨_, ⟨e, e2⟩ | ⟨ga2, cap, cur, e, _⟩⟩ := h2.own
 · omega
 injection e with e1 e3 e4
 subst e1
 exact ⟨ga2, c, us, arr_cell h1 rfl, h2, h1⟩
end
end Go.Proofs.YtdalbalphagmfaaGreatDoor

namespace Go.Proofs.YtdalbalphagmfaaGreatDoor
open Go.RowKit Go.Maps

theorem claim_enter (v u : Value) (W : World) : (callFunc 22 #[v, u]).run Tryz.prog W = .ok (.enter 22 #[v, u]) W := by kernel_rfl
theorem rclaim_enter (v u : Value) (W : World) : (callFunc 23 #[v, u]).run Tryz.prog W = .ok (.enter 23 #[v, u]) W := by kernel_rfl
theorem Rs.up {F : Nat → Prop} {w w' : World} {B g gb fr to_ : Nat} {bs : List Bool} (h : Rs w B g gb fr to_ bs) (hu : Up F w w') (h1 : ¬ F g) (h2 : ¬ F gb) : Rs w' B g gb fr to_ bs := by
 obtain ⟨c, q1, q2⟩ := h.blk
 exact ⟨⟨c, hu.cells q1 h1, owns_up q2 hu (fun x hx => by
  injection hx with hx
  rw [← hx]
  exact h2)⟩, h.rng, h.len⟩
structure Ld (w : World) (B gx : Nat) (SC : List Value) (W : World) (ims : List (List Int)) (p gl gm : Nat) (V : Nat → Value) (m1 g gw m2 gr gb fr to_ : Nat) (ws : List Nat) (bs : List Bool) : Prop where
 l6 : L6 w B gx SC (.pointer (some ⟨p, 0, none⟩)) (.pointer (some ⟨g, 0, none⟩)) (.pointer (some ⟨gr, 0, none⟩)) W ims
 dk : Dk W p gl gm V ⟨ims, fun _ => [], 0, 0, 0⟩
 vn : ∀ i, V i = .slice none 0 0
 sp : Sp W m1 g gw fr to_ ws
 rs : Rs W m2 gr gb fr to_ bs
 tw : Tw fr to_ ws bs
 lo : B ≤ p ∧ B ≤ gl ∧ B ≤ gm
 hi : ∀ b, Ft p gl gm V b → b < m1
 ord : gx < m1 ∧ B ≤ m1 ∧ m1 ≤ g ∧ g < m2 ∧ gw < m2 ∧ m2 ≤ gr
section
variable {w W W1 W2 : World} {B gx p gl gm m1 g gw m2 gr gb fr to_ : Nat} {SC : List Value} {ims : List (List Int)} {V : Nat → Value} {ws ws' : List Nat} {bs bs' : List Bool}
theorem Sp.row_lo {w : World} {B g gw fr to_ : Nat} {ws : List Nat} (h : Sp w B g gw fr to_ ws) : B ≤ gw ∧ ∃ c m, w.heap[gw]? = some (.cells c 126 m) := by
 obtain ⟨c, q1, q2⟩ := h.blk
 exact row_blk q2 rfl
theorem Rs.row_lo {w : World} {B g gb fr to_ : Nat} {bs : List Bool} (h : Rs w B g gb fr to_ bs) : B ≤ gb ∧ ∃ c m, w.heap[gb]? = some (.cells c 4 m) := by
 obtain ⟨c, q1, q2⟩ := h.blk
 exact row_blk q2 rfl
theorem Ld.below (h : Ld w B gx SC W ims p gl gm V m1 g gw m2 gr gb fr to_ ws bs) (hb : Below W.heap.size W W1) : Ld w B gx SC W1 ims p gl gm V m1 g gw m2 gr gb fr to_ ws bs :=
 ⟨h.l6.below hb, h.dk.below hb, h.vn, h.sp.below hb, h.rs.below hb, h.tw, h.lo, h.hi, h.ord⟩
/-- One number is claimed in both. -/
theorem Ld.claim (h : Ld w B gx SC W ims p gl gm V m1 g gw m2 gr gb fr to_ ws bs) {n : Int} (hs : Sp W1 m1 g gw fr to_ (claimW fr to_ ws n)) (hg : W.grownBy W1 (some gw)) :
 Rs W1 m2 gr gb fr to_ bs ∧ W1.cell? ⟨gx, 3, none⟩ = some (.pointer (some ⟨gr, 0, none⟩)) ∧ ∀ W2, Rs W2 m2 gr gb fr to_ (claimR fr to_ bs n) → W1.grownBy W2 (some gb) → Ld w B gx SC W2 ims p gl gm V m1 g gw m2 gr gb fr to_ (claimW fr to_ ws n) (claimR fr to_ bs n) := by
 obtain ⟨o1, o2, o3, o4, o5, o6⟩ := h.ord
 obtain ⟨r1, cw, mw, r2⟩ := h.sp.row_lo
 obtain ⟨r3, cb, mb, r4⟩ := h.rs.row_lo
 have hu : Up (fun b => b = gw) W W1 := Up.of_grown hg (fun _ e => (Option.some.inj e).symm)
 have hrs := h.rs.up hu (by omega) (by omega)
 have hl6 := h.l6.up hu (fun b e => by rw [e]; omega) (fun b c t m hb ht e => by
  refine blk_unlike hb r2 ?_ e
  rcases ht with rfl | rfl | rfl | rfl <;> decide)
 obtain ⟨_, _, _, _, _, _, _, c3, _, _⟩ := hl6.cells
 refine ⟨hrs, c3, fun W2 hr2 hg2 => ?_⟩
 obtain ⟨r5, cb2, mb2, r6⟩ := hrs.row_lo
 have hu2 : Up (fun b => b = gb) W1 W2 := Up.of_grown hg2 (fun _ e => (Option.some.inj e).symm)
 have hl62 := hl6.up hu2 (fun b e => by rw [e]; omega) (fun b c t m hb ht e => by
  refine blk_unlike hb r6 ?_ e
  rcases ht with rfl | rfl | rfl | rfl <;> decide)
 exact ⟨hl62, (h.dk.up hu (fun b hb e => by have := h.hi b hb; omega)).up hu2 (fun b hb e => by have := h.hi b hb; omega), h.vn, hs.up hu2 (by omega) (by omega), hr2, h.tw.claim n, h.lo, h.hi, h.ord⟩
/-- The base is filled. -/
theorem Ld.made {w3 w4 : World} (h : L6 w B gx SC (.pointer none) (.pointer none) (.pointer none) W ims) (hb3 : Below W.heap.size W w3) (hD : Dk w3 p gl gm V ⟨ims, fun _ => [], 0, 0, 0⟩) (hp : W.heap.size ≤ p) (hgl : W.heap.size ≤ gl) (hgm : W.heap.size ≤ gm) (hV : ∀ i, V i = .slice none 0 0) (hb4 : Below w3.heap.size w3 w4) (hS : Sp w4 w3.heap.size g gw fr to_ (newW (to_ - fr))) (hg4 : w3.heap.size ≤ g) (hft : fr < to_) :
 w4.cell? ⟨gx, 0, none⟩ = some (.pointer none) ∧ w4.frozen? ⟨gx, 0, none⟩ = false ∧ (w4.setCell ⟨gx, 0, none⟩ (.pointer (some ⟨p, 0, none⟩))).cell? ⟨gx, 1, none⟩ = some (.pointer none) ∧ (w4.setCell ⟨gx, 0, none⟩ (.pointer (some ⟨p, 0, none⟩))).frozen? ⟨gx, 1, none⟩ = false ∧
 ∀ w5, (w4.setCell ⟨gx, 0, none⟩ (.pointer (some ⟨p, 0, none⟩))).setCell ⟨gx, 1, none⟩ (.pointer (some ⟨g, 0, none⟩)) = w5 → ∀ gr gb w6, Rs w6 w5.heap.size gr gb fr to_ (List.replicate (to_ - fr) true) → w5.heap.size ≤ gr → Below w5.heap.size w5 w6 →
  w6.cell? ⟨gx, 3, none⟩ = some (.pointer none) ∧ w6.frozen? ⟨gx, 3, none⟩ = false ∧ Ld w B gx SC (w6.setCell ⟨gx, 3, none⟩ (.pointer (some ⟨gr, 0, none⟩))) ims p gl gm V w3.heap.size g gw w5.heap.size gr gb fr to_ (newW (to_ - fr)) (List.replicate (to_ - fr) true) := by
 have h4 := (h.below hb3).below hb4
 have hgx : gx < W.heap.size := by
  obtain ⟨_, _, _, q, _⟩ := h.ex
  exact q.lt
 have s3 := hb3.size
 have s4 := hb4.size
 have hltg := hS.ltg
 have hltw := hS.ltw
 have hgw := hS.row_lo.1
 have hFt : ∀ b, Ft p gl gm V b → b ≠ gx := fun b hb => by
  rcases hb with e | e | e | ⟨i, e⟩
  · omega
  · omega
  · omega
  · rw [hV] at e; cases e
 have h5a : L6 w B gx SC (.pointer (some ⟨p, 0, none⟩)) (.pointer none) (.pointer none) (w4.setCell ⟨gx, 0, none⟩ (.pointer (some ⟨p, 0, none⟩))) ims := h4.field (fun v => rfl)
 have h5 : L6 w B gx SC (.pointer (some ⟨p, 0, none⟩)) (.pointer (some ⟨g, 0, none⟩)) (.pointer none) ((w4.setCell ⟨gx, 0, none⟩ (.pointer (some ⟨p, 0, none⟩))).setCell ⟨gx, 1, none⟩ (.pointer (some ⟨g, 0, none⟩))) ims := h5a.field (fun v => rfl)
 obtain ⟨_, _, _, _, f4, c4, _⟩ := h4.cells
 obtain ⟨_, _, _, _, f5, _, c5, _⟩ := h5a.cells
 refine ⟨c4, f4 0, c5, f5 1, fun w5 e5 gr gb w6 hR hgr hb6 => ?_⟩
 have u5a : Up (fun b => b = gx) w4 (w4.setCell ⟨gx, 0, none⟩ (.pointer (some ⟨p, 0, none⟩))) := up_set
 have u5b : Up (fun b => b = gx) (w4.setCell ⟨gx, 0, none⟩ (.pointer (some ⟨p, 0, none⟩))) ((w4.setCell ⟨gx, 0, none⟩ (.pointer (some ⟨p, 0, none⟩))).setCell ⟨gx, 1, none⟩ (.pointer (some ⟨g, 0, none⟩))) := up_set
 have hD5 := ((hD.below hb4).up u5a hFt).up u5b hFt
 have hS5 := (hS.up u5a (by omega) (by omega)).up u5b (by omega) (by omega)
 have z5 := Nat.le_trans u5a.size u5b.size
 rw [e5] at h5 hD5 hS5 z5
 have h6 := h5.below hb6
 obtain ⟨_, _, _, _, f6, _, _, c6, _⟩ := h6.cells
 have u7 : Up (fun b => b = gx) w6 (w6.setCell ⟨gx, 3, none⟩ (.pointer (some ⟨gr, 0, none⟩))) := up_set
 have hgb := hR.row_lo.1
 refine ⟨c6, f6 3, ⟨h6.field (fun v => rfl), (hD5.below hb6).up u7 hFt, hV, (hS5.below hb6).up u7 (by omega) (by omega), hR.up u7 (by omega) (by omega), Tw.new hft, ⟨by have := h.bs; omega, by have := h.bs; omega, by have := h.bs; omega⟩, fun b hb => ?_, by have := h.bs; omega⟩⟩
 exact hD.lt hb
end
end Go.Proofs.YtdalbalphagmfaaGreatDoor

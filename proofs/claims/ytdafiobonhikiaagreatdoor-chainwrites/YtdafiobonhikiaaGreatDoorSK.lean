/- sameInts of any slices of ints that hold the same; slices of slices of ints. Slices of ints, cut, as equations; what the calls of the chain's laws enter. -/
import Derived.Test.YtdafiobonhikiaaGreatDoorSG
import Derived.Test.YtdafiobonhikiaaGreatDoorRL
import Derived.Deep.QuietTactic
import Derived.Test.YtdafiobonhikiaaGreatDoorSJ
namespace Go.Proofs.YtdafiobonhikiaaGreatDoor
open Go.RowKit Go.Maps

theorem IsT.belowJ {w w' : World} {v : Value} {cs : List Int} (h : IsT w v cs) (hb : Below w.heap.size w w') : IsT w' v cs := by
  obtain ⟨a, c, hv, hl, hm, hc⟩ := h.val
  refine ⟨a, c, hv, hl, hm, fun hp => ?_⟩
  obtain ⟨b, o, ha, hcell⟩ := hc hp
  exact ⟨b, o, ha, fun j hj => (hb.cell (p := ⟨b, o + j, none⟩) (World.block_lt_of_cell? w _ (hcell j hj))).trans (hcell j hj)⟩
theorem IsT.takeJ {w : World} {a : Option Addr} {n c k : Nat} {cs : List Int} (h : IsT w (.slice a n c) cs) (hk : k ≤ n) : IsT w (.slice a k c) (cs.take k) := by
  obtain ⟨a', c', hv, hl, hm, hc⟩ := h.val
  injection hv with e1 e2 e3
  subst e1 e3
  have hlen : (cs.take k).length = k := by rw [List.length_take]; omega
  refine ⟨a, c, by rw [hlen], by omega, hm, fun hp => ?_⟩
  obtain ⟨b, o, ha, hcell⟩ := hc (by omega)
  refine ⟨b, o, ha, fun j hj => ?_⟩
  rw [hcell j (by omega), List.getD_eq_getElem?_getD, List.getD_eq_getElem?_getD, List.getElem?_take_of_lt (by omega)]
theorem IsT.dropJ {w : World} {b o n c k : Nat} {cs : List Int} (h : IsT w (.slice (some ⟨b, o, none⟩) n c) cs) (hk : k ≤ n) : IsT w (.slice (some ⟨b, o + k, none⟩) (n - k) (c - k)) (cs.drop k) := by
  obtain ⟨a', c', hv, hl, hm, hc⟩ := h.val
  injection hv with e1 e2 e3
  subst e3
  have hlen : (cs.drop k).length = n - k := by rw [List.length_drop]; omega
  refine ⟨_, c - k, by rw [hlen], by omega, by omega, fun hp => ?_⟩
  obtain ⟨b', o', ha, hcell⟩ := hc (by omega)
  rw [ha] at e1
  injection e1 with e1
  injection e1 with e4 e5
  subst e4 e5
  refine ⟨b, o + k, rfl, fun j hj => ?_⟩
  rw [show o + k + j = o + (k + j) by omega, hcell (k + j) (by omega), List.getD_eq_getElem?_getD, List.getD_eq_getElem?_getD, List.getElem?_drop]
def iZ (xs : List Nat) : List Int := xs.map fun x => ((x : Nat) : Int)
theorem row_isT {w : World} {B : Nat} {v : Value} {xs : List Nat} (h : Row w B 3 v (iV xs)) : IsT w v (iZ xs) := by
  have hl : (iZ xs).length = xs.length := by unfold iZ; simp
  have h' := h
  rcases h.2 with ⟨rfl, h0⟩ | ⟨g, cap, cur, rfl, _, _, hle, hm, _⟩
  · rw [iV_len] at h0
    exact ⟨none, 0, by rw [hl, h0], by omega, by decide, fun hp => by omega⟩
  · rw [iV_len] at hle h' ⊢
    refine ⟨some ⟨g, 0, none⟩, cap, by rw [hl], by omega, by simpa [maxLen] using hm, fun hp => ⟨g, 0, rfl, fun j hj => ?_⟩⟩
    have hj' : j < xs.length := by omega
    have e1 : (iZ xs).getD j 0 = ((xs.getD j 0 : Nat) : Int) := by
      unfold iZ
      rw [List.getD_eq_getElem?_getD, List.getElem?_map, List.getElem?_eq_getElem hj', List.getD_eq_getElem?_getD, List.getElem?_eq_getElem hj']
      rfl
    rw [Nat.zero_add, h'.cellAt (by rw [iV_len]; exact hj'), iV_at hj', e1]
theorem drewn_bJ (B : Nat) (w : World) : ∀ k, Below B w (w.drewN k)
  | 0 => Below.refl _ _
  | k + 1 => (drewn_bJ B w k).trans (Below.refl _ _).drew
set_option maxRecDepth 100000 in
set_option maxHeartbeats 2000000 in
theorem sameIntsT_calls {w : World} {va vb : Value} {xs : List Int} (ha : IsT w va xs) (hb : IsT w vb xs) : Calls Tryz.prog 11 #[va, vb] w fun e w' => e = .returned (.bool true) ∧ Below w.heap.size w w' := by
  obtain ⟨aa, ca, rfl, hla, hma, hca⟩ := ha.val
  obtain ⟨ab, cb, rfl, hlb, hmb, hcb⟩ := hb.val
  obtain ⟨n, hn⟩ : ∃ n, n = xs.length := ⟨_, rfl⟩
  rw [← hn] at hla hlb hca hcb ⊢
  have HA := hide hca
  have HB := hide hcb
  clear ha hb hca hcb hn
  go_enter Tryz.func11, Tryz.ntmps11
  go_wp2_with fail
  go_loopw [5] (fun iv W => ∃ (j : Nat), j ≤ n ∧ iv = .int .i64 (j : Int) ∧ Hid (Below w.heap.size w W)) (fun i _ => n - (intOf i).toNat)
  case atStart => exact ⟨0, by omega, rfl, Below.refl _ _⟩
  case round =>
    obtain ⟨j, hjn, rfl, hh⟩ := hrel
    by_cases hlt : j < n
    · obtain ⟨ga, oa, rfl, hA⟩ := unhide HA (by omega)
      obtain ⟨gb, ob, rfl, hB⟩ := unhide HB (by omega)
      have h1 : wr.cell? ⟨ga, oa + j, none⟩ = some (.int .i64 (xs.getD j 0)) := (hh.out.cell (p := ⟨ga, oa + j, none⟩) (World.block_lt_of_cell? w _ (hA j hlt))).trans (hA j hlt)
      have h2 : wr.cell? ⟨gb, ob + j, none⟩ = some (.int .i64 (xs.getD j 0)) := (hh.out.cell (p := ⟨gb, ob + j, none⟩) (World.block_lt_of_cell? w _ (hB j hlt))).trans (hB j hlt)
      generalize xs.getD j 0 = q at *
      have hlti : (j : Int) < (n : Int) := by omega
      clear hA hB
      go_wp2_with fail
      go_quiet (fail)
      go_wp2
      go_roundw
      case rel => exact ⟨j + 1, by omega, by go_num, hide (hh.out.trans (drewn_bJ _ _ _))⟩
      case measure => simp [intOf]; omega
    · have hlti : ¬ (j : Int) < (n : Int) := by omega
      go_wp2
      go_ret
      exact ⟨rfl, hh.out⟩
end Go.Proofs.YtdafiobonhikiaaGreatDoor

namespace Go.Proofs.YtdafiobonhikiaaGreatDoor
open Go.RowKit Go.Maps

theorem elemI6 : Tryz.prog.underlying 23 = some (.slice (Tryz.prog.elem 23)) := by kernel_rfl
theorem sizeI6 (W : World) : (sizeOf (Tryz.prog.elem 23)).run Tryz.prog W = .ok 1 W := by kernel_rfl
theorem cut6h {g n c m : Nat} (hm : m ≤ c) (h0 : 0 < c) (W : World) : (Instr.sliceAt 23 (.slice (some ⟨g, 0, none⟩) n c) none (some (.int .i64 (m : Int))) none).run Tryz.prog W = .ok (.slice (some ⟨g, 0, none⟩) m c) W := by
  rw [run_sliceAt_slice W _ _ _ _ _ elemI6, run_slice_h W _ _ n c elemI6 .i64 m (by omega) (by omega), sizeI6]
  have h1 : ¬ c = 0 := by omega
  simp [Result.andThen, sliced, h1, Addr.add]
theorem cut6l {g n c k : Nat} (hk : k ≤ n) : ∃ a', (∀ W : World, (Instr.sliceAt 23 (.slice (some ⟨g, 0, none⟩) n c) (some (.int .i64 (k : Int))) none none).run Tryz.prog W = .ok (.slice a' (n - k) (c - k)) W) ∧ (k < c → a' = some ⟨g, k, none⟩) := by
  refine ⟨if c = k then some ⟨g, 0, none⟩ else some ⟨g, k, none⟩, fun W => ?_, fun h => by rw [if_neg (by omega)]⟩
  rw [run_sliceAt_slice W _ _ _ _ _ elemI6, run_slice_l W _ _ n c elemI6 .i64 k (by omega) (by omega), sizeI6]
  by_cases h : c = k
  · subst h
    simp [Result.andThen, sliced]
  · simp [Result.andThen, sliced, h, Addr.add]
    exact fun h => h.symm
theorem IsT.dropK {w : World} {g n c k : Nat} {a' : Option Addr} {cs : List Int} (h : IsT w (.slice (some ⟨g, 0, none⟩) n c) cs) (hk : k ≤ n) (ha : k < c → a' = some ⟨g, k, none⟩) : IsT w (.slice a' (n - k) (c - k)) (cs.drop k) := by
  have hlen := h.val
  obtain ⟨a0, c0, hv, hl, hm, _⟩ := hlen
  injection hv with e1 e2 e3
  subst e3
  by_cases e : k < c
  · obtain rfl := ha e
    have := h.dropJ hk
    rwa [Nat.zero_add] at this
  · refine ⟨a', c - k, by rw [List.length_drop, ← e2], by rw [List.length_drop]; omega, by omega, fun hp => ?_⟩
    rw [List.length_drop] at hp
    omega
theorem iZ_take (xs : List Nat) (k : Nat) : iZ (xs.take k) = (iZ xs).take k := by unfold iZ; rw [List.map_take]
theorem iZ_drop (xs : List Nat) (k : Nat) : iZ (xs.drop k) = (iZ xs).drop k := by unfold iZ; rw [List.map_drop]
theorem num6_enter (v : Value) (W : World) : (callFunc 19 #[v]).run Tryz.prog W = .ok (.enter 19 #[v]) W := by kernel_rfl
theorem sameInts6_enter (v u : Value) (W : World) : (callFunc 11 #[v, u]).run Tryz.prog W = .ok (.enter 11 #[v, u]) W := by kernel_rfl
theorem list6_enter (v : Value) (W : World) : (callFunc 12 #[v]).run Tryz.prog W = .ok (.enter 12 #[v]) W := by kernel_rfl
theorem same6_enterB (v u : Value) (W : World) : (callFunc 27 #[v, u]).run Tryz.prog W = .ok (.enter 27 #[v, u]) W := by kernel_rfl
theorem get6_enter (v u z : Value) (W : World) : (callFunc 36 #[v, u, z]).run Tryz.prog W = .ok (.enter 36 #[v, u, z]) W := by kernel_rfl
/-- The first number of a row, and a ref's cells. -/
theorem row_first {w : World} {B g n c : Nat} {xs : List Nat} (h : Row w B 3 (.slice (some ⟨g, 0, none⟩) n c) (iV xs)) {j : Nat} (hj : j < xs.length) : w.cell? ⟨g, j, none⟩ = some (.int .i64 ((xs.getD j 0 : Nat) : Int)) := by
  have h1 := (row_isT h).val
  obtain ⟨a, cap, hv, _, _, hc⟩ := h1
  have hl : (iZ xs).length = xs.length := by unfold iZ; simp
  obtain ⟨b, o, ha, hcell⟩ := hc (by omega)
  rw [ha] at hv
  injection hv with e1
  injection e1 with e1
  injection e1 with e2 e3
  subst e2 e3
  have h2 := hcell j (by omega)
  rw [Nat.zero_add] at h2
  rw [h2]
  unfold iZ
  rw [List.getD_eq_getElem?_getD, List.getElem?_map, List.getElem?_eq_getElem hj, List.getD_eq_getElem?_getD, List.getElem?_eq_getElem hj]
  rfl
theorem allF_in {w : World} {B g gw fr to_ : Nat} {ws : List Nat} (h : Sp w B g gw fr to_ ws) : ∀ x ∈ allF fr 0 ws, fr ≤ x ∧ x < to_ := fun x hx => by
  have e := allF_set fr ws ws.length (Nat.le_refl _)
  rw [List.take_length] at e
  rw [e] at hx
  obtain ⟨i, hi, rfl⟩ := List.mem_map.1 hx
  have hb : bitAt ws i = true := (List.mem_filter.1 hi).2
  by_cases hl : i < to_ - fr
  · omega
  · rw [h.top i (by omega)] at hb
    cases hb
theorem isB_lt {w : World} {a : Option Addr} {n c x : Nat} {bs : List Int} (h : IsB w (.slice a n c) bs) (h0 : 0 < n) (hx : blkOf (.slice a n c) = some x) : x < w.heap.size := by
  have hl := h.lenEq
  obtain ⟨_, a', c', hv, _, _, _, hc⟩ := h
  injection hv with e1 e2 e3
  obtain ⟨b, o, ha, hcell⟩ := hc (by omega)
  rw [ha] at e1
  subst e1
  have h1 := World.block_lt_of_cell? w _ (hcell 0 (by omega))
  have h2 : b = x := by simpa [blkOf] using hx
  rw [← h2]
  exact h1
theorem ft_lo {p gl gm S : Nat} {V : Nat → Value} (hV : ∀ i, V i = .slice none 0 0) (h1 : S ≤ p) (h2 : S ≤ gl) (h3 : S ≤ gm) (x : Nat) (hx : Ft p gl gm V x) : S ≤ x := by
  unfold Ft at hx
  rcases hx with rfl | rfl | rfl | ⟨i, hi⟩
  · exact h1
  · exact h2
  · exact h3
  · rw [hV i] at hi
    simp [Value.ownBlock] at hi
/-- What a law of one chain holds on to: the numbers that Put told, the ref, the byte string, the tables. -/
structure Bk (W : World) (g2 k g6 : Nat) (ks : List Nat) (RV : List Value) (v : Value) (bs : List Int) : Prop where
  num : ∀ j, j < k → W.cell? ⟨g2, j, none⟩ = some (.int .i64 ((ks.getD j 0 : Nat) : Int))
  ref : Arr W g6 38 RV
  str : IsB W v bs
  tt : TT W
theorem Bk.up {F : Nat → Prop} {W W' : World} {g2 k g6 : Nat} {ks : List Nat} {RV : List Value} {v : Value} {bs : List Int} (h : Bk W g2 k g6 ks RV v bs) (hu : Up F W W') (h1 : 0 < k → ¬ F g2) (h2 : ¬ F g6) (h3 : 0 < bs.length → ∀ b, blkOf v = some b → ¬ F b) (h4 : ∀ b, F b → GB ≤ b) : Bk W' g2 k g6 ks RV v bs :=
  ⟨fun j hj => hu.cell (h.num j hj) (h1 (by omega)), h.ref.up hu h2, h.str.up0 hu h3, h.tt.up hu h4⟩
theorem Bk.below {W W' : World} {g2 k g6 : Nat} {ks : List Nat} {RV : List Value} {v : Value} {bs : List Int} (h : Bk W g2 k g6 ks RV v bs) (hb : Below W.heap.size W W') : Bk W' g2 k g6 ks RV v bs := h.up (F := fun _ => False) (Up.of_below hb) (fun _ h => h) (fun h => h) (fun _ _ _ h => h) (fun _ h => h.elim)
/-- What is free rises. -/
theorem allF_rises {w : World} {B g gw fr to_ : Nat} {ws : List Nat} (h : Sp w B g gw fr to_ ws) : (allF fr 0 ws).Pairwise (· < ·) := by
  rw [h.all]
  unfold setB
  refine List.Pairwise.map _ (fun a b hab => by omega) (List.Pairwise.filter _ List.pairwise_lt_range)
theorem rises_at {ks : List Nat} (h : ks.Pairwise (· < ·)) {i j : Nat} (hij : i < j) (hj : j < ks.length) : ks.getD i 0 < ks.getD j 0 := by
  have h1 := List.pairwise_iff_getElem.1 h i j (by omega) hj hij
  rw [List.getD_eq_getElem?_getD, List.getD_eq_getElem?_getD, List.getElem?_eq_getElem hj, List.getElem?_eq_getElem (show i < ks.length by omega)]
  exact h1
/-- How far the numbers have been passed. -/
structure Past (ks : List Nat) (at_ i : Nat) : Prop where
  le : at_ ≤ ks.length
  lo : ∀ j, j < at_ → ks.getD j 0 < i
  hi : ∀ j, at_ ≤ j → j < ks.length → i ≤ ks.getD j 0
theorem Past.zero (ks : List Nat) : Past ks 0 0 := ⟨Nat.zero_le _, fun j h => by omega, fun _ _ _ => Nat.zero_le _⟩
theorem Past.hit {ks : List Nat} {at_ i : Nat} (h : Past ks at_ i) (hr : ks.Pairwise (· < ·)) (ha : at_ < ks.length) (he : ks.getD at_ 0 = i) : Past ks (at_ + 1) (i + 1) :=
  ⟨ha, fun j hj => by
    by_cases e : j = at_
    · subst e; omega
    · have := h.lo j (by omega); omega, fun j hj hl => by have := rises_at hr (show at_ < j by omega) hl; omega⟩
theorem Past.miss {ks : List Nat} {at_ i : Nat} (h : Past ks at_ i) (hr : ks.Pairwise (· < ·)) (hn : ¬ (at_ < ks.length ∧ ks.getD at_ 0 = i)) : Past ks at_ (i + 1) ∧ i ∉ ks := by
  have hi2 : ∀ j, at_ ≤ j → j < ks.length → i + 1 ≤ ks.getD j 0 := fun j hj hl => by
    have h0 : ks.getD at_ 0 ≠ i := fun e => hn ⟨by omega, e⟩
    have h1 := h.hi at_ (Nat.le_refl _) (by omega)
    by_cases e : j = at_
    · subst e; omega
    · have := rises_at hr (show at_ < j by omega) hl; omega
  refine ⟨⟨h.le, fun j hj => by have := h.lo j hj; omega, hi2⟩, fun hm => ?_⟩
  obtain ⟨j, hj, e⟩ := List.mem_iff_getElem.1 hm
  have e2 : ks.getD j 0 = i := by rw [List.getD_eq_getElem?_getD, List.getElem?_eq_getElem hj]; exact e
  by_cases hlt : j < at_
  · have := h.lo j hlt; omega
  · have := hi2 j (by omega) hj; omega
/-- What was put is got. -/
theorem get_put {w : World} {p gl gm heap f0 k n bn : Nat} {V : Nat → Value} {D : AD} (hD : Dk w p gl gm V D) (hT : TT w) (hFt : ∀ x, Ft p gl gm V x → GB ≤ x) {bs : List Int} {ks : List Nat} (hla : D.la.length = n) (hbn : bs.length = bn) (hbl : bn ≤ 1048576) (hk : secN (bn : Int) = (k : Int)) (hkl : ks.length = k) (hk1 : 1 ≤ k) (hin : ∀ x ∈ ks, 1 ≤ x ∧ x < n ∧ heap ≤ x) (hnod : ks.Nodup) (hn : n ≤ 65536) (h1 : 1 ≤ heap) (hf0 : ks.getD 0 0 = f0) (hN : ∀ t, t < k → D.now (ks.getD t 0) = sectK bs ks t) (hr0 : 0 ≤ D.rd) (hr1 : D.rd ≤ 1000000) :
    Calls Tryz.prog 36 #[.pointer (some ⟨p, 0, none⟩), .int .i64 (heap : Int), .agg (refV (shaOf bs) (f0 : Int) (bn : Int)).toArray] w fun e w' => ∃ ra rn rc m, e = .returned (.tuple #[.slice ra rn rc, .int .i64 0, .int .i64 0]) ∧ Own8 w' w.heap.size (.slice ra rn rc) bs ∧ Dk w' p gl gm V (D.reads m) ∧ m ≤ 2185 ∧ Up (fun b => b = p) w w' := by
  subst hbn hkl hf0 hla
  have hs := secN_hi (bs.length : Int)
  have hm0 := hin _ (getD_mem (ks := ks) (i := 0) (by omega))
  refine (get_good hD hT hFt (shaOf_len bs) (sha_bytes bs) (bs.length : Int) h1 (by omega) hk hk1 ⟨hm0.2.2, hm0.2.1⟩ hr0 (by omega)).mono ?_
  rintro e w' ⟨ra, rn, rc, m, rfl, h2, h3, h4, h5⟩
  obtain ⟨q, hq⟩ : ∃ q, ks.length = q + 1 := ⟨ks.length - 1, by omega⟩
  have hg := got_all (N := D.now) (heap := heap) (sd := D.la.length) hbl hk.symm (fun x hx => by have := hin x hx; omega) hnod hN (fi := ((ks.getD 0 0 : Nat) : Int)) q 0 _ (by omega) (got_begin (bs := bs) (by omega) (by omega))
  rw [← hq] at hg
  have hby : (goS D.now (shaOf bs) ((ks.getD 0 0 : Nat) : Int) (bs.length : Int) heap D.la.length ks.length (begS heap D.la.length (ks.getD 0 0))).by_ = bs := by
    rw [hg.by_, List.take_of_length_le]
    have h10 := hk
    unfold secN at h10
    rw [if_neg (by omega), if_neg (by omega)] at h10
    omega
  have hns : m = ks.length := by rw [← h4, hg.ns, List.take_length]
  have hoe : outE (goS D.now (shaOf bs) ((ks.getD 0 0 : Nat) : Int) (bs.length : Int) heap D.la.length ks.length (begS heap D.la.length (ks.getD 0 0))) = 0 := by unfold outE; rw [if_pos hg.br]
  rw [hg.br, hoe]
  rw [hby] at h2
  exact ⟨ra, rn, rc, m, rfl, h2, h3, by omega, h5⟩
theorem iFirst {ks : List Nat} (h : ks.Pairwise (· < ·)) {x : Nat} (hx : x ∈ ks) : ks.getD 0 0 ≤ x := by
  obtain ⟨j, hj, e⟩ := List.mem_iff_getElem.1 hx
  have e2 : ks.getD j 0 = x := by rw [List.getD_eq_getElem?_getD, List.getElem?_eq_getElem hj]; exact e
  rcases Nat.eq_zero_or_pos j with h0 | h0
  · subst h0; omega
  · have := rises_at h h0 hj; omega
end Go.Proofs.YtdafiobonhikiaaGreatDoor

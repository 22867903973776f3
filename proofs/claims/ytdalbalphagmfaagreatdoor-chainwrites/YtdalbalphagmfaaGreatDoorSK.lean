/- sameInts of any slices of ints that hold the same; slices of slices of ints. Slices of ints, cut, as equations; what the calls of the chain's laws enter. chain's statements: sectors in rows of slices, wherever they lie; what the disk's blocks are. chain's statements: the document's Lay. Refs and acts held against one another; what is read behind a guard. -/
import Derived.Test.YtdalbalphagmfaaGreatDoorSG
import Derived.Test.YtdalbalphagmfaaGreatDoorRL
import Derived.Deep.QuietTactic
import Derived.Test.YtdalbalphagmfaaGreatDoorSJ
import Derived.Test.YtdalbalphagmfaaGreatDoorRJ
import Derived.Test.YtdalbalphagmfaaGreatDoorQH
namespace Go.Proofs.YtdalbalphagmfaaGreatDoor
open Go.RowKit Go.Maps

def iZ (xs : List Nat) : List Int := xs.map fun x => ((x : Nat) : Int)
theorem row_isT {w : World} {B : Nat} {v : Value} {xs : List Nat} (h : Row w B 3 v (iV xs)) : IsT w v (iZ xs) := by
 have hl : (iZ xs).length = xs.length := by unfold iZ; simp
 have h' := h
 rcases h.2 with ⟨rfl, h0⟩ | ⟨g, cap, cur, rfl, _, _, hle, hm, _⟩
 · rw [iV_len] at h0
   exact ⟨none, 0, by rw [hl, h0], by omega, by decide, fun hp => by omega⟩
 · rw [iV_len] at hle h' ⊢
   refine ⟨some ⟨g, 0, none⟩, cap, by rw [hl], by omega, by simpa [maxLen] using hm, fun hp => ⟨g, 0, rfl, fun j hj => ?_⟩⟩
   have hj' : j < xs.length := by omega
   have e1 : (iZ xs).getD j 0 = ((xs.getD j 0 : Nat) : Int) := by
    unfold iZ
    rw [List.getD_eq_getElem?_getD, List.getElem?_map, List.getElem?_eq_getElem hj', List.getD_eq_getElem?_getD, List.getElem?_eq_getElem hj']
    rfl
   rw [Nat.zero_add, h'.cellAt (by rw [iV_len]; exact hj'), iV_at hj', e1]
end Go.Proofs.YtdalbalphagmfaaGreatDoor

namespace Go.Proofs.YtdalbalphagmfaaGreatDoor
open Go.RowKit Go.Maps

theorem num6_enter (v : Value) (W : World) : (callFunc 19 #[v]).run Tryz.prog W = .ok (.enter 19 #[v]) W := by kernel_rfl
theorem sameInts6_enter (v u : Value) (W : World) : (callFunc 11 #[v, u]).run Tryz.prog W = .ok (.enter 11 #[v, u]) W := by kernel_rfl
theorem list6_enter (v : Value) (W : World) : (callFunc 12 #[v]).run Tryz.prog W = .ok (.enter 12 #[v]) W := by kernel_rfl
theorem isB_lt {w : World} {a : Option Addr} {n c x : Nat} {bs : List Int} (h : IsB w (.slice a n c) bs) (h0 : 0 < n) (hx : blkOf (.slice a n c) = some x) : x < w.heap.size := by
 have hl := h.lenEq
 obtain ⟨_, a', c', hv, _, _, _, hc⟩ := h
 injection hv with e1 e2 e3
 obtain ⟨b, o, ha, hcell⟩ := hc (by omega)
 rw [ha] at e1
 subst e1
 have h1 := World.block_lt_of_cell? w _ (hcell 0 (by omega))
 have h2 : b = x := by simpa [blkOf] using hx
 rw [← h2]
 exact h1
theorem ft_lo {p gl gm S : Nat} {V : Nat → Value} (hV : ∀ i, V i = .slice none 0 0) (h1 : S ≤ p) (h2 : S ≤ gl) (h3 : S ≤ gm) (x : Nat) (hx : Ft p gl gm V x) : S ≤ x := by
 unfold Ft at hx
 rcases hx with rfl | rfl | rfl | ⟨i, hi⟩
 · exact h1
 · exact h2
 · exact h3
 · rw [hV i] at hi
   simp [Value.ownBlock] at hi
/-- What is free rises. -/
theorem allF_rises {w : World} {B g gw fr to_ : Nat} {ws : List Nat} (h : Sp w B g gw fr to_ ws) : (allF fr 0 ws).Pairwise (· < ·) := by
 rw [h.all]
 unfold setB
 refine List.Pairwise.map _ (fun a b hab => by omega) (List.Pairwise.filter _ List.pairwise_lt_range)
theorem rises_at {ks : List Nat} (h : ks.Pairwise (· < ·)) {i j : Nat} (hij : i < j) (hj : j < ks.length) : ks.getD i 0 < ks.getD j 0 := by
 have h1 := List.pairwise_iff_getElem.1 h i j (by omega) hj hij
 rw [List.getD_eq_getElem?_getD, List.getD_eq_getElem?_getD, List.getElem?_eq_getElem hj, List.getElem?_eq_getElem (show i < ks.length by omega)]
 exact h1
theorem iFirst {ks : List Nat} (h : ks.Pairwise (· < ·)) {x : Nat} (hx : x ∈ ks) : ks.getD 0 0 ≤ x := by
 obtain ⟨j, hj, e⟩ := List.mem_iff_getElem.1 hx
 have e2 : ks.getD j 0 = x := by rw [List.getD_eq_getElem?_getD, List.getElem?_eq_getElem hj]; exact e
 rcases Nat.eq_zero_or_pos j with h0 | h0
 · subst h0; omega
 · have := rises_at h h0 hj; omega
end Go.Proofs.YtdalbalphagmfaaGreatDoor

namespace Go.Proofs.YtdalbalphagmfaaGreatDoor
open Go.RowKit Go.Maps

/-- A block of cells of that type. -/
def Ty (W : World) (b : Nat) (t : TypeId) : Prop := ∃ c m, W.heap[b]? = some (.cells c t m)
theorem Arr.ty {W : World} {g : Nat} {t : TypeId} {cs : List Value} (h : Arr W g t cs) : Ty W g t := ⟨_, _, h⟩
theorem Ty.one {W : World} {b : Nat} {t t' : TypeId} (h : Ty W b t) (h' : Ty W b t') : t = t' := by
 obtain ⟨c, m, h⟩ := h
 obtain ⟨c', m', h'⟩ := h'
 rw [h] at h'
 simp only [Option.some.injEq, Obj.cells.injEq] at h'
 exact h'.2.1
theorem Ty.lt {W : World} {b : Nat} {t : TypeId} (h : Ty W b t) : b < W.heap.size := by
 obtain ⟨c, m, h⟩ := h
 exact (Array.getElem?_eq_some_iff.1 h).1
theorem Ty.up {F : Nat → Prop} {W W' : World} {b : Nat} {t : TypeId} (h : Ty W b t) (hu : Up F W W') (hF : ¬ F b) : Ty W' b t := by
 obtain ⟨c, m, h⟩ := h
 exact ⟨c, m, hu.cells h hF⟩
theorem Dk.ty {W : World} {p gl gm : Nat} {V : Nat → Value} {D : AD} (h : Dk W p gl gm V D) {b : Nat} (hb : Ft p gl gm V b) {t : TypeId} (ht : Ty W b t) : t = 123 ∨ t = 119 := by
 rcases hb with rfl | rfl | rfl | ⟨i, e⟩
 · exact Or.inl (ht.one h.blk.ty)
 · obtain ⟨_, c, m, h1⟩ := row_blk h.las rfl
   exact Or.inr (ht.one ⟨c, m, h1⟩)
 · obtain ⟨M, ⟨es, clock, hb, _⟩, _⟩ := h.map
   obtain ⟨c, m, ht⟩ := ht
   rw [hb] at ht
   cases ht
 · obtain ⟨_, c, m, h1⟩ := row_blk (h.row i) e
   exact Or.inr (ht.one ⟨c, m, h1⟩)
/-- Sectors in a row of slices. -/
structure Ig (W : World) (B : Nat) (v : Value) (us : List Value) (ims : List (List Int)) : Prop where
 own : Row W B 26 v us
 len : us.length = ims.length
 each : ∀ j, j < us.length → ∃ a c, us[j]? = some (.slice a 512 c) ∧ IsB W (.slice a 512 c) (ims.getD j []) ∧ ∀ b, blkOf (.slice a 512 c) = some b → Ty W b 5
 secs : ∀ s ∈ ims, IsSec s
theorem Ig.nil (W : World) (B : Nat) : Ig W B (.slice none 0 0) [] [] := ⟨World.ownsRow_nil _ _ _ _, rfl, fun j hj => by simp at hj, by simp⟩
theorem Ig.up {F : Nat → Prop} {W W' : World} {B : Nat} {v : Value} {us : List Value} {ims : List (List Int)} (h : Ig W B v us ims) (hu : Up F W W') (h1 : ∀ b, v.ownBlock = some b → ¬ F b) (h2 : ∀ b, Ty W b 5 → ¬ F b) : Ig W' B v us ims :=
 ⟨owns_up h.own hu h1, h.len, fun j hj => by
   obtain ⟨a, c, q1, q2, q3⟩ := h.each j hj
   exact ⟨a, c, q1, q2.up hu (fun b hb => h2 b (q3 b hb)), fun b hb => (q3 b hb).up hu (h2 b (q3 b hb))⟩, h.secs⟩
theorem Ig.below {W W' : World} {B : Nat} {v : Value} {us : List Value} {ims : List (List Int)} (h : Ig W B v us ims) (hb : Below W.heap.size W W') : Ig W' B v us ims := h.up (F := fun _ => False) (Up.of_below hb) (fun _ _ h => h) (fun _ _ h => h)
/-- One more. -/
theorem Ig.push {W W1 W2 : World} {B : Nat} {a : Option Addr} {c : Nat} {v v' : Value} {us : List Value} {ims : List (List Int)} {s : List Int} (h : Ig W B v us ims) (hb : Below W.heap.size W W1) (hA : IsB W1 (.slice a 512 c) s) (hty : ∀ b, blkOf (.slice a 512 c) = some b → Ty W1 b 5) (hs : IsSec s) (hr : Row W2 B 26 v' (us ++ [.slice a 512 c])) (hgr : W1.grownBy W2 v.ownBlock) : Ig W2 B v' (us ++ [.slice a 512 c]) (ims ++ [s]) := by
 have h1 := h.below hb
 have hu := up_own hgr
 have hne : ∀ x, Ty W1 x 5 → ¬ v.ownBlock = some x := fun x ⟨c1, m1, hx⟩ e => by
  obtain ⟨_, c2, m2, h2⟩ := row_blk h1.own e
  exact blk_unlike h2 hx (by decide) rfl
 refine ⟨hr, by rw [List.length_append, List.length_append, h.len]; rfl, fun j hj => ?_, fun x hx => ?_⟩
 · rw [List.length_append, List.length_singleton] at hj
   by_cases e : j < us.length
   · obtain ⟨a1, c1, q1, q2, q3⟩ := h1.each j e
     have hji : j < ims.length := by rw [← h.len]; exact e
     refine ⟨a1, c1, by rw [List.getElem?_append_left e]; exact q1, ?_, fun b hb => (q3 b hb).up hu (hne b (q3 b hb))⟩
     rw [List.getD_eq_getElem?_getD, List.getElem?_append_left hji, ← List.getD_eq_getElem?_getD]
     exact q2.up hu (fun b hb => hne b (q3 b hb))
   · obtain rfl : j = us.length := by omega
     refine ⟨a, c, by rw [List.getElem?_append_right (Nat.le_refl _)]; simp, ?_, fun b hb => (hty b hb).up hu (hne b (hty b hb))⟩
     rw [List.getD_eq_getElem?_getD, h.len, List.getElem?_append_right (Nat.le_refl _)]
     simp only [Nat.sub_self, List.getElem?_cons_zero, Option.getD_some]
     exact hA.up hu (fun b hb => hne b (hty b hb))
 · rcases List.mem_append.1 hx with hx | hx
   · exact h.secs x hx
   · rw [List.mem_singleton.1 hx]; exact hs
/-- What stands in the row. -/
theorem Ig.at {W : World} {B ga n c : Nat} {us : List Value} {ims : List (List Int)} (h : Ig W B (.slice (some ⟨ga, 0, none⟩) n c) us ims) {j : Nat} (hj : j < ims.length) : ∃ a c2, W.cell? ⟨ga, j, none⟩ = some (.slice a 512 c2) ∧ IsB W (.slice a 512 c2) (ims.getD j []) ∧ ∀ b, blkOf (.slice a 512 c2) = some b → Ty W b 5 := by
 have hl := h.len
 obtain ⟨a, c2, q1, q2, q3⟩ := h.each j (by omega)
 exact ⟨a, c2, by rw [Row.cellAt h.own (by omega)]; exact q1, q2, q3⟩
theorem Ig.shape {W : World} {B : Nat} {v : Value} {us : List Value} {ims : List (List Int)} (h : Ig W B v us ims) (h0 : 0 < ims.length) : ∃ ga c, v = .slice (some ⟨ga, 0, none⟩) ims.length c ∧ B ≤ ga ∧ ims.length ≤ c ∧ c ≤ 9223372036854775807 := by
 have hl := h.len
 rcases h.own.2 with ⟨_, h1⟩ | ⟨ga, c, cur, hv, hB, _, q1, q2, _⟩
 · omega
 · exact ⟨ga, c, by rw [hv, hl], hB, by omega, by unfold maxLen at q2; omega⟩
theorem Im.ig {W : World} {B : Nat} {v : Value} {us : List Value} {ims : List (List Int)} (h : Im W B v us ims) : Ig W B v us ims :=
 ⟨h.own, h.len, fun j hj => by
   obtain ⟨g, _, q2, q3⟩ := h.each j hj
   have hs : IsSec (ims.getD j []) := h.secs _ (by
    have hl := h.len
    rw [List.getD_eq_getElem?_getD, List.getElem?_eq_getElem (by omega)]
    exact List.getElem_mem _)
   refine ⟨some ⟨g, 0, none⟩, 512, q2, isB_arr q3 hs.1.symm (Nat.le_refl _) (by omega) hs.2, fun b hb => ?_⟩
   cases hb
   exact q3.ty, h.secs⟩
end Go.Proofs.YtdalbalphagmfaaGreatDoor

namespace Go.Proofs.YtdalbalphagmfaaGreatDoor
open Go.RowKit Go.Maps

theorem rsector_enter (v u z q : Value) (W : World) : (callFunc 62 #[v, u, z, q]).run Tryz.prog W = .ok (.enter 62 #[v, u, z, q]) W := by kernel_rfl
theorem allocKey_run (W : World) : (Instr.alloc 36 true (.tuple #[])).run Tryz.prog W = .ok (.pointer (some ⟨W.heap.size, 0, none⟩)) (W.alloc (.cells (row32 []).toArray 36)) := by kernel_rfl
theorem wpList_allocKey {ops : Array Oper} {rest : List Oper} {o : Oper} {a : Act} {Q : Exit → Act → World → Prop} {w : World} (hgd : o.guard = none) (ho : o.op = .alloc 36) (hk : wpList Tryz.prog ops Q rest (a.put o.dst (.pointer (some ⟨w.heap.size, 0, none⟩))) (w.alloc (.cells (row32 []).toArray 36))) : wpList Tryz.prog ops Q (o :: rest) a w := by
 refine wpList_plain hgd fun K hK => ?_
 unfold Oper.wp execOp
 simp only [ho, Sem.run_bind, allocKey_run w, Result.andThen_ok, Sem.run_pure]
 exact hK _ _ hk
theorem min6 {x y m : Int} (h : m = min x y) : ∀ W : World, (Builtin.min_ #[3, 3] 3 #[.int .i64 x, .int .i64 y]).run Tryz.prog W = .ok (.int .i64 m) W := by
 intro W
 have e : (if y < x then y else x) = m := by subst h; split <;> omega
 simp [Builtin.min_, Builtin.min2, e]
theorem results_ref2 {fn : Func} {p s : Tmp} {g : Nat} {tmps : Array Value} {w : World} {v u : Value} (h : fn.results = #[.tmp s, .cell p 38]) (ha : tmps.getD p undef = .pointer (some ⟨g, 0, none⟩)) (hu : tmps.getD s undef = u) (hl : (loadVar 38 ⟨g, 0, none⟩).run Tryz.prog w = .ok v w) :
 (results fn tmps).run Tryz.prog w = .ok (.tuple #[u, v]) w := by
 have ha' : tmps[p]?.getD undef = .pointer (some ⟨g, 0, none⟩) := by simpa using ha
 have hu' : tmps[s]?.getD undef = u := by simpa using hu
 simp [results, h, asAddr, ha', hu', hl]
/-- The document's piece is the program's. -/
theorem piece_min (bs : List Int) (i : Nat) : (bs.drop (min (480 * i) bs.length)).take (min (480 * i + 480) bs.length - min (480 * i) bs.length) = pieceL bs i := by
 unfold pieceL
 by_cases h : 480 * i ≤ bs.length
 · rw [Nat.min_eq_left h]
   by_cases h2 : 480 * i + 480 ≤ bs.length
   · rw [Nat.min_eq_left h2, show 480 * i + 480 - 480 * i = 480 by omega]
   · rw [Nat.min_eq_right (by omega), List.take_of_length_le (by rw [List.length_drop]; omega), List.take_of_length_le (by rw [List.length_drop]; omega)]
 · rw [Nat.min_eq_right (by omega), Nat.min_eq_right (by omega), List.drop_of_length_le (Nat.le_refl _), List.drop_of_length_le (by omega)]
   simp
theorem own8_ty {W : World} {B : Nat} {v : Value} {xs : List Int} (h : Own8 W B v xs) : ∀ b, blkOf v = some b → Ty W b 5 := fun b hb => by
 obtain ⟨_, c, m, h1⟩ := own8_blk h hb
 exact ⟨c, m, h1⟩
set_option maxRecDepth 100000 in
set_option maxHeartbeats 8000000 in
theorem lay6_calls {w : World} {a la : Option Addr} {n c k lc : Nat} {bs : List Int} {ks : List Nat} (hb : IsB w (.slice a n c) bs) (hn : n ≤ 1048576) (hl : IsT w (.slice la k lc) (iZ ks)) (hk1 : 1 ≤ k) (hk2 : k ≤ 2185) (hks : ∀ x ∈ ks, x < 65536) :
 Calls Tryz.prog 31 #[.slice a n c, .slice la k lc] w fun e w' => ∃ v us, e = .returned (.tuple #[v, .agg (refV (shaOf bs) ((ks.getD 0 0 : Nat) : Int) (n : Int)).toArray]) ∧ Ig w' w.heap.size v us ((List.range k).map (sectK bs ks)) ∧ Below w.heap.size w w' := by
 have hbn := hb.lenEq
 have hsl := shaOf_len bs
 have hby := hb.mem
 obtain ⟨hkl, lb, lo, hla, hkc, hcm, hlc⟩ : ks.length = k ∧ ∃ lb lo, la = some ⟨lb, lo, none⟩ ∧ k ≤ lc ∧ lc ≤ 9223372036854775807 ∧ ∀ W, Below w.heap.size w W → ∀ j, j < k → W.cell? ⟨lb, lo + j, none⟩ = some (.int .i64 ((ks.getD j 0 : Nat) : Int)) := by
  obtain ⟨a0, c0, hv, h1, h2, h3⟩ := hl.val
  have hz : (iZ ks).length = ks.length := by unfold iZ; simp
  injection hv with e1 e2 e3
  subst e1 e3
  obtain ⟨b, off, e4, h4⟩ := h3 (by omega)
  refine ⟨by omega, b, off, e4, by omega, h2, fun W hW j hj => ?_⟩
  have h5 := h4 j (by omega)
  have e5 : (iZ ks).getD j 0 = ((ks.getD j 0 : Nat) : Int) := by
   unfold iZ
   rw [List.getD_eq_getElem?_getD, List.getElem?_map, List.getD_eq_getElem?_getD, List.getElem?_eq_getElem (by omega)]
   rfl
  rw [e5] at h5
  exact bkeptC hW h5
 subst hla
 have hlb : lb < w.heap.size := World.block_lt_of_cell? w ⟨lb, lo + 0, none⟩ (hlc w (Below.refl _ _) 0 (by omega))
 have hnx : ∀ i, 0 ≤ nxK ks i ∧ nxK ks i < 65536 := fun i => by
  unfold nxK
  by_cases h : i + 1 < ks.length
  · have := hks _ (getD_mem h); omega
  · rw [List.getD_eq_getElem?_getD, List.getElem?_eq_none (by omega)]; simp
 obtain ⟨S, hS⟩ : ∃ S, w.heap.size = S := ⟨_, rfl⟩
 obtain ⟨wa, hwa⟩ : ∃ wa, w.alloc (.cells zRef.toArray 38) = wa := ⟨_, rfl⟩
 have hba : Below w.heap.size w wa := by rw [← hwa]; exact (Below.refl _ _).alloc (Nat.le_refl _) _
 have hAa : Arr wa S 38 zRef := by rw [← hwa, ← hS]; exact Arr.new w zRef 38
 have HSUM := hide (rsum_calls (hb.below hba) (by omega))
 obtain ⟨KV, hKV⟩ : ∃ KV, (shaOf bs).map (Value.int .u8) = KV := ⟨_, rfl⟩
 have hkv : keyV bs = .agg KV.toArray := by unfold keyV; rw [hKV]
 rw [hkv] at HSUM
 have hiK : (Tryz.prog.info? 36).map (·.size) = some KV.length := by rw [← hKV]; exact infoKey hsl
 have hlK : (row32 []).length = KV.length := by rw [← hKV, List.length_map, hsl]; rfl
 have h1K : ∀ u ∈ KV, u.oneCell' = true := by rw [← hKV]; exact u8_one _
 have HSEC : Hid (∀ W i (nx : Int) pa pn pc, nxK ks i = nx → i < 2185 → IsB W (.slice pa pn pc) (pieceL bs i) → Calls Tryz.prog 62 #[.agg KV.toArray, .int .i64 (i : Int), .int .i64 nx, .slice pa pn pc] W fun e w' => ∃ a4 c4, e = .returned (.slice a4 512 c4) ∧ Own8 w' W.heap.size (.slice a4 512 c4) (sectK bs ks i) ∧ Below W.heap.size W w') := hide (fun W i nx pa pn pc h1 h2 h3 => by
  rw [← hKV, ← h1]
  have := hnx i
  refine (refSector_calls h3 (pieceL_len bs i) hsl (sha_bytes bs) this.1 (by omega) (by omega) (by omega)).mono ?_
  rintro e w' ⟨v, rfl, ho, hb'⟩
  obtain ⟨a4, n4, c4, rfl⟩ := ho.shape
  obtain rfl : n4 = 512 := by
   have h9 := ho.isB.lenEq
   have h8 := (sectK_is hby ks i).1
   unfold sectK at h8
   omega
  exact ⟨a4, c4, rfl, ho, hb'⟩)
 have HPI : Hid (∀ W i q q2, Below S w W → min (480 * i) n = q → min (480 * i + 480) n = q2 → (∀ W2 : World, (Instr.sliceAt 26 (.slice a n c) (some (.int .i64 (q : Int))) (some (.int .i64 (q2 : Int))) none).run Tryz.prog W2 = .ok (.slice (subA a c q) (q2 - q) (c - q)) W2) ∧ IsB W (.slice (subA a c q) (q2 - q) (c - q)) (pieceL bs i)) := hide (fun W i q q2 hW h1 h2 => by
  obtain ⟨_, a2, c2, hv2, hc2, _⟩ := id hb
  injection hv2 with f1 f2 f3
  refine ⟨fun W2 => slice_lh a n c q q2 (by omega) (by omega) W2, ?_⟩
  rw [← hS] at hW
  have h3 := (hb.below hW).sub (q := q) (t := q2) (by omega) (by omega)
  rw [← piece_min, ← hbn, h1, h2]
  exact h3)
 have HIS : Hid (∀ i, IsSec (sectK bs ks i)) := hide (fun i => sectK_is hby ks i)
 have HNX : Hid (∀ i, nxK ks i = ((ks.getD (i + 1) 0 : Nat) : Int)) := hide (fun i => rfl)
 have HNE : Hid (∀ i, i + 1 = k → nxK ks i = 0) := hide (fun i hi => by
  unfold nxK
  rw [List.getD_eq_getElem?_getD, List.getElem?_eq_none (by omega)]
  rfl)
 have hiR := infoRef hsl ((ks.getD 0 0 : Nat) : Int) (n : Int)
 have hzl : zRef.length = (refV (shaOf bs) ((ks.getD 0 0 : Nat) : Int) (n : Int)).length := by rw [refV_len hsl]; rfl
 have h1R := refV_one (shaOf bs) ((ks.getD 0 0 : Nat) : Int) (n : Int)
 have HLD : Hid (∀ W, Arr W S 38 (refV (shaOf bs) ((ks.getD 0 0 : Nat) : Int) (n : Int)) → (loadVar 38 ⟨S, 0, none⟩).run Tryz.prog W = .ok (.agg (refV (shaOf bs) ((ks.getD 0 0 : Nat) : Int) (n : Int)).toArray) W) := hide (fun W h => h.loadRef hsl)
 obtain ⟨f0, hf0⟩ : ∃ f0 : Nat, ks.getD 0 0 = f0 := ⟨_, rfl⟩
 have HBR : Hid (∀ W : World, (Instr.build 38 #[(0, .agg KV.toArray), (1, .int .i64 (f0 : Int)), (2, .int .i64 (n : Int))]).run Tryz.prog W = .ok (.agg (refV (shaOf bs) ((ks.getD 0 0 : Nat) : Int) (n : Int)).toArray) W) := hide (fun W => by rw [← hKV, ← hf0]; exact buildRef_run hsl _ _ W)
 have HF0 := hide hf0
 have HLC : Hid (∀ W, Below S w W → ∀ j, j < k → W.cell? ⟨lb, lo + j, none⟩ = some (.int .i64 ((ks.getD j 0 : Nat) : Int))) := hide (by rw [← hS]; exact hlc)
 have HLB : Hid (lb < S) := hide (by rw [← hS]; exact hlb)
 have HS := hide hS
 have HWA := hide hwa
 have HAA := hide hAa
 have HBA := hide hba
 rw [hS]
 generalize refV (shaOf bs) ((ks.getD 0 0 : Nat) : Int) (n : Int) = rV at *
 clear hb hn hl hbn hsl hby hlc hlb hnx hS hwa hAa hba hKV hkv hf0
 go_enter Tryz.func31, Tryz.ntmps31
 go_wp2_with (refine wpList_allocRef rfl rfl ?_; rw [HWA.out, HS.out])
 refine (unhide HSUM).mono ?_
 rintro e w1 ⟨rfl, hb1⟩
 obtain ⟨gH, hgH⟩ : ∃ gH, w1.heap.size = gH := ⟨_, rfl⟩
 obtain ⟨w2, hw2⟩ : ∃ w2, w1.alloc (.cells (row32 []).toArray 36) = w2 := ⟨_, rfl⟩
 have hA2 : Arr w2 gH 36 (row32 []) := by rw [← hw2, ← hgH]; exact Arr.new w1 _ _
 have hsz : S < gH := by
  have h1 := HAA.out.lt
  have h2 := hb1.size
  omega
 have HW2 : Hid (∀ w3, Arr w3 gH 36 KV → Wrote w2 w3 gH → Below S w w3 ∧ Arr w3 S 38 zRef) := hide (fun w3 hA3 hWr => by
  have hba := HBA.out
  rw [HS.out] at hba
  have hs1 := HAA.out.lt
  have h2 : Below S w w1 := hba.trans (hb1.mono (by omega))
  have h12 : Below w1.heap.size w1 w2 := by rw [← hw2]; exact (Below.refl _ _).alloc (Nat.le_refl _) _
  have h3 : Below S w w2 := h2.trans (h12.mono (by omega))
  exact ⟨hWr.below _ _ h3 (by omega), ((HAA.out.below hb1).below h12).wrote hWr (by omega)⟩)
 have HWQ := hide hw2
 have HGH := hide hgH
 clear HSUM hb1 hw2 hgH HBA HAA
 go_wp2_with (first
  | (refine wpList_allocKey rfl rfl ?_; rw [HWQ.out, HGH.out])
  | (refine wpList_storeArr2 (cs' := KV) rfl (.tmp 6) (.tmp 13) 36 rfl rfl rfl hA2 hiK hlK h1K ?_; intro w3 hA3 hWr3
     have HI3 : Hid (∃ us, Ig w3 S (.slice none 0 0) us ((List.range 0).map (sectK bs ks)) ∧ Arr w3 gH 36 KV ∧ Arr w3 S 38 zRef ∧ Below S w w3) := hide ⟨[], Ig.nil _ _, hA3, (unhide HW2 w3 hA3 hWr3).2, (unhide HW2 w3 hA3 hWr3).1⟩
     clear hA3 hWr3))
 clear hA2 HW2 HWQ
 go_loopw [7, 8] (fun ov iv W => ∃ (i : Nat) (oa : Option Addr) (oc : Nat), i ≤ k ∧ ov = .slice oa i oc ∧ iv = .int .i64 (i : Int) ∧ Hid (∃ us, Ig W S (.slice oa i oc) us ((List.range i).map (sectK bs ks)) ∧ Arr W gH 36 KV ∧ Arr W S 38 zRef ∧ Below S w W)) (fun _ iv _ => k - (intOf iv).toNat)
 case atStart => exact ⟨0, none, 0, by omega, rfl, rfl, HI3⟩
 case round =>
  clear HI3
  obtain ⟨i, oa, oc, hik, rfl, rfl, HI⟩ := hrel
  by_cases hlt : i < k
  · obtain ⟨us, hIg, hAK, hAR, hbw⟩ := HI.out
    obtain ⟨q, hq⟩ : ∃ q, min (480 * i) n = q := ⟨_, rfl⟩
    obtain ⟨q2, hq2⟩ : ∃ q2, min (480 * i + 480) n = q2 := ⟨_, rfl⟩
    obtain ⟨hsl, hpi⟩ := unhide HPI wr i q q2 hbw hq hq2
    obtain ⟨pa, hpa⟩ : ∃ pa, subA a c q = pa := ⟨_, rfl⟩
    obtain ⟨pn, hpn⟩ : ∃ pn, q2 - q = pn := ⟨_, rfl⟩
    obtain ⟨pc, hpc⟩ : ∃ pc, c - q = pc := ⟨_, rfl⟩
    rw [hpa, hpn, hpc] at hsl hpi
    have em : IntKind.i64.wrap (480 * (i : Int)) = 480 * (i : Int) := by rw [IntKind.wrap_i64]; omega
    have em2 : IntKind.i64.wrap (480 * (i : Int) + 480) = 480 * (i : Int) + 480 := by rw [IntKind.wrap_i64]; omega
    have hmn : ∀ W : World, (Builtin.min_ #[3, 3] 3 #[.int .i64 (480 * (i : Int)), .int .i64 (n : Int)]).run Tryz.prog W = .ok (.int .i64 (q : Int)) W := min6 (by omega)
    have hmn2 : ∀ W : World, (Builtin.min_ #[3, 3] 3 #[.int .i64 (480 * (i : Int) + 480), .int .i64 (n : Int)]).run Tryz.prog W = .ok (.int .i64 (q2 : Int)) W := min6 (by omega)
    obtain ⟨i1, hi1⟩ : ∃ i1, i + 1 = i1 := ⟨_, rfl⟩
    have ei : IntKind.i64.wrap ((i : Int) + 1) = (i1 : Int) := by rw [IntKind.wrap_i64]; omega
    have HIG := hide hIg
    have HAK := hide hAK
    have HAR := hide hAR
    have HBW := hide hbw
    have HPJ := hide hpi
    have HI1 := hide hi1
    have HUL : Hid (us.length = i) := hide (by rw [hIg.len, List.length_map, List.length_range])
    have hrg : wr.rangeAt gH 0 KV := arr_range (ds := []) (by rw [List.append_nil]; exact hAK)
    have HRG : Hid (∀ W, Below wr.heap.size wr W → W.rangeAt gH 0 KV) := hide (fun W hW => arr_range (ds := []) (by rw [List.append_nil]; exact hAK.below hW))
    have hSw : S ≤ wr.heap.size := Nat.le_of_lt hAR.lt
    clear hIg hAK hAR hbw hpi hpa hpn hpc hq hq2 HPI hi1
    have HNXI := hide (unhide HNX i)
    by_cases hl1 : i1 < k
    · have hl1I : (i1 : Int) < (k : Int) := by omega
      obtain ⟨nx, hnx⟩ : ∃ nx : Nat, ks.getD i1 0 = nx := ⟨_, rfl⟩
      have hcl : wr.cell? ⟨lb, lo + i1, none⟩ = some (.int .i64 (nx : Int)) := by rw [← hnx]; exact unhide HLC wr HBW.out i1 hl1
      have HNV : Hid (nxK ks i = (nx : Int)) := hide (by rw [HNXI.out, HI1.out, hnx])
      clear hnx HNXI HNE
      go_wp2_with fail
      refine wp_region_held_drew (S := fun W => W.rangeAt gH 0 KV) (by kernel_rfl) (unhide HRG _ (Below.refl _ _).drew) (fun hHeld => ?_)
      refine wpAnyH_take (i := 0) (v := .slice (oa) i oc) rfl (by kernel_rfl) (by kernel_rfl) (by kernel_rfl) (fun _ _ _ h => h) (Or.inl ⟨by rfl, fun w hSw => by go_simp⟩) (by assumption) ?_
      simp only [fGa, fGz, Act.put, fSa, fSz, fSs]
      refine wpAnyH_take (i := 1) (v := .agg (KV).toArray) rfl (by kernel_rfl) (by kernel_rfl) (by kernel_rfl) (fun _ _ _ h => h) (yieldsIf_load_mid (by rfl) _ _ rfl _ _ rfl _ _ (fun w hSw => hSw) Tryz.underlying36 rfl hiK) (by assumption) ?_
      simp only [fGa, fGs, fGz, Act.put, fSa, fSz, fSs]
      refine wpAnyH_take (i := 2) (v := .int .i64 (i : Int)) rfl (by kernel_rfl) (by kernel_rfl) (by kernel_rfl) (fun _ _ _ h => h) (Or.inl ⟨by rfl, fun w hSw => by go_simp⟩) (by assumption) ?_
      simp only [fGa, fGs, fGz, Act.put, fSa, fSz, fSs]
      refine wpAnyH_take (i := 3) (v := .int .i64 (nx : Int)) rfl (by kernel_rfl) (by kernel_rfl) (by kernel_rfl) (fun _ _ _ h => h) (Or.inl ⟨by rfl, fun w hSw => by go_simp⟩) (by assumption) ?_
      simp only [fGa, fGs, fGz, Act.put, fSa, fSz, fSs]
      refine wpAnyH_take (i := 4) (v := .slice (a) n c) rfl (by kernel_rfl) (by kernel_rfl) (by kernel_rfl) (fun _ _ _ h => h) (Or.inl ⟨by rfl, fun w hSw => by go_simp⟩) (by assumption) ?_
      simp only [fGa, fGs, fGz, Act.put, fSa, fSz, fSs]
      refine wpAnyH_take (i := 5) (v := .int .i64 (q : Int)) rfl (by kernel_rfl) (by kernel_rfl) (by kernel_rfl) (fun _ _ _ h => h) (Or.inl ⟨by rfl, fun w hSw => by go_simp⟩) (by assumption) ?_
      simp only [fGa, fGs, fGz, Act.put, fSa, fSz, fSs]
      refine wpAnyH_take (i := 6) (v := .int .i64 (q2 : Int)) rfl (by kernel_rfl) (by kernel_rfl) (by kernel_rfl) (fun _ _ _ h => h) (Or.inl ⟨by rfl, fun w hSw => by go_simp⟩) (by assumption) ?_
      simp only [fGa, fGs, fGz, Act.put, fSa, fSz, fSs]
      refine wpAnyH_take (i := 7) (v := .slice (pa) pn pc) rfl (by kernel_rfl) (by kernel_rfl) (by kernel_rfl) (fun _ _ _ h => h) (Or.inl ⟨by rfl, fun w hSw => by go_simp⟩) (by assumption) ?_
      simp only [fGa, fGs, fGz, Act.put, fSa, fSz, fSs]
      refine wpAnyH_ready (rs := [8]) (by kernel_rfl) (by simp) (AllReadyH.cons rfl (fun K hK => ?_) AllReadyH.nil)
      refine step_call4C (by rfl) 62 rsector_enter (.tmp 42) (.tmp 43) (.tmp 44) (.tmp 48) _ rfl rfl rfl rfl rfl (unhide HSEC _ i _ pa pn pc HNV.out (by omega) (HPJ.out.below (Below.refl _ _).drew)) ?_
      rintro e w4 ⟨a4, c4, rfl, ho4, hb4⟩
      have hx4 : Below wr.heap.size wr w4 := ((Below.refl _ _).drew : Below wr.heap.size wr wr.drew).trans (hb4.mono (Nat.le_refl _))
      refine ⟨_, rfl, ?_⟩
      refine hK.out _ _ (unhide HRG _ hx4) (fun hJ1 => ?_)
      clear hK K
      simp only [fGa, fGs, fGz, Act.put, fSa, fSz, fSs]
      refine wpAnyH_ready (rs := [9]) (by kernel_rfl) (by simp) (AllReadyH.cons rfl (fun K hK => ?_) AllReadyH.nil)
      refine step_buildSlW (by rfl) (.tmp 49) rfl rfl ?_
      have hx5 : Below wr.heap.size wr (w4.alloc (.cells #[.slice a4 512 c4] 26)) := hx4.alloc hx4.size _
      refine hK.out _ _ (unhide HRG _ hx5) (fun hJ2 => ?_)
      clear hK K
      simp only [fGa, fGs, fGz, Act.put, fSa, fSz, fSs]
      refine wpAnyH_ready (rs := [10]) (by kernel_rfl) (by simp) (AllReadyH.cons rfl (fun K hK => ?_) AllReadyH.nil)
      refine step_appSl (by rfl) (.tmp 41) (.tmp 50) rfl rfl (HIG.out.below hx5).own rfl (arr_cell (Arr.new w4 [.slice a4 512 c4] 26) rfl) rfl (by have := HUL.out; omega) (Nat.le_trans hSw hx5.size) ?_
      intro v6 w6 hr6 hg6 hat6
      have hb45 : Below w4.heap.size w4 (w4.alloc (.cells #[.slice a4 512 c4] 26)) := (Below.refl _ _).alloc (Nat.le_refl _) _
      have hty5 : ∀ b, blkOf (.slice a4 512 c4) = some b → Ty (w4.alloc (.cells #[.slice a4 512 c4] 26)) b 5 := fun b hb => (own8_ty ho4 b hb).up (F := fun _ => False) (Up.of_below hb45) (fun h => h)
      have hI6 := HIG.out.push hx5 (ho4.isB.below hb45) hty5 (unhide HIS i) hr6 hg6
      have hbk6 : ∀ x, (Value.slice oa i oc).ownBlock = some x → S ≤ x ∧ ∃ cc mm, (w4.alloc (.cells #[.slice a4 512 c4] 26)).heap[x]? = some (.cells cc 26 mm) := fun x hx => row_blk (HIG.out.below hx5).own hx
      have hu6 : Up (fun b => (Value.slice oa i oc).ownBlock = some b) (w4.alloc (.cells #[.slice a4 512 c4] 26)) w6 := up_own hg6
      have hAK6 : Arr w6 gH 36 KV := (HAK.out.below hx5).up hu6 (fun e => by obtain ⟨_, cc, mm, h3⟩ := hbk6 _ e; exact blk_unlike h3 (HAK.out.below hx5) (by decide) rfl)
      have hAR6 : Arr w6 S 38 zRef := (HAR.out.below hx5).up hu6 (fun e => by obtain ⟨_, cc, mm, h3⟩ := hbk6 _ e; exact blk_unlike h3 (HAR.out.below hx5) (by decide) rfl)
      have hbw6 : Below S w w6 := (HBW.out.trans (hx5.mono hSw)).trans (hu6.below (Nat.le_trans hSw hx5.size) (fun x hx => (hbk6 x hx).1))
      obtain ⟨va, vc, hv6⟩ := hr6.shape
      have hvn : (us ++ [Value.slice a4 512 c4]).length = i1 := by rw [List.length_append, HUL.out]; exact HI1.out
      rw [hvn] at hv6
      subst hv6
      have HQ : Hid (∃ us, Ig w6 S (.slice va i1 vc) us ((List.range i1).map (sectK bs ks)) ∧ Arr w6 gH 36 KV ∧ Arr w6 S 38 zRef ∧ Below S w w6) := hide ⟨_, by rw [← HI1.out, List.range_succ, List.map_append]; rw [HI1.out]; exact hI6, hAK6, hAR6, hbw6⟩
      have hrg6 : w6.rangeAt gH 0 KV := arr_range (ds := []) (by rw [List.append_nil]; exact hAK6)
      refine hK.out _ _ (hrg6) (fun hJ3 => ?_)
      clear hK K
      simp only [fGa, fGs, fGz, Act.put, fSa, fSz, fSs]
      refine wpAnyH_take (i := 11) (v := .slice (va) i1 vc) rfl (by kernel_rfl) (by kernel_rfl) (by kernel_rfl) (fun _ _ _ h => h) (Or.inl ⟨by rfl, fun w hSw => by go_simp⟩) (by assumption) ?_
      simp only [fGa, fGs, fGz, Act.put, fSa, fSz, fSs]
      refine wpAnyH_done (by kernel_rfl) ?_ _
      clear hI6 hbk6 hu6 hAK6 hAR6 hbw6 hvn hr6 hg6 hat6 hb45 hty5 ho4 hb4 hx4 hx5 hJ1 hJ2 hJ3 hHeld HIG HAK HAR HBW HPJ HRG HSEC
      go_wp2
      go_roundw
      case rel => exact ⟨i1, va, vc, by have := HI1.out; omega, rfl, by go_num, HQ⟩
      case measure => have := HI1.out; simp [intOf]; omega
    · have hl1I : ¬ (i1 : Int) < (k : Int) := by omega
      obtain ⟨nx, hnx⟩ : ∃ nx : Nat, nx = 0 := ⟨_, rfl⟩
      have HNV : Hid (nxK ks i = (nx : Int)) := hide (by rw [hnx]; exact unhide HNE i (by have := HI1.out; omega))
      obtain ⟨z, hz⟩ : ∃ z : Int, (nx : Int) = z := ⟨_, rfl⟩
      clear HNXI HNE
      subst hnx
      subst hz
      go_wp2_with fail
      refine wp_region_held_drew (S := fun W => W.rangeAt gH 0 KV) (by kernel_rfl) (unhide HRG _ (Below.refl _ _).drew) (fun hHeld => ?_)
      refine wpAnyH_take (i := 0) (v := .slice (oa) i oc) rfl (by kernel_rfl) (by kernel_rfl) (by kernel_rfl) (fun _ _ _ h => h) (Or.inl ⟨by rfl, fun w hSw => by go_simp⟩) (by assumption) ?_
      simp only [fGa, fGz, Act.put, fSa, fSz, fSs]
      refine wpAnyH_take (i := 1) (v := .agg (KV).toArray) rfl (by kernel_rfl) (by kernel_rfl) (by kernel_rfl) (fun _ _ _ h => h) (yieldsIf_load_mid (by rfl) _ _ rfl _ _ rfl _ _ (fun w hSw => hSw) Tryz.underlying36 rfl hiK) (by assumption) ?_
      simp only [fGa, fGs, fGz, Act.put, fSa, fSz, fSs]
      refine wpAnyH_take (i := 2) (v := .int .i64 (i : Int)) rfl (by kernel_rfl) (by kernel_rfl) (by kernel_rfl) (fun _ _ _ h => h) (Or.inl ⟨by rfl, fun w hSw => by go_simp⟩) (by assumption) ?_
      simp only [fGa, fGs, fGz, Act.put, fSa, fSz, fSs]
      refine wpAnyH_take (i := 3) (v := .int .i64 0) rfl (by kernel_rfl) (by kernel_rfl) (by kernel_rfl) (fun _ _ _ h => h) (Or.inl ⟨by rfl, fun w hSw => by go_simp⟩) (by assumption) ?_
      simp only [fGa, fGs, fGz, Act.put, fSa, fSz, fSs]
      refine wpAnyH_take (i := 4) (v := .slice (a) n c) rfl (by kernel_rfl) (by kernel_rfl) (by kernel_rfl) (fun _ _ _ h => h) (Or.inl ⟨by rfl, fun w hSw => by go_simp⟩) (by assumption) ?_
      simp only [fGa, fGs, fGz, Act.put, fSa, fSz, fSs]
      refine wpAnyH_take (i := 5) (v := .int .i64 (q : Int)) rfl (by kernel_rfl) (by kernel_rfl) (by kernel_rfl) (fun _ _ _ h => h) (Or.inl ⟨by rfl, fun w hSw => by go_simp⟩) (by assumption) ?_
      simp only [fGa, fGs, fGz, Act.put, fSa, fSz, fSs]
      refine wpAnyH_take (i := 6) (v := .int .i64 (q2 : Int)) rfl (by kernel_rfl) (by kernel_rfl) (by kernel_rfl) (fun _ _ _ h => h) (Or.inl ⟨by rfl, fun w hSw => by go_simp⟩) (by assumption) ?_
      simp only [fGa, fGs, fGz, Act.put, fSa, fSz, fSs]
      refine wpAnyH_take (i := 7) (v := .slice (pa) pn pc) rfl (by kernel_rfl) (by kernel_rfl) (by kernel_rfl) (fun _ _ _ h => h) (Or.inl ⟨by rfl, fun w hSw => by go_simp⟩) (by assumption) ?_
      simp only [fGa, fGs, fGz, Act.put, fSa, fSz, fSs]
      refine wpAnyH_ready (rs := [8]) (by kernel_rfl) (by simp) (AllReadyH.cons rfl (fun K hK => ?_) AllReadyH.nil)
      refine step_call4C (by rfl) 62 rsector_enter (.tmp 42) (.tmp 43) (.tmp 44) (.tmp 48) _ rfl rfl rfl rfl rfl (unhide HSEC _ i _ pa pn pc HNV.out (by omega) (HPJ.out.below (Below.refl _ _).drew)) ?_
      rintro e w4 ⟨a4, c4, rfl, ho4, hb4⟩
      have hx4 : Below wr.heap.size wr w4 := ((Below.refl _ _).drew : Below wr.heap.size wr wr.drew).trans (hb4.mono (Nat.le_refl _))
      refine ⟨_, rfl, ?_⟩
      refine hK.out _ _ (unhide HRG _ hx4) (fun hJ1 => ?_)
      clear hK K
      simp only [fGa, fGs, fGz, Act.put, fSa, fSz, fSs]
      refine wpAnyH_ready (rs := [9]) (by kernel_rfl) (by simp) (AllReadyH.cons rfl (fun K hK => ?_) AllReadyH.nil)
      refine step_buildSlW (by rfl) (.tmp 49) rfl rfl ?_
      have hx5 : Below wr.heap.size wr (w4.alloc (.cells #[.slice a4 512 c4] 26)) := hx4.alloc hx4.size _
      refine hK.out _ _ (unhide HRG _ hx5) (fun hJ2 => ?_)
      clear hK K
      simp only [fGa, fGs, fGz, Act.put, fSa, fSz, fSs]
      refine wpAnyH_ready (rs := [10]) (by kernel_rfl) (by simp) (AllReadyH.cons rfl (fun K hK => ?_) AllReadyH.nil)
      refine step_appSl (by rfl) (.tmp 41) (.tmp 50) rfl rfl (HIG.out.below hx5).own rfl (arr_cell (Arr.new w4 [.slice a4 512 c4] 26) rfl) rfl (by have := HUL.out; omega) (Nat.le_trans hSw hx5.size) ?_
      intro v6 w6 hr6 hg6 hat6
      have hb45 : Below w4.heap.size w4 (w4.alloc (.cells #[.slice a4 512 c4] 26)) := (Below.refl _ _).alloc (Nat.le_refl _) _
      have hty5 : ∀ b, blkOf (.slice a4 512 c4) = some b → Ty (w4.alloc (.cells #[.slice a4 512 c4] 26)) b 5 := fun b hb => (own8_ty ho4 b hb).up (F := fun _ => False) (Up.of_below hb45) (fun h => h)
      have hI6 := HIG.out.push hx5 (ho4.isB.below hb45) hty5 (unhide HIS i) hr6 hg6
      have hbk6 : ∀ x, (Value.slice oa i oc).ownBlock = some x → S ≤ x ∧ ∃ cc mm, (w4.alloc (.cells #[.slice a4 512 c4] 26)).heap[x]? = some (.cells cc 26 mm) := fun x hx => row_blk (HIG.out.below hx5).own hx
      have hu6 : Up (fun b => (Value.slice oa i oc).ownBlock = some b) (w4.alloc (.cells #[.slice a4 512 c4] 26)) w6 := up_own hg6
      have hAK6 : Arr w6 gH 36 KV := (HAK.out.below hx5).up hu6 (fun e => by obtain ⟨_, cc, mm, h3⟩ := hbk6 _ e; exact blk_unlike h3 (HAK.out.below hx5) (by decide) rfl)
      have hAR6 : Arr w6 S 38 zRef := (HAR.out.below hx5).up hu6 (fun e => by obtain ⟨_, cc, mm, h3⟩ := hbk6 _ e; exact blk_unlike h3 (HAR.out.below hx5) (by decide) rfl)
      have hbw6 : Below S w w6 := (HBW.out.trans (hx5.mono hSw)).trans (hu6.below (Nat.le_trans hSw hx5.size) (fun x hx => (hbk6 x hx).1))
      obtain ⟨va, vc, hv6⟩ := hr6.shape
      have hvn : (us ++ [Value.slice a4 512 c4]).length = i1 := by rw [List.length_append, HUL.out]; exact HI1.out
      rw [hvn] at hv6
      subst hv6
      have HQ : Hid (∃ us, Ig w6 S (.slice va i1 vc) us ((List.range i1).map (sectK bs ks)) ∧ Arr w6 gH 36 KV ∧ Arr w6 S 38 zRef ∧ Below S w w6) := hide ⟨_, by rw [← HI1.out, List.range_succ, List.map_append]; rw [HI1.out]; exact hI6, hAK6, hAR6, hbw6⟩
      have hrg6 : w6.rangeAt gH 0 KV := arr_range (ds := []) (by rw [List.append_nil]; exact hAK6)
      refine hK.out _ _ (hrg6) (fun hJ3 => ?_)
      clear hK K
      simp only [fGa, fGs, fGz, Act.put, fSa, fSz, fSs]
      refine wpAnyH_take (i := 11) (v := .slice (va) i1 vc) rfl (by kernel_rfl) (by kernel_rfl) (by kernel_rfl) (fun _ _ _ h => h) (Or.inl ⟨by rfl, fun w hSw => by go_simp⟩) (by assumption) ?_
      simp only [fGa, fGs, fGz, Act.put, fSa, fSz, fSs]
      refine wpAnyH_done (by kernel_rfl) ?_ _
      clear hI6 hbk6 hu6 hAK6 hAR6 hbw6 hvn hr6 hg6 hat6 hb45 hty5 ho4 hb4 hx4 hx5 hJ1 hJ2 hJ3 hHeld HIG HAK HAR HBW HPJ HRG HSEC
      go_wp2
      go_roundw
      case rel => exact ⟨i1, va, vc, by have := HI1.out; omega, rfl, by go_num, HQ⟩
      case measure => have := HI1.out; simp [intOf]; omega
  · obtain ⟨us, hIg, hAK, hAR, hbw⟩ := HI.out
    have hcl : wr.cell? ⟨lb, lo, none⟩ = some (.int .i64 (f0 : Int)) := by
     have := unhide HLC wr hbw 0 (by omega)
     rw [HF0.out] at this
     exact this
    obtain rfl : i = k := by omega
    have hne0 : ¬ i = 0 := by omega
    have HRG : Hid (wr.drew.rangeAt gH 0 KV ∧ wr.drew.cell? ⟨lb, lo, none⟩ = some (.int .i64 (f0 : Int))) := hide ⟨arr_range (ds := []) (by rw [List.append_nil]; exact hAK.below (Below.refl _ _).drew), bkeptC (Below.refl _ _).drew hcl⟩
    have hAR2 : Arr wr.drew S 38 zRef := hAR.below (Below.refl _ _).drew
    have HFIN : Hid (∀ w6, Wrote wr.drew w6 S → Ig w6 S (.slice oa i oc) us ((List.range i).map (sectK bs ks)) ∧ Below S w w6) := hide (fun w6 hW6 => by
     have hU6 : Up (fun b => b = S) wr.drew w6 := by
      have h9 := hW6.below S wr.drew ⟨rfl, rfl, rfl, Nat.le_refl _, fun _ _ => rfl⟩ (Nat.le_refl _)
      exact ⟨h9.os, h9.tape, h9.output, h9.size, fun k _ hk => hW6.other k hk⟩
     refine ⟨(hIg.below (Below.refl _ _).drew).up hU6 (fun b hb e => ?_) (fun b hb e => ?_), hW6.below _ _ hbw.drew (Nat.le_refl _)⟩
     · obtain ⟨_, cc, mm, h3⟩ := row_blk (hIg.below (Below.refl _ _).drew).own hb
       exact blk_unlike h3 hAR2 (by decide) e
     · obtain ⟨cc, mm, h3⟩ := hb
       exact blk_unlike h3 hAR2 (by decide) e)
    have HRW : Hid (∀ w6, Wrote wr.drew w6 S → w6.rangeAt gH 0 KV ∧ w6.cell? ⟨lb, lo, none⟩ = some (.int .i64 (f0 : Int))) := hide (fun w6 hW6 => by
     have hl := HLB.out
     exact ⟨arr_range (ds := []) (by rw [List.append_nil]; exact (hAK.below (Below.refl _ _).drew).wrote hW6 (by omega)), (World.cell?_of_block (a := ⟨lb, lo, none⟩) (hW6.other lb (by omega))).trans (bkeptC (Below.refl _ _).drew hcl)⟩)
    clear hIg hAK hAR hbw HI hcl HPI HLC HSEC HIS HNX HNE
    go_wp2_with fail
    refine wp_region_held_drew (S := fun W => W.rangeAt gH 0 KV ∧ W.cell? ⟨lb, lo, none⟩ = some (.int .i64 (f0 : Int))) (by kernel_rfl) (HRG.out) (fun hHeld => ?_)
    refine wpAnyH_take (i := 0) (v := .slice (oa) i oc) rfl (by kernel_rfl) (by kernel_rfl) (by kernel_rfl) (fun _ _ _ h => h) (Or.inl ⟨by rfl, fun w hSw => by obtain ⟨hS1, hS2⟩ := hSw; go_simp⟩) (by assumption) ?_
    simp only [fGa, fGz, Act.put, fSa, fSz, fSs]
    refine wpAnyH_take (i := 1) (v := .agg (KV).toArray) rfl (by kernel_rfl) (by kernel_rfl) (by kernel_rfl) (fun _ _ _ h => h) (yieldsIf_load_mid (by rfl) _ _ rfl _ _ rfl _ _ (fun w hSw => hSw.1) Tryz.underlying36 rfl hiK) (by assumption) ?_
    simp only [fGa, fGs, fGz, Act.put, fSa, fSz, fSs]
    refine wpAnyH_take (i := 2) (v := .slice (some ⟨lb, lo, none⟩) i lc) rfl (by kernel_rfl) (by kernel_rfl) (by kernel_rfl) (fun _ _ _ h => h) (Or.inl ⟨by rfl, fun w hSw => by obtain ⟨hS1, hS2⟩ := hSw; go_simp⟩) (by assumption) ?_
    simp only [fGa, fGs, fGz, Act.put, fSa, fSz, fSs]
    refine wpAnyH_take (i := 3) (v := .pointer (some ⟨lb, lo, none⟩)) rfl (by kernel_rfl) (by kernel_rfl) (by kernel_rfl) (fun _ _ _ h => h) (Or.inl ⟨by rfl, fun w hSw => by obtain ⟨hS1, hS2⟩ := hSw; go_simp⟩) (by assumption) ?_
    simp only [fGa, fGs, fGz, Act.put, fSa, fSz, fSs]
    refine wpAnyH_take (i := 4) (v := .int .i64 (f0 : Int)) rfl (by kernel_rfl) (by kernel_rfl) (by kernel_rfl) (fun _ _ _ h => h) (Or.inl ⟨by rfl, fun w hSw => by obtain ⟨hS1, hS2⟩ := hSw; go_simp⟩) (by assumption) ?_
    simp only [fGa, fGs, fGz, Act.put, fSa, fSz, fSs]
    refine wpAnyH_take (i := 5) (v := .slice (a) n c) rfl (by kernel_rfl) (by kernel_rfl) (by kernel_rfl) (fun _ _ _ h => h) (Or.inl ⟨by rfl, fun w hSw => by obtain ⟨hS1, hS2⟩ := hSw; go_simp⟩) (by assumption) ?_
    simp only [fGa, fGs, fGz, Act.put, fSa, fSz, fSs]
    refine wpAnyH_take (i := 6) (v := .int .i64 (n : Int)) rfl (by kernel_rfl) (by kernel_rfl) (by kernel_rfl) (fun _ _ _ h => h) (Or.inl ⟨by rfl, fun w hSw => by obtain ⟨hS1, hS2⟩ := hSw; go_simp⟩) (by assumption) ?_
    simp only [fGa, fGs, fGz, Act.put, fSa, fSz, fSs]
    refine wpAnyH_take (i := 7) (v := .agg rV.toArray) rfl (by kernel_rfl) (by kernel_rfl) (by kernel_rfl) (fun _ _ _ h => h) (yields_build3 (by rfl) 38 (.tmp 53) (.tmp 56) (.tmp 58) rfl rfl rfl rfl (fun W => unhide HBR W)) (by assumption) ?_
    simp only [fGa, fGs, fGz, Act.put, fSa, fSz, fSs]
    refine wpAnyH_take (i := 8) (v := .slice (oa) i oc) rfl (by kernel_rfl) (by kernel_rfl) (by kernel_rfl) (fun _ _ _ h => h) (Or.inl ⟨by rfl, fun w hSw => by obtain ⟨hS1, hS2⟩ := hSw; go_simp⟩) (by assumption) ?_
    simp only [fGa, fGs, fGz, Act.put, fSa, fSz, fSs]
    refine wpAnyH_ready (rs := [9]) (by kernel_rfl) (by simp) (AllReadyH.cons rfl (fun K hK => ?_) AllReadyH.nil)
    refine step_storeArr (by rfl) (.tmp 5) (.tmp 59) 38 rfl rfl rfl hAR2 hiR hzl h1R ?_
    intro w6 hA6 hWr6
    have hS6 : w6.rangeAt gH 0 KV ∧ w6.cell? ⟨lb, lo, none⟩ = some (.int .i64 (f0 : Int)) := unhide HRW w6 hWr6
    refine hK.out _ _ (hS6) (fun hJ3 => ?_)
    clear hK K
    simp only [fGa, fGs, fGz, Act.put]
    refine wpAnyH_done (by kernel_rfl) ?_ _
    go_wp2
    obtain ⟨k1, k2⟩ := unhide HFIN w6 hWr6
    refine bodyPost_ret (v := .tuple #[.slice oa i oc, .agg rV.toArray]) (results_ref2 rfl rfl rfl (unhide HLD _ hA6)) rfl ?_
    exact ⟨_, us, rfl, k1, k2⟩
end Go.Proofs.YtdalbalphagmfaaGreatDoor

namespace Go.Proofs.YtdalbalphagmfaaGreatDoor
open Go.RowKit Go.Maps

theorem part_row6 {t : TypeId} {d : TypeDesc} {cs : List Value} {o n : Nat} (hu : Tryz.prog.underlying t = some d) (hd : d.isRow = true) (hi : (Tryz.prog.info? t).map (·.size) = some n) (W : World) : (part t cs.toArray o).run Tryz.prog W = .ok (.agg ((cs.drop o).take n).toArray) W := by
 have hagg : (isAgg t).run Tryz.prog W = .ok true W := by
  unfold isAgg
  rw [Sem.run_bind, run_underlying hu W]
  cases d <;> simp_all
 cases hq : Tryz.prog.info? t with
 | none => simp [hq] at hi
 | some i =>
   have hs : i.size = n := by simpa [hq] using hi
   simp [part, Sem.run_bind, hagg, sizeOf, typeInfo, hq, hs]
theorem part_cell6 {t : TypeId} {d : TypeDesc} {cs : List Value} {o : Nat} {v : Value} (hu : Tryz.prog.underlying t = some d) (hd : d.isRow = false) (hc : cs[o]? = some v) (W : World) : (part t cs.toArray o).run Tryz.prog W = .ok v W := by
 have hagg : (isAgg t).run Tryz.prog W = .ok false W := by
  unfold isAgg
  rw [Sem.run_bind, run_underlying hu W]
  cases d <;> simp_all
 simp [part, Sem.run_bind, hagg, hc]
theorem infoK6 : (Tryz.prog.info? 36).map (·.size) = some 32 := by kernel_rfl
theorem ref_equal6 {hs hs' : List Int} {fi le fi' le' : Int} (lx : hs.length = 32) (ly : hs'.length = 32) (W : World) : (Op.equalIn 10000 38 (.agg (refV hs fi le).toArray) (.agg (refV hs' fi' le').toArray)).run Tryz.prog W = .ok (decide (hs = hs') && decide (fi = fi') && decide (le = le')) W := by
 have ui := Tryz.underlying3
 have uk := Tryz.underlying36
 rw [run_equalIn_struct W 9999 38 _ _ (by kernel_rfl) (by kernel_rfl)]
 have q1 : ∀ (a b : Int) (W : World), (Op.equalIn 9999 3 (.int .i64 a) (.int .i64 b)).run Tryz.prog W = .ok (a == b) W := fun a b W => run_equalIn_int W 9998 3 .i64 .i64 a b ui
 have q2 := fun W => run_equalIn_ints (P := Tryz.prog) W 9997 .u8 36 5 32 uk Tryz.underlying5 size8 hs hs' lx ly
 have px0 := fun W => part_row6 (cs := refV hs fi le) (o := 0) uk rfl infoK6 W
 have py0 := fun W => part_row6 (cs := refV hs' fi' le') (o := 0) uk rfl infoK6 W
 have ex : ((refV hs fi le).drop 0).take 32 = hs.map (Value.int .u8) := by unfold refV; rw [List.drop_zero]; exact List.take_left' (by simp [lx])
 have ey : ((refV hs' fi' le').drop 0).take 32 = hs'.map (Value.int .u8) := by unfold refV; rw [List.drop_zero]; exact List.take_left' (by simp [ly])
 rw [ex] at px0
 rw [ey] at py0
 have px1 := fun W => part_cell6 (cs := refV hs fi le) (o := 32) (v := .int .i64 fi) ui rfl (by unfold refV; rw [List.getElem?_append_right (by simp [lx])]; simp [lx]) W
 have py1 := fun W => part_cell6 (cs := refV hs' fi' le') (o := 32) (v := .int .i64 fi') ui rfl (by unfold refV; rw [List.getElem?_append_right (by simp [ly])]; simp [ly]) W
 have px2 := fun W => part_cell6 (cs := refV hs fi le) (o := 33) (v := .int .i64 le) ui rfl (by unfold refV; rw [List.getElem?_append_right (by simp [lx])]; simp [lx]) W
 have py2 := fun W => part_cell6 (cs := refV hs' fi' le') (o := 33) (v := .int .i64 le') ui rfl (by unfold refV; rw [List.getElem?_append_right (by simp [ly])]; simp [ly]) W
 simp only [Program.fieldsOf, Tryz.underlying38]
 generalize (refV hs fi le).toArray = cx at *
 generalize (refV hs' fi' le').toArray = cy at *
 generalize hk : decide (hs = hs') = bk at *
 by_cases h2 : fi = fi' <;> by_cases h3 : le = le' <;> cases bk <;> simp [Op.eqFields, px0, py0, px1, py1, px2, py2, q1, q2, h2, h3]
theorem ref_eql6 {hs : List Int} {fi le : Int} (lx : hs.length = 32) (W : World) : (binOp .eql 38 (.agg (refV hs fi le).toArray) (.agg (refV hs fi le).toArray)).run Tryz.prog W = .ok (.bool true) W := by
 rw [run_eql_struct, ref_equal6 lx lx]; simp
theorem ref_guardE (op : BinOp) (x y : Operand) (xs ys : Array Value) (w : World) : (eqGuard op 38 x y (.agg xs) (.agg ys)).run Tryz.prog w = .ok () w := run_eqGuard_agg w op 38 x y xs ys (by kernel_rfl)
section
variable {ops : Array Oper} {rest : List Oper} {o : Oper} {a : Act} {Q : Exit → Act → World → Prop} {w : World} {K : Act → World → Prop} {E : Prop}
/-- A struct or an array read behind a guard that holds. -/
theorem wpList_load6On (hw : Region.wanted o (yielded ops a.tmps) = true) (ty : TypeId) (x : Operand) (ho : o.op = .load ty x) (b f : Nat) (hx : a.eval x = .pointer (some ⟨b, f, none⟩)) (cs : List Value) (d : TypeDesc) (hc : w.rangeAt b f cs)
 (hu : Tryz.prog.underlying ty = some d) (hd : d.isRow = true) (hi : (Tryz.prog.info? ty).map (·.size) = some cs.length) (h : wpList Tryz.prog ops Q rest (a.put o.dst (.agg cs.toArray)) w) : wpList Tryz.prog ops Q (o :: rest) a w :=
 wpList_on hw fun _ hK => wp_load_mid ty x ho b f hx cs d hc hu hd hi (hK _ _ h)
end
end Go.Proofs.YtdalbalphagmfaaGreatDoor

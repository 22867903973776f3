/- chain, in words: what is written piece by piece, and that it is what is read. chain: a writer's Step. chain: a writer, stepped to its end. chain: Numbers, Ref; what a writer tells. chain: Put. -/
import Derived.Test.YtlofoklfggmbiaaDoorRH
namespace Go.Proofs.YtlofoklfggmbiaaDoor
open Go.RowKit Go.Maps

def nxK (ks : List Nat) (j : Nat) : Int := ((ks.getD (j + 1) 0 : Nat) : Int)
def pieceL (bs : List Int) (j : Nat) : List Int := (bs.drop (480 * j)).take 480
/-- The sector of a piece. -/
def sectK (bs : List Int) (ks : List Nat) (j : Nat) : List Int := secL (shaOf bs) (j : Int) (nxK ks j) (pieceL bs j)
/-- The first pieces are written. -/
def putAll (D : AD) (bs : List Int) (ks : List Nat) : Nat → AD
 | 0 => D
 | j + 1 => (putAll D bs ks j).write (ks.getD j 0) (sectK bs ks j)
theorem putAll_la (D : AD) (bs : List Int) (ks : List Nat) (j : Nat) : (putAll D bs ks j).la = D.la := by induction j with | zero => rfl | succ j ih => exact ih
theorem putAll_rd (D : AD) (bs : List Int) (ks : List Nat) (j : Nat) : (putAll D bs ks j).rd = D.rd := by induction j with | zero => rfl | succ j ih => exact ih
theorem putAll_wt (D : AD) (bs : List Int) (ks : List Nat) (j : Nat) : (putAll D bs ks j).wt = D.wt + (j : Int) := by
 induction j with
 | zero => simp [putAll]
 | succ j ih => show (putAll D bs ks j).wt + 1 = _; rw [ih]; omega
theorem putAll_len (D : AD) (bs : List Int) (ks : List Nat) (i j : Nat) : ((putAll D bs ks j).wr i).length ≤ (D.wr i).length + j := by
 induction j with
 | zero => simp [putAll]
 | succ j ih =>
   show (updF (putAll D bs ks j).wr (ks.getD j 0) _ i).length ≤ _
   by_cases e : i = ks.getD j 0
   · rw [e, updF_same, List.length_append, ← e]; simp; omega
   · rw [updF_other _ _ e]; omega
theorem write_now (D : AD) (i j : Nat) (s : List Int) : (D.write i s).now j = if j = i then s else D.now j := by
 unfold AD.now AD.write
 by_cases e : j = i
 · subst e; simp [updF_same]
 · simp [updF_other _ _ e, e]
theorem getD_inj {ks : List Nat} (hn : ks.Nodup) {i j : Nat} (hi : i < ks.length) (hj : j < ks.length) (h : ks.getD i 0 = ks.getD j 0) : i = j := by
 rw [List.getD_eq_getElem?_getD, List.getD_eq_getElem?_getD, List.getElem?_eq_getElem hi, List.getElem?_eq_getElem hj] at h
 exact (List.getElem_inj hn).mp h
theorem getD_mem {ks : List Nat} {i : Nat} (hi : i < ks.length) : ks.getD i 0 ∈ ks := by
 rw [List.getD_eq_getElem?_getD, List.getElem?_eq_getElem hi]; exact List.getElem_mem hi
theorem putAll_in (D : AD) (bs : List Int) {ks : List Nat} (hn : ks.Nodup) {j t : Nat} (hj : j ≤ ks.length) (ht : t < j) : (putAll D bs ks j).now (ks.getD t 0) = sectK bs ks t := by
 induction j with
 | zero => omega
 | succ j ih =>
   show ((putAll D bs ks j).write (ks.getD j 0) (sectK bs ks j)).now (ks.getD t 0) = _
   rw [write_now]
   by_cases e : t = j
   · subst e; simp
   · rw [if_neg (fun h => e (getD_inj hn (by omega) (by omega) h))]
     exact ih (by omega) (by omega)
theorem putAll_out (D : AD) (bs : List Int) {ks : List Nat} {j i : Nat} (hj : j ≤ ks.length) (hi : i ∉ ks) : (putAll D bs ks j).now i = D.now i := by
 induction j with
 | zero => rfl
 | succ j ih =>
   show ((putAll D bs ks j).write (ks.getD j 0) (sectK bs ks j)).now i = _
   rw [write_now, if_neg (fun h => hi (by rw [h]; exact getD_mem (by omega)))]
   exact ih (by omega)
theorem pieceL_len (bs : List Int) (j : Nat) : (pieceL bs j).length ≤ 480 := by simp [pieceL]; omega
theorem pieceL_cnt (bs : List Int) {j : Nat} (hb : bs.length ≤ 1048576) (h : (j : Int) < secN (bs.length : Int)) : ((pieceL bs j).length : Int) = cntI (bs.length : Int) (j : Int) := by
 unfold secN at h
 rw [if_neg (by omega), if_neg (by omega)] at h
 unfold pieceL cntI
 rw [List.length_take, List.length_drop]
 omega
theorem pieceL_bytes {bs : List Int} (hb : ∀ x ∈ bs, 0 ≤ x ∧ x ≤ 255) (j : Nat) : ∀ x ∈ pieceL bs j, 0 ≤ x ∧ x ≤ 255 := fun x hx => hb x (List.mem_of_mem_drop (List.mem_of_mem_take hx))
theorem sha_bytes (xs : List Int) : ∀ x ∈ shaOf xs, 0 ≤ x ∧ x ≤ 255 := by
 intro x hx
 unfold shaOf keyB at hx
 obtain ⟨i, _, rfl⟩ := List.mem_map.1 hx
 omega
theorem secL_bytes {hs ps : List Int} (hh : ∀ x ∈ hs, 0 ≤ x ∧ x ≤ 255) (hp : ∀ x ∈ ps, 0 ≤ x ∧ x ≤ 255) (place next : Int) : ∀ x ∈ secL hs place next ps, 0 ≤ x ∧ x ≤ 255 := by
 intro x hx
 unfold secL at hx
 rcases List.mem_append.1 hx with hx | hx
 · exact hdL_bytes hh hp place next x hx
 · exact fB_bytes _ _ x hx
theorem sectK_is {bs : List Int} (hb : ∀ x ∈ bs, 0 ≤ x ∧ x ≤ 255) (ks : List Nat) (j : Nat) : IsSec (sectK bs ks j) :=
 ⟨secL_len (shaOf_len bs) _ _ (pieceL_len bs j), secL_bytes (sha_bytes bs) (pieceL_bytes hb j) _ _⟩
/-- The piece that lies in a sector. -/
theorem secL_piece {hs : List Int} (hh : hs.length = 32) (place next : Int) (ps : List Int) : ((secL hs place next ps).drop 28).take ps.length = ps := by
 have h28 := hd28_len hh place next ps.length
 unfold secL hdL
 rw [List.append_assoc, List.append_assoc, List.drop_append_of_le_length (by omega), List.drop_of_length_le (by omega), List.nil_append, List.take_append_of_le_length (by omega), List.take_length]
theorem secL_next (hs : List Int) (place next : Int) (ps : List Int) : (secL hs place next ps).take 4 = fB next 4 := by
 unfold secL hdL hd28 hd12 hd8
 simp only [List.append_assoc]
 rw [List.take_append_of_le_length (by simp [fB]), List.take_of_length_le (by simp [fB])]
theorem leN_fB4 {v : Int} (h0 : 0 ≤ v) (h1 : v < 4294967296) : leN (fB v 4) = v := by
 simp [fB, List.range_succ, leN]
 omega
/-- What was written is sound. -/
theorem sectK_sound {bs : List Int} {ks : List Nat} (hb : bs.length ≤ 1048576) (hk : (ks.length : Int) = secN (bs.length : Int)) (hks : ∀ x ∈ ks, 1 ≤ x ∧ x < 65536) {j : Nat} (hj : j < ks.length) : SoundP (sectK bs ks j) (shaOf bs) (bs.length : Int) (j : Int) (nxK ks j) := by
 have hc := pieceL_cnt bs hb (j := j) (by omega)
 refine ⟨secL_len (shaOf_len bs) _ _ (pieceL_len bs j), ⟨by omega, by omega⟩, ?_, ?_⟩
 · by_cases e : j + 1 < ks.length
   · have := hks _ (getD_mem e)
     refine Or.inr ⟨by omega, ?_⟩
     unfold nxK
     omega
   · refine Or.inl ⟨by omega, ?_⟩
     unfold nxK
     rw [List.getD_eq_getElem?_getD, List.getElem?_eq_none (by omega)]
     rfl
 · rw [← hc, Int.toNat_natCast]
   show secL _ _ _ _ = secL _ _ _ (((secL _ _ _ _).drop 28).take _)
   rw [secL_piece (shaOf_len bs)]
theorem take_pieces (bs : List Int) (j : Nat) : bs.take (480 * (j + 1)) = bs.take (480 * j) ++ pieceL bs j := by
 unfold pieceL
 rw [Nat.mul_succ, List.take_add]
end Go.Proofs.YtlofoklfggmbiaaDoor

namespace Go.Proofs.YtlofoklfggmbiaaDoor
open Go.RowKit Go.Maps

/-- In whose block a slice lies. -/
def blkOf : Value → Option Nat
 | .slice (some a) _ _ => some a.block
 | _ => none
theorem blkOf_sub (a : Option Addr) (cap q n c n' c' : Nat) : blkOf (.slice (subA a cap q) n c) = blkOf (.slice a n' c') := by
 unfold subA
 by_cases e : cap = q
 · rw [if_pos e]; cases a <;> rfl
 · rw [if_neg e]
   cases a with
   | none => rfl
   | some ad => simp only [Option.map_some, blkOf]; congr 1; unfold Addr.add; split <;> rfl
theorem IsB.up {F : Nat → Prop} {w w' : World} {v : Value} {xs : List Int} (h : IsB w v xs) (hu : Up F w w') (hF : ∀ b, blkOf v = some b → ¬ F b) : IsB w' v xs := by
 obtain ⟨h1, a, cap, rfl, hl, hm, hz, hc⟩ := h
 refine ⟨h1, a, cap, rfl, hl, hm, hz, fun hp => ?_⟩
 obtain ⟨b, off, rfl, hcell⟩ := hc hp
 exact ⟨b, off, rfl, fun j hj => hu.cell (hcell j hj) (hF b rfl)⟩
theorem IsB.up0 {F : Nat → Prop} {w w' : World} {v : Value} {xs : List Int} (h : IsB w v xs) (hu : Up F w w') (hF : 0 < xs.length → ∀ b, blkOf v = some b → ¬ F b) : IsB w' v xs := by
 obtain ⟨h1, a, cap, rfl, hl, hm, hz, hc⟩ := h
 refine ⟨h1, a, cap, rfl, hl, hm, hz, fun hp => ?_⟩
 obtain ⟨b, off, rfl, hcell⟩ := hc hp
 exact ⟨b, off, rfl, fun j hj => hu.cell (hcell j hj) (hF hp b rfl)⟩
theorem IsB.low {w : World} {a : Option Addr} {n c : Nat} {xs : List Int} (h : IsB w (.slice a n c) xs) (hn : 0 < n) {b : Nat} (hb : blkOf (.slice a n c) = some b) : b < w.heap.size := by
 have hl := h.lenEq
 obtain ⟨_, a', cap, hv, _, _, _, hc⟩ := h
 obtain ⟨b', off, ha, hcell⟩ := hc (by omega)
 injection hv with e1 _ _
 rw [e1, ha] at hb
 simp only [blkOf, Option.some.injEq] at hb
 subst hb
 exact World.block_lt_of_cell? w _ (hcell 0 (by omega))
/-- A writer: its block, its numbers, what is left. -/
structure Wr (w : World) (p pw gn cn : Nat) (rv : Value) (bs : List Int) (ks : List Nat) (j : Nat) : Prop where
 arr : Arr w pw 81 (writerV p (shaOf bs) ((ks.getD 0 0 : Nat) : Int) (bs.length : Int) (.slice (some ⟨gn, 0, none⟩) ks.length cn) (j : Int) rv)
 row : Row w 0 3 (.slice (some ⟨gn, 0, none⟩) ks.length cn) (iV ks)
 rest : IsB w rv (bs.drop (480 * j))
 len : bs.length ≤ 1048576
 cnt : (ks.length : Int) = secN (bs.length : Int)
 le : j ≤ ks.length
 ap : blkOf rv ≠ some pw
 byt : ∀ x ∈ bs, 0 ≤ x ∧ x ≤ 255
 low : ∀ b, blkOf rv = some b → b < w.heap.size
/-- Its blocks. -/
def Fw (pw gn : Nat) (rv : Value) (b : Nat) : Prop := b = pw ∨ b = gn ∨ blkOf rv = some b
theorem Wr.up {F : Nat → Prop} {w w' : World} {p pw gn cn : Nat} {rv : Value} {bs : List Int} {ks : List Nat} {j : Nat} (h : Wr w p pw gn cn rv bs ks j) (hu : Up F w w') (hF : ∀ b, Fw pw gn rv b → ¬ F b) : Wr w' p pw gn cn rv bs ks j :=
 ⟨h.arr.up hu (hF pw (Or.inl rfl)), owns_up h.row hu (fun g hg => by simp only [Value.ownBlock, Option.some.injEq] at hg; exact hF g (Or.inr (Or.inl hg.symm))), h.rest.up hu (fun b hb => hF b (Or.inr (Or.inr hb))), h.len, h.cnt, h.le, h.ap, h.byt, fun b hb => Nat.lt_of_lt_of_le (h.low b hb) hu.size⟩
theorem Wr.lt {w : World} {p pw gn cn : Nat} {rv : Value} {bs : List Int} {ks : List Nat} {j : Nat} (h : Wr w p pw gn cn rv bs ks j) {b : Nat} (hb : Fw pw gn rv b) : b < w.heap.size := by
 rcases hb with rfl | rfl | hb
 · exact h.arr.lt
 · exact (h.row.lt _ rfl).2
 · exact h.low b hb
theorem writerV_cells {p : Nat} {hs : List Int} (hh : hs.length = 32) (fi le : Int) (nv : Value) (dn : Int) (rv : Value) : (writerV p hs fi le nv dn rv)[0]? = some (.pointer (some ⟨p, 0, none⟩)) ∧ (writerV p hs fi le nv dn rv)[33]? = some (.int .i64 fi) ∧ (writerV p hs fi le nv dn rv)[34]? = some (.int .i64 le) ∧ (writerV p hs fi le nv dn rv)[35]? = some nv ∧ (writerV p hs fi le nv dn rv)[36]? = some (.int .i64 dn) ∧ (writerV p hs fi le nv dn rv)[37]? = some rv := by
 have e : ∀ j, (writerV p hs fi le nv dn rv)[j + 33]? = ([.int .i64 fi, .int .i64 le, nv, .int .i64 dn, rv] : List Value)[j]? := fun j => by
  unfold writerV standV refV
  simp only [List.cons_append, List.append_assoc]
  rw [show j + 33 = (j + 32) + 1 by omega, List.getElem?_cons_succ, List.getElem?_append_right (by simp [hh]), List.length_map, hh, Nat.add_sub_cancel]
  rfl
 exact ⟨rfl, e 0, e 1, e 2, e 3, e 4⟩
theorem writerV_set36 {p : Nat} {hs : List Int} (hh : hs.length = 32) (fi le : Int) (nv : Value) (dn dn' : Int) (rv : Value) : (writerV p hs fi le nv dn rv).set 36 (.int .i64 dn') = writerV p hs fi le nv dn' rv := by
 unfold writerV standV refV
 simp only [List.cons_append, List.append_assoc, fSs]
 rw [List.set_append, if_neg (by simp [hh])]
 simp [hh]
theorem writerV_set37 {p : Nat} {hs : List Int} (hh : hs.length = 32) (fi le : Int) (nv : Value) (dn : Int) (rv rv' : Value) : (writerV p hs fi le nv dn rv).set 37 rv' = writerV p hs fi le nv dn rv' := by
 unfold writerV standV refV
 simp only [List.cons_append, List.append_assoc, fSs]
 rw [List.set_append, if_neg (by simp [hh])]
 simp [hh]
theorem writerV_range {w : World} {pw p : Nat} {hs : List Int} {fi le : Int} {nv : Value} {dn : Int} {rv : Value} (h : Arr w pw 81 (writerV p hs fi le nv dn rv)) : w.rangeAt pw 1 (hs.map (Value.int .u8)) := fun j v hv => by
 rw [Nat.add_comm]
 refine arr_cell h ?_
 unfold writerV standV refV
 simp only [List.cons_append, List.append_assoc, List.getElem?_cons_succ]
 rw [List.getElem?_append_left (List.getElem?_eq_some_iff.1 hv).1]
 exact hv
theorem min480 (n m : Nat) (h : m = min 480 n) : ∀ W : World, (Builtin.min_ #[3, 3] 3 #[.int .i64 480, .int .i64 (n : Int)]).run Tryd.prog W = .ok (.int .i64 (m : Int)) W := by
 intro W
 have e : (if (n : Int) < 480 then (n : Int) else 480) = (m : Int) := by subst h; split <;> omega
 simp [Builtin.min_, Builtin.min2, e]
theorem wrt_enter (v u z : Value) (W : World) : (callFunc 65 #[v, u, z]).run Tryd.prog W = .ok (.enter 65 #[v, u, z]) W := by kernel_rfl
theorem infoKey {hs : List Int} (hh : hs.length = 32) : (Tryd.prog.info? 32).map (·.size) = some (hs.map (Value.int .u8)).length := by rw [List.length_map, hh]; kernel_rfl
theorem Row.at {w : World} {g n c : Nat} {ks : List Nat} (h : Row w 0 3 (.slice (some ⟨g, 0, none⟩) n c) (iV ks)) {j : Nat} (hj : j < ks.length) : w.cell? ⟨g, j, none⟩ = some (.int .i64 ((ks.getD j 0 : Nat) : Int)) := by
 rw [h.cellAt (by unfold iV; rw [List.length_map]; exact hj)]
 exact iV_at hj

set_option maxRecDepth 100000 in
set_option maxHeartbeats 4000000 in
theorem wstep_calls {w : World} {p gl gm pw gn cn j : Nat} {V : Nat → Value} {D : AD} {rv : Value} {bs : List Int} {ks : List Nat} (hD : Dk w p gl gm V D) (hW : Wr w p pw gn cn rv bs ks j) (hX : ∀ b, Fw pw gn rv b → ¬ Ft p gl gm V b) (hj : j < ks.length) (hks : ∀ x ∈ ks, x < D.la.length) (hw0 : 0 ≤ D.wt) (hw1 : D.wt ≤ 1152921504606846976) (hwl : (D.wr (ks.getD j 0)).length ≤ 68719476736) (ht : Tab w) :
 Calls Tryd.prog 32 #[.pointer (some ⟨pw, 0, none⟩)] w fun e w' => ∃ rv' V', e = .returned (.tuple #[.bool (decide (j + 1 = ks.length)), .int .i64 0]) ∧ Dk w' p gl gm V' (D.write (ks.getD j 0) (sectK bs ks j)) ∧ Wr w' p pw gn cn rv' bs ks (j + 1) ∧ (∀ b, Ft p gl gm V' b → Ft p gl gm V b ∨ w.heap.size ≤ b) ∧ (∀ b, blkOf rv' = some b → blkOf rv = some b) ∧ Up (fun b => b = pw ∨ Ft p gl gm V b) w w' := by
 have hsl := shaOf_len bs
 have hla := hD.ok.hi
 obtain ⟨_, ra, rc, hrv, hrl, hrm, hrz, hrc⟩ := hW.rest
 obtain ⟨xs, hxs⟩ : ∃ xs, xs = bs.drop (480 * j) := ⟨_, rfl⟩
 rw [← hxs] at hrv hrl hrc
 obtain ⟨rn, hrn⟩ : ∃ rn, rn = xs.length := ⟨_, rfl⟩
 rw [← hrn] at hrv hrl hrc
 subst hrv
 obtain ⟨hV0, _, hV34, hV35, hV36, hV37⟩ := writerV_cells (p := p) hsl ((ks.getD 0 0 : Nat) : Int) (bs.length : Int) (.slice (some ⟨gn, 0, none⟩) ks.length cn) (j : Int) (.slice ra rn rc)
 have c0 := arr_cell hW.arr hV0
 have c34 := arr_cell hW.arr hV34
 have c35 := arr_cell hW.arr hV35
 have c36 := arr_cell hW.arr hV36
 have c37 := arr_cell hW.arr hV37
 have cr := writerV_range hW.arr
 have hrest : IsB w (.slice ra rn rc) xs := by rw [hxs]; exact hW.rest
 obtain ⟨k, hk⟩ : ∃ k, k = ks.length := ⟨_, rfl⟩
 obtain ⟨nj, hnj⟩ : ∃ nj, nj = ks.getD j 0 := ⟨_, rfl⟩
 obtain ⟨nx, hnx⟩ : ∃ nx, nx = ks.getD (j + 1) 0 := ⟨_, rfl⟩
 obtain ⟨m, hm⟩ : ∃ m, m = min 480 rn := ⟨_, rfl⟩
 have hk2185 : k ≤ 2185 := by have := secN_hi (bs.length : Int); have := hW.cnt; omega
 have hnjl : nj < D.la.length := by rw [hnj]; exact hks _ (getD_mem hj)
 have hnxl : nx < 65536 := by
  rw [hnx]
  by_cases e : j + 1 < ks.length
  · have := hks _ (getD_mem e); omega
  · rw [List.getD_eq_getElem?_getD, List.getElem?_eq_none (by omega)]; simp
 have cj : w.cell? ⟨gn, j, none⟩ = some (.int .i64 (nj : Int)) := by rw [hnj]; exact hW.row.at hj
 rw [← hnj] at hwl
 rw [← hk] at c35 hj
 have hwrj : IntKind.i64.wrap ((j : Int) + 1) = ((j + 1 : Nat) : Int) := by rw [show (j : Int) + 1 = ((j + 1 : Nat) : Int) by omega]; exact IntWalk.i64_in _ (by omega)
 have hbeq : ((j : Int) == secN (bs.length : Int)) = false := by have := hW.cnt; simp; omega
 have hmin := min480 rn m hm
 have hsl1 : ∀ W, (Instr.sliceAt 26 (.slice ra rn rc) none (some (.int .i64 (m : Int))) none).run Tryd.prog W = .ok (.slice (subA ra rc 0) m rc) W := fun W => slice_h ra rn rc m (by omega) W
 have hsl2 : ∀ W, (Instr.sliceAt 26 (.slice ra rn rc) (some (.int .i64 (m : Int))) none none).run Tryd.prog W = .ok (.slice (subA ra rc m) (rn - m) (rc - m)) W := fun W => slice_l ra rn rc m (by omega) W
 have hpc : IsB w (.slice (subA ra rc 0) m rc) (pieceL bs j) := by
  have h := hrest.sub (q := 0) (t := m) (Nat.zero_le _) (by omega)
  have e : (xs.drop 0).take (m - 0) = pieceL bs j := by
   unfold pieceL
   rw [← hxs, List.drop_zero, Nat.sub_zero, hm]
   by_cases e : 480 ≤ rn
   · rw [Nat.min_eq_left e]
   · rw [Nat.min_eq_right (by omega), List.take_of_length_le (by omega), List.take_of_length_le (by omega)]
  rw [e] at h
  exact h
 have hmr : m ≤ rn := by omega
 have hrs : ∀ W, IsB W (.slice ra rn rc) xs → IsB W (.slice (subA ra rc m) (rn - m) (rc - m)) (bs.drop (480 * (j + 1))) := fun W h => by
  have h2 := h.sub (q := m) (t := rn) hmr (Nat.le_refl _)
  have e : (xs.drop m).take (rn - m) = bs.drop (480 * (j + 1)) := by
   rw [List.take_of_length_le (by rw [List.length_drop]; omega), hm, hxs, List.drop_drop]
   by_cases e : 480 ≤ rn
   · rw [Nat.min_eq_left e]; congr 1
   · rw [Nat.min_eq_right (by omega), List.drop_of_length_le (by rw [hxs, List.length_drop] at hrn; omega), List.drop_of_length_le (by rw [hxs, List.length_drop] at hrn; omega)]
  rw [e] at h2
  exact h2
 obtain ⟨pa, hpa⟩ : ∃ pa, pa = subA ra rc 0 := ⟨_, rfl⟩
 rw [← hpa] at hpc hsl1
 obtain ⟨ra2, hra2⟩ : ∃ ra2, ra2 = subA ra rc m := ⟨_, rfl⟩
 rw [← hra2] at hrs hsl2
 -- the calls
 have HBH : Hid (∀ W dn, W.cell? ⟨pw, 36, none⟩ = some (.int .i64 dn) → W.cell? ⟨pw, 34, none⟩ = some (.int .i64 (bs.length : Int)) → Calls Tryd.prog 55 #[.pointer (some ⟨pw, 0, none⟩)] W fun e w' => e = .returned (.bool (dn == secN (bs.length : Int))) ∧ w' = W.drew) := hide (fun W dn h1 h2 => behind_calls h1 h2)
 have HSEC : Hid (∀ W, Below w.heap.size w W → Calls Tryd.prog 66 #[.slice pa m rc, .agg ((shaOf bs).map (Value.int .u8)).toArray, .int .i64 (j : Int), .int .i64 (nx : Int)] W fun e w' => ∃ g, e = .returned (.slice (some ⟨g, 0, none⟩) 512 512) ∧ Arr w' g 5 ((sectK bs ks j).map (Value.int .u8)) ∧ W.heap.size ≤ g ∧ Below W.heap.size W w') := hide (fun W hW2 => by
  have h := csector_calls (w := W) (place := (j : Int)) (next := (nx : Int)) (hpc.below hW2) (pieceL_len bs j) hsl (sha_bytes bs) (by omega) (by omega) (by omega) (by omega) (ht.below hW2)
  unfold sectK nxK
  rw [← hnx]
  exact h)
 have HWRT : Hid (∀ W g, Below w.heap.size w W → w.heap.size ≤ g → Arr W g 5 ((sectK bs ks j).map (Value.int .u8)) → Calls Tryd.prog 65 #[.pointer (some ⟨p, 0, none⟩), .int .i64 (nj : Int), .slice (some ⟨g, 0, none⟩) 512 512] W fun e w' => e = .returned (.int .i64 0) ∧ ∃ V', Dk w' p gl gm V' (D.write nj (sectK bs ks j)) ∧ (∀ b, Ft p gl gm V' b → Ft p gl gm V b ∨ W.heap.size ≤ b) ∧ Up (Ft p gl gm V) W w') := hide (fun W g hW2 hg hA => by
  have hDW := hD.below hW2
  refine write_good hDW hnjl hw0 hw1 hwl (sectK_is hW.byt ks j) ?_ hA.lt (fun hf => ?_)
  · have h9 := arr_range (ds := []) (by rw [List.append_nil]; exact hA)
    exact h9
  · have := hD.lt hf
    omega)
 have HS : Hid (∀ W, Up (Ft p gl gm V) w W → (W.cell? ⟨pw, 36, none⟩ = some (.int .i64 (j : Int)) ∧ W.cell? ⟨pw, 35, none⟩ = some (.slice (some ⟨gn, 0, none⟩) k cn) ∧ W.cell? ⟨pw, 37, none⟩ = some (.slice ra rn rc) ∧ W.cell? ⟨pw, 0, none⟩ = some (.pointer (some ⟨p, 0, none⟩)) ∧ W.cell? ⟨gn, j, none⟩ = some (.int .i64 (nj : Int)) ∧ W.rangeAt pw 1 ((shaOf bs).map (Value.int .u8)))) := hide (fun W hW2 => ⟨hW2.cell c36 (hX pw (Or.inl rfl)), hW2.cell c35 (hX pw (Or.inl rfl)), hW2.cell c37 (hX pw (Or.inl rfl)), hW2.cell c0 (hX pw (Or.inl rfl)), hW2.cell cj (hX gn (Or.inr (Or.inl rfl))), fun i v hv => hW2.cell (cr i v hv) (hX pw (Or.inl rfl))⟩)
 have HFIN : Hid (∀ W V' , Dk W p gl gm V' (D.write nj (sectK bs ks j)) → (∀ b, Ft p gl gm V' b → Ft p gl gm V b ∨ w.heap.size ≤ b) → Up (Ft p gl gm V) w W → ∃ rv' V', Value.slice ra2 (rn - m) (rc - m) = rv' ∧ Dk ((W.setCell ⟨pw, 37, none⟩ (.slice ra2 (rn - m) (rc - m))).setCell ⟨pw, 36, none⟩ (.int .i64 ((j + 1 : Nat) : Int))) p gl gm V' (D.write (ks.getD j 0) (sectK bs ks j)) ∧ Wr ((W.setCell ⟨pw, 37, none⟩ (.slice ra2 (rn - m) (rc - m))).setCell ⟨pw, 36, none⟩ (.int .i64 ((j + 1 : Nat) : Int))) p pw gn cn rv' bs ks (j + 1) ∧ (∀ b, Ft p gl gm V' b → Ft p gl gm V b ∨ w.heap.size ≤ b) ∧ (∀ b, blkOf rv' = some b → blkOf (.slice ra rn rc) = some b) ∧ Up (fun b => b = pw ∨ Ft p gl gm V b) w ((W.setCell ⟨pw, 37, none⟩ (.slice ra2 (rn - m) (rc - m))).setCell ⟨pw, 36, none⟩ (.int .i64 ((j + 1 : Nat) : Int)))) := hide (fun W V' hDW hFt hU => by
  have hpwF : ¬ Ft p gl gm V pw := hX pw (Or.inl rfl)
  have hplt := hW.arr.lt
  have hA := hW.arr.up hU hpwF
  have hA2 := (hA.set 37 (.slice ra2 (rn - m) (rc - m))).set 36 (.int .i64 ((j + 1 : Nat) : Int))
  rw [writerV_set37 hsl, writerV_set36 hsl] at hA2
  have hS1 : Up (fun b => b = pw) W ((W.setCell ⟨pw, 37, none⟩ (.slice ra2 (rn - m) (rc - m))).setCell ⟨pw, 36, none⟩ (.int .i64 ((j + 1 : Nat) : Int))) := (Up.of_grown (F := fun b => b = pw) (grown_cell W pw 37 _) (fun g hg => (Option.some.inj hg).symm)).trans (F' := fun b => b = pw) (Up.of_grown (grown_cell _ pw 36 _) (fun g hg => (Option.some.inj hg).symm)) (fun x hx => Or.inl hx)
  have hgn : gn ≠ pw := fun e => by
   have h1 := hW.row.2
   rcases h1 with ⟨h1, _⟩ | ⟨g, cap, cur, h1, _, h2, _⟩
   · cases h1
   · injection h1 with h1
     injection h1 with h1
     injection h1 with h1
     have h3 : w.heap[pw]? = _ := hW.arr
     rw [← e, h1, h2] at h3
     simp at h3
  have hbk2 : blkOf (.slice ra2 (rn - m) (rc - m)) = blkOf (.slice ra rn rc) := by rw [hra2]; exact blkOf_sub ra rc m _ _ _ _
  refine ⟨_, V', rfl, ?_, ⟨hA2, ?_, ?_, hW.len, hW.cnt, by rw [← hk]; omega, by rw [hbk2]; exact hW.ap, hW.byt, fun b hb => Nat.lt_of_lt_of_le (hW.low b (by rw [← hbk2]; exact hb)) (Nat.le_trans hU.size hS1.size)⟩, hFt, fun b hb => by rw [← hbk2]; exact hb, ?_⟩
  · rw [← hnj]
    refine hDW.up hS1 (fun b hb e => ?_)
    rcases hFt b hb with h | h
    · exact hpwF (e ▸ h)
    · omega
  · exact owns_up (owns_up hW.row hU (fun g hg => by simp only [Value.ownBlock, Option.some.injEq] at hg; exact hX g (Or.inr (Or.inl hg.symm)))) hS1 (fun g hg => by simp only [Value.ownBlock, Option.some.injEq] at hg; omega)
  · exact hrs _ ((hrest.up hU (fun b hb => hX b (Or.inr (Or.inr hb)))).up hS1 (fun b hb e => hW.ap (by rw [← e]; exact hb)))
  · exact (hU.mono (fun x hx => Or.inr hx)).trans hS1 (fun x hx => Or.inl (Or.inl hx)))
 have HC : Hid (∀ W V', Dk W p gl gm V' (D.write nj (sectK bs ks j)) → Up (Ft p gl gm V) w W → W.cell? ⟨pw, 36, none⟩ = some (.int .i64 (j : Int)) ∧ W.cell? ⟨pw, 37, none⟩ = some (.slice ra rn rc) ∧ W.frozen? ⟨pw, 37, none⟩ = false ∧ (W.setCell ⟨pw, 37, none⟩ (.slice ra2 (rn - m) (rc - m))).cell? ⟨pw, 36, none⟩ = some (.int .i64 (j : Int)) ∧ (W.setCell ⟨pw, 37, none⟩ (.slice ra2 (rn - m) (rc - m))).frozen? ⟨pw, 36, none⟩ = false ∧ ((W.setCell ⟨pw, 37, none⟩ (.slice ra2 (rn - m) (rc - m))).setCell ⟨pw, 36, none⟩ (.int .i64 ((j + 1 : Nat) : Int))).cell? ⟨pw, 36, none⟩ = some (.int .i64 ((j + 1 : Nat) : Int)) ∧ ((W.setCell ⟨pw, 37, none⟩ (.slice ra2 (rn - m) (rc - m))).setCell ⟨pw, 36, none⟩ (.int .i64 ((j + 1 : Nat) : Int))).cell? ⟨pw, 34, none⟩ = some (.int .i64 (bs.length : Int))) := hide (fun W V' hDW hU => by
  have hA := hW.arr.up hU (hX pw (Or.inl rfl))
  have hA1 := hA.set 37 (.slice ra2 (rn - m) (rc - m))
  rw [writerV_set37 hsl] at hA1
  have hA2 := hA1.set 36 (.int .i64 ((j + 1 : Nat) : Int))
  rw [writerV_set36 hsl] at hA2
  have q := fun dn rv => writerV_cells (p := p) hsl ((ks.getD 0 0 : Nat) : Int) (bs.length : Int) (.slice (some ⟨gn, 0, none⟩) ks.length cn) dn rv
  exact ⟨arr_cell hA (q _ _).2.2.2.2.1, arr_cell hA (q _ _).2.2.2.2.2, hA.frozen _, arr_cell hA1 (q _ _).2.2.2.2.1, hA1.frozen _, arr_cell hA2 (q _ _).2.2.2.2.1, arr_cell hA2 (q _ _).2.2.1⟩)
 have hlast : (((j + 1 : Nat) : Int) == secN (bs.length : Int)) = decide (j + 1 = ks.length) := by
  rw [← hW.cnt]
  by_cases e : j + 1 = ks.length
  · rw [e]; simp
  · rw [decide_eq_false e]; simp; omega
 have HSN := hide hlast
 generalize decide (j + 1 = ks.length) = last at *
 have hj1 : ((j + 1 : Nat) : Int) < (k : Int) ↔ j + 1 < k := by omega
 have hnx0 : ¬ j + 1 < k → nx = 0 := fun e => by rw [hnx, List.getD_eq_getElem?_getD, List.getElem?_eq_none (by omega)]; rfl
 have cnx : j + 1 < k → w.cell? ⟨gn, j + 1, none⟩ = some (.int .i64 (nx : Int)) := fun e => by rw [hnx]; exact hW.row.at (by omega)
 generalize sectK bs ks j = sk at *
 generalize (bs.length : Int) = bl at *
 generalize hhv : (shaOf bs).map (Value.int .u8) = hv at *
 have hiK : (Tryd.prog.info? 32).map (·.size) = some hv.length := by rw [← hhv]; exact infoKey hsl
 generalize hj1e : j + 1 = j1 at *
 have hjk : (j : Int) < (k : Int) := by omega
 have hj1I : ((j1 : Nat) : Int) = (j : Int) + 1 := by omega
 have HJ1 := hide hj1I
 have HJ1E := hide hj1e
 have HNX0 := hide hnx0
 have HCNX := hide cnx
 have HK := hide hk
 have HB0 := hide hbeq
 have h36 := c36
 have h34 := c34
 clear hsl hla hxs hrest hpa hra2 hrn hm hk hnj hnx hW hD hX hks hw0 hw1 hwl ht hrl hrm hrz hrc hV0 hV34 hV35 hV36 hV37 hnjl hnxl hpc hrs cj c0 c34 c35 c36 c37 cr hlast hj1 hnx0 cnx hhv hbeq hj1e hj1I hk2185
 go_enter Tryd.func32, Tryd.ntmps32
 go_wp2_with fail
 refine (unhide HBH w _ h36 h34).mono ?_
 rintro e w1 ⟨rfl, hw1⟩
 rw [HB0.out]
 have hb1 : Below w.heap.size w w1 := by rw [hw1]; exact (Below.refl _ _).drew
 clear hw1 h36 h34 HB0
 go_wp2_with fail
 refine wp_region_held_drew (S := fun W => W.cell? ⟨pw, 36, none⟩ = some (.int .i64 (j : Int)) ∧ W.cell? ⟨pw, 35, none⟩ = some (.slice (some ⟨gn, 0, none⟩) k cn) ∧ W.cell? ⟨pw, 37, none⟩ = some (.slice ra rn rc) ∧ W.cell? ⟨pw, 0, none⟩ = some (.pointer (some ⟨p, 0, none⟩)) ∧ W.cell? ⟨gn, j, none⟩ = some (.int .i64 (nj : Int)) ∧ W.rangeAt pw 1 hv) (by kernel_rfl) (unhide HS _ (Up.of_below hb1.drew)) (fun hHeld => ?_)
 refine wpAnyH_take (i := 0) (v := .pointer (some ⟨pw, 0, none⟩)) rfl (by kernel_rfl) (by kernel_rfl) (by kernel_rfl) (fun _ _ _ h => h) (Or.inl ⟨by rfl, fun w hSw => by obtain ⟨hS1, hS2, hS3, hS4, hS5, hS6⟩ := hSw; go_simp⟩) (by assumption) ?_
 simp only [fGa, fGz, Act.put, fSa, fSz, fSs]
 refine wpAnyH_take (i := 1) (v := .pointer (some ⟨pw, 0, none⟩)) rfl (by kernel_rfl) (by kernel_rfl) (by kernel_rfl) (fun _ _ _ h => h) (Or.inl ⟨by rfl, fun w hSw => by obtain ⟨hS1, hS2, hS3, hS4, hS5, hS6⟩ := hSw; go_simp⟩) (by assumption) ?_
 simp only [fGa, fGs, fGz, Act.put, fSa, fSz, fSs]
 refine wpAnyH_take (i := 2) (v := .pointer (some ⟨pw, 0, none⟩)) rfl (by kernel_rfl) (by kernel_rfl) (by kernel_rfl) (fun _ _ _ h => h) (Or.inl ⟨by rfl, fun w hSw => by obtain ⟨hS1, hS2, hS3, hS4, hS5, hS6⟩ := hSw; go_simp⟩) (by assumption) ?_
 simp only [fGa, fGs, fGz, Act.put, fSa, fSz, fSs]
 refine wpAnyH_take (i := 3) (v := .pointer (some ⟨pw, 36, none⟩)) rfl (by kernel_rfl) (by kernel_rfl) (by kernel_rfl) (fun _ _ _ h => h) (Or.inl ⟨by rfl, fun w hSw => by obtain ⟨hS1, hS2, hS3, hS4, hS5, hS6⟩ := hSw; go_simp⟩) (by assumption) ?_
 simp only [fGa, fGs, fGz, Act.put, fSa, fSz, fSs]
 refine wpAnyH_take (i := 4) (v := .int .i64 (j : Int)) rfl (by kernel_rfl) (by kernel_rfl) (by kernel_rfl) (fun _ _ _ h => h) (Or.inl ⟨by rfl, fun w hSw => by obtain ⟨hS1, hS2, hS3, hS4, hS5, hS6⟩ := hSw; go_simp⟩) (by assumption) ?_
 simp only [fGa, fGs, fGz, Act.put, fSa, fSz, fSs]
 refine wpAnyH_take (i := 5) (v := .int .i64 (j1 : Int)) rfl (by kernel_rfl) (by kernel_rfl) (by kernel_rfl) (fun _ _ _ h => h) (Or.inl ⟨by rfl, fun w hSw => by obtain ⟨hS1, hS2, hS3, hS4, hS5, hS6⟩ := hSw; go_simp⟩) (by assumption) ?_
 simp only [fGa, fGs, fGz, Act.put, fSa, fSz, fSs]
 refine wpAnyH_take (i := 6) (v := .pointer (some ⟨pw, 0, none⟩)) rfl (by kernel_rfl) (by kernel_rfl) (by kernel_rfl) (fun _ _ _ h => h) (Or.inl ⟨by rfl, fun w hSw => by obtain ⟨hS1, hS2, hS3, hS4, hS5, hS6⟩ := hSw; go_simp⟩) (by assumption) ?_
 simp only [fGa, fGs, fGz, Act.put, fSa, fSz, fSs]
 refine wpAnyH_take (i := 7) (v := .pointer (some ⟨pw, 0, none⟩)) rfl (by kernel_rfl) (by kernel_rfl) (by kernel_rfl) (fun _ _ _ h => h) (Or.inl ⟨by rfl, fun w hSw => by obtain ⟨hS1, hS2, hS3, hS4, hS5, hS6⟩ := hSw; go_simp⟩) (by assumption) ?_
 simp only [fGa, fGs, fGz, Act.put, fSa, fSz, fSs]
 refine wpAnyH_take (i := 8) (v := .pointer (some ⟨pw, 0, none⟩)) rfl (by kernel_rfl) (by kernel_rfl) (by kernel_rfl) (fun _ _ _ h => h) (Or.inl ⟨by rfl, fun w hSw => by obtain ⟨hS1, hS2, hS3, hS4, hS5, hS6⟩ := hSw; go_simp⟩) (by assumption) ?_
 simp only [fGa, fGs, fGz, Act.put, fSa, fSz, fSs]
 refine wpAnyH_take (i := 9) (v := .pointer (some ⟨pw, 35, none⟩)) rfl (by kernel_rfl) (by kernel_rfl) (by kernel_rfl) (fun _ _ _ h => h) (Or.inl ⟨by rfl, fun w hSw => by obtain ⟨hS1, hS2, hS3, hS4, hS5, hS6⟩ := hSw; go_simp⟩) (by assumption) ?_
 simp only [fGa, fGs, fGz, Act.put, fSa, fSz, fSs]
 refine wpAnyH_take (i := 10) (v := .slice (some ⟨gn, 0, none⟩) k cn) rfl (by kernel_rfl) (by kernel_rfl) (by kernel_rfl) (fun _ _ _ h => h) (Or.inl ⟨by rfl, fun w hSw => by obtain ⟨hS1, hS2, hS3, hS4, hS5, hS6⟩ := hSw; go_simp⟩) (by assumption) ?_
 simp only [fGa, fGs, fGz, Act.put, fSa, fSz, fSs]
 refine wpAnyH_take (i := 11) (v := .int .i64 (k : Int)) rfl (by kernel_rfl) (by kernel_rfl) (by kernel_rfl) (fun _ _ _ h => h) (Or.inl ⟨by rfl, fun w hSw => by obtain ⟨hS1, hS2, hS3, hS4, hS5, hS6⟩ := hSw; go_simp⟩) (by assumption) ?_
 simp only [fGa, fGs, fGz, Act.put, fSa, fSz, fSs]
 refine wpAnyH_take (i := 12) (v := .bool (decide ((j1 : Int) < (k : Int)))) rfl (by kernel_rfl) (by kernel_rfl) (by kernel_rfl) (fun _ _ _ h => h) (Or.inl ⟨by rfl, fun w hSw => by obtain ⟨hS1, hS2, hS3, hS4, hS5, hS6⟩ := hSw; go_simp⟩) (by assumption) ?_
 simp only [fGa, fGs, fGz, Act.put, fSa, fSz, fSs]
 refine wpAnyH_done (by kernel_rfl) ?_ _
 by_cases hlt : j1 < k
 · have hltI : (j1 : Int) < (k : Int) := by omega
   have hc1 := bkeptC hb1.drew.drew (unhide HCNX hlt)
   clear HNX0 HCNX hlt
   go_wp2_with fail
   refine wp_region_held_drew (S := fun W => (W.cell? ⟨pw, 36, none⟩ = some (.int .i64 (j : Int)) ∧ W.cell? ⟨pw, 35, none⟩ = some (.slice (some ⟨gn, 0, none⟩) k cn) ∧ W.cell? ⟨pw, 37, none⟩ = some (.slice ra rn rc) ∧ W.cell? ⟨pw, 0, none⟩ = some (.pointer (some ⟨p, 0, none⟩)) ∧ W.cell? ⟨gn, j, none⟩ = some (.int .i64 (nj : Int)) ∧ W.rangeAt pw 1 hv) ∧ W.cell? ⟨gn, j1, none⟩ = some (.int .i64 (nx : Int))) (by kernel_rfl) (⟨unhide HS _ (Up.of_below hb1.drew.drew), hc1⟩) (fun hHeld => ?_)
   refine wpAnyH_take (i := 0) (v := .pointer (some ⟨pw, 0, none⟩)) rfl (by kernel_rfl) (by kernel_rfl) (by kernel_rfl) (fun _ _ _ h => h) (Or.inl ⟨by rfl, fun w hSw => by obtain ⟨⟨hS1, hS2, hS3, hS4, hS5, hS6⟩, hS7⟩ := hSw; go_simp⟩) (by assumption) ?_
   simp only [fGa, fGz, Act.put, fSa, fSz, fSs]
   refine wpAnyH_take (i := 1) (v := .pointer (some ⟨pw, 0, none⟩)) rfl (by kernel_rfl) (by kernel_rfl) (by kernel_rfl) (fun _ _ _ h => h) (Or.inl ⟨by rfl, fun w hSw => by obtain ⟨⟨hS1, hS2, hS3, hS4, hS5, hS6⟩, hS7⟩ := hSw; go_simp⟩) (by assumption) ?_
   simp only [fGa, fGs, fGz, Act.put, fSa, fSz, fSs]
   refine wpAnyH_take (i := 2) (v := .pointer (some ⟨pw, 0, none⟩)) rfl (by kernel_rfl) (by kernel_rfl) (by kernel_rfl) (fun _ _ _ h => h) (Or.inl ⟨by rfl, fun w hSw => by obtain ⟨⟨hS1, hS2, hS3, hS4, hS5, hS6⟩, hS7⟩ := hSw; go_simp⟩) (by assumption) ?_
   simp only [fGa, fGs, fGz, Act.put, fSa, fSz, fSs]
   refine wpAnyH_take (i := 3) (v := .pointer (some ⟨pw, 35, none⟩)) rfl (by kernel_rfl) (by kernel_rfl) (by kernel_rfl) (fun _ _ _ h => h) (Or.inl ⟨by rfl, fun w hSw => by obtain ⟨⟨hS1, hS2, hS3, hS4, hS5, hS6⟩, hS7⟩ := hSw; go_simp⟩) (by assumption) ?_
   simp only [fGa, fGs, fGz, Act.put, fSa, fSz, fSs]
   refine wpAnyH_take (i := 4) (v := .slice (some ⟨gn, 0, none⟩) k cn) rfl (by kernel_rfl) (by kernel_rfl) (by kernel_rfl) (fun _ _ _ h => h) (Or.inl ⟨by rfl, fun w hSw => by obtain ⟨⟨hS1, hS2, hS3, hS4, hS5, hS6⟩, hS7⟩ := hSw; go_simp⟩) (by assumption) ?_
   simp only [fGa, fGs, fGz, Act.put, fSa, fSz, fSs]
   refine wpAnyH_take (i := 5) (v := .pointer (some ⟨pw, 0, none⟩)) rfl (by kernel_rfl) (by kernel_rfl) (by kernel_rfl) (fun _ _ _ h => h) (Or.inl ⟨by rfl, fun w hSw => by obtain ⟨⟨hS1, hS2, hS3, hS4, hS5, hS6⟩, hS7⟩ := hSw; go_simp⟩) (by assumption) ?_
   simp only [fGa, fGs, fGz, Act.put, fSa, fSz, fSs]
   refine wpAnyH_take (i := 6) (v := .pointer (some ⟨pw, 0, none⟩)) rfl (by kernel_rfl) (by kernel_rfl) (by kernel_rfl) (fun _ _ _ h => h) (Or.inl ⟨by rfl, fun w hSw => by obtain ⟨⟨hS1, hS2, hS3, hS4, hS5, hS6⟩, hS7⟩ := hSw; go_simp⟩) (by assumption) ?_
   simp only [fGa, fGs, fGz, Act.put, fSa, fSz, fSs]
   refine wpAnyH_take (i := 7) (v := .pointer (some ⟨pw, 0, none⟩)) rfl (by kernel_rfl) (by kernel_rfl) (by kernel_rfl) (fun _ _ _ h => h) (Or.inl ⟨by rfl, fun w hSw => by obtain ⟨⟨hS1, hS2, hS3, hS4, hS5, hS6⟩, hS7⟩ := hSw; go_simp⟩) (by assumption) ?_
   simp only [fGa, fGs, fGz, Act.put, fSa, fSz, fSs]
   refine wpAnyH_take (i := 8) (v := .pointer (some ⟨pw, 36, none⟩)) rfl (by kernel_rfl) (by kernel_rfl) (by kernel_rfl) (fun _ _ _ h => h) (Or.inl ⟨by rfl, fun w hSw => by obtain ⟨⟨hS1, hS2, hS3, hS4, hS5, hS6⟩, hS7⟩ := hSw; go_simp⟩) (by assumption) ?_
   simp only [fGa, fGs, fGz, Act.put, fSa, fSz, fSs]
   refine wpAnyH_take (i := 9) (v := .int .i64 (j : Int)) rfl (by kernel_rfl) (by kernel_rfl) (by kernel_rfl) (fun _ _ _ h => h) (Or.inl ⟨by rfl, fun w hSw => by obtain ⟨⟨hS1, hS2, hS3, hS4, hS5, hS6⟩, hS7⟩ := hSw; go_simp⟩) (by assumption) ?_
   simp only [fGa, fGs, fGz, Act.put, fSa, fSz, fSs]
   refine wpAnyH_take (i := 10) (v := .int .i64 (j1 : Int)) rfl (by kernel_rfl) (by kernel_rfl) (by kernel_rfl) (fun _ _ _ h => h) (Or.inl ⟨by rfl, fun w hSw => by obtain ⟨⟨hS1, hS2, hS3, hS4, hS5, hS6⟩, hS7⟩ := hSw; go_simp⟩) (by assumption) ?_
   simp only [fGa, fGs, fGz, Act.put, fSa, fSz, fSs]
   refine wpAnyH_take (i := 11) (v := .pointer (some ⟨gn, j1, none⟩)) rfl (by kernel_rfl) (by kernel_rfl) (by kernel_rfl) (fun _ _ _ h => h) (Or.inl ⟨by rfl, fun w hSw => by obtain ⟨⟨hS1, hS2, hS3, hS4, hS5, hS6⟩, hS7⟩ := hSw; go_simp⟩) (by assumption) ?_
   simp only [fGa, fGs, fGz, Act.put, fSa, fSz, fSs]
   refine wpAnyH_take (i := 12) (v := .int .i64 (nx : Int)) rfl (by kernel_rfl) (by kernel_rfl) (by kernel_rfl) (fun _ _ _ h => h) (Or.inl ⟨by rfl, fun w hSw => by obtain ⟨⟨hS1, hS2, hS3, hS4, hS5, hS6⟩, hS7⟩ := hSw; go_simp⟩) (by assumption) ?_
   simp only [fGa, fGs, fGz, Act.put, fSa, fSz, fSs]
   refine wpAnyH_take (i := 13) (v := .int .i64 (nx : Int)) rfl (by kernel_rfl) (by kernel_rfl) (by kernel_rfl) (fun _ _ _ h => h) (Or.inl ⟨by rfl, fun w hSw => by obtain ⟨⟨hS1, hS2, hS3, hS4, hS5, hS6⟩, hS7⟩ := hSw; go_simp⟩) (by assumption) ?_
   simp only [fGa, fGs, fGz, Act.put, fSa, fSz, fSs]
   refine wpAnyH_done (by kernel_rfl) ?_ _
   clear hc1 hHeld
   go_wp2_with fail
   refine wp_region_held_drew (S := fun W => W.cell? ⟨pw, 36, none⟩ = some (.int .i64 (j : Int)) ∧ W.cell? ⟨pw, 35, none⟩ = some (.slice (some ⟨gn, 0, none⟩) k cn) ∧ W.cell? ⟨pw, 37, none⟩ = some (.slice ra rn rc) ∧ W.cell? ⟨pw, 0, none⟩ = some (.pointer (some ⟨p, 0, none⟩)) ∧ W.cell? ⟨gn, j, none⟩ = some (.int .i64 (nj : Int)) ∧ W.rangeAt pw 1 hv) (by kernel_rfl) (unhide HS _ (Up.of_below hb1.drew.drew.drew)) (fun hHeld => ?_)
   refine wpAnyH_take (i := 0) (v := .pointer (some ⟨pw, 0, none⟩)) rfl (by kernel_rfl) (by kernel_rfl) (by kernel_rfl) (fun _ _ _ h => h) (Or.inl ⟨by rfl, fun w hSw => by obtain ⟨hS1, hS2, hS3, hS4, hS5, hS6⟩ := hSw; go_simp⟩) (by assumption) ?_
   simp only [fGa, fGz, Act.put, fSa, fSz, fSs]
   refine wpAnyH_take (i := 1) (v := .pointer (some ⟨pw, 0, none⟩)) rfl (by kernel_rfl) (by kernel_rfl) (by kernel_rfl) (fun _ _ _ h => h) (Or.inl ⟨by rfl, fun w hSw => by obtain ⟨hS1, hS2, hS3, hS4, hS5, hS6⟩ := hSw; go_simp⟩) (by assumption) ?_
   simp only [fGa, fGs, fGz, Act.put, fSa, fSz, fSs]
   refine wpAnyH_take (i := 2) (v := .pointer (some ⟨pw, 37, none⟩)) rfl (by kernel_rfl) (by kernel_rfl) (by kernel_rfl) (fun _ _ _ h => h) (Or.inl ⟨by rfl, fun w hSw => by obtain ⟨hS1, hS2, hS3, hS4, hS5, hS6⟩ := hSw; go_simp⟩) (by assumption) ?_
   simp only [fGa, fGs, fGz, Act.put, fSa, fSz, fSs]
   refine wpAnyH_take (i := 3) (v := .slice (ra) rn rc) rfl (by kernel_rfl) (by kernel_rfl) (by kernel_rfl) (fun _ _ _ h => h) (Or.inl ⟨by rfl, fun w hSw => by obtain ⟨hS1, hS2, hS3, hS4, hS5, hS6⟩ := hSw; go_simp⟩) (by assumption) ?_
   simp only [fGa, fGs, fGz, Act.put, fSa, fSz, fSs]
   refine wpAnyH_take (i := 4) (v := .pointer (some ⟨pw, 0, none⟩)) rfl (by kernel_rfl) (by kernel_rfl) (by kernel_rfl) (fun _ _ _ h => h) (Or.inl ⟨by rfl, fun w hSw => by obtain ⟨hS1, hS2, hS3, hS4, hS5, hS6⟩ := hSw; go_simp⟩) (by assumption) ?_
   simp only [fGa, fGs, fGz, Act.put, fSa, fSz, fSs]
   refine wpAnyH_take (i := 5) (v := .pointer (some ⟨pw, 0, none⟩)) rfl (by kernel_rfl) (by kernel_rfl) (by kernel_rfl) (fun _ _ _ h => h) (Or.inl ⟨by rfl, fun w hSw => by obtain ⟨hS1, hS2, hS3, hS4, hS5, hS6⟩ := hSw; go_simp⟩) (by assumption) ?_
   simp only [fGa, fGs, fGz, Act.put, fSa, fSz, fSs]
   refine wpAnyH_take (i := 6) (v := .pointer (some ⟨pw, 37, none⟩)) rfl (by kernel_rfl) (by kernel_rfl) (by kernel_rfl) (fun _ _ _ h => h) (Or.inl ⟨by rfl, fun w hSw => by obtain ⟨hS1, hS2, hS3, hS4, hS5, hS6⟩ := hSw; go_simp⟩) (by assumption) ?_
   simp only [fGa, fGs, fGz, Act.put, fSa, fSz, fSs]
   refine wpAnyH_take (i := 7) (v := .slice (ra) rn rc) rfl (by kernel_rfl) (by kernel_rfl) (by kernel_rfl) (fun _ _ _ h => h) (Or.inl ⟨by rfl, fun w hSw => by obtain ⟨hS1, hS2, hS3, hS4, hS5, hS6⟩ := hSw; go_simp⟩) (by assumption) ?_
   simp only [fGa, fGs, fGz, Act.put, fSa, fSz, fSs]
   refine wpAnyH_take (i := 8) (v := .int .i64 (rn : Int)) rfl (by kernel_rfl) (by kernel_rfl) (by kernel_rfl) (fun _ _ _ h => h) (Or.inl ⟨by rfl, fun w hSw => by obtain ⟨hS1, hS2, hS3, hS4, hS5, hS6⟩ := hSw; go_simp⟩) (by assumption) ?_
   simp only [fGa, fGs, fGz, Act.put, fSa, fSz, fSs]
   refine wpAnyH_take (i := 9) (v := .int .i64 (m : Int)) rfl (by kernel_rfl) (by kernel_rfl) (by kernel_rfl) (fun _ _ _ h => h) (Or.inl ⟨by rfl, fun w hSw => by obtain ⟨hS1, hS2, hS3, hS4, hS5, hS6⟩ := hSw; go_simp⟩) (by assumption) ?_
   simp only [fGa, fGs, fGz, Act.put, fSa, fSz, fSs]
   refine wpAnyH_take (i := 10) (v := .slice (pa) m rc) rfl (by kernel_rfl) (by kernel_rfl) (by kernel_rfl) (fun _ _ _ h => h) (Or.inl ⟨by rfl, fun w hSw => by obtain ⟨hS1, hS2, hS3, hS4, hS5, hS6⟩ := hSw; go_simp⟩) (by assumption) ?_
   simp only [fGa, fGs, fGz, Act.put, fSa, fSz, fSs]
   refine wpAnyH_take (i := 11) (v := .slice (pa) m rc) rfl (by kernel_rfl) (by kernel_rfl) (by kernel_rfl) (fun _ _ _ h => h) (Or.inl ⟨by rfl, fun w hSw => by obtain ⟨hS1, hS2, hS3, hS4, hS5, hS6⟩ := hSw; go_simp⟩) (by assumption) ?_
   simp only [fGa, fGs, fGz, Act.put, fSa, fSz, fSs]
   refine wpAnyH_done (by kernel_rfl) ?_ _
   clear hHeld
   go_wp2_with fail
   refine wp_region_held_drew (S := fun W => W.cell? ⟨pw, 36, none⟩ = some (.int .i64 (j : Int)) ∧ W.cell? ⟨pw, 35, none⟩ = some (.slice (some ⟨gn, 0, none⟩) k cn) ∧ W.cell? ⟨pw, 37, none⟩ = some (.slice ra rn rc) ∧ W.cell? ⟨pw, 0, none⟩ = some (.pointer (some ⟨p, 0, none⟩)) ∧ W.cell? ⟨gn, j, none⟩ = some (.int .i64 (nj : Int)) ∧ W.rangeAt pw 1 hv) (by kernel_rfl) (unhide HS _ (Up.of_below hb1.drew.drew.drew.drew)) (fun hHeld => ?_)
   refine wpAnyH_take (i := 0) (v := .pointer (some ⟨pw, 0, none⟩)) rfl (by kernel_rfl) (by kernel_rfl) (by kernel_rfl) (fun _ _ _ h => h) (Or.inl ⟨by rfl, fun w hSw => by obtain ⟨hS1, hS2, hS3, hS4, hS5, hS6⟩ := hSw; go_simp⟩) (by assumption) ?_
   simp only [fGa, fGz, Act.put, fSa, fSz, fSs]
   refine wpAnyH_take (i := 1) (v := .pointer (some ⟨pw, 0, none⟩)) rfl (by kernel_rfl) (by kernel_rfl) (by kernel_rfl) (fun _ _ _ h => h) (Or.inl ⟨by rfl, fun w hSw => by obtain ⟨hS1, hS2, hS3, hS4, hS5, hS6⟩ := hSw; go_simp⟩) (by assumption) ?_
   simp only [fGa, fGs, fGz, Act.put, fSa, fSz, fSs]
   refine wpAnyH_take (i := 2) (v := .pointer (some ⟨pw, 0, none⟩)) rfl (by kernel_rfl) (by kernel_rfl) (by kernel_rfl) (fun _ _ _ h => h) (Or.inl ⟨by rfl, fun w hSw => by obtain ⟨hS1, hS2, hS3, hS4, hS5, hS6⟩ := hSw; go_simp⟩) (by assumption) ?_
   simp only [fGa, fGs, fGz, Act.put, fSa, fSz, fSs]
   refine wpAnyH_take (i := 3) (v := .pointer (some ⟨pw, 0, none⟩)) rfl (by kernel_rfl) (by kernel_rfl) (by kernel_rfl) (fun _ _ _ h => h) (Or.inl ⟨by rfl, fun w hSw => by obtain ⟨hS1, hS2, hS3, hS4, hS5, hS6⟩ := hSw; go_simp⟩) (by assumption) ?_
   simp only [fGa, fGs, fGz, Act.put, fSa, fSz, fSs]
   refine wpAnyH_take (i := 4) (v := .pointer (some ⟨p, 0, none⟩)) rfl (by kernel_rfl) (by kernel_rfl) (by kernel_rfl) (fun _ _ _ h => h) (Or.inl ⟨by rfl, fun w hSw => by obtain ⟨hS1, hS2, hS3, hS4, hS5, hS6⟩ := hSw; go_simp⟩) (by assumption) ?_
   simp only [fGa, fGs, fGz, Act.put, fSa, fSz, fSs]
   refine wpAnyH_take (i := 5) (v := .pointer (some ⟨pw, 0, none⟩)) rfl (by kernel_rfl) (by kernel_rfl) (by kernel_rfl) (fun _ _ _ h => h) (Or.inl ⟨by rfl, fun w hSw => by obtain ⟨hS1, hS2, hS3, hS4, hS5, hS6⟩ := hSw; go_simp⟩) (by assumption) ?_
   simp only [fGa, fGs, fGz, Act.put, fSa, fSz, fSs]
   refine wpAnyH_take (i := 6) (v := .pointer (some ⟨pw, 0, none⟩)) rfl (by kernel_rfl) (by kernel_rfl) (by kernel_rfl) (fun _ _ _ h => h) (Or.inl ⟨by rfl, fun w hSw => by obtain ⟨hS1, hS2, hS3, hS4, hS5, hS6⟩ := hSw; go_simp⟩) (by assumption) ?_
   simp only [fGa, fGs, fGz, Act.put, fSa, fSz, fSs]
   refine wpAnyH_take (i := 7) (v := .pointer (some ⟨pw, 0, none⟩)) rfl (by kernel_rfl) (by kernel_rfl) (by kernel_rfl) (fun _ _ _ h => h) (Or.inl ⟨by rfl, fun w hSw => by obtain ⟨hS1, hS2, hS3, hS4, hS5, hS6⟩ := hSw; go_simp⟩) (by assumption) ?_
   simp only [fGa, fGs, fGz, Act.put, fSa, fSz, fSs]
   refine wpAnyH_take (i := 8) (v := .pointer (some ⟨pw, 35, none⟩)) rfl (by kernel_rfl) (by kernel_rfl) (by kernel_rfl) (fun _ _ _ h => h) (Or.inl ⟨by rfl, fun w hSw => by obtain ⟨hS1, hS2, hS3, hS4, hS5, hS6⟩ := hSw; go_simp⟩) (by assumption) ?_
   simp only [fGa, fGs, fGz, Act.put, fSa, fSz, fSs]
   refine wpAnyH_take (i := 9) (v := .slice (some ⟨gn, 0, none⟩) k cn) rfl (by kernel_rfl) (by kernel_rfl) (by kernel_rfl) (fun _ _ _ h => h) (Or.inl ⟨by rfl, fun w hSw => by obtain ⟨hS1, hS2, hS3, hS4, hS5, hS6⟩ := hSw; go_simp⟩) (by assumption) ?_
   simp only [fGa, fGs, fGz, Act.put, fSa, fSz, fSs]
   refine wpAnyH_take (i := 10) (v := .pointer (some ⟨pw, 0, none⟩)) rfl (by kernel_rfl) (by kernel_rfl) (by kernel_rfl) (fun _ _ _ h => h) (Or.inl ⟨by rfl, fun w hSw => by obtain ⟨hS1, hS2, hS3, hS4, hS5, hS6⟩ := hSw; go_simp⟩) (by assumption) ?_
   simp only [fGa, fGs, fGz, Act.put, fSa, fSz, fSs]
   refine wpAnyH_take (i := 11) (v := .pointer (some ⟨pw, 0, none⟩)) rfl (by kernel_rfl) (by kernel_rfl) (by kernel_rfl) (fun _ _ _ h => h) (Or.inl ⟨by rfl, fun w hSw => by obtain ⟨hS1, hS2, hS3, hS4, hS5, hS6⟩ := hSw; go_simp⟩) (by assumption) ?_
   simp only [fGa, fGs, fGz, Act.put, fSa, fSz, fSs]
   refine wpAnyH_take (i := 12) (v := .pointer (some ⟨pw, 0, none⟩)) rfl (by kernel_rfl) (by kernel_rfl) (by kernel_rfl) (fun _ _ _ h => h) (Or.inl ⟨by rfl, fun w hSw => by obtain ⟨hS1, hS2, hS3, hS4, hS5, hS6⟩ := hSw; go_simp⟩) (by assumption) ?_
   simp only [fGa, fGs, fGz, Act.put, fSa, fSz, fSs]
   refine wpAnyH_take (i := 13) (v := .pointer (some ⟨pw, 36, none⟩)) rfl (by kernel_rfl) (by kernel_rfl) (by kernel_rfl) (fun _ _ _ h => h) (Or.inl ⟨by rfl, fun w hSw => by obtain ⟨hS1, hS2, hS3, hS4, hS5, hS6⟩ := hSw; go_simp⟩) (by assumption) ?_
   simp only [fGa, fGs, fGz, Act.put, fSa, fSz, fSs]
   refine wpAnyH_take (i := 14) (v := .int .i64 (j : Int)) rfl (by kernel_rfl) (by kernel_rfl) (by kernel_rfl) (fun _ _ _ h => h) (Or.inl ⟨by rfl, fun w hSw => by obtain ⟨hS1, hS2, hS3, hS4, hS5, hS6⟩ := hSw; go_simp⟩) (by assumption) ?_
   simp only [fGa, fGs, fGz, Act.put, fSa, fSz, fSs]
   refine wpAnyH_take (i := 15) (v := .pointer (some ⟨gn, j, none⟩)) rfl (by kernel_rfl) (by kernel_rfl) (by kernel_rfl) (fun _ _ _ h => h) (Or.inl ⟨by rfl, fun w hSw => by obtain ⟨hS1, hS2, hS3, hS4, hS5, hS6⟩ := hSw; go_simp⟩) (by assumption) ?_
   simp only [fGa, fGs, fGz, Act.put, fSa, fSz, fSs]
   refine wpAnyH_take (i := 16) (v := .int .i64 (nj : Int)) rfl (by kernel_rfl) (by kernel_rfl) (by kernel_rfl) (fun _ _ _ h => h) (Or.inl ⟨by rfl, fun w hSw => by obtain ⟨hS1, hS2, hS3, hS4, hS5, hS6⟩ := hSw; go_simp⟩) (by assumption) ?_
   simp only [fGa, fGs, fGz, Act.put, fSa, fSz, fSs]
   refine wpAnyH_take (i := 17) (v := .slice (pa) m rc) rfl (by kernel_rfl) (by kernel_rfl) (by kernel_rfl) (fun _ _ _ h => h) (Or.inl ⟨by rfl, fun w hSw => by obtain ⟨hS1, hS2, hS3, hS4, hS5, hS6⟩ := hSw; go_simp⟩) (by assumption) ?_
   simp only [fGa, fGs, fGz, Act.put, fSa, fSz, fSs]
   refine wpAnyH_take (i := 18) (v := .pointer (some ⟨pw, 0, none⟩)) rfl (by kernel_rfl) (by kernel_rfl) (by kernel_rfl) (fun _ _ _ h => h) (Or.inl ⟨by rfl, fun w hSw => by obtain ⟨hS1, hS2, hS3, hS4, hS5, hS6⟩ := hSw; go_simp⟩) (by assumption) ?_
   simp only [fGa, fGs, fGz, Act.put, fSa, fSz, fSs]
   refine wpAnyH_take (i := 19) (v := .pointer (some ⟨pw, 0, none⟩)) rfl (by kernel_rfl) (by kernel_rfl) (by kernel_rfl) (fun _ _ _ h => h) (Or.inl ⟨by rfl, fun w hSw => by obtain ⟨hS1, hS2, hS3, hS4, hS5, hS6⟩ := hSw; go_simp⟩) (by assumption) ?_
   simp only [fGa, fGs, fGz, Act.put, fSa, fSz, fSs]
   refine wpAnyH_take (i := 20) (v := .pointer (some ⟨pw, 0, none⟩)) rfl (by kernel_rfl) (by kernel_rfl) (by kernel_rfl) (fun _ _ _ h => h) (Or.inl ⟨by rfl, fun w hSw => by obtain ⟨hS1, hS2, hS3, hS4, hS5, hS6⟩ := hSw; go_simp⟩) (by assumption) ?_
   simp only [fGa, fGs, fGz, Act.put, fSa, fSz, fSs]
   refine wpAnyH_take (i := 21) (v := .pointer (some ⟨pw, 1, none⟩)) rfl (by kernel_rfl) (by kernel_rfl) (by kernel_rfl) (fun _ _ _ h => h) (Or.inl ⟨by rfl, fun w hSw => by obtain ⟨hS1, hS2, hS3, hS4, hS5, hS6⟩ := hSw; go_simp⟩) (by assumption) ?_
   simp only [fGa, fGs, fGz, Act.put, fSa, fSz, fSs]
   refine wpAnyH_take (i := 22) (v := .pointer (some ⟨pw, 1, none⟩)) rfl (by kernel_rfl) (by kernel_rfl) (by kernel_rfl) (fun _ _ _ h => h) (Or.inl ⟨by rfl, fun w hSw => by obtain ⟨hS1, hS2, hS3, hS4, hS5, hS6⟩ := hSw; go_simp⟩) (by assumption) ?_
   simp only [fGa, fGs, fGz, Act.put, fSa, fSz, fSs]
   refine wpAnyH_take (i := 23) (v := .agg (hv).toArray) rfl (by kernel_rfl) (by kernel_rfl) (by kernel_rfl) (fun _ _ _ h => h) (yieldsIf_load_mid (by rfl) _ _ rfl _ _ rfl _ _ (fun w hSw => hSw.2.2.2.2.2) Tryd.underlying32 rfl hiK) (by assumption) ?_
   simp only [fGa, fGs, fGz, Act.put, fSa, fSz, fSs]
   refine wpAnyH_take (i := 24) (v := .pointer (some ⟨pw, 0, none⟩)) rfl (by kernel_rfl) (by kernel_rfl) (by kernel_rfl) (fun _ _ _ h => h) (Or.inl ⟨by rfl, fun w hSw => by obtain ⟨hS1, hS2, hS3, hS4, hS5, hS6⟩ := hSw; go_simp⟩) (by assumption) ?_
   simp only [fGa, fGs, fGz, Act.put, fSa, fSz, fSs]
   refine wpAnyH_take (i := 25) (v := .pointer (some ⟨pw, 0, none⟩)) rfl (by kernel_rfl) (by kernel_rfl) (by kernel_rfl) (fun _ _ _ h => h) (Or.inl ⟨by rfl, fun w hSw => by obtain ⟨hS1, hS2, hS3, hS4, hS5, hS6⟩ := hSw; go_simp⟩) (by assumption) ?_
   simp only [fGa, fGs, fGz, Act.put, fSa, fSz, fSs]
   refine wpAnyH_take (i := 26) (v := .pointer (some ⟨pw, 0, none⟩)) rfl (by kernel_rfl) (by kernel_rfl) (by kernel_rfl) (fun _ _ _ h => h) (Or.inl ⟨by rfl, fun w hSw => by obtain ⟨hS1, hS2, hS3, hS4, hS5, hS6⟩ := hSw; go_simp⟩) (by assumption) ?_
   simp only [fGa, fGs, fGz, Act.put, fSa, fSz, fSs]
   refine wpAnyH_take (i := 27) (v := .pointer (some ⟨pw, 36, none⟩)) rfl (by kernel_rfl) (by kernel_rfl) (by kernel_rfl) (fun _ _ _ h => h) (Or.inl ⟨by rfl, fun w hSw => by obtain ⟨hS1, hS2, hS3, hS4, hS5, hS6⟩ := hSw; go_simp⟩) (by assumption) ?_
   simp only [fGa, fGs, fGz, Act.put, fSa, fSz, fSs]
   refine wpAnyH_take (i := 28) (v := .int .i64 (j : Int)) rfl (by kernel_rfl) (by kernel_rfl) (by kernel_rfl) (fun _ _ _ h => h) (Or.inl ⟨by rfl, fun w hSw => by obtain ⟨hS1, hS2, hS3, hS4, hS5, hS6⟩ := hSw; go_simp⟩) (by assumption) ?_
   simp only [fGa, fGs, fGz, Act.put, fSa, fSz, fSs]
   refine wpAnyH_take (i := 29) (v := .int .i64 (nx : Int)) rfl (by kernel_rfl) (by kernel_rfl) (by kernel_rfl) (fun _ _ _ h => h) (Or.inl ⟨by rfl, fun w hSw => by obtain ⟨hS1, hS2, hS3, hS4, hS5, hS6⟩ := hSw; go_simp⟩) (by assumption) ?_
   simp only [fGa, fGs, fGz, Act.put, fSa, fSz, fSs]
   refine wpAnyH_ready (rs := [30]) (by kernel_rfl) (by simp) (AllReadyH.cons rfl (fun K hK => ?_) AllReadyH.nil)
   refine step_call4C (by rfl) 66 sector4_enter (.tmp 65) (.tmp 71) (.tmp 76) (.tmp 77) _ rfl rfl rfl rfl rfl (unhide HSEC _ hb1.drew.drew.drew.drew) ?_
   rintro e w3 ⟨g, rfl, hA3, hg3, hb3⟩
   have hb4 : Below w.heap.size w w3 := below_then hb1.drew.drew.drew.drew hb3
   have hg4 : w.heap.size ≤ g := Nat.le_trans (hb1.drew.drew.drew.drew).size hg3
   refine ⟨_, rfl, ?_⟩
   refine hK.out _ _ (unhide HS _ (Up.of_below hb4)) (fun hHeld3 => ?_)
   clear hK K
   simp only [fGa, fGs, fGz, Act.put, fSa, fSz, fSs]
   refine wpAnyH_ready (rs := [31]) (by kernel_rfl) (by simp) (AllReadyH.cons rfl (fun K hK => ?_) AllReadyH.nil)
   refine step_call3C (by rfl) 65 wrt_enter (.tmp 52) (.tmp 64) (.tmp 78) _ rfl rfl rfl rfl (unhide HWRT _ g hb4 hg4 hA3) ?_
   rintro e w4 ⟨rfl, V', hD4, hF4, hU4⟩
   have hU5 : Up (Ft p gl gm V) w w4 := (Up.of_below hb4).trans hU4 (fun x hx => Or.inl hx)
   have hF5 : ∀ b, Ft p gl gm V' b → Ft p gl gm V b ∨ w.heap.size ≤ b := fun b hb => (hF4 b hb).imp id (fun h => Nat.le_trans hb4.size h)
   refine ⟨_, rfl, ?_⟩
   refine hK.out _ _ (unhide HS _ hU5) (fun hHeld4 => ?_)
   clear hK K
   simp only [fGa, fGs, fGz, Act.put, fSa, fSz, fSs]
   refine wpAnyH_take (i := 32) (v := .int .i64 0) rfl (by kernel_rfl) (by kernel_rfl) (by kernel_rfl) (fun _ _ _ h => h) (Or.inl ⟨by rfl, fun w hSw => by obtain ⟨hS1, hS2, hS3, hS4, hS5, hS6⟩ := hSw; go_simp⟩) (by assumption) ?_
   simp only [fGa, fGs, fGz, Act.put, fSa, fSz, fSs]
   refine wpAnyH_done (by kernel_rfl) ?_ _
   obtain ⟨q1, q2, q3, q4, q5, q6, q7⟩ := unhide HC w4 V' hD4 hU5
   have HF := hide (unhide HFIN w4 V' hD4 hF5 hU5)
   have HB2 := hide (unhide HBH _ _ q6 q7)
   clear hHeld hHeld3 hHeld4 hD4 hF4 hU4 hU5 hF5 hA3 hg3 hb3 hb4 hg4 HFIN HC HBH HSEC HWRT HS hb1 q6 q7
   go_wp2_with fail
   refine (unhide HB2).mono ?_
   rintro e w5 ⟨rfl, hw5⟩
   rw [HSN.out]
   go_wp2
   go_ret2
   obtain ⟨rv', V2, hrv, h1, h2, h3, h4, h5⟩ := HF.out
   subst hw5
   refine ⟨rv', V2, rfl, ?_, ?_, h3, h4, ?_⟩
   · exact h1.below (Below.refl _ _).drew
   · exact h2.up (F := fun _ => False) (Up.of_below (Below.refl _ _).drew) (fun _ _ h => h)
   · exact h5.then_below (Below.refl _ _).drew
 · have hltI : ¬ (j1 : Int) < (k : Int) := by omega
   obtain rfl := unhide HNX0 hlt
   clear HNX0 HCNX hlt
   go_wp2_with fail
   refine wp_region_held_drew (S := fun W => W.cell? ⟨pw, 36, none⟩ = some (.int .i64 (j : Int)) ∧ W.cell? ⟨pw, 35, none⟩ = some (.slice (some ⟨gn, 0, none⟩) k cn) ∧ W.cell? ⟨pw, 37, none⟩ = some (.slice ra rn rc) ∧ W.cell? ⟨pw, 0, none⟩ = some (.pointer (some ⟨p, 0, none⟩)) ∧ W.cell? ⟨gn, j, none⟩ = some (.int .i64 (nj : Int)) ∧ W.rangeAt pw 1 hv) (by kernel_rfl) (unhide HS _ (Up.of_below hb1.drew.drew)) (fun hHeld => ?_)
   refine wpAnyH_take (i := 0) (v := .pointer (some ⟨pw, 0, none⟩)) rfl (by kernel_rfl) (by kernel_rfl) (by kernel_rfl) (fun _ _ _ h => h) (Or.inl ⟨by rfl, fun w hSw => by obtain ⟨hS1, hS2, hS3, hS4, hS5, hS6⟩ := hSw; go_simp⟩) (by assumption) ?_
   simp only [fGa, fGz, Act.put, fSa, fSz, fSs]
   refine wpAnyH_take (i := 1) (v := .pointer (some ⟨pw, 0, none⟩)) rfl (by kernel_rfl) (by kernel_rfl) (by kernel_rfl) (fun _ _ _ h => h) (Or.inl ⟨by rfl, fun w hSw => by obtain ⟨hS1, hS2, hS3, hS4, hS5, hS6⟩ := hSw; go_simp⟩) (by assumption) ?_
   simp only [fGa, fGs, fGz, Act.put, fSa, fSz, fSs]
   refine wpAnyH_take (i := 2) (v := .pointer (some ⟨pw, 37, none⟩)) rfl (by kernel_rfl) (by kernel_rfl) (by kernel_rfl) (fun _ _ _ h => h) (Or.inl ⟨by rfl, fun w hSw => by obtain ⟨hS1, hS2, hS3, hS4, hS5, hS6⟩ := hSw; go_simp⟩) (by assumption) ?_
   simp only [fGa, fGs, fGz, Act.put, fSa, fSz, fSs]
   refine wpAnyH_take (i := 3) (v := .slice (ra) rn rc) rfl (by kernel_rfl) (by kernel_rfl) (by kernel_rfl) (fun _ _ _ h => h) (Or.inl ⟨by rfl, fun w hSw => by obtain ⟨hS1, hS2, hS3, hS4, hS5, hS6⟩ := hSw; go_simp⟩) (by assumption) ?_
   simp only [fGa, fGs, fGz, Act.put, fSa, fSz, fSs]
   refine wpAnyH_take (i := 4) (v := .pointer (some ⟨pw, 0, none⟩)) rfl (by kernel_rfl) (by kernel_rfl) (by kernel_rfl) (fun _ _ _ h => h) (Or.inl ⟨by rfl, fun w hSw => by obtain ⟨hS1, hS2, hS3, hS4, hS5, hS6⟩ := hSw; go_simp⟩) (by assumption) ?_
   simp only [fGa, fGs, fGz, Act.put, fSa, fSz, fSs]
   refine wpAnyH_take (i := 5) (v := .pointer (some ⟨pw, 0, none⟩)) rfl (by kernel_rfl) (by kernel_rfl) (by kernel_rfl) (fun _ _ _ h => h) (Or.inl ⟨by rfl, fun w hSw => by obtain ⟨hS1, hS2, hS3, hS4, hS5, hS6⟩ := hSw; go_simp⟩) (by assumption) ?_
   simp only [fGa, fGs, fGz, Act.put, fSa, fSz, fSs]
   refine wpAnyH_take (i := 6) (v := .pointer (some ⟨pw, 37, none⟩)) rfl (by kernel_rfl) (by kernel_rfl) (by kernel_rfl) (fun _ _ _ h => h) (Or.inl ⟨by rfl, fun w hSw => by obtain ⟨hS1, hS2, hS3, hS4, hS5, hS6⟩ := hSw; go_simp⟩) (by assumption) ?_
   simp only [fGa, fGs, fGz, Act.put, fSa, fSz, fSs]
   refine wpAnyH_take (i := 7) (v := .slice (ra) rn rc) rfl (by kernel_rfl) (by kernel_rfl) (by kernel_rfl) (fun _ _ _ h => h) (Or.inl ⟨by rfl, fun w hSw => by obtain ⟨hS1, hS2, hS3, hS4, hS5, hS6⟩ := hSw; go_simp⟩) (by assumption) ?_
   simp only [fGa, fGs, fGz, Act.put, fSa, fSz, fSs]
   refine wpAnyH_take (i := 8) (v := .int .i64 (rn : Int)) rfl (by kernel_rfl) (by kernel_rfl) (by kernel_rfl) (fun _ _ _ h => h) (Or.inl ⟨by rfl, fun w hSw => by obtain ⟨hS1, hS2, hS3, hS4, hS5, hS6⟩ := hSw; go_simp⟩) (by assumption) ?_
   simp only [fGa, fGs, fGz, Act.put, fSa, fSz, fSs]
   refine wpAnyH_take (i := 9) (v := .int .i64 (m : Int)) rfl (by kernel_rfl) (by kernel_rfl) (by kernel_rfl) (fun _ _ _ h => h) (Or.inl ⟨by rfl, fun w hSw => by obtain ⟨hS1, hS2, hS3, hS4, hS5, hS6⟩ := hSw; go_simp⟩) (by assumption) ?_
   simp only [fGa, fGs, fGz, Act.put, fSa, fSz, fSs]
   refine wpAnyH_take (i := 10) (v := .slice (pa) m rc) rfl (by kernel_rfl) (by kernel_rfl) (by kernel_rfl) (fun _ _ _ h => h) (Or.inl ⟨by rfl, fun w hSw => by obtain ⟨hS1, hS2, hS3, hS4, hS5, hS6⟩ := hSw; go_simp⟩) (by assumption) ?_
   simp only [fGa, fGs, fGz, Act.put, fSa, fSz, fSs]
   refine wpAnyH_take (i := 11) (v := .slice (pa) m rc) rfl (by kernel_rfl) (by kernel_rfl) (by kernel_rfl) (fun _ _ _ h => h) (Or.inl ⟨by rfl, fun w hSw => by obtain ⟨hS1, hS2, hS3, hS4, hS5, hS6⟩ := hSw; go_simp⟩) (by assumption) ?_
   simp only [fGa, fGs, fGz, Act.put, fSa, fSz, fSs]
   refine wpAnyH_done (by kernel_rfl) ?_ _
   clear hHeld
   go_wp2_with fail
   refine wp_region_held_drew (S := fun W => W.cell? ⟨pw, 36, none⟩ = some (.int .i64 (j : Int)) ∧ W.cell? ⟨pw, 35, none⟩ = some (.slice (some ⟨gn, 0, none⟩) k cn) ∧ W.cell? ⟨pw, 37, none⟩ = some (.slice ra rn rc) ∧ W.cell? ⟨pw, 0, none⟩ = some (.pointer (some ⟨p, 0, none⟩)) ∧ W.cell? ⟨gn, j, none⟩ = some (.int .i64 (nj : Int)) ∧ W.rangeAt pw 1 hv) (by kernel_rfl) (unhide HS _ (Up.of_below hb1.drew.drew.drew)) (fun hHeld => ?_)
   refine wpAnyH_take (i := 0) (v := .pointer (some ⟨pw, 0, none⟩)) rfl (by kernel_rfl) (by kernel_rfl) (by kernel_rfl) (fun _ _ _ h => h) (Or.inl ⟨by rfl, fun w hSw => by obtain ⟨hS1, hS2, hS3, hS4, hS5, hS6⟩ := hSw; go_simp⟩) (by assumption) ?_
   simp only [fGa, fGz, Act.put, fSa, fSz, fSs]
   refine wpAnyH_take (i := 1) (v := .pointer (some ⟨pw, 0, none⟩)) rfl (by kernel_rfl) (by kernel_rfl) (by kernel_rfl) (fun _ _ _ h => h) (Or.inl ⟨by rfl, fun w hSw => by obtain ⟨hS1, hS2, hS3, hS4, hS5, hS6⟩ := hSw; go_simp⟩) (by assumption) ?_
   simp only [fGa, fGs, fGz, Act.put, fSa, fSz, fSs]
   refine wpAnyH_take (i := 2) (v := .pointer (some ⟨pw, 0, none⟩)) rfl (by kernel_rfl) (by kernel_rfl) (by kernel_rfl) (fun _ _ _ h => h) (Or.inl ⟨by rfl, fun w hSw => by obtain ⟨hS1, hS2, hS3, hS4, hS5, hS6⟩ := hSw; go_simp⟩) (by assumption) ?_
   simp only [fGa, fGs, fGz, Act.put, fSa, fSz, fSs]
   refine wpAnyH_take (i := 3) (v := .pointer (some ⟨pw, 0, none⟩)) rfl (by kernel_rfl) (by kernel_rfl) (by kernel_rfl) (fun _ _ _ h => h) (Or.inl ⟨by rfl, fun w hSw => by obtain ⟨hS1, hS2, hS3, hS4, hS5, hS6⟩ := hSw; go_simp⟩) (by assumption) ?_
   simp only [fGa, fGs, fGz, Act.put, fSa, fSz, fSs]
   refine wpAnyH_take (i := 4) (v := .pointer (some ⟨p, 0, none⟩)) rfl (by kernel_rfl) (by kernel_rfl) (by kernel_rfl) (fun _ _ _ h => h) (Or.inl ⟨by rfl, fun w hSw => by obtain ⟨hS1, hS2, hS3, hS4, hS5, hS6⟩ := hSw; go_simp⟩) (by assumption) ?_
   simp only [fGa, fGs, fGz, Act.put, fSa, fSz, fSs]
   refine wpAnyH_take (i := 5) (v := .pointer (some ⟨pw, 0, none⟩)) rfl (by kernel_rfl) (by kernel_rfl) (by kernel_rfl) (fun _ _ _ h => h) (Or.inl ⟨by rfl, fun w hSw => by obtain ⟨hS1, hS2, hS3, hS4, hS5, hS6⟩ := hSw; go_simp⟩) (by assumption) ?_
   simp only [fGa, fGs, fGz, Act.put, fSa, fSz, fSs]
   refine wpAnyH_take (i := 6) (v := .pointer (some ⟨pw, 0, none⟩)) rfl (by kernel_rfl) (by kernel_rfl) (by kernel_rfl) (fun _ _ _ h => h) (Or.inl ⟨by rfl, fun w hSw => by obtain ⟨hS1, hS2, hS3, hS4, hS5, hS6⟩ := hSw; go_simp⟩) (by assumption) ?_
   simp only [fGa, fGs, fGz, Act.put, fSa, fSz, fSs]
   refine wpAnyH_take (i := 7) (v := .pointer (some ⟨pw, 0, none⟩)) rfl (by kernel_rfl) (by kernel_rfl) (by kernel_rfl) (fun _ _ _ h => h) (Or.inl ⟨by rfl, fun w hSw => by obtain ⟨hS1, hS2, hS3, hS4, hS5, hS6⟩ := hSw; go_simp⟩) (by assumption) ?_
   simp only [fGa, fGs, fGz, Act.put, fSa, fSz, fSs]
   refine wpAnyH_take (i := 8) (v := .pointer (some ⟨pw, 35, none⟩)) rfl (by kernel_rfl) (by kernel_rfl) (by kernel_rfl) (fun _ _ _ h => h) (Or.inl ⟨by rfl, fun w hSw => by obtain ⟨hS1, hS2, hS3, hS4, hS5, hS6⟩ := hSw; go_simp⟩) (by assumption) ?_
   simp only [fGa, fGs, fGz, Act.put, fSa, fSz, fSs]
   refine wpAnyH_take (i := 9) (v := .slice (some ⟨gn, 0, none⟩) k cn) rfl (by kernel_rfl) (by kernel_rfl) (by kernel_rfl) (fun _ _ _ h => h) (Or.inl ⟨by rfl, fun w hSw => by obtain ⟨hS1, hS2, hS3, hS4, hS5, hS6⟩ := hSw; go_simp⟩) (by assumption) ?_
   simp only [fGa, fGs, fGz, Act.put, fSa, fSz, fSs]
   refine wpAnyH_take (i := 10) (v := .pointer (some ⟨pw, 0, none⟩)) rfl (by kernel_rfl) (by kernel_rfl) (by kernel_rfl) (fun _ _ _ h => h) (Or.inl ⟨by rfl, fun w hSw => by obtain ⟨hS1, hS2, hS3, hS4, hS5, hS6⟩ := hSw; go_simp⟩) (by assumption) ?_
   simp only [fGa, fGs, fGz, Act.put, fSa, fSz, fSs]
   refine wpAnyH_take (i := 11) (v := .pointer (some ⟨pw, 0, none⟩)) rfl (by kernel_rfl) (by kernel_rfl) (by kernel_rfl) (fun _ _ _ h => h) (Or.inl ⟨by rfl, fun w hSw => by obtain ⟨hS1, hS2, hS3, hS4, hS5, hS6⟩ := hSw; go_simp⟩) (by assumption) ?_
   simp only [fGa, fGs, fGz, Act.put, fSa, fSz, fSs]
   refine wpAnyH_take (i := 12) (v := .pointer (some ⟨pw, 0, none⟩)) rfl (by kernel_rfl) (by kernel_rfl) (by kernel_rfl) (fun _ _ _ h => h) (Or.inl ⟨by rfl, fun w hSw => by obtain ⟨hS1, hS2, hS3, hS4, hS5, hS6⟩ := hSw; go_simp⟩) (by assumption) ?_
   simp only [fGa, fGs, fGz, Act.put, fSa, fSz, fSs]
   refine wpAnyH_take (i := 13) (v := .pointer (some ⟨pw, 36, none⟩)) rfl (by kernel_rfl) (by kernel_rfl) (by kernel_rfl) (fun _ _ _ h => h) (Or.inl ⟨by rfl, fun w hSw => by obtain ⟨hS1, hS2, hS3, hS4, hS5, hS6⟩ := hSw; go_simp⟩) (by assumption) ?_
   simp only [fGa, fGs, fGz, Act.put, fSa, fSz, fSs]
   refine wpAnyH_take (i := 14) (v := .int .i64 (j : Int)) rfl (by kernel_rfl) (by kernel_rfl) (by kernel_rfl) (fun _ _ _ h => h) (Or.inl ⟨by rfl, fun w hSw => by obtain ⟨hS1, hS2, hS3, hS4, hS5, hS6⟩ := hSw; go_simp⟩) (by assumption) ?_
   simp only [fGa, fGs, fGz, Act.put, fSa, fSz, fSs]
   refine wpAnyH_take (i := 15) (v := .pointer (some ⟨gn, j, none⟩)) rfl (by kernel_rfl) (by kernel_rfl) (by kernel_rfl) (fun _ _ _ h => h) (Or.inl ⟨by rfl, fun w hSw => by obtain ⟨hS1, hS2, hS3, hS4, hS5, hS6⟩ := hSw; go_simp⟩) (by assumption) ?_
   simp only [fGa, fGs, fGz, Act.put, fSa, fSz, fSs]
   refine wpAnyH_take (i := 16) (v := .int .i64 (nj : Int)) rfl (by kernel_rfl) (by kernel_rfl) (by kernel_rfl) (fun _ _ _ h => h) (Or.inl ⟨by rfl, fun w hSw => by obtain ⟨hS1, hS2, hS3, hS4, hS5, hS6⟩ := hSw; go_simp⟩) (by assumption) ?_
   simp only [fGa, fGs, fGz, Act.put, fSa, fSz, fSs]
   refine wpAnyH_take (i := 17) (v := .slice (pa) m rc) rfl (by kernel_rfl) (by kernel_rfl) (by kernel_rfl) (fun _ _ _ h => h) (Or.inl ⟨by rfl, fun w hSw => by obtain ⟨hS1, hS2, hS3, hS4, hS5, hS6⟩ := hSw; go_simp⟩) (by assumption) ?_
   simp only [fGa, fGs, fGz, Act.put, fSa, fSz, fSs]
   refine wpAnyH_take (i := 18) (v := .pointer (some ⟨pw, 0, none⟩)) rfl (by kernel_rfl) (by kernel_rfl) (by kernel_rfl) (fun _ _ _ h => h) (Or.inl ⟨by rfl, fun w hSw => by obtain ⟨hS1, hS2, hS3, hS4, hS5, hS6⟩ := hSw; go_simp⟩) (by assumption) ?_
   simp only [fGa, fGs, fGz, Act.put, fSa, fSz, fSs]
   refine wpAnyH_take (i := 19) (v := .pointer (some ⟨pw, 0, none⟩)) rfl (by kernel_rfl) (by kernel_rfl) (by kernel_rfl) (fun _ _ _ h => h) (Or.inl ⟨by rfl, fun w hSw => by obtain ⟨hS1, hS2, hS3, hS4, hS5, hS6⟩ := hSw; go_simp⟩) (by assumption) ?_
   simp only [fGa, fGs, fGz, Act.put, fSa, fSz, fSs]
   refine wpAnyH_take (i := 20) (v := .pointer (some ⟨pw, 0, none⟩)) rfl (by kernel_rfl) (by kernel_rfl) (by kernel_rfl) (fun _ _ _ h => h) (Or.inl ⟨by rfl, fun w hSw => by obtain ⟨hS1, hS2, hS3, hS4, hS5, hS6⟩ := hSw; go_simp⟩) (by assumption) ?_
   simp only [fGa, fGs, fGz, Act.put, fSa, fSz, fSs]
   refine wpAnyH_take (i := 21) (v := .pointer (some ⟨pw, 1, none⟩)) rfl (by kernel_rfl) (by kernel_rfl) (by kernel_rfl) (fun _ _ _ h => h) (Or.inl ⟨by rfl, fun w hSw => by obtain ⟨hS1, hS2, hS3, hS4, hS5, hS6⟩ := hSw; go_simp⟩) (by assumption) ?_
   simp only [fGa, fGs, fGz, Act.put, fSa, fSz, fSs]
   refine wpAnyH_take (i := 22) (v := .pointer (some ⟨pw, 1, none⟩)) rfl (by kernel_rfl) (by kernel_rfl) (by kernel_rfl) (fun _ _ _ h => h) (Or.inl ⟨by rfl, fun w hSw => by obtain ⟨hS1, hS2, hS3, hS4, hS5, hS6⟩ := hSw; go_simp⟩) (by assumption) ?_
   simp only [fGa, fGs, fGz, Act.put, fSa, fSz, fSs]
   refine wpAnyH_take (i := 23) (v := .agg (hv).toArray) rfl (by kernel_rfl) (by kernel_rfl) (by kernel_rfl) (fun _ _ _ h => h) (yieldsIf_load_mid (by rfl) _ _ rfl _ _ rfl _ _ (fun w hSw => hSw.2.2.2.2.2) Tryd.underlying32 rfl hiK) (by assumption) ?_
   simp only [fGa, fGs, fGz, Act.put, fSa, fSz, fSs]
   refine wpAnyH_take (i := 24) (v := .pointer (some ⟨pw, 0, none⟩)) rfl (by kernel_rfl) (by kernel_rfl) (by kernel_rfl) (fun _ _ _ h => h) (Or.inl ⟨by rfl, fun w hSw => by obtain ⟨hS1, hS2, hS3, hS4, hS5, hS6⟩ := hSw; go_simp⟩) (by assumption) ?_
   simp only [fGa, fGs, fGz, Act.put, fSa, fSz, fSs]
   refine wpAnyH_take (i := 25) (v := .pointer (some ⟨pw, 0, none⟩)) rfl (by kernel_rfl) (by kernel_rfl) (by kernel_rfl) (fun _ _ _ h => h) (Or.inl ⟨by rfl, fun w hSw => by obtain ⟨hS1, hS2, hS3, hS4, hS5, hS6⟩ := hSw; go_simp⟩) (by assumption) ?_
   simp only [fGa, fGs, fGz, Act.put, fSa, fSz, fSs]
   refine wpAnyH_take (i := 26) (v := .pointer (some ⟨pw, 0, none⟩)) rfl (by kernel_rfl) (by kernel_rfl) (by kernel_rfl) (fun _ _ _ h => h) (Or.inl ⟨by rfl, fun w hSw => by obtain ⟨hS1, hS2, hS3, hS4, hS5, hS6⟩ := hSw; go_simp⟩) (by assumption) ?_
   simp only [fGa, fGs, fGz, Act.put, fSa, fSz, fSs]
   refine wpAnyH_take (i := 27) (v := .pointer (some ⟨pw, 36, none⟩)) rfl (by kernel_rfl) (by kernel_rfl) (by kernel_rfl) (fun _ _ _ h => h) (Or.inl ⟨by rfl, fun w hSw => by obtain ⟨hS1, hS2, hS3, hS4, hS5, hS6⟩ := hSw; go_simp⟩) (by assumption) ?_
   simp only [fGa, fGs, fGz, Act.put, fSa, fSz, fSs]
   refine wpAnyH_take (i := 28) (v := .int .i64 (j : Int)) rfl (by kernel_rfl) (by kernel_rfl) (by kernel_rfl) (fun _ _ _ h => h) (Or.inl ⟨by rfl, fun w hSw => by obtain ⟨hS1, hS2, hS3, hS4, hS5, hS6⟩ := hSw; go_simp⟩) (by assumption) ?_
   simp only [fGa, fGs, fGz, Act.put, fSa, fSz, fSs]
   refine wpAnyH_take (i := 29) (v := .int .i64 0) rfl (by kernel_rfl) (by kernel_rfl) (by kernel_rfl) (fun _ _ _ h => h) (Or.inl ⟨by rfl, fun w hSw => by obtain ⟨hS1, hS2, hS3, hS4, hS5, hS6⟩ := hSw; go_simp⟩) (by assumption) ?_
   simp only [fGa, fGs, fGz, Act.put, fSa, fSz, fSs]
   refine wpAnyH_ready (rs := [30]) (by kernel_rfl) (by simp) (AllReadyH.cons rfl (fun K hK => ?_) AllReadyH.nil)
   refine step_call4C (by rfl) 66 sector4_enter (.tmp 65) (.tmp 71) (.tmp 76) (.tmp 77) _ rfl rfl rfl rfl rfl (unhide HSEC _ hb1.drew.drew.drew) ?_
   rintro e w3 ⟨g, rfl, hA3, hg3, hb3⟩
   have hb4 : Below w.heap.size w w3 := below_then hb1.drew.drew.drew hb3
   have hg4 : w.heap.size ≤ g := Nat.le_trans (hb1.drew.drew.drew).size hg3
   refine ⟨_, rfl, ?_⟩
   refine hK.out _ _ (unhide HS _ (Up.of_below hb4)) (fun hHeld3 => ?_)
   clear hK K
   simp only [fGa, fGs, fGz, Act.put, fSa, fSz, fSs]
   refine wpAnyH_ready (rs := [31]) (by kernel_rfl) (by simp) (AllReadyH.cons rfl (fun K hK => ?_) AllReadyH.nil)
   refine step_call3C (by rfl) 65 wrt_enter (.tmp 52) (.tmp 64) (.tmp 78) _ rfl rfl rfl rfl (unhide HWRT _ g hb4 hg4 hA3) ?_
   rintro e w4 ⟨rfl, V', hD4, hF4, hU4⟩
   have hU5 : Up (Ft p gl gm V) w w4 := (Up.of_below hb4).trans hU4 (fun x hx => Or.inl hx)
   have hF5 : ∀ b, Ft p gl gm V' b → Ft p gl gm V b ∨ w.heap.size ≤ b := fun b hb => (hF4 b hb).imp id (fun h => Nat.le_trans hb4.size h)
   refine ⟨_, rfl, ?_⟩
   refine hK.out _ _ (unhide HS _ hU5) (fun hHeld4 => ?_)
   clear hK K
   simp only [fGa, fGs, fGz, Act.put, fSa, fSz, fSs]
   refine wpAnyH_take (i := 32) (v := .int .i64 0) rfl (by kernel_rfl) (by kernel_rfl) (by kernel_rfl) (fun _ _ _ h => h) (Or.inl ⟨by rfl, fun w hSw => by obtain ⟨hS1, hS2, hS3, hS4, hS5, hS6⟩ := hSw; go_simp⟩) (by assumption) ?_
   simp only [fGa, fGs, fGz, Act.put, fSa, fSz, fSs]
   refine wpAnyH_done (by kernel_rfl) ?_ _
   obtain ⟨q1, q2, q3, q4, q5, q6, q7⟩ := unhide HC w4 V' hD4 hU5
   have HF := hide (unhide HFIN w4 V' hD4 hF5 hU5)
   have HB2 := hide (unhide HBH _ _ q6 q7)
   clear hHeld hHeld3 hHeld4 hD4 hF4 hU4 hU5 hF5 hA3 hg3 hb3 hb4 hg4 HFIN HC HBH HSEC HWRT HS hb1 q6 q7
   go_wp2_with fail
   refine (unhide HB2).mono ?_
   rintro e w5 ⟨rfl, hw5⟩
   rw [HSN.out]
   go_wp2
   go_ret2
   obtain ⟨rv', V2, hrv, h1, h2, h3, h4, h5⟩ := HF.out
   subst hw5
   refine ⟨rv', V2, rfl, ?_, ?_, h3, h4, ?_⟩
   · exact h1.below (Below.refl _ _).drew
   · exact h2.up (F := fun _ => False) (Up.of_below (Below.refl _ _).drew) (fun _ _ h => h)
   · exact h5.then_below (Below.refl _ _).drew
end Go.Proofs.YtlofoklfggmbiaaDoor

namespace Go.Proofs.YtlofoklfggmbiaaDoor
open Go.RowKit Go.Maps

/-- A writer on its way, seen from where it began. -/
structure Wgo (w wr : World) (p gl gm pw gn cn : Nat) (V : Nat → Value) (D : AD) (rv : Value) (bs : List Int) (ks : List Nat) (j : Nat) (V' : Nat → Value) (rv' : Value) : Prop where
 dk : Dk wr p gl gm V' (putAll D bs ks j)
 ww : Wr wr p pw gn cn rv' bs ks j
 ft : ∀ b, Ft p gl gm V' b → Ft p gl gm V b ∨ w.heap.size ≤ b
 bk : ∀ b, blkOf rv' = some b → blkOf rv = some b
 up : Up (fun b => b = pw ∨ Ft p gl gm V b) w wr
theorem Wgo.step {w wr : World} {p gl gm pw gn cn j : Nat} {V V' : Nat → Value} {D : AD} {rv rv' : Value} {bs : List Int} {ks : List Nat} (h : Wgo w wr p gl gm pw gn cn V D rv bs ks j V' rv') (hL : ∀ b, Fw pw gn rv b → b < w.heap.size) (hX : ∀ b, Fw pw gn rv b → ¬ Ft p gl gm V b) (hj : j < ks.length) (hks : ∀ x ∈ ks, x < D.la.length) (hw0 : 0 ≤ D.wt) (hw1 : D.wt ≤ 1152921504606840000) (hwl : ∀ x ∈ ks, (D.wr x).length ≤ 68719470000) (ht : Tab wr) :
 Calls Tryd.prog 32 #[.pointer (some ⟨pw, 0, none⟩)] wr fun e w' => ∃ rv2 V2, e = .returned (.tuple #[.bool (decide (j + 1 = ks.length)), .int .i64 0]) ∧ Wgo w w' p gl gm pw gn cn V D rv bs ks (j + 1) V2 rv2 := by
 have hk : ks.length ≤ 2185 := by have := secN_hi (bs.length : Int); have := h.ww.cnt; omega
 have hFw : ∀ b, Fw pw gn rv' b → Fw pw gn rv b := fun b hb => hb.imp id (fun hb => hb.imp id (fun hb => h.bk b hb))
 have hX2 : ∀ b, Fw pw gn rv' b → ¬ Ft p gl gm V' b := fun b hb hf => by
  rcases h.ft b hf with h1 | h1
  · exact hX b (hFw b hb) h1
  · have := hL b (hFw b hb); omega
 refine (wstep_calls h.dk h.ww hX2 hj (fun x hx => by rw [putAll_la]; exact hks x hx) (by rw [putAll_wt]; omega) (by rw [putAll_wt]; omega) ?_ ht).mono ?_
 · have h1 := putAll_len D bs ks (ks.getD j 0) j
   have h2 := hwl _ (getD_mem hj)
   omega
 · rintro e w' ⟨rv2, V2, rfl, h1, h2, h3, h4, h5⟩
   refine ⟨rv2, V2, rfl, h1, h2, fun b hb => ?_, fun b hb => h.bk b (h4 b hb), ?_⟩
   · rcases h3 b hb with hb | hb
     · exact h.ft b hb
     · exact Or.inr (Nat.le_trans h.up.size hb)
   · refine h.up.trans h5 (fun x hx => ?_)
     rcases hx with hx | hx
     · exact Or.inl (Or.inl hx)
     · exact (h.ft x hx).imp Or.inr id
/-- What a cell holds, as a number. -/
def cellN (w : World) (a : Addr) : Nat := match w.cell? a with | some (.int _ n) => n.toNat | _ => 0
theorem Wgo.cell36 {w wr : World} {p gl gm pw gn cn j : Nat} {V V' : Nat → Value} {D : AD} {rv rv' : Value} {bs : List Int} {ks : List Nat} (h : Wgo w wr p gl gm pw gn cn V D rv bs ks j V' rv') : cellN wr ⟨pw, 36, none⟩ = j := by
 obtain ⟨_, _, _, _, hV36, _⟩ := writerV_cells (p := p) (shaOf_len bs) ((ks.getD 0 0 : Nat) : Int) (bs.length : Int) (.slice (some ⟨gn, 0, none⟩) ks.length cn) (j : Int) rv'
 unfold cellN
 rw [arr_cell h.ww.arr hV36]
 simp
theorem wstep_method (a : Addr) (W : World) : (method 255 76 (.pointer (some a)) "Step").run Tryd.prog W = .ok (32, .pointer (some a)) W := by kernel_rfl
set_option maxRecDepth 100000 in
set_option maxHeartbeats 4000000 in
theorem finish_w {w : World} {p gl gm pw gn cn : Nat} {V : Nat → Value} {D : AD} {rv : Value} {bs : List Int} {ks : List Nat} (hD : Dk w p gl gm V D) (hW : Wr w p pw gn cn rv bs ks 0) (hX : ∀ b, Fw pw gn rv b → ¬ Ft p gl gm V b) (hks : ∀ x ∈ ks, x < D.la.length) (hw0 : 0 ≤ D.wt) (hw1 : D.wt ≤ 1152921504606840000) (hwl : ∀ x ∈ ks, (D.wr x).length ≤ 68719470000) (ht : ∀ W, Up (fun b => b = pw ∨ Ft p gl gm V b) w W → Tab W) :
 Calls Tryd.prog 43 #[.iface 76 (.pointer (some ⟨pw, 0, none⟩))] w fun e w' => e = .returned (.int .i64 0) ∧ ∃ V' rv', Wgo w w' p gl gm pw gn cn V D rv bs ks ks.length V' rv' := by
 have hk1 : 1 ≤ ks.length := by
  have h1 := hW.cnt
  have h2 := hW.len
  unfold secN at h1
  rw [if_neg (by omega), if_neg (by omega)] at h1
  omega
 have h0 : Wgo w w p gl gm pw gn cn V D rv bs ks 0 V rv := ⟨hD, hW, fun b hb => Or.inl hb, fun b hb => hb, Up.refl _ _⟩
 have HST : Hid (∀ j W V' rv', j < ks.length → Wgo w W p gl gm pw gn cn V D rv bs ks j V' rv' → Calls Tryd.prog 32 #[.pointer (some ⟨pw, 0, none⟩)] W fun e w' => ∃ rv2 V2, e = .returned (.tuple #[.bool (decide (j + 1 = ks.length)), .int .i64 0]) ∧ Wgo w w' p gl gm pw gn cn V D rv bs ks (j + 1) V2 rv2) := hide (fun j W V' rv' hj h => h.step (fun b hb => hW.lt hb) hX hj hks hw0 hw1 hwl (ht W h.up))
 have H0 := hide h0
 generalize hk : ks.length = k at *
 have HK := hide hk
 clear hD hW hX hks hw0 hw1 hwl ht h0 hk
 go_enter Tryd.func43, Tryd.ntmps43
 go_wp2_with fail
 go_loopw [] (fun wr => ∃ (j : Nat), j < k ∧ Hid (∃ V' rv', Wgo w wr p gl gm pw gn cn V D rv bs ks j V' rv')) (fun wr => k - cellN wr ⟨pw, 36, none⟩)
 case atStart => exact ⟨0, by omega, hide ⟨V, rv, H0.out⟩⟩
 case round =>
  obtain ⟨j, hj, hh⟩ := hrel
  have hmeth := wstep_method ⟨pw, 0, none⟩
  obtain ⟨V', rv', hg⟩ := hh.out
  have hcl := hg.cell36
  have HS1 := hide (unhide HST j wr V' rv' hj hg)
  have HCL := hide hcl
  clear hg hcl hh
  by_cases hl : j + 1 = k
  · have hd : decide (j + 1 = k) = true := by simp [hl]
    rw [hd] at HS1
    have HL := hide hl
    clear hl hd
    go_wp2_with fail
    refine (unhide HS1).mono ?_
    rintro e w2 ⟨rv2, V2, rfl, hg2⟩
    rw [HL.out] at hg2
    have HG2 := hide hg2
    clear hg2 HS1
    go_wp2
    go_ret
    exact ⟨rfl, V2, rv2, HG2.out⟩
  · have hd : decide (j + 1 = k) = false := by simp [hl]
    rw [hd] at HS1
    have hl2 : j + 1 < k := by omega
    clear hl hd
    go_wp2_with fail
    refine (unhide HS1).mono ?_
    rintro e w2 ⟨rv2, V2, rfl, hg2⟩
    have HG2 : Hid (∃ V' rv', Wgo w w2 p gl gm pw gn cn V D rv bs ks (j + 1) V' rv') := hide ⟨V2, rv2, hg2⟩
    have HC2 := hide hg2.cell36
    clear hg2 HS1
    go_wp2
    go_roundw
    case rel => exact ⟨j + 1, hl2, HG2⟩
    case measure => rw [HC2.out, HCL.out]; omega
end Go.Proofs.YtlofoklfggmbiaaDoor

namespace Go.Proofs.YtlofoklfggmbiaaDoor
open Go.RowKit Go.Maps

theorem infoI6 : (Tryd.prog.info? 3).map (fun i => (i.zero, i.size, i.bytes)) = some (some (.int .i64 0), 1, 8) := by kernel_rfl
theorem iV_one (ks : List Nat) : ∀ u ∈ iV ks, u.oneCell' = true := by
 intro u hu
 obtain ⟨n, _, rfl⟩ := List.mem_map.1 hu
 rfl
theorem eqlI_nil (a : Addr) (n c : Nat) (W : World) : (binOp .eql 23 (.slice (some a) n c) (.slice none 0 0)).run Tryd.prog W = .ok (.bool false) W := by
 simp only [binOp]
 simp [run_equal_slice_nil W 23 3 (some a) n c Tryd.underlying23]
set_option maxHeartbeats 1000000 in
theorem cloneI_calls {w : World} {B gw c : Nat} {ks : List Nat} (h : Row w B 3 (.slice (some ⟨gw, 0, none⟩) ks.length c) (iV ks)) (hl : ks.length ≤ 65536) (h0 : 0 < ks.length) :
 Calls Tryd.prog 57 #[.slice (some ⟨gw, 0, none⟩) ks.length c] w fun e w' => ∃ g2 c2, e = .returned (.slice (some ⟨g2, 0, none⟩) ks.length c2) ∧ Row w' w.heap.size 3 (.slice (some ⟨g2, 0, none⟩) ks.length c2) (iV ks) ∧ Below w.heap.size w w' := by
 obtain ⟨i0, hi, hz0, hz1, hz2⟩ := info_part infoI6
 have hgw := (h.lt gw rfl).2
 have HN : Hid (∀ j u, (iV ks)[j]? = some u → (w.alloc (.cells #[] 3)).cell? ((⟨gw, 0, none⟩ : Addr).add j) = some u) := fun j u hj => by
  have hjl := (List.getElem?_eq_some_iff.1 hj).1
  have := h.cellAt hjl
  rw [Addr.add_lit, Nat.zero_add]
  exact ((World.grownBy_alloc w (.cells #[] 3) none).cell (this.trans hj) (by simp))
 have HW := hide (iV_len ks)
 have HO := hide (iV_one ks)
 have HNIL : Hid ((w.alloc (.cells #[] 3)).ownsRow w.heap.size 3 1 (.slice (some ⟨w.heap.size, 0, none⟩) 0 0) 0 []) := World.ownsRow_made w #[] 0 (Nat.le_refl _) (by decide) rfl
 obtain ⟨L, hL⟩ : ∃ L, L = ks.length := ⟨_, rfl⟩
 rw [← hL] at hl h0 HW ⊢
 have hnil := eqlI_nil ⟨gw, 0, none⟩ L c w
 clear h hL
 go_enter Tryd.func57, Tryd.ntmps57
 go_wp2_with (at_builtin; refine wpList_append_own _ rfl _ _ 23 rfl w.heap.size 3 i0 (.int .i64 0) 1 8 Tryd.underlying23 hi hz0 hz1 hz2 rfl (by decide) _ _ _ rfl (unhide HNIL) ⟨gw, 0, none⟩ L c (iV ks) rfl (by rw [HW.out]; omega) (unhide HN) (unhide HO) (by unfold maxLen; omega) (by omega) (by simp) ?_; intro v3 w3 hr3 hg3 _)
 go_ret
 have hr4 : Row w3 w.heap.size 3 v3 (iV ks) := by
  unfold Row
  rw [HW.out]
  simpa using hr3
 obtain ⟨g2, c2, hv, _⟩ := hr4.head (by rw [HW.out]; exact h0)
 rw [HW.out] at hv
 subst hv
 exact ⟨g2, c2, rfl, hr4, ((Below.refl _ _).alloc (Nat.le_refl _) _).grown hg3 (by simp) fun b hb => by
  cases hb
  exact Nat.le_refl _⟩
theorem numbers_calls {w : World} {B g gw c : Nat} {ks : List Nat} (hc : w.cell? ⟨g, 35, none⟩ = some (.slice (some ⟨gw, 0, none⟩) ks.length c)) (h : Row w B 3 (.slice (some ⟨gw, 0, none⟩) ks.length c) (iV ks)) (hl : ks.length ≤ 65536) (h0 : 0 < ks.length) :
 Calls Tryd.prog 23 #[.pointer (some ⟨g, 0, none⟩)] w fun e w' => ∃ g2 c2, e = .returned (.slice (some ⟨g2, 0, none⟩) ks.length c2) ∧ Row w' w.heap.size 3 (.slice (some ⟨g2, 0, none⟩) ks.length c2) (iV ks) ∧ Below w.heap.size w w' := by
 have HC := hide (cloneI_calls h hl h0)
 clear h hl h0
 go_enter Tryd.func23, Tryd.ntmps23
 go_wp2_with fail
 refine (unhide HC).mono ?_
 rintro e w1 ⟨g2, c2, rfl, h1, h2⟩
 have HE := hide (And.intro h1 h2)
 clear h1 h2 HC
 go_wp2
 go_ret
 exact ⟨g2, c2, rfl, HE.out.1, HE.out.2⟩
section
variable {ops : Array Oper} {rest : List Oper} {o : Oper} {a : Act} {Q : Exit → Act → World → Prop} {w : World}
theorem wpList_allocRef (hgd : o.guard = none) (ho : o.op = .alloc 34) (hk : wpList Tryd.prog ops Q rest (a.put o.dst (.pointer (some ⟨w.heap.size, 0, none⟩))) (w.alloc (.cells zRef.toArray 34))) : wpList Tryd.prog ops Q (o :: rest) a w := by
 refine wpList_plain hgd fun K hK => ?_
 unfold Oper.wp execOp
 simp only [ho, Sem.run_bind, allocRef_run w, Result.andThen_ok, Sem.run_pure]
 exact hK _ _ hk
end
theorem refV_one (hs : List Int) (fi le : Int) : ∀ u ∈ refV hs fi le, u.oneCell' = true := fun u hu => by
 unfold refV at hu
 rcases List.mem_append.1 hu with hu | hu
 · obtain ⟨y, _, rfl⟩ := List.mem_map.1 hu; rfl
 · simp only [List.mem_cons, List.not_mem_nil, or_false] at hu
   rcases hu with rfl | rfl <;> rfl
theorem infoRef {hs : List Int} (hh : hs.length = 32) (fi le : Int) : (Tryd.prog.info? 34).map (·.size) = some (refV hs fi le).length := by rw [refV_len hh]; kernel_rfl
theorem Arr.loadRef {w : World} {g : Nat} {hs : List Int} {fi le : Int} (h : Arr w g 34 (refV hs fi le)) (hh : hs.length = 32) : (loadVar 34 ⟨g, 0, none⟩).run Tryd.prog w = .ok (.agg (refV hs fi le).toArray) w :=
 run_loadVar_row _ _ 34 34 (refV hs fi le).toArray (0, 0) _ h Tryd.underlying34 rfl (by simpa using infoRef hh fi le)
theorem results_ref {fn : Func} {p : Tmp} {g : Nat} {tmps : Array Value} {w : World} {v : Value} (h : fn.results = #[.cell p 34]) (ha : tmps.getD p undef = .pointer (some ⟨g, 0, none⟩)) (hl : (loadVar 34 ⟨g, 0, none⟩).run Tryd.prog w = .ok v w) :
 (results fn tmps).run Tryd.prog w = .ok v w := by
 have ha' : tmps[p]?.getD undef = .pointer (some ⟨g, 0, none⟩) := by simpa using ha
 simp [results, h, asAddr, ha', hl]
theorem results_ref3 {fn : Func} {p s r : Tmp} {g : Nat} {tmps : Array Value} {w : World} {v u z : Value} (h : fn.results = #[.cell p 34, .tmp s, .tmp r]) (ha : tmps.getD p undef = .pointer (some ⟨g, 0, none⟩)) (hu : tmps.getD s undef = u) (hz : tmps.getD r undef = z) (hl : (loadVar 34 ⟨g, 0, none⟩).run Tryd.prog w = .ok v w) :
 (results fn tmps).run Tryd.prog w = .ok (.tuple #[v, u, z]) w := by
 have ha' : tmps[p]?.getD undef = .pointer (some ⟨g, 0, none⟩) := by simpa using ha
 have hu' : tmps[s]?.getD undef = u := by simpa using hu
 have hz' : tmps[r]?.getD undef = z := by simpa using hz
 simp [results, h, asAddr, ha', hu', hz', hl]
theorem stand_ref {w : World} {g : Nat} {t : TypeId} {p : Nat} {hs : List Int} {fi le : Int} {vs : List Value} (h : Arr w g t (.pointer (some ⟨p, 0, none⟩) :: (refV hs fi le ++ vs))) : w.rangeAt g 1 (refV hs fi le) := fun j v hv => by
 rw [Nat.add_comm]
 refine arr_cell h ?_
 rw [List.getElem?_cons_succ, List.getElem?_append_left (List.getElem?_eq_some_iff.1 hv).1]
 exact hv
set_option maxRecDepth 100000 in
set_option maxHeartbeats 1000000 in
theorem wref_calls {w : World} {g : Nat} {hs : List Int} {fi le : Int} (hh : hs.length = 32) (hr : w.rangeAt g 1 (refV hs fi le)) :
 Calls Tryd.prog 31 #[.pointer (some ⟨g, 0, none⟩)] w fun e w' => e = .returned (.agg (refV hs fi le).toArray) ∧ Below w.heap.size w w' := by
 have hb1 : Below w.heap.size w (w.alloc (.cells zRef.toArray 34)) := (Below.refl _ _).alloc (Nat.le_refl _) _
 have hA := Arr.new w zRef 34
 have hr1 : (w.alloc (.cells zRef.toArray 34)).rangeAt g 1 (refV hs fi le) := fun i v hv => bkeptC hb1 (hr i v hv)
 have hi := infoRef hh fi le
 have hl : zRef.length = (refV hs fi le).length := by rw [refV_len hh]; rfl
 have hone := refV_one hs fi le
 have HB := hide hb1
 have HLD : Hid (∀ W, Arr W w.heap.size 34 (refV hs fi le) → (loadVar 34 ⟨w.heap.size, 0, none⟩).run Tryd.prog W = .ok (.agg (refV hs fi le).toArray) W) := hide (fun W h => h.loadRef hh)
 generalize refV hs fi le = rV at *
 generalize hw1 : w.alloc (.cells zRef.toArray 34) = w1 at *
 have HW1 := hide hw1
 clear hr hw1 hb1
 go_enter Tryd.func31, Tryd.ntmps31
 go_wp2_with (first
  | (refine wpList_allocRef rfl rfl ?_; rw [HW1.out])
  | (refine wpList_load_mid rfl _ _ rfl g 1 rfl rV _ hr1 Tryd.underlying34 rfl hi ?_)
  | (refine wpList_storeArr2 (cs' := rV) rfl (.tmp 2) (.tmp 7) 34 rfl rfl rfl hA hi hl hone ?_; intro w8 hR8 hw8))
 refine bodyPost_ret (v := .agg rV.toArray) (results_ref rfl rfl (unhide HLD _ hR8)) rfl ⟨rfl, hw8.below _ _ HB.out (Nat.le_refl _)⟩
end Go.Proofs.YtlofoklfggmbiaaDoor

namespace Go.Proofs.YtlofoklfggmbiaaDoor
open Go.RowKit Go.Maps

/-- The tables of wire, sha and math/bits. -/
structure TT (w : World) : Prop where
 tab : Tab w
 k : TabK w
 s : TabS w
 tz : Tz w
def GB : Nat := max (max 2 1) (max 0 3) + 1
theorem TT.up {F : Nat → Prop} {w w' : World} (h : TT w) (hu : Up F w w') (hF : ∀ b, F b → GB ≤ b) : TT w' := by
 have hG : ∀ g, g < GB → ¬ F g := fun g hg hf => by have := hF g hf; omega
 refine ⟨fun i hi => hu.cell (h.tab i hi) (hG _ (by show 2 < GB; unfold GB; omega)), fun i hi => hu.cell (h.k i hi) (hG _ (by show 1 < GB; unfold GB; omega)), fun i hi => ?_, fun i hi => ?_⟩
 · have h1 := h.s i hi
   obtain ⟨v, hv⟩ : ∃ v, init8.vals[i]? = some v := by
    have : i < init8.vals.length := hi
    exact ⟨_, List.getElem?_eq_getElem this⟩
   rw [hv] at h1 ⊢
   exact hu.cell h1 (hG _ (by show 0 < GB; unfold GB; omega))
 · have h1 := h.tz i hi
   exact hu.cell h1 (hG _ (by show 3 < GB; unfold GB; omega))
theorem TT.below {w w' : World} (h : TT w) (hb : Below w.heap.size w w') : TT w' := h.up (F := fun _ => False) (Up.of_below hb) (fun _ h => h.elim)
theorem TT.size {w : World} (h : TT w) : GB ≤ w.heap.size := by
 have h1 : 2 < w.heap.size := World.block_lt_of_cell? w _ (h.tab 0 (by decide))
 have h2 : 1 < w.heap.size := World.block_lt_of_cell? w _ (h.k 0 (by decide))
 have h3 : 0 < w.heap.size := World.block_lt_of_cell? w ⟨0, 0, none⟩ ((h.s 0 (by decide)).trans rfl)
 have h4 : 3 < w.heap.size := World.block_lt_of_cell? w ⟨3, 0, none⟩ (h.tz 0 (by decide))
 unfold GB
 omega
theorem own8_blk {w : World} {B : Nat} {v : Value} {xs : List Int} (h : Own8 w B v xs) {b : Nat} (hb : blkOf v = some b) : B ≤ b ∧ ∃ cs m, w.heap[b]? = some (.cells cs 5 m) := by
 rcases h.1.2 with ⟨rfl, _⟩ | ⟨g, cap, cur, rfl, hB, hg, _⟩
 · cases hb
 · cases hb
   exact ⟨hB, _, _, hg⟩
theorem Sp.up {F : Nat → Prop} {w w' : World} {B g gw fr to_ : Nat} {ws : List Nat} (h : Sp w B g gw fr to_ ws) (hu : Up F w w') (h1 : ¬ F g) (h2 : ¬ F gw) : Sp w' B g gw fr to_ ws := by
 obtain ⟨c, hg, hr⟩ := h.blk
 exact ⟨⟨c, hu.cells hg h1, owns_up hr hu (fun x hx => by simp only [Value.ownBlock, Option.some.injEq] at hx; exact hx ▸ h2)⟩, h.rng, h.len, h.wd, h.top⟩
theorem Sp.ltg {w : World} {B g gw fr to_ : Nat} {ws : List Nat} (h : Sp w B g gw fr to_ ws) : g < w.heap.size := by
 obtain ⟨c, hg, hr⟩ := h.blk
 exact (Array.getElem?_eq_some_iff.1 hg).1
theorem Sp.ltw {w : World} {B g gw fr to_ : Nat} {ws : List Nat} (h : Sp w B g gw fr to_ ws) : gw < w.heap.size := by
 obtain ⟨c, hg, hr⟩ := h.blk
 exact (hr.lt gw rfl).2
/-- A new writer. -/
theorem newWriter_wr {w : World} {p gl gm B g gw fr to_ n c k : Nat} {V : Nat → Value} {D : AD} {a : Option Addr} {ws : List Nat} (hD : Dk w p gl gm V D) (hS : Sp w B g gw fr to_ ws) (hT : TT w) (hn : n ≤ 1048576) (hk : secN (n : Int) = (k : Int)) (hf : k ≤ freeN ws)
 (hks : ∀ x ∈ (allF fr 0 ws).take k, 1 ≤ x ∧ x < D.la.length) {bs : List Int} (hb : IsB w (.slice a n c) bs) (hbg : 0 < n → ∀ x, blkOf (.slice a n c) = some x → x ≠ gw) (hgw : GB ≤ gw) :
 Calls Tryd.prog 30 #[.pointer (some ⟨p, 0, none⟩), .pointer (some ⟨g, 0, none⟩), .slice a n c] w fun e w' => ∃ pw gn cn rv, e = .returned (.tuple #[.pointer (some ⟨pw, 0, none⟩), .int .i64 0]) ∧ Wr w' p pw gn cn rv bs ((allF fr 0 ws).take k) 0 ∧ (∀ x, Fw pw gn rv x → w.heap.size ≤ x) ∧ Sp w' B g gw fr to_ (claimAll fr to_ ws ((allF fr 0 ws).take k)) ∧ Up (fun b => b = gw) w w' := by
 have hk1 : 1 ≤ k := by obtain ⟨k', h1, h2, _⟩ := secN_nat hn; omega
 have hlen : ((allF fr 0 ws).take k).length = k := by rw [List.length_take, freeN_allF]; omega
 have hm : ∀ i, i < k → ((allF fr 0 ws).take k).getD i 0 ∈ (allF fr 0 ws).take k := fun i hi => getD_mem (by rw [hlen]; exact hi)
 have hbn := hb.lenEq
 refine (newWriter_good hD hS hT.tz hn hk hf ⟨?_, ?_⟩ hb ?_ hS.ltw).mono ?_
 · have := hks _ (hm 0 (by omega)); omega
 · exact (hks _ (hm (k - 1) (by omega))).2
 · intro W hW
   have hTW := hT.up hW (fun b hb => by omega)
   exact ⟨hb.up0 hW (fun hp => hbg (by omega)), hTW.k, hTW.s⟩
 · rintro e w' ⟨pw, gn, cn, rv, rfl, hA, hR, hO, hSp, hpw, hU⟩
   have hgn := (hR.lt gn rfl).1
   refine ⟨pw, gn, cn, rv, rfl, ⟨?_, ?_, by rw [Nat.mul_zero, List.drop_zero]; exact hO.isB, by omega, ?_, by omega, ?_, hb.mem, ?_⟩, ?_, hSp, hU⟩
   · rw [hlen, ← hbn]; exact hA
   · rw [hlen]; exact hR.mono (Nat.zero_le _)
   · rw [hlen, ← hbn, hk]
   · intro e
     obtain ⟨_, cs, m, h2⟩ := own8_blk hO e
     have h3 : w'.heap[pw]? = _ := hA
     rw [h2] at h3
     simp at h3
   · intro b hb
     obtain ⟨_, cs, m, h2⟩ := own8_blk hO hb
     exact (Array.getElem?_eq_some_iff.1 h2).1
   · rintro x (rfl | rfl | hx)
     · exact hpw
     · exact hgn
     · exact (own8_blk hO hx).1
theorem writer_ref {w : World} {g p : Nat} {hs : List Int} {fi le : Int} {nv : Value} {dn : Int} {rv : Value} (h : Arr w g 81 (writerV p hs fi le nv dn rv)) : w.rangeAt g 1 (refV hs fi le) := by
 refine stand_ref (t := 81) (p := p) (vs := [nv, .int .i64 dn, rv]) ?_
 have e : writerV p hs fi le nv dn rv = .pointer (some ⟨p, 0, none⟩) :: (refV hs fi le ++ [nv, .int .i64 dn, rv]) := by simp [writerV, standV]
 rw [← e]
 exact h
theorem rref_enter (v : Value) (W : World) : (callFunc 31 #[v]).run Tryd.prog W = .ok (.enter 31 #[v]) W := by kernel_rfl
theorem nums_enter (v : Value) (W : World) : (callFunc 23 #[v]).run Tryd.prog W = .ok (.enter 23 #[v]) W := by kernel_rfl
set_option maxRecDepth 100000 in
set_option maxHeartbeats 4000000 in
theorem put_good {w : World} {p gl gm B g gw fr to_ n c k : Nat} {V : Nat → Value} {D : AD} {a : Option Addr} {ws : List Nat} (hD : Dk w p gl gm V D) (hS : Sp w B g gw fr to_ ws) (hT : TT w) (hn : n ≤ 1048576) (hk : secN (n : Int) = (k : Int)) (hf : k ≤ freeN ws)
 (hks : ∀ x ∈ (allF fr 0 ws).take k, 1 ≤ x ∧ x < D.la.length) {bs : List Int} (hb : IsB w (.slice a n c) bs) (hbg : 0 < n → ∀ x, blkOf (.slice a n c) = some x → x ≠ gw) (hgw : GB ≤ gw) (hFt : ∀ x, Ft p gl gm V x → GB ≤ x ∧ x ≠ gw ∧ x ≠ g) (hw0 : 0 ≤ D.wt) (hw1 : D.wt ≤ 1152921504606840000) (hwl : ∀ x, (D.wr x).length ≤ 68719470000) {ks : List Nat} (hKS : ks = (allF fr 0 ws).take k) :
 Calls Tryd.prog 9 #[.pointer (some ⟨p, 0, none⟩), .pointer (some ⟨g, 0, none⟩), .slice a n c] w fun e w' => ∃ g2 c2 V', e = .returned (.tuple #[.agg (refV (shaOf bs) ((ks.getD 0 0 : Nat) : Int) (n : Int)).toArray, .slice (some ⟨g2, 0, none⟩) k c2, .int .i64 0]) ∧ Row w' w.heap.size 3 (.slice (some ⟨g2, 0, none⟩) k c2) (iV ks) ∧ Dk w' p gl gm V' (putAll D bs ks k) ∧ Sp w' B g gw fr to_ (claimAll fr to_ ws ks) ∧ (∀ b, Ft p gl gm V' b → Ft p gl gm V b ∨ w.heap.size ≤ b) ∧ Up (fun b => b = gw ∨ Ft p gl gm V b) w w' := by
 have hk1 : 1 ≤ k := by obtain ⟨k', h1, h2, _⟩ := secN_nat hn; omega
 have hk9 : k ≤ 2185 := by obtain ⟨k', h1, _, h3⟩ := secN_nat hn; omega
 have hbn := hb.lenEq
 have hlen : ks.length = k := by rw [hKS, List.length_take, freeN_allF]; omega
 have hsl := shaOf_len bs
 rw [← hKS] at hks
 -- from the world ahead, with the result's block
 obtain ⟨wa, hwa⟩ : ∃ wa, wa = w.alloc (.cells zRef.toArray 34) := ⟨_, rfl⟩
 have hba : Below w.heap.size w wa := by rw [hwa]; exact (Below.refl _ _).alloc (Nat.le_refl _) _
 have hAa : Arr wa w.heap.size 34 zRef := by rw [hwa]; exact Arr.new w zRef 34
 have hsza : wa.heap.size = w.heap.size + 1 := by rw [hwa]; simp
 have HNW := hide (newWriter_wr (hD.below hba) (hS.below hba) (hT.below hba) hn hk hf (by rw [← hKS]; exact hks) (hb.below hba) hbg hgw)
 rw [← hKS] at HNW
 have HFN : Hid (∀ W pw gn cn rv, Wr W p pw gn cn rv bs ks 0 → (∀ x, Fw pw gn rv x → wa.heap.size ≤ x) → Up (fun b => b = gw) wa W → Calls Tryd.prog 43 #[.iface 76 (.pointer (some ⟨pw, 0, none⟩))] W fun e w' => e = .returned (.int .i64 0) ∧ ∃ V' rv', Wgo W w' p gl gm pw gn cn V D rv bs ks ks.length V' rv') := hide (fun W pw gn cn rv hW hx hU => by
  have hDa := hD.below hba
  have hTW := (hT.below hba).up hU (fun b hb => by omega)
  refine finish_w (hDa.up hU (fun b hb => (hFt b hb).2.1)) hW (fun b hb hf => ?_) (fun x hx => (hks x hx).2) hw0 hw1 (fun x _ => hwl x) (fun W2 hU2 => ?_)
  · have := hx b hb
    have := hDa.lt hf
    omega
  · refine (hTW.up hU2 (fun b hb => ?_)).tab
    rcases hb with rfl | hb
    · have := hx b (Or.inl rfl)
      have := (hT.below hba).size
      omega
    · exact (hFt b hb).1)
 have HREF : Hid (∀ W pw gn cn rv, Wr W p pw gn cn rv bs ks k → Calls Tryd.prog 31 #[.pointer (some ⟨pw, 0, none⟩)] W fun e w' => e = .returned (.agg (refV (shaOf bs) ((ks.getD 0 0 : Nat) : Int) (n : Int)).toArray) ∧ Below W.heap.size W w') := hide (fun W pw gn cn rv hW => by
  rw [hbn]
  exact wref_calls hsl (writer_ref hW.arr))
 have HNUM : Hid (∀ W pw gn cn rv, Wr W p pw gn cn rv bs ks k → Calls Tryd.prog 23 #[.pointer (some ⟨pw, 0, none⟩)] W fun e w' => ∃ g2 c2, e = .returned (.slice (some ⟨g2, 0, none⟩) k c2) ∧ Row w' W.heap.size 3 (.slice (some ⟨g2, 0, none⟩) k c2) (iV ks) ∧ Below W.heap.size W w') := hide (fun W pw gn cn rv hW => by
  obtain ⟨_, _, _, hV35, _, _⟩ := writerV_cells (p := p) hsl ((ks.getD 0 0 : Nat) : Int) (bs.length : Int) (.slice (some ⟨gn, 0, none⟩) ks.length cn) (k : Int) rv
  have h := numbers_calls (arr_cell hW.arr hV35) hW.row (by omega) (by omega)
  rw [hlen] at h
  exact h)
 have HFI : Hid (∀ w2 w3 w5 pw gn cn rv V' rv' (g2 c2 : Nat), Up (fun b => b = gw) wa w2 → (∀ x, Fw pw gn rv x → wa.heap.size ≤ x) → Sp w2 B g gw fr to_ (claimAll fr to_ ws ks) → Wgo w2 w3 p gl gm pw gn cn V D rv bs ks ks.length V' rv' → Below w3.heap.size w3 w5 → Row w5 w3.heap.size 3 (.slice (some ⟨g2, 0, none⟩) k c2) (iV ks) → Arr w5 w.heap.size 34 zRef ∧ (∀ w6, Wrote w5 w6 w.heap.size → Row w6 w.heap.size 3 (.slice (some ⟨g2, 0, none⟩) k c2) (iV ks) ∧ Dk w6 p gl gm V' (putAll D bs ks k) ∧ Sp w6 B g gw fr to_ (claimAll fr to_ ws ks) ∧ (∀ b, Ft p gl gm V' b → Ft p gl gm V b ∨ w.heap.size ≤ b) ∧ Up (fun b => b = gw ∨ Ft p gl gm V b) w w6)) := hide (fun w2 w3 w5 pw gn cn rv V' rv' g2 c2 hU2 hFw hS2 hG hb5 hR5 => by
  have hDw := fun b hb => hD.lt (b := b) hb
  have hgl := hS.ltg
  have hgwl := hS.ltw
  have hgne : g ≠ gw := by
   obtain ⟨_, _, _, _, _, _, h6, _⟩ := hS.view
   exact h6
  have hA2 : Arr w2 w.heap.size 34 zRef := hAa.up hU2 (fun e => by omega)
  have hA3 : Arr w3 w.heap.size 34 zRef := hA2.up hG.up (fun e => by
   rcases e with e | e
   · have := hFw _ (Or.inl rfl); omega
   · have := hDw _ e; omega)
  have hU3 : Up (fun b => b = gw ∨ Ft p gl gm V b) w w3 := by
   refine (((Up.of_below hba).trans hU2 (fun x hx => Or.inl (Or.inl hx))) : Up (fun b => b = gw ∨ Ft p gl gm V b) w w2).trans hG.up (fun x hx => ?_)
   rcases hx with hx | hx
   · have := hFw _ (Or.inl hx); exact Or.inr (by omega)
   · exact Or.inl (Or.inr hx)
  have hS3 : Sp w3 B g gw fr to_ (claimAll fr to_ ws ks) := hS2.up hG.up (fun e => by
   rcases e with e | e
   · have := hFw _ (Or.inl e); omega
   · exact (hFt _ e).2.2 rfl) (fun e => by
   rcases e with e | e
   · have := hFw _ (Or.inl e); omega
   · exact (hFt _ e).2.1 rfl)
  have hs3 : w.heap.size < w3.heap.size := hA3.lt
  refine ⟨hA3.below hb5, fun w6 hw6 => ?_⟩
  have hU6 : Up (fun b => b = w.heap.size) w5 w6 := by
   have h9 := hw6.below w.heap.size w5 ⟨rfl, rfl, rfl, Nat.le_refl _, fun _ _ => rfl⟩ (Nat.le_refl _)
   exact ⟨h9.os, h9.tape, h9.output, h9.size, fun k _ hk => hw6.other k hk⟩
  refine ⟨?_, ?_, ?_, fun b hb => ?_, ?_⟩
  · have hg2 := (hR5.lt g2 rfl).1
    exact Row.mono (owns_up hR5 hU6 (fun x hx => by simp only [Value.ownBlock, Option.some.injEq] at hx; omega)) (by omega)
  · have h7 := hG.dk.below hb5
    rw [hlen] at h7
    refine h7.up hU6 (fun b hb e => ?_)
    rcases hG.ft b hb with h | h
    · have := hDw _ h; omega
    · have := hU2.size; omega
  · exact (hS3.below hb5).up hU6 (by omega) (by omega)
  · rcases hG.ft b hb with h | h
    · exact Or.inl h
    · have := hU2.size; exact Or.inr (by omega)
  · exact (hU3.then_below hb5).trans hU6 (fun x hx => Or.inr (by omega)))
 have hiR := infoRef hsl ((ks.getD 0 0 : Nat) : Int) (n : Int)
 have hzl : zRef.length = (refV (shaOf bs) ((ks.getD 0 0 : Nat) : Int) (n : Int)).length := by rw [refV_len hsl]; rfl
 have h1R := refV_one (shaOf bs) ((ks.getD 0 0 : Nat) : Int) (n : Int)
 have HLD : Hid (∀ W, Arr W w.heap.size 34 (refV (shaOf bs) ((ks.getD 0 0 : Nat) : Int) (n : Int)) → (loadVar 34 ⟨w.heap.size, 0, none⟩).run Tryd.prog W = .ok (.agg (refV (shaOf bs) ((ks.getD 0 0 : Nat) : Int) (n : Int)).toArray) W) := hide (fun W h => h.loadRef hsl)
 have HL := hide hlen
 have HWA := hide hwa.symm
 generalize refV (shaOf bs) ((ks.getD 0 0 : Nat) : Int) (n : Int) = rV at *
 clear hD hS hT hn hk hf hks hb hbg hgw hFt hw0 hw1 hwl hKS hk1 hk9 hbn hlen hsl hwa hba hAa hsza
 go_enter Tryd.func9, Tryd.ntmps9
 go_wp2_with (refine wpList_allocRef rfl rfl ?_; rw [HWA.out])
 refine (unhide HNW).mono ?_
 rintro e w2 ⟨pw, gn, cn, rv, rfl, hW2, hFw2, hS2, hU2⟩
 have HF1 := hide (unhide HFN w2 pw gn cn rv hW2 hFw2 hU2)
 have HE2 := hide (And.intro hFw2 (And.intro hS2 hU2))
 clear hW2 hFw2 hS2 hU2 HNW HFN
 go_wp2_with fail
 refine (unhide HF1).mono ?_
 rintro e w3 ⟨rfl, V', rv', hG3⟩
 have hW3 := hG3.ww
 rw [HL.out] at hW3
 have HE3 := hide hG3
 have HW3 := hide hW3
 clear hG3 HF1 hW3
 go_wp2_with fail
 refine wp_region_held_drew (S := fun _ => True) (by kernel_rfl) (trivial) (fun hHeld => ?_)
 refine wpAnyH_take (i := 0) (v := .pointer (some ⟨pw, 0, none⟩)) rfl (by kernel_rfl) (by kernel_rfl) (by kernel_rfl) (fun _ _ _ h => h) (Or.inl ⟨by rfl, fun w hSw => by go_simp⟩) (by assumption) ?_
 simp only [fGa, fGz, Act.put, fSa, fSz, fSs]
 refine wpAnyH_take (i := 2) (v := .pointer (some ⟨pw, 0, none⟩)) rfl (by kernel_rfl) (by kernel_rfl) (by kernel_rfl) (fun _ _ _ h => h) (Or.inl ⟨by rfl, fun w hSw => by go_simp⟩) (by assumption) ?_
 simp only [fGa, fGs, fGz, Act.put, fSa, fSz, fSs]
 refine wpAnyH_take (i := 3) (v := .pointer (some ⟨pw, 0, none⟩)) rfl (by kernel_rfl) (by kernel_rfl) (by kernel_rfl) (fun _ _ _ h => h) (Or.inl ⟨by rfl, fun w hSw => by go_simp⟩) (by assumption) ?_
 simp only [fGa, fGs, fGz, Act.put, fSa, fSz, fSs]
 refine wpAnyH_take (i := 4) (v := .pointer (some ⟨pw, 0, none⟩)) rfl (by kernel_rfl) (by kernel_rfl) (by kernel_rfl) (fun _ _ _ h => h) (Or.inl ⟨by rfl, fun w hSw => by go_simp⟩) (by assumption) ?_
 simp only [fGa, fGs, fGz, Act.put, fSa, fSz, fSs]
 refine wpAnyH_take (i := 6) (v := .int .i64 0) rfl (by kernel_rfl) (by kernel_rfl) (by kernel_rfl) (fun _ _ _ h => h) (Or.inl ⟨by rfl, fun w hSw => by go_simp⟩) (by assumption) ?_
 simp only [fGa, fGs, fGz, Act.put, fSa, fSz, fSs]
 refine wpAnyH_ready (rs := [1]) (by kernel_rfl) (by simp) (AllReadyH.cons rfl (fun K hK => ?_) AllReadyH.nil)
 refine step_call1C (by rfl) 31 rref_enter (.tmp 25) _ rfl rfl (unhide HREF _ pw gn cn rv' (HW3.out.up (F := fun _ => False) (Up.of_below (Below.refl _ _).drew) (fun _ _ h => h))) ?_
 rintro e w4 ⟨rfl, hb4⟩
 have hb4' : Below w3.heap.size w3 w4 := below_drew hb4
 have hW4 := HW3.out.up (F := fun _ => False) (Up.of_below hb4') (fun _ _ h => h)
 have HW4 := hide hW4
 clear hW4
 refine ⟨_, rfl, ?_⟩
 refine hK.out _ _ (trivial) (fun hH1 => ?_)
 clear hK K
 simp only [fGa, fGs, fGz, Act.put, fSa, fSz, fSs]
 refine wpAnyH_ready (rs := [5]) (by kernel_rfl) (by simp) (AllReadyH.cons rfl (fun K hK => ?_) AllReadyH.nil)
 refine step_call1C (by rfl) 23 nums_enter (.tmp 29) _ rfl rfl (unhide HNUM _ pw gn cn rv' HW4.out) ?_
 rintro e w5 ⟨g2, c2, rfl, hR5, hb5⟩
 have hb5' : Below w3.heap.size w3 w5 := below_then hb4' hb5
 obtain ⟨hA5, HF9⟩ := unhide HFI w2 w3 w5 pw gn cn rv V' rv' g2 c2 HE2.out.2.2 HE2.out.1 HE2.out.2.1 HE3.out hb5' (hR5.mono hb4'.size)
 have HFI9 := hide HF9
 clear HF9
 refine ⟨_, rfl, ?_⟩
 refine hK.out _ _ (trivial) (fun hH2 => ?_)
 clear hK K
 simp only [fGa, fGs, fGz, Act.put, fSa, fSz, fSs]
 refine wpAnyH_ready (rs := [7]) (by kernel_rfl) (by simp) (AllReadyH.cons rfl (fun K hK => ?_) AllReadyH.nil)
 refine step_storeArr (by rfl) (.tmp 6) (.tmp 26) 34 rfl rfl rfl hA5 hiR hzl h1R ?_
 intro w6 hA6 hWr6
 refine hK.out _ _ (trivial) (fun hH3 => ?_)
 clear hK K
 simp only [fGa, fGs, fGz, Act.put]
 refine wpAnyH_take (i := 8) (v := .slice (some ⟨g2, 0, none⟩) k c2) rfl (by kernel_rfl) (by kernel_rfl) (by kernel_rfl) (fun _ _ _ h => h) (Or.inl ⟨by rfl, fun w hSw => by go_simp⟩) (by assumption) ?_
 simp only [fGa, fGs, fGz, Act.put, fSa, fSz, fSs]
 refine wpAnyH_take (i := 9) (v := .int .i64 0) rfl (by kernel_rfl) (by kernel_rfl) (by kernel_rfl) (fun _ _ _ h => h) (Or.inl ⟨by rfl, fun w hSw => by go_simp⟩) (by assumption) ?_
 simp only [fGa, fGs, fGz, Act.put, fSa, fSz, fSs]
 refine wpAnyH_done (by kernel_rfl) ?_ _
 go_wp2
 obtain ⟨k1, k2, k3, k4, k5⟩ := unhide HFI9 w6 hWr6
 refine bodyPost_ret (v := .tuple #[.agg rV.toArray, .slice (some ⟨g2, 0, none⟩) k c2, .int .i64 0]) (results_ref3 rfl rfl rfl rfl (unhide HLD _ hA6)) rfl ?_
 exact ⟨g2, c2, V', rfl, k1, k2, k3, k4, k5⟩
end Go.Proofs.YtlofoklfggmbiaaDoor

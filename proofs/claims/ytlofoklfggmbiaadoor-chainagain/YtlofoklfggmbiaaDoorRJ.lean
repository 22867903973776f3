/- Keys (arrays of bytes) held against one another. chain: a reader: its cells, what a Step makes of it, in words. chain: a reader reads a sector. chain: a reader reads a sector. -/
import Derived.Test.YtlofoklfggmbiaaDoorQC
import Derived.Laws.StructEq
import Derived.Test.YtlofoklfggmbiaaDoorRI
namespace Go.Proofs.YtlofoklfggmbiaaDoor
open Go.RowKit

theorem all_range_int : ∀ (xs ys : List Int), xs.length = ys.length → ((List.range xs.length).all fun i => decide (xs.getD i 0 = ys.getD i 0)) = decide (xs = ys)
 | [], [], _ => rfl
 | x :: xs, y :: ys, h => by
   have ih := all_range_int xs ys (by simpa using h)
   rw [List.length_cons, List.range_succ_eq_map, List.all_cons, List.all_map]
   simp only [List.getD_cons_zero, Function.comp_def, List.getD_cons_succ, ih]
   rw [Bool.eq_iff_iff]
   simp
 | [], _ :: _, h => by simp at h
 | _ :: _, [], h => by simp at h
section
variable {P : Program} (w : World)
theorem run_equalIn_ints (d : Nat) (k : IntKind) (t e : TypeId) (n : Nat) (ht : P.underlying t = some (.array n e)) (he : P.underlying e = some (.int k)) (hsz : ∀ w, (sizeOf e).run P w = .ok 1 w) (xs ys : List Int) (hx : xs.length = n) (hy : ys.length = n) :
 (Op.equalIn (d + 2) t (.agg (xs.map (Value.int k)).toArray) (.agg (ys.map (Value.int k)).toArray)).run P w = .ok (decide (xs = ys)) w := by
 rw [← all_range_int xs ys (hx.trans hy.symm), hx, List.range_eq_range', Op.equalIn]
 simp only [Sem.run_bind, run_underlying ht, Result.andThen_ok, hsz, Std.Legacy.Range.forIn_eq_forIn_range', Std.Legacy.Range.size, Nat.sub_zero, Nat.add_sub_cancel, Nat.div_one]
 have hl : ∀ i ∈ List.range' 0 n 1, i < n := fun i hi => by simpa using (List.mem_range'_1.1 hi).2
 generalize List.range' 0 n 1 = l at hl ⊢
 induction l with
 | nil => simp
 | cons i l ih =>
   have hi : i < n := hl i (by simp)
   have px : (part e (xs.map (Value.int k)).toArray (i * 1)).run P w = .ok (.int k (xs.getD i 0)) w := by
    simp [part, isAgg, run_underlying he, List.getD, List.getElem?_eq_getElem (show i < xs.length by omega)]
   have py : (part e (ys.map (Value.int k)).toArray (i * 1)).run P w = .ok (.int k (ys.getD i 0)) w := by
    simp [part, isAgg, run_underlying he, List.getD, List.getElem?_eq_getElem (show i < ys.length by omega)]
   have pe : (Op.equalIn (d + 1) e (.int k (xs.getD i 0)) (.int k (ys.getD i 0))).run P w = .ok (decide (xs.getD i 0 = ys.getD i 0)) w := by
    rw [run_equalIn_int w d e k k _ _ he]
    congr 1
   simp only [List.forIn_cons, Sem.run_bind, px, py, pe, Result.andThen_ok, List.all_cons]
   cases hb : decide (xs.getD i 0 = ys.getD i 0)
   · simp
   · simp only [Bool.not_true, Bool.false_eq_true, if_false, Sem.run_pure, Result.andThen_ok, Bool.true_and]
     exact ih fun j hj => hl j (by simp [hj])
end
theorem size8 (w : World) : (sizeOf 5).run Tryd.prog w = .ok 1 w := by kernel_rfl
theorem key_neq (xs ys : List Int) (hx : xs.length = 32) (hy : ys.length = 32) (w : World) : (binOp .neq 32 (.agg (xs.map (Value.int .u8)).toArray) (.agg (ys.map (Value.int .u8)).toArray)).run Tryd.prog w = .ok (.bool (!decide (xs = ys))) w := by
 rw [run_neq_struct, run_equalIn_ints w 9998 .u8 32 5 32 Tryd.underlying32 Tryd.underlying5 size8 xs ys hx hy]
 rfl
theorem key_guard (op : BinOp) (x y : Operand) (xs ys : Array Value) (w : World) : (eqGuard op 32 x y (.agg xs) (.agg ys)).run Tryd.prog w = .ok () w := run_eqGuard_agg w op 32 x y xs ys (by kernel_rfl)
end Go.Proofs.YtlofoklfggmbiaaDoor

namespace Go.Proofs.YtlofoklfggmbiaaDoor
open Go.RowKit Go.Maps

def readerV (p : Nat) (hs : List Int) (fi le : Int) (nv : Value) (dn : Int) (up : Nat) (nx : Int) (bv : Value) (br : Int) : List Value := standV p hs fi le nv dn ++ [.pointer (some ⟨up, 0, none⟩), .int .i64 nx, bv, .int .i64 br]
theorem readerV_at {p : Nat} {hs : List Int} (hh : hs.length = 32) (fi le : Int) (nv : Value) (dn : Int) (up : Nat) (nx : Int) (bv : Value) (br : Int) (j : Nat) : (readerV p hs fi le nv dn up nx bv br)[j + 33]? = ([.int .i64 fi, .int .i64 le, nv, .int .i64 dn, .pointer (some ⟨up, 0, none⟩), .int .i64 nx, bv, .int .i64 br] : List Value)[j]? := by
 unfold readerV standV refV
 simp only [List.cons_append, List.append_assoc]
 rw [show j + 33 = (j + 32) + 1 by omega, List.getElem?_cons_succ, List.getElem?_append_right (by simp [hh]), List.length_map, hh, Nat.add_sub_cancel]
 rfl
theorem readerV_set {p : Nat} {hs : List Int} (hh : hs.length = 32) (fi le : Int) (nv : Value) (dn : Int) (up : Nat) (nx : Int) (bv : Value) (br : Int) :
 (∀ nv', (readerV p hs fi le nv dn up nx bv br).set 35 nv' = readerV p hs fi le nv' dn up nx bv br) ∧ (∀ dn' : Int, (readerV p hs fi le nv dn up nx bv br).set 36 (.int .i64 dn') = readerV p hs fi le nv dn' up nx bv br) ∧ (∀ nx' : Int, (readerV p hs fi le nv dn up nx bv br).set 38 (.int .i64 nx') = readerV p hs fi le nv dn up nx' bv br) ∧ (∀ bv', (readerV p hs fi le nv dn up nx bv br).set 39 bv' = readerV p hs fi le nv dn up nx bv' br) ∧ (∀ br' : Int, (readerV p hs fi le nv dn up nx bv br).set 40 (.int .i64 br') = readerV p hs fi le nv dn up nx bv br') := by
 unfold readerV standV refV
 simp only [List.cons_append, List.append_assoc, fSs]
 refine ⟨fun x => ?_, fun x => ?_, fun x => ?_, fun x => ?_, fun x => ?_⟩ <;> rw [List.set_append, if_neg (by simp [hh])] <;> simp [hh]
theorem reader_ref {w : World} {g p : Nat} {hs : List Int} {fi le : Int} {nv : Value} {dn : Int} {up : Nat} {nx : Int} {bv : Value} {br : Int} (h : Arr w g 68 (readerV p hs fi le nv dn up nx bv br)) : w.rangeAt g 1 (refV hs fi le) := by
 refine stand_ref (t := 68) (p := p) (vs := [nv, .int .i64 dn, .pointer (some ⟨up, 0, none⟩), .int .i64 nx, bv, .int .i64 br]) ?_
 have e : readerV p hs fi le nv dn up nx bv br = .pointer (some ⟨p, 0, none⟩) :: (refV hs fi le ++ [nv, .int .i64 dn, .pointer (some ⟨up, 0, none⟩), .int .i64 nx, bv, .int .i64 br]) := by simp [readerV, standV]
 rw [← e]
 exact h
theorem ref_key {w : World} {g o : Nat} {hs : List Int} {fi le : Int} (h : w.rangeAt g o (refV hs fi le)) : w.rangeAt g o (hs.map (Value.int .u8)) := fun j v hv => h j v (by
 unfold refV
 rw [List.getElem?_append_left (List.getElem?_eq_some_iff.1 hv).1]
 exact hv)
/-- What a reader stands at. -/
structure RS where
 ns : List Nat
 ws : List Nat
 nx : Nat
 by_ : List Int
 br : Int
/-- The piece of a sector, by the ref's length. -/
def partOf (b : List Int) (le : Int) (place : Nat) : List Int := (b.drop 28).take (cntI le (place : Int)).toNat
/-- May the sector stand there? -/
abbrev fits (b hs : List Int) (le : Int) (fr to_ : Nat) (S : RS) : Prop := SoundP b hs le (S.ns.length : Int) (leN (b.take 4)) ∧ ((S.ns.length : Int) + 1 = secN le ∨ hasB fr to_ S.ws (leN (b.take 4)) = true)
/-- The sector was read, and may stand there: all but the last look. -/
def goneOn (b : List Int) (le : Int) (fr to_ : Nat) (S : RS) : RS := ⟨S.ns ++ [S.nx], if (S.ns.length : Int) + 1 = secN le then S.ws else claimW fr to_ S.ws (leN (b.take 4)), (leN (b.take 4)).toNat, S.by_ ++ partOf b le S.ns.length, 0⟩
def failed (S : RS) (n : Int) : RS := { S with by_ := [], br := n }
/-- What reading a sector makes of it. -/
def readS (b hs : List Int) (fi le : Int) (fr to_ : Nat) (S : RS) : RS :=
 if fits b hs le fr to_ S then
  if (S.ns.length : Int) + 1 = secN le ∧ shaOf (S.by_ ++ partOf b le S.ns.length) ≠ hs then failed (goneOn b le fr to_ S) fi else goneOn b le fr to_ S
 else ⟨S.ns ++ [S.nx], S.ws, S.nx, [], (S.nx : Int)⟩
/-- A reader in memory. -/
structure Rd (w : World) (B p pr up ug : Nat) (hs : List Int) (fi le : Int) (fr to_ : Nat) (nv bv : Value) (S : RS) : Prop where
 arr : Arr w pr 68 (readerV p hs fi le nv (S.ns.length : Int) up (S.nx : Int) bv S.br)
 row : Row w B 3 nv (iV S.ns)
 sp : Sp w B up ug fr to_ S.ws
 own : Own8 w B bv S.by_
 hl : hs.length = 32
 hb : ∀ x ∈ hs, 0 ≤ x ∧ x ≤ 255
/-- Its blocks. -/
def Fr (pr up ug : Nat) (nv bv : Value) (b : Nat) : Prop := b = pr ∨ b = up ∨ b = ug ∨ nv.ownBlock = some b ∨ bv.ownBlock = some b
theorem Rd.up {F : Nat → Prop} {w w' : World} {B p pr up ug : Nat} {hs : List Int} {fi le : Int} {fr to_ : Nat} {nv bv : Value} {S : RS} (h : Rd w B p pr up ug hs fi le fr to_ nv bv S) (hu : Up F w w') (hF : ∀ b, Fr pr up ug nv bv b → ¬ F b) : Rd w' B p pr up ug hs fi le fr to_ nv bv S :=
 ⟨h.arr.up hu (hF _ (Or.inl rfl)), owns_up h.row hu (fun g hg => hF g (Or.inr (Or.inr (Or.inr (Or.inl hg))))), h.sp.up hu (hF _ (Or.inr (Or.inl rfl))) (hF _ (Or.inr (Or.inr (Or.inl rfl)))), ⟨owns_up h.own.1 hu (fun g hg => hF g (Or.inr (Or.inr (Or.inr (Or.inr hg))))), h.own.2⟩, h.hl, h.hb⟩
theorem Rd.below {w w' : World} {B p pr up ug : Nat} {hs : List Int} {fi le : Int} {fr to_ : Nat} {nv bv : Value} {S : RS} (h : Rd w B p pr up ug hs fi le fr to_ nv bv S) (hb : Below w.heap.size w w') : Rd w' B p pr up ug hs fi le fr to_ nv bv S := h.up (F := fun _ => False) (Up.of_below hb) (fun _ _ h => h)
/-- Blocks of unlike types are unlike. -/
theorem blk_unlike {w : World} {g g' : Nat} {cs cs' : Array Value} {t t' : TypeId} {m m' : Nat × Nat} (h : w.heap[g]? = some (.cells cs t m)) (h' : w.heap[g']? = some (.cells cs' t' m')) (ht : t ≠ t') : g ≠ g' := fun e => by
 subst e
 rw [h] at h'
 simp only [Option.some.injEq, Obj.cells.injEq] at h'
 exact ht h'.2.1
theorem row_blk {w : World} {B : Nat} {t : TypeId} {s n : Nat} {v : Value} {cs : List Value} (h : w.ownsRow B t s v n cs) {g : Nat} (hg : v.ownBlock = some g) : B ≤ g ∧ ∃ c m, w.heap[g]? = some (.cells c t m) := by
 rcases h.2 with ⟨rfl, _⟩ | ⟨g', cap, cur, rfl, hB, hg', _⟩
 · cases hg
 · cases hg
   exact ⟨hB, _, _, hg'⟩
theorem Sp.cellsG {w : World} {B g gw fr to_ : Nat} {ws : List Nat} (h : Sp w B g gw fr to_ ws) : (∃ c m, w.heap[g]? = some (.cells c 109 m)) ∧ B ≤ gw ∧ ∃ c m, w.heap[gw]? = some (.cells c 110 m) := by
 obtain ⟨c, hg, hr⟩ := h.blk
 exact ⟨⟨_, _, hg⟩, (row_blk hr rfl).1, (row_blk hr rfl).2⟩
theorem Rd.apart {w : World} {B p pr up ug : Nat} {hs : List Int} {fi le : Int} {fr to_ : Nat} {nv bv : Value} {S : RS} (h : Rd w B p pr up ug hs fi le fr to_ nv bv S) : pr ≠ up ∧ pr ≠ ug ∧ up ≠ ug ∧ nv.ownBlock ≠ some pr ∧ nv.ownBlock ≠ some up ∧ nv.ownBlock ≠ some ug ∧ bv.ownBlock ≠ some pr ∧ bv.ownBlock ≠ some up ∧ bv.ownBlock ≠ some ug ∧ (∀ g, nv.ownBlock = some g → bv.ownBlock ≠ some g) := by
 have hA : w.heap[pr]? = some (.cells (readerV p hs fi le nv (S.ns.length : Int) up (S.nx : Int) bv S.br).toArray 68 (0, 0)) := h.arr
 obtain ⟨⟨cu, mu, hu⟩, _, cg, mg, hg⟩ := h.sp.cellsG
 refine ⟨blk_unlike hA hu (by decide), blk_unlike hA hg (by decide), blk_unlike hu hg (by decide), fun e => ?_, fun e => ?_, fun e => ?_, fun e => ?_, fun e => ?_, fun e => ?_, fun g e e2 => ?_⟩
 · obtain ⟨_, c, m, h1⟩ := row_blk h.row e; exact blk_unlike h1 hA (by decide) rfl
 · obtain ⟨_, c, m, h1⟩ := row_blk h.row e; exact blk_unlike h1 hu (by decide) rfl
 · obtain ⟨_, c, m, h1⟩ := row_blk h.row e; exact blk_unlike h1 hg (by decide) rfl
 · obtain ⟨_, c, m, h1⟩ := row_blk h.own.1 e; exact blk_unlike h1 hA (by decide) rfl
 · obtain ⟨_, c, m, h1⟩ := row_blk h.own.1 e; exact blk_unlike h1 hu (by decide) rfl
 · obtain ⟨_, c, m, h1⟩ := row_blk h.own.1 e; exact blk_unlike h1 hg (by decide) rfl
 · obtain ⟨_, c, m, h1⟩ := row_blk h.row e; obtain ⟨_, c2, m2, h2⟩ := row_blk h.own.1 e2; exact blk_unlike h1 h2 (by decide) rfl
/-- A reader's blocks lie there. -/
theorem Rd.lt {w : World} {B p pr up ug : Nat} {hs : List Int} {fi le : Int} {fr to_ : Nat} {nv bv : Value} {S : RS} (h : Rd w B p pr up ug hs fi le fr to_ nv bv S) {b : Nat} (hb : Fr pr up ug nv bv b) : b < w.heap.size := by
 rcases hb with rfl | rfl | rfl | hb | hb
 · exact h.arr.lt
 · exact h.sp.ltg
 · exact h.sp.ltw
 · exact (h.row.lt _ hb).2
 · exact (World.ownsRow.lt h.own.1 _ hb).2
theorem up_set {w : World} {g j : Nat} {v : Value} : Up (fun b => b = g) w (w.setCell ⟨g, j, none⟩ v) := Up.of_grown (grown_cell w g j v) (fun _ hx => (Option.some.inj hx).symm)
/-- A cell of its block is written: the others stay. -/
theorem Rd.setArr {w : World} {B p pr up ug : Nat} {hs : List Int} {fi le : Int} {fr to_ : Nat} {nv bv nv' bv' : Value} {S S' : RS} {j : Nat} {v : Value} (h : Rd w B p pr up ug hs fi le fr to_ nv bv S) (hA : (readerV p hs fi le nv (S.ns.length : Int) up (S.nx : Int) bv S.br).set j v = readerV p hs fi le nv' (S'.ns.length : Int) up (S'.nx : Int) bv' S'.br) (hrow : Row w B 3 nv' (iV S'.ns)) (hnv : nv'.ownBlock ≠ some pr) (hws : S'.ws = S.ws) (hown : Own8 w B bv' S'.by_) (hbv : bv'.ownBlock ≠ some pr) :
 Rd (w.setCell ⟨pr, j, none⟩ v) B p pr up ug hs fi le fr to_ nv' bv' S' := by
 obtain ⟨a1, a2, _⟩ := h.apart
 have hu := up_set (w := w) (g := pr) (j := j) (v := v)
 refine ⟨?_, owns_up hrow hu (fun g hg e => hnv (e ▸ hg)), ?_, ⟨owns_up hown.1 hu (fun g hg e => hbv (e ▸ hg)), hown.2⟩, h.hl, h.hb⟩
 · have := h.arr.set j v
   rw [hA] at this
   exact this
 · rw [hws]; exact h.sp.up hu (fun e => a1 e.symm) (fun e => a2 e.symm)
set_option maxRecDepth 100000 in
/-- Reading ends at a broken sector. -/
theorem fail_calls {w : World} {B p pr up ug : Nat} {hs : List Int} {fi le : Int} {fr to_ : Nat} {nv bv : Value} {S : RS} (h : Rd w B p pr up ug hs fi le fr to_ nv bv S) (n : Int) :
 Calls Tryd.prog 82 #[.pointer (some ⟨pr, 0, none⟩), .int .i64 n] w fun e w' => e = .returned (.tuple #[]) ∧ Rd w' B p pr up ug hs fi le fr to_ nv (.slice none 0 0) (failed S n) ∧ Up (fun b => b = pr) w w' := by
 have c40 : w.cell? ⟨pr, 40, none⟩ = some (.int .i64 S.br) := arr_cell h.arr (readerV_at h.hl fi le nv _ up _ bv S.br 7)
 have f40 := h.arr.frozen 40
 obtain ⟨_, _, _, n1, _, _, b1, _⟩ := h.apart
 have h2 := h.setArr (S' := { S with br := n }) (nv' := nv) (bv' := bv) (j := 40) (v := .int .i64 n) ((readerV_set h.hl fi le nv _ up _ bv S.br).2.2.2.2 n) h.row n1 rfl h.own b1
 have c39 : (w.setCell ⟨pr, 40, none⟩ (.int .i64 n)).cell? ⟨pr, 39, none⟩ = some bv := arr_cell h2.arr (readerV_at h.hl fi le nv _ up _ bv n 6)
 have f39 := h2.arr.frozen 39
 have h3 := h2.setArr (S' := failed S n) (nv' := nv) (bv' := .slice none 0 0) (j := 39) (v := .slice none 0 0) ((readerV_set h.hl fi le nv _ up _ bv n).2.2.2.1 _) h2.row n1 rfl (Own8.nil _ _) (by simp [Value.ownBlock])
 have HE := hide (And.intro h3 ((up_set (w := w) (g := pr) (j := 40) (v := .int .i64 n)).trans (up_set (w := w.setCell ⟨pr, 40, none⟩ (.int .i64 n)) (g := pr) (j := 39) (v := .slice none 0 0)) (fun x hx => Or.inl hx)))
 clear h h2 h3 n1 b1
 go_enter Tryd.func82, Tryd.ntmps82
 go_wp2
 go_end0
 exact ⟨rfl, HE.out.1, HE.out.2⟩
end Go.Proofs.YtlofoklfggmbiaaDoor

namespace Go.Proofs.YtlofoklfggmbiaaDoor
open Go.RowKit Go.Maps

theorem rdF4 {b : List Int} (h : b.length = 512) : rdF b 0 4 = (leN (b.take 4), 4, 0) := by
 unfold rdF
 rw [if_neg (by omega), if_neg (by omega), if_neg (by omega)]
 rfl
theorem leN4 {b : List Int} (hb : ∀ x ∈ b, 0 ≤ x ∧ x ≤ 255) : 0 ≤ leN (b.take 4) ∧ leN (b.take 4) < 4294967296 := by
 have h := leN_lt (ys := b.take 4) (fun x hx => hb x (List.mem_of_mem_take hx))
 refine ⟨h.1, Int.lt_of_lt_of_le h.2 ?_⟩
 have : (b.take 4).length ≤ 4 := by simp; omega
 have h2 : (2 : Int) ^ (8 * (b.take 4).length) ≤ 2 ^ (8 * 4) := by
  have := Nat.pow_le_pow_right (show 0 < 2 by decide) (show 8 * (b.take 4).length ≤ 8 * 4 by omega)
  exact_mod_cast this
 exact h2
theorem isB_sector {w : World} {g : Nat} {b : List Int} (h : Arr w g 118 (u8V b)) (hb : IsSec b) : IsB w (.slice (some ⟨g, 0, none⟩) 512 512) b := by
 have h1 := isB_pre (n := 512) (cap := 512) (t := 118) (xs := b) h hb.2 (by rw [hb.1]; omega) (by omega) (by omega)
 rw [List.take_of_length_le (by rw [hb.1]; omega)] at h1
 exact h1
theorem Row.shapeI {w : World} {B : Nat} {t : TypeId} {v : Value} {xs : List Value} (h : Row w B t v xs) : ∃ a c, v = .slice a xs.length c := by
 rcases h.2 with ⟨rfl, h0⟩ | ⟨g, cap, cur, rfl, _⟩
 · exact ⟨none, 0, by rw [h0]⟩
 · exact ⟨_, _, rfl⟩
section
variable {ops : Array Oper} {o : Oper} {a : Act} {w : World} {K : Act → World → Prop} {Q : Exit → Act → World → Prop} {E : Prop}
theorem loadBs_run {W : World} {ad : Addr} {v : Value} (h : W.cell? ad = some v) : (Instr.loadAt 26 (.pointer (some ad))).run Tryd.prog W = .ok v W := by
 have hu := Tryd.underlying26
 go_simp
theorem step_loadBs (hgd : o.guard = none) (x : Operand) (ho : o.op = .load 26 x) {ad : Addr} {v : Value} (hx : a.eval x = .pointer (some ad)) (hc : w.cell? ad = some v) (hk : K (a.put o.dst v) w) : if Region.wanted o (yielded ops a.tmps) = true then Oper.wp Tryd.prog o a w K Q else E := by
 rw [if_pos (by simp [Region.wanted, hgd])]
 unfold Oper.wp execOp
 simp only [ho, hx, Sem.run_bind, loadBs_run hc, Result.andThen_ok, Sem.run_pure]
 exact hk
theorem storeBs_run {W : World} {ad : Addr} {v u : Value} {aa : Option Addr} {n c : Nat} (hv : v = .slice aa n c) (h : W.cell? ad = some u) (hf : W.frozen? ad = false) : (Instr.storeAt 26 (.pointer (some ad)) v).run Tryd.prog W = .ok () (W.setCell ad v) := by
 subst hv
 obtain ⟨b, o, s⟩ := ad
 have hs : s = none := by
  cases s with
  | none => rfl
  | some x => simp [World.cell?] at h; split at h <;> simp at h
 subst hs
 go_simp
theorem step_storeBs (hgd : o.guard = none) (x y : Operand) (ho : o.op = .store 26 x y) {ad : Addr} {v u : Value} {aa : Option Addr} {n c : Nat} (hx : a.eval x = .pointer (some ad)) (hy : a.eval y = v) (hv : v = .slice aa n c) (hc : w.cell? ad = some u) (hf : w.frozen? ad = false) (hk : K (a.put o.dst undef) (w.setCell ad v)) : if Region.wanted o (yielded ops a.tmps) = true then Oper.wp Tryd.prog o a w K Q else E := by
 rw [if_pos (by simp [Region.wanted, hgd])]
 unfold Oper.wp execOp
 simp only [ho, hx, hy, Sem.run_bind, storeBs_run hv hc hf, Result.andThen_ok, Sem.run_pure]
 exact hk
theorem step_appBs (hgd : o.guard = none) (x y : Operand) (ho : o.op = .call { callee := .builtin .append, args := #[x, y], argTypes := #[26, 26] }) {B : Nat} {v : Value} {ad : Addr} {n c : Nat} {xs ys : List Int} (hx : a.eval x = v) (hown : Own8 w B v xs) (hy : a.eval y = .slice (some ad) n c) (hys : IsB w (.slice (some ad) n c) ys)
 (hl : xs.length + ys.length ≤ 140737488355328) (hB : B ≤ w.heap.size) (hk : ∀ v' w', Own8 w' B v' (xs ++ ys) → w.grownBy w' v.ownBlock → (v'.ownBlock = v.ownBlock ∨ v'.ownBlock = some w.heap.size) → K (a.put o.dst v') w') : if Region.wanted o (yielded ops a.tmps) = true then Oper.wp Tryd.prog o a w K Q else E := by
 rw [if_pos (by simp [Region.wanted, hgd])]
 obtain ⟨i0, hi, hz0, hz1, hz2⟩ := info_parts info8
 have hn := hys.lenEq
 subst hn
 obtain ⟨v', w', hr, h2, h3, h4, h5⟩ := run_append_own_at (P := Tryd.prog) w B 26 o.type 5 i0 (.int .u8 0) 1 1 Tryd.underlying26 hi hz0 hz1 hz2 rfl (by decide) v xs.length (xs.map (Value.int .u8)) hown.1 ad ys.length c (ys.map (Value.int .u8)) (by simp) hys.cells (u8_one ys) (by unfold maxLen; omega) (by omega) hB
 unfold Oper.wp execOp
 simp only [ho, resolve, invoke, builtin, Sem.run_bind, Sem.run_pure, Result.andThen_ok, List.map_toArray, List.map_cons, List.map_nil, hx, hy, hr]
 refine hk v' w' ⟨?_, fun x hx => ?_⟩ h3 h5
 · rw [List.length_append, List.map_append]; exact h2
 · rcases List.mem_append.1 hx with hx | hx
   · exact hown.2 x hx
   · exact hys.mem x hx
end
section
variable {w w' : World} {B p pr up ug : Nat} {hs : List Int} {fi le : Int} {fr to_ : Nat} {nv bv : Value} {S : RS}
theorem Rd.cells (h : Rd w B p pr up ug hs fi le fr to_ nv bv S) : w.cell? ⟨pr, 0, none⟩ = some (.pointer (some ⟨p, 0, none⟩)) ∧ w.cell? ⟨pr, 33, none⟩ = some (.int .i64 fi) ∧ w.cell? ⟨pr, 34, none⟩ = some (.int .i64 le) ∧ w.cell? ⟨pr, 35, none⟩ = some nv ∧ w.cell? ⟨pr, 36, none⟩ = some (.int .i64 (S.ns.length : Int)) ∧ w.cell? ⟨pr, 37, none⟩ = some (.pointer (some ⟨up, 0, none⟩)) ∧ w.cell? ⟨pr, 38, none⟩ = some (.int .i64 (S.nx : Int)) ∧ w.cell? ⟨pr, 39, none⟩ = some bv ∧ w.cell? ⟨pr, 40, none⟩ = some (.int .i64 S.br) := by
 have q := fun j => arr_cell (v := (([.int .i64 fi, .int .i64 le, nv, .int .i64 (S.ns.length : Int), .pointer (some ⟨up, 0, none⟩), .int .i64 (S.nx : Int), bv, .int .i64 S.br] : List Value)[j]?).getD undef) h.arr (j := j + 33)
 have e := readerV_at (p := p) h.hl fi le nv (S.ns.length : Int) up (S.nx : Int) bv S.br
 exact ⟨arr_cell h.arr rfl, q 0 (e 0), q 1 (e 1), q 2 (e 2), q 3 (e 3), q 4 (e 4), q 5 (e 5), q 6 (e 6), q 7 (e 7)⟩
theorem Rd.rowApart (_h : Rd w B p pr up ug hs fi le fr to_ nv bv S) {B' : Nat} {t : TypeId} {s n : Nat} {v : Value} {cs : List Value} (hA : Arr w' pr 68 (readerV p hs fi le nv (S.ns.length : Int) up (S.nx : Int) bv S.br)) (hr : w'.ownsRow B' t s v n cs) (ht : t ≠ 68) : v.ownBlock ≠ some pr := fun e => by
 obtain ⟨_, c, m, h1⟩ := row_blk hr e
 have h2 : w'.heap[pr]? = _ := hA
 rw [h1] at h2
 simp only [Option.some.injEq, Obj.cells.injEq] at h2
 exact ht h2.2.1
theorem up_own {w w' : World} {v : Value} (hg : w.grownBy w' v.ownBlock) : Up (fun b => v.ownBlock = some b) w w' := Up.of_grown hg (fun _ h => h)
/-- A number was noted. -/
theorem Rd.numbered (h : Rd w B p pr up ug hs fi le fr to_ nv bv S) {v' : Value} {x : Nat} (hr : Row w' B 3 v' (iV (S.ns ++ [x]))) (hg : w.grownBy w' nv.ownBlock) :
 w'.cell? ⟨pr, 35, none⟩ = some nv ∧ w'.frozen? ⟨pr, 35, none⟩ = false ∧ (w'.setCell ⟨pr, 35, none⟩ v').cell? ⟨pr, 36, none⟩ = some (.int .i64 (S.ns.length : Int)) ∧ (w'.setCell ⟨pr, 35, none⟩ v').frozen? ⟨pr, 36, none⟩ = false ∧ Rd ((w'.setCell ⟨pr, 35, none⟩ v').setCell ⟨pr, 36, none⟩ (.int .i64 ((S.ns.length + 1 : Nat) : Int))) B p pr up ug hs fi le fr to_ v' bv { S with ns := S.ns ++ [x] } := by
 obtain ⟨a1, a2, a3, n1, n2, n3, b1, b2, b3, nb⟩ := h.apart
 have hu := up_own hg
 have hA := h.arr.up hu (fun e => n1 e)
 have hv := h.rowApart hA hr (by decide)
 have hA1 := hA.set 35 v'
 rw [(readerV_set h.hl fi le nv _ up _ bv S.br).1] at hA1
 have hA2 := hA1.set 36 (.int .i64 ((S.ns.length + 1 : Nat) : Int))
 rw [(readerV_set h.hl fi le v' _ up _ bv S.br).2.1] at hA2
 have h35 : (readerV p hs fi le nv (S.ns.length : Int) up (S.nx : Int) bv S.br)[35]? = some nv := readerV_at h.hl fi le nv _ up _ bv S.br 2
 have h36 : (readerV p hs fi le v' (S.ns.length : Int) up (S.nx : Int) bv S.br)[36]? = some (.int .i64 (S.ns.length : Int)) := readerV_at h.hl fi le v' _ up _ bv S.br 3
 have hS2 : Up (fun b => b = pr) w' ((w'.setCell ⟨pr, 35, none⟩ v').setCell ⟨pr, 36, none⟩ (.int .i64 ((S.ns.length + 1 : Nat) : Int))) := up_set.trans up_set (fun _ h => Or.inl h)
 refine ⟨arr_cell hA h35, hA.frozen _, arr_cell hA1 h36, hA1.frozen _, ⟨?_, owns_up hr hS2 (fun g hg e => hv (e ▸ hg)), ?_, ⟨owns_up (owns_up h.own.1 hu (fun g hg e => nb g e hg)) hS2 (fun g hg e => b1 (e ▸ hg)), h.own.2⟩, h.hl, h.hb⟩⟩
 · show Arr _ pr _ (readerV p hs fi le v' ((S.ns ++ [x]).length : Int) up (S.nx : Int) bv S.br)
   rw [List.length_append, List.length_singleton]
   exact hA2
 · exact (h.sp.up hu (fun e => n2 e) (fun e => n3 e)).up hS2 (fun e => a1 e.symm) (fun e => a2 e.symm)
/-- A piece was laid behind. -/
theorem Rd.appended (h : Rd w B p pr up ug hs fi le fr to_ nv bv S) {v' : Value} {ys : List Int} (ho : Own8 w' B v' ys) (hg : w.grownBy w' bv.ownBlock) :
 w'.cell? ⟨pr, 39, none⟩ = some bv ∧ w'.frozen? ⟨pr, 39, none⟩ = false ∧ Rd (w'.setCell ⟨pr, 39, none⟩ v') B p pr up ug hs fi le fr to_ nv v' { S with by_ := ys } := by
 obtain ⟨a1, a2, a3, n1, n2, n3, b1, b2, b3, nb⟩ := h.apart
 have hu := up_own hg
 have hA := h.arr.up hu (fun e => b1 e)
 have hv := h.rowApart hA ho.1 (by decide)
 have hA1 := hA.set 39 v'
 rw [(readerV_set h.hl fi le nv _ up _ bv S.br).2.2.2.1] at hA1
 have h39 : (readerV p hs fi le nv (S.ns.length : Int) up (S.nx : Int) bv S.br)[39]? = some bv := readerV_at h.hl fi le nv _ up _ bv S.br 6
 have hS2 : Up (fun b => b = pr) w' (w'.setCell ⟨pr, 39, none⟩ v') := up_set
 exact ⟨arr_cell hA h39, hA.frozen _, ⟨hA1, owns_up (owns_up h.row hu (fun g hg e => nb g hg e)) hS2 (fun g hg e => n1 (e ▸ hg)), (h.sp.up hu (fun e => b2 e) (fun e => b3 e)).up hS2 (fun e => a1 e.symm) (fun e => a2 e.symm), ⟨owns_up ho.1 hS2 (fun g hg e => hv (e ▸ hg)), ho.2⟩, h.hl, h.hb⟩⟩
/-- A number was claimed. -/
theorem Rd.claimed (h : Rd w B p pr up ug hs fi le fr to_ nv bv S) {ws' : List Nat} (hsp : Sp w' B up ug fr to_ ws') (hg : w.grownBy w' (some ug)) : Rd w' B p pr up ug hs fi le fr to_ nv bv { S with ws := ws' } := by
 obtain ⟨a1, a2, a3, n1, n2, n3, b1, b2, b3, nb⟩ := h.apart
 have hu : Up (fun b => b = ug) w w' := Up.of_grown hg (fun _ h => (Option.some.inj h).symm)
 exact ⟨h.arr.up hu a2, owns_up h.row hu (fun g hg e => n3 (e ▸ hg)), hsp, ⟨owns_up h.own.1 hu (fun g hg e => b3 (e ▸ hg)), h.own.2⟩, h.hl, h.hb⟩
/-- The next sector was noted. -/
theorem Rd.nexted (h : Rd w B p pr up ug hs fi le fr to_ nv bv S) (x : Nat) : w.frozen? ⟨pr, 38, none⟩ = false ∧ Rd (w.setCell ⟨pr, 38, none⟩ (.int .i64 (x : Int))) B p pr up ug hs fi le fr to_ nv bv { S with nx := x } := by
 obtain ⟨_, _, _, n1, _, _, b1, _⟩ := h.apart
 exact ⟨h.arr.frozen _, h.setArr (S' := { S with nx := x }) ((readerV_set h.hl fi le nv _ up _ bv S.br).2.2.1 (x : Int)) h.row n1 rfl h.own b1⟩
end
/-- What stays as it is while a sector is read. -/
structure Env (w : World) (p gl gm : Nat) (V : Nat → Value) (pr up ug : Nat) (nv bv : Value) : Prop where
 flt : ∀ x, Ft p gl gm V x → x < w.heap.size
 rlt : ∀ x, Fr pr up ug nv bv x → x < w.heap.size
 hX : ∀ x, Fr pr up ug nv bv x → ¬ Ft p gl gm V x
 gF : ∀ x, Ft p gl gm V x → GB ≤ x
 gR : ∀ x, Fr pr up ug nv bv x → GB ≤ x
 gs : GB ≤ w.heap.size
/-- A reader in the midst of reading a sector. -/
structure Mid (w wm : World) (B p gl gm : Nat) (V : Nat → Value) (D : AD) (pr up ug gb : Nat) (hs : List Int) (fi le : Int) (fr to_ : Nat) (b : List Int) (nv bv nv' bv' : Value) (S : RS) : Prop where
 rd : Rd wm B p pr up ug hs fi le fr to_ nv' bv' S
 dk : Dk wm p gl gm V D.read
 isb : IsB wm (.slice (some ⟨gb, 0, none⟩) 512 512) b
 new : w.heap.size ≤ gb
 lt : gb < wm.heap.size
 ft : ∀ x, Fr pr up ug nv' bv' x → Fr pr up ug nv bv x ∨ w.heap.size ≤ x
 gbn : ∀ x, Fr pr up ug nv' bv' x → x ≠ gb
 up : Up (fun x => x = p ∨ Fr pr up ug nv bv x) w wm
 tt : TT wm
theorem Mid.step {w wm wm' : World} {B p gl gm : Nat} {V : Nat → Value} {D : AD} {pr up ug gb : Nat} {hs : List Int} {fi le : Int} {fr to_ : Nat} {b : List Int} {nv bv nv' bv' nv2 bv2 : Value} {S S2 : RS} (h : Mid w wm B p gl gm V D pr up ug gb hs fi le fr to_ b nv bv nv' bv' S) (hE : Env w p gl gm V pr up ug nv bv)
 (hu : Up (Fr pr up ug nv' bv') wm wm') (hr : Rd wm' B p pr up ug hs fi le fr to_ nv2 bv2 S2) (hf : ∀ x, Fr pr up ug nv2 bv2 x → Fr pr up ug nv' bv' x ∨ wm.heap.size ≤ x) : Mid w wm' B p gl gm V D pr up ug gb hs fi le fr to_ b nv bv nv2 bv2 S2 := by
 have hsz := h.up.size
 refine ⟨hr, h.dk.up hu (fun x hx hf2 => ?_), h.isb.up hu (fun x hx hf2 => ?_), h.new, Nat.lt_of_lt_of_le h.lt hu.size, fun x hx => ?_, fun x hx e => ?_, h.up.trans hu (fun x hx => ?_), h.tt.up hu (fun x hx => ?_)⟩
 · rcases h.ft x hf2 with h1 | h1
   · exact hE.hX x h1 hx
   · have := hE.flt x hx; omega
 · simp only [blkOf, Option.some.injEq] at hx
   exact h.gbn x hf2 hx.symm
 · rcases hf x hx with h1 | h1
   · exact h.ft x h1
   · exact Or.inr (Nat.le_trans hsz h1)
 · rcases hf x hx with h1 | h1
   · exact h.gbn x h1 e
   · have := h.lt; omega
 · exact (h.ft x hx).imp Or.inr id
 · rcases h.ft x hx with h1 | h1
   · exact hE.gR x h1
   · exact Nat.le_trans hE.gs h1
theorem Mid.below {w wm wm' : World} {B p gl gm : Nat} {V : Nat → Value} {D : AD} {pr up ug gb : Nat} {hs : List Int} {fi le : Int} {fr to_ : Nat} {b : List Int} {nv bv nv' bv' : Value} {S : RS} (h : Mid w wm B p gl gm V D pr up ug gb hs fi le fr to_ b nv bv nv' bv' S) (hE : Env w p gl gm V pr up ug nv bv) (hb : Below wm.heap.size wm wm') : Mid w wm' B p gl gm V D pr up ug gb hs fi le fr to_ b nv bv nv' bv' S :=
 h.step hE (Up.of_below hb) (h.rd.below hb) (fun _ hx => Or.inl hx)
end Go.Proofs.YtlofoklfggmbiaaDoor

namespace Go.Proofs.YtlofoklfggmbiaaDoor
open Go.RowKit Go.Maps

theorem behind_enter (v : Value) (W : World) : (callFunc 55 #[v]).run Tryd.prog W = .ok (.enter 55 #[v]) W := by kernel_rfl
section
variable {ops : Array Oper} {o : Oper} {a : Act} {w : World} {K : Act → World → Prop} {Q : Exit → Act → World → Prop} {E : Prop}
theorem step_buildSlW (hw : Region.wanted o (yielded ops a.tmps) = true) (x : Operand) (ho : o.op = .buildSlice 52 1 #[(0, x)]) {ua : Option Addr} {un uc : Nat} (hx : a.eval x = .slice ua un uc)
 (hk : K (a.put o.dst (.slice (some ⟨w.heap.size, 0, none⟩) 1 1)) (w.alloc (.cells #[.slice ua un uc] 26))) : if Region.wanted o (yielded ops a.tmps) = true then Oper.wp Tryd.prog o a w K Q else E := by
 rw [if_pos hw]
 unfold Oper.wp execOp
 simp only [ho, List.map_toArray, List.map_cons, List.map_nil, hx, Sem.run_bind, buildSlC_run w, Result.andThen_ok, Sem.run_pure]
 exact hk
end
set_option maxRecDepth 100000 in
set_option maxHeartbeats 4000000 in
theorem rread_calls {w : World} {B p gl gm pr up ug fr to_ : Nat} {V : Nat → Value} {D : AD} {hs : List Int} {fi le : Int} {nv bv : Value} {S : RS} (hD : Dk w p gl gm V D) (hR : Rd w B p pr up ug hs fi le fr to_ nv bv S) (hE : Env w p gl gm V pr up ug nv bv) (hx : S.nx < D.la.length) (hr0 : 0 ≤ D.rd) (hr1 : D.rd ≤ 1152921504606846976) (hT : TT w) (hB : B ≤ w.heap.size) (hns : (S.ns.length : Int) < secN le) (hby : S.by_.length ≤ 2000000) (hbr : S.br = 0) :
 Calls Tryd.prog 56 #[.pointer (some ⟨pr, 0, none⟩)] w fun e w' => e = .returned (.tuple #[]) ∧ ∃ nv' bv', Rd w' B p pr up ug hs fi le fr to_ nv' bv' (readS (D.now S.nx) hs fi le fr to_ S) ∧ Dk w' p gl gm V D.read ∧ (∀ b, Fr pr up ug nv' bv' b → Fr pr up ug nv bv b ∨ w.heap.size ≤ b) ∧ Up (fun b => b = p ∨ Fr pr up ug nv bv b) w w' := by
 have hsec := hD.ok.now hx
 have hs9 := secN_hi le
 have hl32 := hR.hl
 obtain ⟨i0, hi, hz0, hz1, hz2⟩ := info_part infoI6
 obtain ⟨c0, _, _, _, c36, _, c38, _, _⟩ := hR.cells
 obtain ⟨na, nc, hnv⟩ := hR.row.shapeI
 rw [iV_len] at hnv
 have HRD : Hid (∀ W, Below w.heap.size w W → Calls Tryd.prog 15 #[.pointer (some ⟨p, 0, none⟩), .int .i64 (S.nx : Int)] W fun e w' => ∃ g, e = .returned (.tuple #[.slice (some ⟨g, 0, none⟩) 512 512, .int .i64 0]) ∧ Mid w w' B p gl gm V D pr up ug g hs fi le fr to_ (D.now S.nx) nv bv nv bv S) := hide (fun W hW => by
  refine (read_calls (hD.below hW) hx hr0 hr1).mono ?_
  rintro e w' ⟨g, rfl, hg, hA, hDk, hgr⟩
  have hu1 : Up (fun x => x = p) W w' := Up.of_grown hgr (fun _ h => (Option.some.inj h).symm)
  have hu : Up (fun x => x = p) w w' := (Up.of_below hW).trans hu1 (fun _ h => Or.inl h)
  have hgw : w.heap.size ≤ g := Nat.le_trans hW.size hg
  refine ⟨g, rfl, (hR.below hW).up hu1 (fun x hx e => hE.hX x hx (Or.inl e)), hDk, isB_sector hA hsec, hgw, hA.lt, fun x hx => Or.inl hx, fun x hx e => ?_, hu.mono (fun _ h => Or.inl h), hT.up hu (fun x hx => hE.gF x (Or.inl hx))⟩
  have := hE.rlt x hx
  omega)
 have hsn := rdF4 hsec.1
 have hnm := leN4 hsec.2
 have HRF : Hid (∀ W g, IsB W (.slice (some ⟨g, 0, none⟩) 512 512) (D.now S.nx) → Calls Tryd.prog 81 #[.slice (some ⟨g, 0, none⟩) 512 512, .int .i64 0, .int .i64 4] W fun e w' => e = .returned (.tuple #[.int .u64 (leN ((D.now S.nx).take 4)), .int .i64 4, .int .i64 0]) ∧ w' = W) := hide (fun W g h => by
  have h1 := rfixed_calls h 0 4
  rw [hsn] at h1
  exact h1)
 obtain ⟨b, hb⟩ : ∃ b, b = D.now S.nx := ⟨_, rfl⟩
 rw [← hb] at hsec hsn hnm HRF HRD ⊢
 have HSEC := hide hsec
 have hcs := cnt_ok (le := le) (place := (S.ns.length : Int)) (by omega) hns
 obtain ⟨nm, hnme⟩ : ∃ nm : Nat, (nm : Int) = leN (b.take 4) := ⟨(leN (b.take 4)).toNat, by omega⟩
 rw [← hnme] at hnm HRF
 have HNM := hide hnme
 have hwnm : IntKind.i64.wrap (nm : Int) = (nm : Int) := IntWalk.i64_in _ (by omega)
 obtain ⟨nn, hnn⟩ : ∃ nn, nn = S.ns.length := ⟨_, rfl⟩
 have hwnn : IntKind.i64.wrap ((nn : Int) + 1) = (nn : Int) + 1 := IntWalk.i64_in _ (by omega)
 obtain ⟨nx, hnx⟩ : ∃ nx, nx = S.nx := ⟨_, rfl⟩
 -- a number is noted
 have HNUM : Hid (∀ w2 g, Mid w w2 B p gl gm V D pr up ug g hs fi le fr to_ b nv bv nv bv S → (w2.alloc (.cells #[.int .i64 (nx : Int)] 3)).ownsRow B 3 1 nv nn (iV S.ns) ∧ (∀ j u, ([.int .i64 (nx : Int)] : List Value)[j]? = some u → (w2.alloc (.cells #[.int .i64 (nx : Int)] 3)).cell? ((⟨w2.heap.size, 0, none⟩ : Addr).add j) = some u) ∧ B ≤ (w2.alloc (.cells #[.int .i64 (nx : Int)] 3)).heap.size) := hide (fun w2 g h => by
  have hb9 : Below w2.heap.size w2 (w2.alloc (.cells #[.int .i64 (nx : Int)] 3)) := (Below.refl _ _).alloc (Nat.le_refl _) _
  have h1 := owns_below h.rd.row hb9
  rw [iV_len, ← hnn] at h1
  have := h.up.size
  have := hb9.size
  exact ⟨h1, fun j u hj => cells_lit w2 [.int .i64 (nx : Int)] 3 j u hj, by omega⟩)
 have HNU2 : Hid (∀ w2 w3 g v3, Mid w w2 B p gl gm V D pr up ug g hs fi le fr to_ b nv bv nv bv S → w3.ownsRow B 3 1 v3 (nn + 1) (iV S.ns ++ [.int .i64 (nx : Int)]) → (w2.alloc (.cells #[.int .i64 (nx : Int)] 3)).grownBy w3 nv.ownBlock → (v3.ownBlock = nv.ownBlock ∨ v3.ownBlock = some (w2.alloc (.cells #[.int .i64 (nx : Int)] 3)).heap.size) → (∃ va vc, v3 = .slice va (nn + 1) vc) ∧ w3.cell? ⟨pr, 35, none⟩ = some nv ∧ w3.frozen? ⟨pr, 35, none⟩ = false ∧ (w3.setCell ⟨pr, 35, none⟩ v3).cell? ⟨pr, 36, none⟩ = some (.int .i64 (nn : Int)) ∧ (w3.setCell ⟨pr, 35, none⟩ v3).frozen? ⟨pr, 36, none⟩ = false ∧ Mid w ((w3.setCell ⟨pr, 35, none⟩ v3).setCell ⟨pr, 36, none⟩ (.int .i64 ((nn : Int) + 1))) B p gl gm V D pr up ug g hs fi le fr to_ b nv bv v3 bv { S with ns := S.ns ++ [nx] }) := hide (fun w2 w3 g v3 h hr hg hat => by
  have hb9 : Below w2.heap.size w2 (w2.alloc (.cells #[.int .i64 (nx : Int)] 3)) := (Below.refl _ _).alloc (Nat.le_refl _) _
  have h2 := h.below hE hb9
  have hiv : iV S.ns ++ [.int .i64 (nx : Int)] = iV (S.ns ++ [nx]) := by simp [iV]
  rw [hiv] at hr
  have hr' : Row w3 B 3 v3 (iV (S.ns ++ [nx])) := by
   unfold Row
   rw [iV_len, List.length_append, List.length_singleton, ← hnn]
   exact hr
  obtain ⟨q1, q2, q3, q4, q5⟩ := h2.rd.numbered hr' hg
  obtain ⟨va, vc, hv⟩ := hr'.shapeI
  rw [iV_len, List.length_append, List.length_singleton, ← hnn] at hv
  rw [← hnn] at q3 q5
  rw [show ((nn + 1 : Nat) : Int) = (nn : Int) + 1 by omega] at q5
  refine ⟨⟨va, vc, hv⟩, q1, q2, q3, q4, h2.step hE ?_ q5 (fun x hx => ?_)⟩
  · exact ((up_own hg).mono (fun x hx => Or.inr (Or.inr (Or.inr (Or.inl hx))))).trans (F' := fun x => x = pr) (up_set.trans up_set (fun _ h => Or.inl h)) (fun x hx => Or.inl (Or.inl hx))
  · rcases hx with hx | hx | hx | hx | hx
    · exact Or.inl (Or.inl hx)
    · exact Or.inl (Or.inr (Or.inl hx))
    · exact Or.inl (Or.inr (Or.inr (Or.inl hx)))
    · rcases hat with e | e
      · exact Or.inl (Or.inr (Or.inr (Or.inr (Or.inl (e ▸ hx)))))
      · rw [e] at hx
        exact Or.inr (by have := Option.some.inj hx; omega)
    · exact Or.inl (Or.inr (Or.inr (Or.inr (Or.inr hx)))))
 -- what it comes to
 obtain ⟨cnt, hcnt⟩ : ∃ cnt : Nat, cntI le (nn : Int) = (cnt : Int) := ⟨(cntI le (nn : Int)).toNat, by rw [hnn]; omega⟩
 have hpart : partOf b le S.ns.length = (b.drop 28).take cnt := by unfold partOf; rw [← hnn, hcnt, Int.toNat_natCast]
 have hcnt480 : cnt ≤ 480 := by rw [← hnn] at hcs; omega
 obtain ⟨R, hRe⟩ : ∃ R, R = readS b hs fi le fr to_ S := ⟨_, rfl⟩
 rw [← hRe]
 have EA : Hid (¬ SoundP b hs le (nn : Int) (nm : Int) → failed { S with ns := S.ns ++ [nx] } (nx : Int) = R) := hide (fun h => by
  rw [hRe]; unfold readS
  rw [if_neg (fun h2 => h (by rw [hnn, hnme]; exact h2.1)), hnx]
  rfl)
 have ED : Hid (SoundP b hs le (nn : Int) (nm : Int) → ¬ (nn : Int) + 1 = secN le → hasB fr to_ S.ws (nm : Int) = false → failed { S with ns := S.ns ++ [nx], ws := claimW fr to_ S.ws (nm : Int) } (nx : Int) = R) := hide (fun _ h1 h2 => by
  rw [hRe]; unfold readS
  rw [if_neg (fun h3 => ?_), hnx]
  · unfold failed claimW
    rw [if_neg (by rw [h2]; simp)]
  · rcases h3.2 with h3 | h3
    · exact h1 (by rw [hnn]; exact h3)
    · rw [← hnme, h2] at h3; cases h3)
 have EC : Hid (SoundP b hs le (nn : Int) (nm : Int) → ¬ (nn : Int) + 1 = secN le → hasB fr to_ S.ws (nm : Int) = true → ({ S with ns := S.ns ++ [nx], ws := claimW fr to_ S.ws (nm : Int), nx := nm, by_ := S.by_ ++ (b.drop 28).take cnt } : RS) = R) := hide (fun h0 h1 h2 => by
  rw [hRe]; unfold readS
  rw [if_pos ⟨by rw [← hnn, ← hnme]; exact h0, Or.inr (by rw [← hnme]; exact h2)⟩, if_neg (fun h3 => h1 (by rw [hnn]; exact h3.1))]
  unfold goneOn
  rw [if_neg (fun h3 => h1 (by rw [hnn]; exact h3)), hpart, ← hnme, hnx, hbr, Int.toNat_natCast])
 have EB : Hid (SoundP b hs le (nn : Int) (nm : Int) → (nn : Int) + 1 = secN le → shaOf (S.by_ ++ (b.drop 28).take cnt) = hs → ({ S with ns := S.ns ++ [nx], nx := nm, by_ := S.by_ ++ (b.drop 28).take cnt } : RS) = R) := hide (fun h0 h1 h2 => by
  rw [hRe]; unfold readS
  rw [if_pos ⟨by rw [← hnn, ← hnme]; exact h0, Or.inl (by rw [← hnn]; exact h1)⟩, if_neg (fun h3 => h3.2 (by rw [hpart]; exact h2))]
  unfold goneOn
  rw [if_pos (by rw [← hnn]; exact h1), hpart, ← hnme, hnx, hbr, Int.toNat_natCast])
 have EF : Hid (SoundP b hs le (nn : Int) (nm : Int) → (nn : Int) + 1 = secN le → ¬ shaOf (S.by_ ++ (b.drop 28).take cnt) = hs → failed { S with ns := S.ns ++ [nx], nx := nm, by_ := S.by_ ++ (b.drop 28).take cnt } fi = R) := hide (fun h0 h1 h2 => by
  rw [hRe]; unfold readS
  rw [if_pos ⟨by rw [← hnn, ← hnme]; exact h0, Or.inl (by rw [← hnn]; exact h1)⟩, if_pos ⟨by rw [← hnn]; exact h1, by rw [hpart]; exact h2⟩]
  unfold goneOn
  rw [if_pos (by rw [← hnn]; exact h1), hpart, ← hnme, hnx, Int.toNat_natCast]
  rfl)
 have HFIN : Hid (∀ W g nv' bv' S', Mid w W B p gl gm V D pr up ug g hs fi le fr to_ b nv bv nv' bv' S' → S' = R → ∃ nv' bv', Rd W B p pr up ug hs fi le fr to_ nv' bv' R ∧ Dk W p gl gm V D.read ∧ (∀ b, Fr pr up ug nv' bv' b → Fr pr up ug nv bv b ∨ w.heap.size ≤ b) ∧ Up (fun b => b = p ∨ Fr pr up ug nv bv b) w W) := hide (fun W g nv' bv' S' h e => by
  subst e
  exact ⟨nv', bv', h.rd, h.dk, h.ft, h.up⟩)
 have HSO : Hid (∀ W g nv' bv' S', Mid w W B p gl gm V D pr up ug g hs fi le fr to_ b nv bv nv' bv' S' → Calls Tryd.prog 37 #[.slice (some ⟨g, 0, none⟩) 512 512, .agg (refV hs fi le).toArray, .int .i64 (nn : Int), .int .i64 (nm : Int)] W fun e w' => e = .returned (.bool (decide (SoundP b hs le (nn : Int) (nm : Int)))) ∧ Mid w w' B p gl gm V D pr up ug g hs fi le fr to_ b nv bv nv' bv' S') := hide (fun W g nv' bv' S' h => by
  refine (sound_calls h.isb h.rd.hl h.rd.hb h.tt.tab).mono ?_
  rintro e w' ⟨rfl, hb9⟩
  exact ⟨rfl, h.below hE hb9⟩)
 have HFA : Hid (∀ W g nv' bv' S' (x : Int), Mid w W B p gl gm V D pr up ug g hs fi le fr to_ b nv bv nv' bv' S' → Calls Tryd.prog 82 #[.pointer (some ⟨pr, 0, none⟩), .int .i64 x] W fun e w' => e = .returned (.tuple #[]) ∧ Mid w w' B p gl gm V D pr up ug g hs fi le fr to_ b nv bv nv' (.slice none 0 0) (failed S' x)) := hide (fun W g nv' bv' S' x h => by
  refine (fail_calls h.rd x).mono ?_
  rintro e w' ⟨rfl, h1, h2⟩
  refine ⟨rfl, h.step hE (h2.mono (fun _ hx => Or.inl hx)) h1 (fun x hx => ?_)⟩
  rcases hx with hx | hx | hx | hx | hx
  · exact Or.inl (Or.inl hx)
  · exact Or.inl (Or.inr (Or.inl hx))
  · exact Or.inl (Or.inr (Or.inr (Or.inl hx)))
  · exact Or.inl (Or.inr (Or.inr (Or.inr (Or.inl hx))))
  · simp [Value.ownBlock] at hx)
 have HBH : Hid (∀ W g nv' bv' S', S'.ns = S.ns ++ [nx] → Mid w W B p gl gm V D pr up ug g hs fi le fr to_ b nv bv nv' bv' S' → Calls Tryd.prog 55 #[.pointer (some ⟨pr, 0, none⟩)] W fun e w' => e = .returned (.bool (decide ((nn : Int) + 1 = secN le))) ∧ Mid w w' B p gl gm V D pr up ug g hs fi le fr to_ b nv bv nv' bv' S') := hide (fun W g nv' bv' S' hs' h => by
  obtain ⟨_, _, k34, _, k36, _⟩ := h.rd.cells
  refine (behind_calls k36 k34).mono ?_
  rintro e w' ⟨rfl, rfl⟩
  refine ⟨?_, h.below hE (Below.refl _ _).drew⟩
  rw [hs', List.length_append, List.length_singleton, ← hnn]
  exact congrArg Ending.returned (congrArg Value.bool (show decide _ = decide _ by congr 1)))
 have HCL : Hid (∀ W g nv' bv' S', S'.ws = S.ws → Mid w W B p gl gm V D pr up ug g hs fi le fr to_ b nv bv nv' bv' S' → Calls Tryd.prog 42 #[.pointer (some ⟨up, 0, none⟩), .int .i64 (nm : Int)] W fun e w' => e = .returned (.bool (hasB fr to_ S.ws (nm : Int))) ∧ Mid w w' B p gl gm V D pr up ug g hs fi le fr to_ b nv bv nv' bv' { S' with ws := claimW fr to_ S.ws (nm : Int) }) := hide (fun W g nv' bv' S' hs' h => by
  have h0 := h.rd.sp
  rw [hs'] at h0
  refine (claim_calls h0 (nm : Int)).mono ?_
  rintro e w' ⟨rfl, h1, h2⟩
  exact ⟨rfl, h.step hE (Up.of_grown h2 (fun x hx => Or.inr (Or.inr (Or.inl (Option.some.inj hx).symm)))) (h.rd.claimed h1 h2) (fun _ hx => Or.inl hx)⟩)
 have HNX : Hid (∀ W g nv' bv' S', Mid w W B p gl gm V D pr up ug g hs fi le fr to_ b nv bv nv' bv' S' → (∃ u, W.cell? ⟨pr, 38, none⟩ = some u) ∧ W.frozen? ⟨pr, 38, none⟩ = false ∧ Mid w (W.setCell ⟨pr, 38, none⟩ (.int .i64 (nm : Int))) B p gl gm V D pr up ug g hs fi le fr to_ b nv bv nv' bv' { S' with nx := nm }) := hide (fun W g nv' bv' S' h => by
  obtain ⟨h1, h2⟩ := h.rd.nexted nm
  exact ⟨⟨_, h.rd.cells.2.2.2.2.2.2.1⟩, h1, h.step hE (up_set.mono (fun _ hx => Or.inl hx)) h2 (fun _ hx => Or.inl hx)⟩)
 have HPI : Hid (∀ W g nv' bv' S', Mid w W B p gl gm V D pr up ug g hs fi le fr to_ b nv bv nv' bv' S' → Calls Tryd.prog 74 #[.slice (some ⟨g, 0, none⟩) 512 512, .agg (refV hs fi le).toArray, .int .i64 (nn : Int)] W fun e w' => e = .returned (.slice (some ⟨g, 28, none⟩) cnt 484) ∧ Mid w w' B p gl gm V D pr up ug g hs fi le fr to_ b nv bv nv' bv' S' ∧ IsB w' (.slice (some ⟨g, 28, none⟩) cnt 484) ((b.drop 28).take cnt)) := hide (fun W g nv' bv' S' h => by
  refine (pieceIn_calls (bo := 0) (bc := 512) h.rd.hl (by omega) (by rw [hnn]; exact hns) hcnt (by omega) (by omega)).mono ?_
  rintro e w' ⟨rfl, hb9⟩
  have h9 := h.below hE hb9
  exact ⟨rfl, h9, isB_mid (bo := 0) (q := 28) (c := cnt) h9.isb (by omega) (by omega)⟩)
 have HAP : Hid (∀ W W2 g nv' bv' S' v2, S'.by_ = S.by_ → Mid w W B p gl gm V D pr up ug g hs fi le fr to_ b nv bv nv' bv' S' → Own8 W2 B v2 (S.by_ ++ (b.drop 28).take cnt) → W.grownBy W2 bv'.ownBlock → (v2.ownBlock = bv'.ownBlock ∨ v2.ownBlock = some W.heap.size) → (∃ va vn vc, v2 = .slice va vn vc) ∧ W2.cell? ⟨pr, 39, none⟩ = some bv' ∧ W2.frozen? ⟨pr, 39, none⟩ = false ∧ W2.rangeAt pr 1 (refV hs fi le) ∧ Mid w (W2.setCell ⟨pr, 39, none⟩ v2) B p gl gm V D pr up ug g hs fi le fr to_ b nv bv nv' v2 { S' with by_ := S.by_ ++ (b.drop 28).take cnt }) := hide (fun W W2 g nv' bv' S' v2 _ h ho hg hat => by
  obtain ⟨q1, q2, q3⟩ := h.rd.appended ho hg
  refine ⟨ho.isB.shape, q1, q2, reader_ref (h.rd.arr.up (up_own hg) (fun e => h.rd.apart.2.2.2.2.2.2.1 e)), h.step hE ?_ q3 (fun x hx => ?_)⟩
  · exact ((up_own hg).mono (fun x hx => Or.inr (Or.inr (Or.inr (Or.inr hx))))).trans (F' := fun x => x = pr) up_set (fun x hx => Or.inl (Or.inl hx))
  · rcases hx with hx | hx | hx | hx | hx
    · exact Or.inl (Or.inl hx)
    · exact Or.inl (Or.inr (Or.inl hx))
    · exact Or.inl (Or.inr (Or.inr (Or.inl hx)))
    · exact Or.inl (Or.inr (Or.inr (Or.inr (Or.inl hx))))
    · rcases hat with e | e
      · exact Or.inl (Or.inr (Or.inr (Or.inr (Or.inr (e ▸ hx)))))
      · rw [e] at hx
        exact Or.inr (by have := Option.some.inj hx; omega))
 have HOWB : Hid (∀ W g nv' bv' S', S'.by_ = S.by_ → Mid w W B p gl gm V D pr up ug g hs fi le fr to_ b nv bv nv' bv' S' → Own8 W B bv' S.by_ ∧ B ≤ W.heap.size ∧ S.by_.length + ((b.drop 28).take cnt).length ≤ 140737488355328) := hide (fun W g nv' bv' S' hs' h => by
  have := h.up.size
  refine ⟨by rw [← hs']; exact h.rd.own, by omega, ?_⟩
  rw [List.length_take]
  omega)
 have HSUM : Hid (∀ W W2 g nv' bv' S' (xs : List Int), xs = S.by_ ++ (b.drop 28).take cnt → S'.by_ = xs → Mid w W B p gl gm V D pr up ug g hs fi le fr to_ b nv bv nv' bv' S' → Below W.heap.size W W2 → IsBB W2 (.slice (some ⟨W.heap.size, 0, none⟩) 1 1) [xs] → Calls Tryd.prog 27 #[.slice (some ⟨W.heap.size, 0, none⟩) 1 1] W2 fun e w' => e = .returned (.agg ((shaOf xs).map (Value.int .u8)).toArray) ∧ Mid w w' B p gl gm V D pr up ug g hs fi le fr to_ b nv bv nv' bv' S') := hide (fun W W2 g nv' bv' S' xs hxs _ h hb2 hL => by
  have h2 := h.below hE hb2
  have h3 := sums_calls hL (by simp; rw [hxs, List.length_append, List.length_take]; omega) h2.tt.k h2.tt.s
  have e : keyV ([xs] : List (List Int)).flatten = .agg ((shaOf xs).map (Value.int .u8)).toArray := by simp [keyV]
  rw [e] at h3
  refine h3.mono ?_
  rintro e w' ⟨rfl, hb9⟩
  exact ⟨rfl, h2.below hE hb9⟩)
 have hiR := infoRef hl32 fi le
 have hund := Tryd.underlying34
 have HHL := hide hl32
 have HE := hide hE
 rw [← hnn] at hnv c36
 rw [← hnx] at c38
 subst hnv
 rw [← hnx] at HRD
 have HIN := hide (And.intro hns hs9)
 have hnnB : (nn : Int) < 2185 := by rw [hnn]; omega
 clear hD hR hE hx hr0 hr1 hT hB hns hby hbr hsec hs9 hl32 hsn hnm hb hcs hnme hnn hnx hcnt hpart hcnt480 hRe HNM
 go_enter Tryd.func56, Tryd.ntmps56
 go_wp2_with fail
 refine wp_region_held_drew (S := fun W => W.cell? ⟨pr, 38, none⟩ = some (.int .i64 (nx : Int)) ∧ W.cell? ⟨pr, 36, none⟩ = some (.int .i64 (nn : Int))) (by kernel_rfl) (⟨bkeptC (Below.refl _ _).drew c38, bkeptC (Below.refl _ _).drew c36⟩) (fun hHeld => ?_)
 refine wpAnyH_take (i := 0) (v := .pointer (some ⟨pr, 0, none⟩)) rfl (by kernel_rfl) (by kernel_rfl) (by kernel_rfl) (fun _ _ _ h => h) (Or.inl ⟨by rfl, fun w hSw => by obtain ⟨hS1, hS2⟩ := hSw; go_simp⟩) (by assumption) ?_
 simp only [fGa, fGz, Act.put, fSa, fSz, fSs]
 refine wpAnyH_take (i := 1) (v := .pointer (some ⟨pr, 0, none⟩)) rfl (by kernel_rfl) (by kernel_rfl) (by kernel_rfl) (fun _ _ _ h => h) (Or.inl ⟨by rfl, fun w hSw => by obtain ⟨hS1, hS2⟩ := hSw; go_simp⟩) (by assumption) ?_
 simp only [fGa, fGs, fGz, Act.put, fSa, fSz, fSs]
 refine wpAnyH_take (i := 2) (v := .pointer (some ⟨pr, 38, none⟩)) rfl (by kernel_rfl) (by kernel_rfl) (by kernel_rfl) (fun _ _ _ h => h) (Or.inl ⟨by rfl, fun w hSw => by obtain ⟨hS1, hS2⟩ := hSw; go_simp⟩) (by assumption) ?_
 simp only [fGa, fGs, fGz, Act.put, fSa, fSz, fSs]
 refine wpAnyH_take (i := 3) (v := .int .i64 (nx : Int)) rfl (by kernel_rfl) (by kernel_rfl) (by kernel_rfl) (fun _ _ _ h => h) (Or.inl ⟨by rfl, fun w hSw => by obtain ⟨hS1, hS2⟩ := hSw; go_simp⟩) (by assumption) ?_
 simp only [fGa, fGs, fGz, Act.put, fSa, fSz, fSs]
 refine wpAnyH_take (i := 4) (v := .pointer (some ⟨pr, 0, none⟩)) rfl (by kernel_rfl) (by kernel_rfl) (by kernel_rfl) (fun _ _ _ h => h) (Or.inl ⟨by rfl, fun w hSw => by obtain ⟨hS1, hS2⟩ := hSw; go_simp⟩) (by assumption) ?_
 simp only [fGa, fGs, fGz, Act.put, fSa, fSz, fSs]
 refine wpAnyH_take (i := 5) (v := .pointer (some ⟨pr, 0, none⟩)) rfl (by kernel_rfl) (by kernel_rfl) (by kernel_rfl) (fun _ _ _ h => h) (Or.inl ⟨by rfl, fun w hSw => by obtain ⟨hS1, hS2⟩ := hSw; go_simp⟩) (by assumption) ?_
 simp only [fGa, fGs, fGz, Act.put, fSa, fSz, fSs]
 refine wpAnyH_take (i := 6) (v := .pointer (some ⟨pr, 0, none⟩)) rfl (by kernel_rfl) (by kernel_rfl) (by kernel_rfl) (fun _ _ _ h => h) (Or.inl ⟨by rfl, fun w hSw => by obtain ⟨hS1, hS2⟩ := hSw; go_simp⟩) (by assumption) ?_
 simp only [fGa, fGs, fGz, Act.put, fSa, fSz, fSs]
 refine wpAnyH_take (i := 7) (v := .pointer (some ⟨pr, 36, none⟩)) rfl (by kernel_rfl) (by kernel_rfl) (by kernel_rfl) (fun _ _ _ h => h) (Or.inl ⟨by rfl, fun w hSw => by obtain ⟨hS1, hS2⟩ := hSw; go_simp⟩) (by assumption) ?_
 simp only [fGa, fGs, fGz, Act.put, fSa, fSz, fSs]
 refine wpAnyH_take (i := 8) (v := .int .i64 (nn : Int)) rfl (by kernel_rfl) (by kernel_rfl) (by kernel_rfl) (fun _ _ _ h => h) (Or.inl ⟨by rfl, fun w hSw => by obtain ⟨hS1, hS2⟩ := hSw; go_simp⟩) (by assumption) ?_
 simp only [fGa, fGs, fGz, Act.put, fSa, fSz, fSs]
 refine wpAnyH_take (i := 9) (v := .int .i64 (nx : Int)) rfl (by kernel_rfl) (by kernel_rfl) (by kernel_rfl) (fun _ _ _ h => h) (Or.inl ⟨by rfl, fun w hSw => by obtain ⟨hS1, hS2⟩ := hSw; go_simp⟩) (by assumption) ?_
 simp only [fGa, fGs, fGz, Act.put, fSa, fSz, fSs]
 refine wpAnyH_take (i := 10) (v := .int .i64 (nn : Int)) rfl (by kernel_rfl) (by kernel_rfl) (by kernel_rfl) (fun _ _ _ h => h) (Or.inl ⟨by rfl, fun w hSw => by obtain ⟨hS1, hS2⟩ := hSw; go_simp⟩) (by assumption) ?_
 simp only [fGa, fGs, fGz, Act.put, fSa, fSz, fSs]
 refine wpAnyH_done (by kernel_rfl) ?_ _
 have hb1 : Below w.heap.size w w.drew := (Below.refl _ _).drew
 generalize w.drew = w1 at hb1 hHeld ⊢
 have c01 := bkeptC hb1 c0
 have HRD1 := hide (unhide HRD w1 hb1)
 clear hb1 hHeld c0 c36 c38 HRD
 go_wp2_with fail
 refine (unhide HRD1).mono ?_
 rintro e w2 ⟨g, rfl, hm2⟩
 obtain ⟨hown, hnew, hBs⟩ := unhide HNUM w2 g hm2
 have c35 := hm2.rd.cells.2.2.2.1
 have HOW := hide hown
 have HNW := hide hnew
 have HBS := hide hBs
 have HM2 := hide hm2
 have HON : Hid (∀ u ∈ ([.int .i64 (nx : Int)] : List Value), u.oneCell' = true) := hide (fun u hu => by simp at hu; subst hu; rfl)
 clear hown hnew hBs hm2 HNUM HRD1 c01
 go_wp2_with (first
  | (at_builtin; refine wpList_append_own_at _ rfl (.tmp 34) (.tmp 36) 23 rfl B 3 i0 (.int .i64 0) 1 8 Tryd.underlying23 hi hz0 hz1 hz2 rfl (by decide) _ nn _ rfl HOW.out ⟨w2.heap.size, 0, none⟩ 1 1 [.int .i64 (nx : Int)] rfl rfl HNW.out HON.out (by unfold maxLen; omega) (by omega) HBS.out ?_
     intro v3 w3 hr3 hg3 _ hat3
     obtain ⟨⟨va, vc, hv3⟩, q1, q2, q3, q4, q5⟩ := unhide HNU2 w2 w3 g v3 HM2.out hr3 hg3 hat3
     subst hv3
     have HM5 := hide q5
     clear hr3 hg3 hat3 q5))
 refine (unhide HRF _ g HM5.out.isb).mono ?_
 rintro e w6 ⟨rfl, hw6⟩
 have hm6 := HM5.out
 rw [← hw6] at hm6
 have hrng := reader_ref hm6.rd.arr
 have HSO6 := hide (unhide HSO w6 g _ _ _ hm6)
 clear hm6 hw6 HM5 q1 q2 q3 q4 HM2 HOW HNW HBS HON HNU2 HRF c35 HSO
 go_wp2_with (first
  | (refine wpList_load_mid rfl _ _ rfl pr 1 rfl (refV hs fi le) _ hrng hund rfl hiR ?_))
 refine (unhide HSO6).mono ?_
 rintro e w7 ⟨rfl, hm7⟩
 have HM7 := hide hm7
 clear hm7 HSO6 hrng
 by_cases hsd : SoundP b hs le (nn : Int) (nm : Int)
 · rw [decide_eq_true hsd]
   have HSD := hide hsd
   clear hsd EA
   have HB7 := hide (unhide HBH w7 g _ _ _ (by rfl) HM7.out)
   by_cases hlast : (nn : Int) + 1 = secN le
   · rw [decide_eq_true hlast] at HB7
     have HLA := hide hlast
     clear hlast ED EC HCL
     go_wp2_with fail
     refine (unhide HB7).mono ?_
     rintro e w8 ⟨rfl, hm8⟩
     have HM8 := hide hm8
     clear hm8 HB7 HM7
     obtain ⟨⟨u38, c38⟩, f38, hm9⟩ := unhide HNX w8 g _ _ _ HM8.out
     obtain ⟨wu, hwu⟩ : ∃ wu, w8.setCell ⟨pr, 38, none⟩ (.int .i64 (nm : Int)) = wu := ⟨_, rfl⟩
     rw [hwu] at hm9
     have HMD := hide (hm9.below HE.out (Below.refl _ _).drew)
     have c39 := HMD.out.rd.cells.2.2.2.2.2.2.2.1
     have HS9 : Hid (∀ W, Below wu.heap.size wu W → W.rangeAt pr 1 (refV hs fi le)) := hide (fun W hW i v hv => bkeptC hW (reader_ref hm9.rd.arr i v hv))
     have HWU := hide hwu
     clear hm9 hwu HM8
     go_wp2_with fail
     rw [HWU.out]
     refine wp_region_held_drew (S := fun W => W.rangeAt pr 1 (refV hs fi le)) (by kernel_rfl) (unhide HS9 _ (Below.refl _ _).drew) (fun hHeld => ?_)
     refine wpAnyH_take (i := 0) (v := .pointer (some ⟨pr, 0, none⟩)) rfl (by kernel_rfl) (by kernel_rfl) (by kernel_rfl) (fun _ _ _ h => h) (Or.inl ⟨by rfl, fun w hSw => by go_simp⟩) (by assumption) ?_
     simp only [fGa, fGz, Act.put, fSa, fSz, fSs]
     refine wpAnyH_take (i := 1) (v := .pointer (some ⟨pr, 0, none⟩)) rfl (by kernel_rfl) (by kernel_rfl) (by kernel_rfl) (fun _ _ _ h => h) (Or.inl ⟨by rfl, fun w hSw => by go_simp⟩) (by assumption) ?_
     simp only [fGa, fGs, fGz, Act.put, fSa, fSz, fSs]
     refine wpAnyH_take (i := 2) (v := .pointer (some ⟨pr, 0, none⟩)) rfl (by kernel_rfl) (by kernel_rfl) (by kernel_rfl) (fun _ _ _ h => h) (Or.inl ⟨by rfl, fun w hSw => by go_simp⟩) (by assumption) ?_
     simp only [fGa, fGs, fGz, Act.put, fSa, fSz, fSs]
     refine wpAnyH_take (i := 3) (v := .pointer (some ⟨pr, 39, none⟩)) rfl (by kernel_rfl) (by kernel_rfl) (by kernel_rfl) (fun _ _ _ h => h) (Or.inl ⟨by rfl, fun w hSw => by go_simp⟩) (by assumption) ?_
     simp only [fGa, fGs, fGz, Act.put, fSa, fSz, fSs]
     refine wpAnyH_take (i := 5) (v := .slice (some ⟨g, 0, none⟩) 512 512) rfl (by kernel_rfl) (by kernel_rfl) (by kernel_rfl) (fun _ _ _ h => h) (Or.inl ⟨by rfl, fun w hSw => by go_simp⟩) (by assumption) ?_
     simp only [fGa, fGs, fGz, Act.put, fSa, fSz, fSs]
     refine wpAnyH_take (i := 6) (v := .pointer (some ⟨pr, 0, none⟩)) rfl (by kernel_rfl) (by kernel_rfl) (by kernel_rfl) (fun _ _ _ h => h) (Or.inl ⟨by rfl, fun w hSw => by go_simp⟩) (by assumption) ?_
     simp only [fGa, fGs, fGz, Act.put, fSa, fSz, fSs]
     refine wpAnyH_take (i := 7) (v := .pointer (some ⟨pr, 0, none⟩)) rfl (by kernel_rfl) (by kernel_rfl) (by kernel_rfl) (fun _ _ _ h => h) (Or.inl ⟨by rfl, fun w hSw => by go_simp⟩) (by assumption) ?_
     simp only [fGa, fGs, fGz, Act.put, fSa, fSz, fSs]
     refine wpAnyH_take (i := 8) (v := .pointer (some ⟨pr, 0, none⟩)) rfl (by kernel_rfl) (by kernel_rfl) (by kernel_rfl) (fun _ _ _ h => h) (Or.inl ⟨by rfl, fun w hSw => by go_simp⟩) (by assumption) ?_
     simp only [fGa, fGs, fGz, Act.put, fSa, fSz, fSs]
     refine wpAnyH_take (i := 9) (v := .pointer (some ⟨pr, 1, none⟩)) rfl (by kernel_rfl) (by kernel_rfl) (by kernel_rfl) (fun _ _ _ h => h) (Or.inl ⟨by rfl, fun w hSw => by go_simp⟩) (by assumption) ?_
     simp only [fGa, fGs, fGz, Act.put, fSa, fSz, fSs]
     refine wpAnyH_take (i := 10) (v := .agg (refV hs fi le).toArray) rfl (by kernel_rfl) (by kernel_rfl) (by kernel_rfl) (fun _ _ _ h => h) (yieldsIf_load_mid (by rfl) _ _ rfl _ _ rfl _ _ (fun w hSw => hSw) hund rfl hiR) (by assumption) ?_
     simp only [fGa, fGs, fGz, Act.put, fSa, fSz, fSs]
     refine wpAnyH_take (i := 11) (v := .int .i64 (nn : Int)) rfl (by kernel_rfl) (by kernel_rfl) (by kernel_rfl) (fun _ _ _ h => h) (Or.inl ⟨by rfl, fun w hSw => by go_simp⟩) (by assumption) ?_
     simp only [fGa, fGs, fGz, Act.put, fSa, fSz, fSs]
     refine wpAnyH_ready (rs := [4, 12]) (by kernel_rfl) (by simp) (AllReadyH.cons rfl (fun K hK => ?_) (AllReadyH.cons rfl (fun K hK => ?_) AllReadyH.nil))
     · refine step_loadBs (by rfl) (.tmp 94) rfl rfl c39 ?_
       refine hK.out _ _ (hHeld) (fun hH3 => ?_)
       clear hK K
       simp only [fGa, fGs, fGz, Act.put, fSa, fSz, fSs]
       refine wpAnyH_ready (rs := [12]) (by kernel_rfl) (by simp) (AllReadyH.cons rfl (fun K hK => ?_) AllReadyH.nil)
       refine step_call3C (by rfl) 74 piece_enter (.tmp 96) (.tmp 101) (.tmp 102) _ rfl rfl rfl rfl (unhide HPI _ g _ _ _ HMD.out) ?_
       rintro e wp ⟨rfl, hmp, hip⟩
       refine ⟨_, rfl, ?_⟩
       refine hK.out _ _ (reader_ref hmp.rd.arr) (fun hH4 => ?_)
       clear hK K
       simp only [fGa, fGs, fGz, Act.put, fSa, fSz, fSs]
       refine wpAnyH_ready (rs := [13]) (by kernel_rfl) (by simp) (AllReadyH.cons rfl (fun K hK => ?_) AllReadyH.nil)
       obtain ⟨ho, hBs, hlen⟩ := unhide HOWB wp g _ _ _ (by rfl) hmp
       refine step_appBs (by rfl) (.tmp 95) (.tmp 103) rfl rfl ho rfl hip hlen hBs ?_
       intro v2 wq ho2 hg2 hat2
       obtain ⟨⟨va2, vn2, vc2, hv2⟩, q1, q2, q3, q4⟩ := unhide HAP wp wq g _ _ _ v2 (by rfl) hmp ho2 hg2 hat2
       subst hv2
       refine hK.out _ _ (q3) (fun hH5 => ?_)
       clear hK K
       simp only [fGa, fGs, fGz, Act.put, fSa, fSz, fSs]
       refine wpAnyH_take (i := 14) (v := .pointer (some ⟨pr, 0, none⟩)) rfl (by kernel_rfl) (by kernel_rfl) (by kernel_rfl) (fun _ _ _ h => h) (Or.inl ⟨by rfl, fun w hSw => by go_simp⟩) (by assumption) ?_
       simp only [fGa, fGs, fGz, Act.put, fSa, fSz, fSs]
       refine wpAnyH_take (i := 15) (v := .pointer (some ⟨pr, 39, none⟩)) rfl (by kernel_rfl) (by kernel_rfl) (by kernel_rfl) (fun _ _ _ h => h) (Or.inl ⟨by rfl, fun w hSw => by go_simp⟩) (by assumption) ?_
       simp only [fGa, fGs, fGz, Act.put, fSa, fSz, fSs]
       refine wpAnyH_ready (rs := [16]) (by kernel_rfl) (by simp) (AllReadyH.cons rfl (fun K hK => ?_) AllReadyH.nil)
       refine step_storeBs (by rfl) (.tmp 106) (.tmp 104) rfl rfl rfl rfl q1 q2 ?_
       refine hK.out _ _ (reader_ref q4.rd.arr) (fun hH6 => ?_)
       clear hK K
       simp only [fGa, fGs, fGz, Act.put]
       refine wpAnyH_done (by kernel_rfl) ?_ _
       obtain ⟨wz, hwz⟩ : ∃ wz, wq.setCell ⟨pr, 39, none⟩ (.slice va2 vn2 vc2) = wz := ⟨_, rfl⟩
       rw [hwz] at q4
       have HMZ := hide q4
       have HWZ := hide hwz
       have HB10 := hide (unhide HBH _ g _ _ _ (by rfl) (q4.below HE.out (Below.refl _ _).drew))
       rw [decide_eq_true HLA.out] at HB10
       have HS10 : Hid (∀ W, Below wz.heap.size wz W → W.cell? ⟨pr, 39, none⟩ = some (.slice va2 vn2 vc2) ∧ W.rangeAt pr 1 (hs.map (Value.int .u8))) := hide (fun W hW => ⟨bkeptC hW q4.rd.cells.2.2.2.2.2.2.2.1, fun i v hv => bkeptC hW (ref_key (reader_ref q4.rd.arr) i v hv)⟩)
       clear hwz q1 q2 q3 q4 ho2 hg2 hat2 ho hBs hlen hip hmp hHeld hH3 hH4 hH5 hH6
       go_wp2_with fail
       rw [HWZ.out]
       have hiK := infoKey HHL.out
       have hkn := key_neq (shaOf (S.by_ ++ (b.drop 28).take cnt)) hs (shaOf_len _) HHL.out
       refine wp_region_held_drew (S := fun W => W.cell? ⟨pr, 39, none⟩ = some (.slice va2 vn2 vc2) ∧ W.rangeAt pr 1 (hs.map (Value.int .u8))) (by kernel_rfl) (unhide HS10 _ (Below.refl _ _).drew) (fun hHeld => ?_)
       refine wpAnyH_take (i := 0) (v := .pointer (some ⟨pr, 0, none⟩)) rfl (by kernel_rfl) (by kernel_rfl) (by kernel_rfl) (fun _ _ _ h => h) (Or.inl ⟨by rfl, fun w hSw => by obtain ⟨hS1, hS2⟩ := hSw; go_simp⟩) (by assumption) ?_
       simp only [fGa, fGz, Act.put, fSa, fSz, fSs]
       refine wpAnyH_take (i := 1) (v := .pointer (some ⟨pr, 0, none⟩)) rfl (by kernel_rfl) (by kernel_rfl) (by kernel_rfl) (fun _ _ _ h => h) (Or.inl ⟨by rfl, fun w hSw => by obtain ⟨hS1, hS2⟩ := hSw; go_simp⟩) (by assumption) ?_
       simp only [fGa, fGs, fGz, Act.put, fSa, fSz, fSs]
       refine wpAnyH_take (i := 2) (v := .pointer (some ⟨pr, 0, none⟩)) rfl (by kernel_rfl) (by kernel_rfl) (by kernel_rfl) (fun _ _ _ h => h) (Or.inl ⟨by rfl, fun w hSw => by obtain ⟨hS1, hS2⟩ := hSw; go_simp⟩) (by assumption) ?_
       simp only [fGa, fGs, fGz, Act.put, fSa, fSz, fSs]
       refine wpAnyH_ready (rs := [3]) (by kernel_rfl) (by simp) (AllReadyH.cons rfl (fun K hK => ?_) AllReadyH.nil)
       refine step_call1C (by rfl) 55 behind_enter (.tmp 109) _ rfl rfl (unhide HB10) ?_
       rintro e wy ⟨rfl, hmy⟩
       refine ⟨_, rfl, ?_⟩
       refine hK.out _ _ (⟨hmy.rd.cells.2.2.2.2.2.2.2.1, ref_key (reader_ref hmy.rd.arr)⟩) (fun hJ1 => ?_)
       clear hK K
       simp only [fGa, fGs, fGz, Act.put, fSa, fSz, fSs]
       refine wpAnyH_take (i := 4) (v := .bool true) rfl (by kernel_rfl) (by kernel_rfl) (by kernel_rfl) (fun _ _ _ h => h) (Or.inl ⟨by rfl, fun w hSw => by obtain ⟨hS1, hS2⟩ := hSw; go_simp⟩) (by assumption) ?_
       simp only [fGa, fGs, fGz, Act.put, fSa, fSz, fSs]
       refine wpAnyH_take (i := 5) (v := .pointer (some ⟨pr, 0, none⟩)) rfl (by kernel_rfl) (by kernel_rfl) (by kernel_rfl) (fun _ _ _ h => h) (Or.inl ⟨by rfl, fun w hSw => by obtain ⟨hS1, hS2⟩ := hSw; go_simp⟩) (by assumption) ?_
       simp only [fGa, fGs, fGz, Act.put, fSa, fSz, fSs]
       refine wpAnyH_take (i := 6) (v := .pointer (some ⟨pr, 0, none⟩)) rfl (by kernel_rfl) (by kernel_rfl) (by kernel_rfl) (fun _ _ _ h => h) (Or.inl ⟨by rfl, fun w hSw => by obtain ⟨hS1, hS2⟩ := hSw; go_simp⟩) (by assumption) ?_
       simp only [fGa, fGs, fGz, Act.put, fSa, fSz, fSs]
       refine wpAnyH_take (i := 7) (v := .pointer (some ⟨pr, 39, none⟩)) rfl (by kernel_rfl) (by kernel_rfl) (by kernel_rfl) (fun _ _ _ h => h) (Or.inl ⟨by rfl, fun w hSw => by obtain ⟨hS1, hS2⟩ := hSw; go_simp⟩) (by assumption) ?_
       simp only [fGa, fGs, fGz, Act.put, fSa, fSz, fSs]
       refine wpAnyH_take (i := 8) (v := .slice (va2) vn2 vc2) rfl (by kernel_rfl) (by kernel_rfl) (by kernel_rfl) (fun _ _ _ h => h) (Or.inl ⟨by rfl, fun w hSw => by obtain ⟨hS1, hS2⟩ := hSw; go_simp⟩) (by assumption) ?_
       simp only [fGa, fGs, fGz, Act.put, fSa, fSz, fSs]
       refine wpAnyH_take (i := 11) (v := .pointer (some ⟨pr, 0, none⟩)) rfl (by kernel_rfl) (by kernel_rfl) (by kernel_rfl) (fun _ _ _ h => h) (Or.inl ⟨by rfl, fun w hSw => by obtain ⟨hS1, hS2⟩ := hSw; go_simp⟩) (by assumption) ?_
       simp only [fGa, fGs, fGz, Act.put, fSa, fSz, fSs]
       refine wpAnyH_take (i := 12) (v := .pointer (some ⟨pr, 0, none⟩)) rfl (by kernel_rfl) (by kernel_rfl) (by kernel_rfl) (fun _ _ _ h => h) (Or.inl ⟨by rfl, fun w hSw => by obtain ⟨hS1, hS2⟩ := hSw; go_simp⟩) (by assumption) ?_
       simp only [fGa, fGs, fGz, Act.put, fSa, fSz, fSs]
       refine wpAnyH_take (i := 13) (v := .pointer (some ⟨pr, 0, none⟩)) rfl (by kernel_rfl) (by kernel_rfl) (by kernel_rfl) (fun _ _ _ h => h) (Or.inl ⟨by rfl, fun w hSw => by obtain ⟨hS1, hS2⟩ := hSw; go_simp⟩) (by assumption) ?_
       simp only [fGa, fGs, fGz, Act.put, fSa, fSz, fSs]
       refine wpAnyH_take (i := 14) (v := .pointer (some ⟨pr, 1, none⟩)) rfl (by kernel_rfl) (by kernel_rfl) (by kernel_rfl) (fun _ _ _ h => h) (Or.inl ⟨by rfl, fun w hSw => by obtain ⟨hS1, hS2⟩ := hSw; go_simp⟩) (by assumption) ?_
       simp only [fGa, fGs, fGz, Act.put, fSa, fSz, fSs]
       refine wpAnyH_take (i := 15) (v := .pointer (some ⟨pr, 1, none⟩)) rfl (by kernel_rfl) (by kernel_rfl) (by kernel_rfl) (fun _ _ _ h => h) (Or.inl ⟨by rfl, fun w hSw => by obtain ⟨hS1, hS2⟩ := hSw; go_simp⟩) (by assumption) ?_
       simp only [fGa, fGs, fGz, Act.put, fSa, fSz, fSs]
       refine wpAnyH_take (i := 16) (v := .agg (hs.map (Value.int .u8)).toArray) rfl (by kernel_rfl) (by kernel_rfl) (by kernel_rfl) (fun _ _ _ h => h) (yieldsIf_load_mid (by rfl) _ _ rfl _ _ rfl _ _ (fun w hSw => hSw.2) Tryd.underlying32 rfl hiK) (by assumption) ?_
       simp only [fGa, fGs, fGz, Act.put, fSa, fSz, fSs]
       refine wpAnyH_ready (rs := [9]) (by kernel_rfl) (by simp) (AllReadyH.cons rfl (fun K hK => ?_) AllReadyH.nil)
       refine step_buildSlW (by rfl) (.tmp 115) rfl rfl ?_
       have hbl : Below wy.heap.size wy (wy.alloc (.cells #[.slice va2 vn2 vc2] 26)) := (Below.refl _ _).alloc (Nat.le_refl _) _
       have hml := hmy.below HE.out hbl
       refine hK.out _ _ (⟨hml.rd.cells.2.2.2.2.2.2.2.1, ref_key (reader_ref hml.rd.arr)⟩) (fun hJ2 => ?_)
       clear hK K
       simp only [fGa, fGs, fGz, Act.put, fSa, fSz, fSs]
       refine wpAnyH_ready (rs := [10]) (by kernel_rfl) (by simp) (AllReadyH.cons rfl (fun K hK => ?_) AllReadyH.nil)
       refine step_call1GC (by rfl) 27 shasum_enter (.tmp 116) _ rfl rfl (unhide HSUM wy _ g _ _ _ (S.by_ ++ (b.drop 28).take cnt) rfl (by rfl) hmy hbl (isBB_one hmy.rd.own.isB)) ?_
       rintro e wx ⟨rfl, hmx⟩
       refine ⟨_, rfl, ?_⟩
       refine hK.out _ _ (⟨hmx.rd.cells.2.2.2.2.2.2.2.1, ref_key (reader_ref hmx.rd.arr)⟩) (fun hJ3 => ?_)
       clear hK K
       simp only [fGa, fGs, fGz, Act.put, fSa, fSz, fSs]
       refine wpAnyH_take (i := 17) (v := .bool (!decide (shaOf (S.by_ ++ (b.drop 28).take cnt) = hs))) rfl (by kernel_rfl) (by kernel_rfl) (by kernel_rfl) (fun _ _ _ h => h) (Or.inl ⟨by rfl, fun w hSw => by obtain ⟨hS1, hS2⟩ := hSw; go_simp⟩) (by assumption) ?_
       simp only [fGa, fGs, fGz, Act.put, fSa, fSz, fSs]
       refine wpAnyH_take (i := 18) (v := .bool (!decide (shaOf (S.by_ ++ (b.drop 28).take cnt) = hs))) rfl (by kernel_rfl) (by kernel_rfl) (by kernel_rfl) (fun _ _ _ h => h) (Or.inl ⟨by rfl, fun w hSw => by obtain ⟨hS1, hS2⟩ := hSw; go_simp⟩) (by assumption) ?_
       simp only [fGa, fGs, fGz, Act.put, fSa, fSz, fSs]
       refine wpAnyH_done (by kernel_rfl) ?_ _
       have HMX := hide hmx
       clear hmy hml hmx hbl hHeld hJ1 hJ2 hJ3 HMZ HS10 HB10 hkn
       by_cases hsh : shaOf (S.by_ ++ (b.drop 28).take cnt) = hs
       · have HZ := hide (unhide HFIN wx g _ _ _ HMX.out (unhide EB HSD.out HLA.out hsh))
         have hd : decide (shaOf (S.by_ ++ (b.drop 28).take cnt) = hs) = true := decide_eq_true hsh
         rw [hd]
         clear hsh hd HMX
         go_wp2
         go_end0
         exact ⟨rfl, HZ.out⟩
       · have HEQ := hide (unhide EF HSD.out HLA.out hsh)
         have hd : decide (shaOf (S.by_ ++ (b.drop 28).take cnt) = hs) = false := decide_eq_false hsh
         rw [hd]
         have c33 := HMX.out.rd.cells.2.1
         have HFX := hide (unhide HFA wx g _ _ _ fi HMX.out)
         clear hsh hd HMX
         go_wp2_with fail
         refine (unhide HFX).mono ?_
         rintro e w11 ⟨rfl, hm11⟩
         have HZ := hide (unhide HFIN w11 g _ _ _ hm11 HEQ.out)
         clear hm11 HFX
         go_wp2
         go_end0
         exact ⟨rfl, HZ.out⟩
     · refine step_call3C (by rfl) 74 piece_enter (.tmp 96) (.tmp 101) (.tmp 102) _ rfl rfl rfl rfl (unhide HPI _ g _ _ _ HMD.out) ?_
       rintro e wp ⟨rfl, hmp, hip⟩
       refine ⟨_, rfl, ?_⟩
       refine hK.out _ _ (reader_ref hmp.rd.arr) (fun hH3 => ?_)
       clear hK K
       simp only [fGa, fGs, fGz, Act.put, fSa, fSz, fSs]
       refine wpAnyH_ready (rs := [4]) (by kernel_rfl) (by simp) (AllReadyH.cons rfl (fun K hK => ?_) AllReadyH.nil)
       refine step_loadBs (by rfl) (.tmp 94) rfl rfl hmp.rd.cells.2.2.2.2.2.2.2.1 ?_
       refine hK.out _ _ (hH3) (fun hH4 => ?_)
       clear hK K
       simp only [fGa, fGs, fGz, Act.put, fSa, fSz, fSs]
       refine wpAnyH_ready (rs := [13]) (by kernel_rfl) (by simp) (AllReadyH.cons rfl (fun K hK => ?_) AllReadyH.nil)
       obtain ⟨ho, hBs, hlen⟩ := unhide HOWB wp g _ _ _ (by rfl) hmp
       refine step_appBs (by rfl) (.tmp 95) (.tmp 103) rfl rfl ho rfl hip hlen hBs ?_
       intro v2 wq ho2 hg2 hat2
       obtain ⟨⟨va2, vn2, vc2, hv2⟩, q1, q2, q3, q4⟩ := unhide HAP wp wq g _ _ _ v2 (by rfl) hmp ho2 hg2 hat2
       subst hv2
       refine hK.out _ _ (q3) (fun hH5 => ?_)
       clear hK K
       simp only [fGa, fGs, fGz, Act.put, fSa, fSz, fSs]
       refine wpAnyH_take (i := 14) (v := .pointer (some ⟨pr, 0, none⟩)) rfl (by kernel_rfl) (by kernel_rfl) (by kernel_rfl) (fun _ _ _ h => h) (Or.inl ⟨by rfl, fun w hSw => by go_simp⟩) (by assumption) ?_
       simp only [fGa, fGs, fGz, Act.put, fSa, fSz, fSs]
       refine wpAnyH_take (i := 15) (v := .pointer (some ⟨pr, 39, none⟩)) rfl (by kernel_rfl) (by kernel_rfl) (by kernel_rfl) (fun _ _ _ h => h) (Or.inl ⟨by rfl, fun w hSw => by go_simp⟩) (by assumption) ?_
       simp only [fGa, fGs, fGz, Act.put, fSa, fSz, fSs]
       refine wpAnyH_ready (rs := [16]) (by kernel_rfl) (by simp) (AllReadyH.cons rfl (fun K hK => ?_) AllReadyH.nil)
       refine step_storeBs (by rfl) (.tmp 106) (.tmp 104) rfl rfl rfl rfl q1 q2 ?_
       refine hK.out _ _ (reader_ref q4.rd.arr) (fun hH6 => ?_)
       clear hK K
       simp only [fGa, fGs, fGz, Act.put]
       refine wpAnyH_done (by kernel_rfl) ?_ _
       obtain ⟨wz, hwz⟩ : ∃ wz, wq.setCell ⟨pr, 39, none⟩ (.slice va2 vn2 vc2) = wz := ⟨_, rfl⟩
       rw [hwz] at q4
       have HMZ := hide q4
       have HWZ := hide hwz
       have HB10 := hide (unhide HBH _ g _ _ _ (by rfl) (q4.below HE.out (Below.refl _ _).drew))
       rw [decide_eq_true HLA.out] at HB10
       have HS10 : Hid (∀ W, Below wz.heap.size wz W → W.cell? ⟨pr, 39, none⟩ = some (.slice va2 vn2 vc2) ∧ W.rangeAt pr 1 (hs.map (Value.int .u8))) := hide (fun W hW => ⟨bkeptC hW q4.rd.cells.2.2.2.2.2.2.2.1, fun i v hv => bkeptC hW (ref_key (reader_ref q4.rd.arr) i v hv)⟩)
       clear hwz q1 q2 q3 q4 ho2 hg2 hat2 ho hBs hlen hip hmp hHeld hH3 hH4 hH5 hH6
       go_wp2_with fail
       rw [HWZ.out]
       have hiK := infoKey HHL.out
       have hkn := key_neq (shaOf (S.by_ ++ (b.drop 28).take cnt)) hs (shaOf_len _) HHL.out
       refine wp_region_held_drew (S := fun W => W.cell? ⟨pr, 39, none⟩ = some (.slice va2 vn2 vc2) ∧ W.rangeAt pr 1 (hs.map (Value.int .u8))) (by kernel_rfl) (unhide HS10 _ (Below.refl _ _).drew) (fun hHeld => ?_)
       refine wpAnyH_take (i := 0) (v := .pointer (some ⟨pr, 0, none⟩)) rfl (by kernel_rfl) (by kernel_rfl) (by kernel_rfl) (fun _ _ _ h => h) (Or.inl ⟨by rfl, fun w hSw => by obtain ⟨hS1, hS2⟩ := hSw; go_simp⟩) (by assumption) ?_
       simp only [fGa, fGz, Act.put, fSa, fSz, fSs]
       refine wpAnyH_take (i := 1) (v := .pointer (some ⟨pr, 0, none⟩)) rfl (by kernel_rfl) (by kernel_rfl) (by kernel_rfl) (fun _ _ _ h => h) (Or.inl ⟨by rfl, fun w hSw => by obtain ⟨hS1, hS2⟩ := hSw; go_simp⟩) (by assumption) ?_
       simp only [fGa, fGs, fGz, Act.put, fSa, fSz, fSs]
       refine wpAnyH_take (i := 2) (v := .pointer (some ⟨pr, 0, none⟩)) rfl (by kernel_rfl) (by kernel_rfl) (by kernel_rfl) (fun _ _ _ h => h) (Or.inl ⟨by rfl, fun w hSw => by obtain ⟨hS1, hS2⟩ := hSw; go_simp⟩) (by assumption) ?_
       simp only [fGa, fGs, fGz, Act.put, fSa, fSz, fSs]
       refine wpAnyH_ready (rs := [3]) (by kernel_rfl) (by simp) (AllReadyH.cons rfl (fun K hK => ?_) AllReadyH.nil)
       refine step_call1C (by rfl) 55 behind_enter (.tmp 109) _ rfl rfl (unhide HB10) ?_
       rintro e wy ⟨rfl, hmy⟩
       refine ⟨_, rfl, ?_⟩
       refine hK.out _ _ (⟨hmy.rd.cells.2.2.2.2.2.2.2.1, ref_key (reader_ref hmy.rd.arr)⟩) (fun hJ1 => ?_)
       clear hK K
       simp only [fGa, fGs, fGz, Act.put, fSa, fSz, fSs]
       refine wpAnyH_take (i := 4) (v := .bool true) rfl (by kernel_rfl) (by kernel_rfl) (by kernel_rfl) (fun _ _ _ h => h) (Or.inl ⟨by rfl, fun w hSw => by obtain ⟨hS1, hS2⟩ := hSw; go_simp⟩) (by assumption) ?_
       simp only [fGa, fGs, fGz, Act.put, fSa, fSz, fSs]
       refine wpAnyH_take (i := 5) (v := .pointer (some ⟨pr, 0, none⟩)) rfl (by kernel_rfl) (by kernel_rfl) (by kernel_rfl) (fun _ _ _ h => h) (Or.inl ⟨by rfl, fun w hSw => by obtain ⟨hS1, hS2⟩ := hSw; go_simp⟩) (by assumption) ?_
       simp only [fGa, fGs, fGz, Act.put, fSa, fSz, fSs]
       refine wpAnyH_take (i := 6) (v := .pointer (some ⟨pr, 0, none⟩)) rfl (by kernel_rfl) (by kernel_rfl) (by kernel_rfl) (fun _ _ _ h => h) (Or.inl ⟨by rfl, fun w hSw => by obtain ⟨hS1, hS2⟩ := hSw; go_simp⟩) (by assumption) ?_
       simp only [fGa, fGs, fGz, Act.put, fSa, fSz, fSs]
       refine wpAnyH_take (i := 7) (v := .pointer (some ⟨pr, 39, none⟩)) rfl (by kernel_rfl) (by kernel_rfl) (by kernel_rfl) (fun _ _ _ h => h) (Or.inl ⟨by rfl, fun w hSw => by obtain ⟨hS1, hS2⟩ := hSw; go_simp⟩) (by assumption) ?_
       simp only [fGa, fGs, fGz, Act.put, fSa, fSz, fSs]
       refine wpAnyH_take (i := 8) (v := .slice (va2) vn2 vc2) rfl (by kernel_rfl) (by kernel_rfl) (by kernel_rfl) (fun _ _ _ h => h) (Or.inl ⟨by rfl, fun w hSw => by obtain ⟨hS1, hS2⟩ := hSw; go_simp⟩) (by assumption) ?_
       simp only [fGa, fGs, fGz, Act.put, fSa, fSz, fSs]
       refine wpAnyH_take (i := 11) (v := .pointer (some ⟨pr, 0, none⟩)) rfl (by kernel_rfl) (by kernel_rfl) (by kernel_rfl) (fun _ _ _ h => h) (Or.inl ⟨by rfl, fun w hSw => by obtain ⟨hS1, hS2⟩ := hSw; go_simp⟩) (by assumption) ?_
       simp only [fGa, fGs, fGz, Act.put, fSa, fSz, fSs]
       refine wpAnyH_take (i := 12) (v := .pointer (some ⟨pr, 0, none⟩)) rfl (by kernel_rfl) (by kernel_rfl) (by kernel_rfl) (fun _ _ _ h => h) (Or.inl ⟨by rfl, fun w hSw => by obtain ⟨hS1, hS2⟩ := hSw; go_simp⟩) (by assumption) ?_
       simp only [fGa, fGs, fGz, Act.put, fSa, fSz, fSs]
       refine wpAnyH_take (i := 13) (v := .pointer (some ⟨pr, 0, none⟩)) rfl (by kernel_rfl) (by kernel_rfl) (by kernel_rfl) (fun _ _ _ h => h) (Or.inl ⟨by rfl, fun w hSw => by obtain ⟨hS1, hS2⟩ := hSw; go_simp⟩) (by assumption) ?_
       simp only [fGa, fGs, fGz, Act.put, fSa, fSz, fSs]
       refine wpAnyH_take (i := 14) (v := .pointer (some ⟨pr, 1, none⟩)) rfl (by kernel_rfl) (by kernel_rfl) (by kernel_rfl) (fun _ _ _ h => h) (Or.inl ⟨by rfl, fun w hSw => by obtain ⟨hS1, hS2⟩ := hSw; go_simp⟩) (by assumption) ?_
       simp only [fGa, fGs, fGz, Act.put, fSa, fSz, fSs]
       refine wpAnyH_take (i := 15) (v := .pointer (some ⟨pr, 1, none⟩)) rfl (by kernel_rfl) (by kernel_rfl) (by kernel_rfl) (fun _ _ _ h => h) (Or.inl ⟨by rfl, fun w hSw => by obtain ⟨hS1, hS2⟩ := hSw; go_simp⟩) (by assumption) ?_
       simp only [fGa, fGs, fGz, Act.put, fSa, fSz, fSs]
       refine wpAnyH_take (i := 16) (v := .agg (hs.map (Value.int .u8)).toArray) rfl (by kernel_rfl) (by kernel_rfl) (by kernel_rfl) (fun _ _ _ h => h) (yieldsIf_load_mid (by rfl) _ _ rfl _ _ rfl _ _ (fun w hSw => hSw.2) Tryd.underlying32 rfl hiK) (by assumption) ?_
       simp only [fGa, fGs, fGz, Act.put, fSa, fSz, fSs]
       refine wpAnyH_ready (rs := [9]) (by kernel_rfl) (by simp) (AllReadyH.cons rfl (fun K hK => ?_) AllReadyH.nil)
       refine step_buildSlW (by rfl) (.tmp 115) rfl rfl ?_
       have hbl : Below wy.heap.size wy (wy.alloc (.cells #[.slice va2 vn2 vc2] 26)) := (Below.refl _ _).alloc (Nat.le_refl _) _
       have hml := hmy.below HE.out hbl
       refine hK.out _ _ (⟨hml.rd.cells.2.2.2.2.2.2.2.1, ref_key (reader_ref hml.rd.arr)⟩) (fun hJ2 => ?_)
       clear hK K
       simp only [fGa, fGs, fGz, Act.put, fSa, fSz, fSs]
       refine wpAnyH_ready (rs := [10]) (by kernel_rfl) (by simp) (AllReadyH.cons rfl (fun K hK => ?_) AllReadyH.nil)
       refine step_call1GC (by rfl) 27 shasum_enter (.tmp 116) _ rfl rfl (unhide HSUM wy _ g _ _ _ (S.by_ ++ (b.drop 28).take cnt) rfl (by rfl) hmy hbl (isBB_one hmy.rd.own.isB)) ?_
       rintro e wx ⟨rfl, hmx⟩
       refine ⟨_, rfl, ?_⟩
       refine hK.out _ _ (⟨hmx.rd.cells.2.2.2.2.2.2.2.1, ref_key (reader_ref hmx.rd.arr)⟩) (fun hJ3 => ?_)
       clear hK K
       simp only [fGa, fGs, fGz, Act.put, fSa, fSz, fSs]
       refine wpAnyH_take (i := 17) (v := .bool (!decide (shaOf (S.by_ ++ (b.drop 28).take cnt) = hs))) rfl (by kernel_rfl) (by kernel_rfl) (by kernel_rfl) (fun _ _ _ h => h) (Or.inl ⟨by rfl, fun w hSw => by obtain ⟨hS1, hS2⟩ := hSw; go_simp⟩) (by assumption) ?_
       simp only [fGa, fGs, fGz, Act.put, fSa, fSz, fSs]
       refine wpAnyH_take (i := 18) (v := .bool (!decide (shaOf (S.by_ ++ (b.drop 28).take cnt) = hs))) rfl (by kernel_rfl) (by kernel_rfl) (by kernel_rfl) (fun _ _ _ h => h) (Or.inl ⟨by rfl, fun w hSw => by obtain ⟨hS1, hS2⟩ := hSw; go_simp⟩) (by assumption) ?_
       simp only [fGa, fGs, fGz, Act.put, fSa, fSz, fSs]
       refine wpAnyH_done (by kernel_rfl) ?_ _
       have HMX := hide hmx
       clear hmy hml hmx hbl hHeld hJ1 hJ2 hJ3 HMZ HS10 HB10 hkn
       by_cases hsh : shaOf (S.by_ ++ (b.drop 28).take cnt) = hs
       · have HZ := hide (unhide HFIN wx g _ _ _ HMX.out (unhide EB HSD.out HLA.out hsh))
         have hd : decide (shaOf (S.by_ ++ (b.drop 28).take cnt) = hs) = true := decide_eq_true hsh
         rw [hd]
         clear hsh hd HMX
         go_wp2
         go_end0
         exact ⟨rfl, HZ.out⟩
       · have HEQ := hide (unhide EF HSD.out HLA.out hsh)
         have hd : decide (shaOf (S.by_ ++ (b.drop 28).take cnt) = hs) = false := decide_eq_false hsh
         rw [hd]
         have c33 := HMX.out.rd.cells.2.1
         have HFX := hide (unhide HFA wx g _ _ _ fi HMX.out)
         clear hsh hd HMX
         go_wp2_with fail
         refine (unhide HFX).mono ?_
         rintro e w11 ⟨rfl, hm11⟩
         have HZ := hide (unhide HFIN w11 g _ _ _ hm11 HEQ.out)
         clear hm11 HFX
         go_wp2
         go_end0
         exact ⟨rfl, HZ.out⟩
   · rw [decide_eq_false hlast] at HB7
     have HLA := hide hlast
     clear hlast EB EF
     go_wp2_with fail
     refine (unhide HB7).mono ?_
     rintro e w8 ⟨rfl, hm8⟩
     have c37 := hm8.rd.cells.2.2.2.2.2.1
     have HCL8 := hide (unhide HCL w8 g _ _ _ (by rfl) hm8)
     clear hm8 HB7 HM7 HCL
     go_wp2_with fail
     refine (unhide HCL8).mono ?_
     rintro e w9 ⟨rfl, hm9⟩
     have HM8 := hide hm9
     clear hm9 HCL8 c37
     by_cases hh : hasB fr to_ S.ws (nm : Int) = true
     · rw [hh]
       have HH := hide hh
       clear hh ED
       obtain ⟨⟨u38, c38⟩, f38, hm9⟩ := unhide HNX w9 g _ _ _ HM8.out
       obtain ⟨wu, hwu⟩ : ∃ wu, w9.setCell ⟨pr, 38, none⟩ (.int .i64 (nm : Int)) = wu := ⟨_, rfl⟩
       rw [hwu] at hm9
       have HMD := hide (hm9.below HE.out (Below.refl _ _).drew)
       have c39 := HMD.out.rd.cells.2.2.2.2.2.2.2.1
       have HS9 : Hid (∀ W, Below wu.heap.size wu W → W.rangeAt pr 1 (refV hs fi le)) := hide (fun W hW i v hv => bkeptC hW (reader_ref hm9.rd.arr i v hv))
       have HWU := hide hwu
       clear hm9 hwu HM8
       go_wp2_with fail
       rw [HWU.out]
       refine wp_region_held_drew (S := fun W => W.rangeAt pr 1 (refV hs fi le)) (by kernel_rfl) (unhide HS9 _ (Below.refl _ _).drew) (fun hHeld => ?_)
       refine wpAnyH_take (i := 0) (v := .pointer (some ⟨pr, 0, none⟩)) rfl (by kernel_rfl) (by kernel_rfl) (by kernel_rfl) (fun _ _ _ h => h) (Or.inl ⟨by rfl, fun w hSw => by go_simp⟩) (by assumption) ?_
       simp only [fGa, fGz, Act.put, fSa, fSz, fSs]
       refine wpAnyH_take (i := 1) (v := .pointer (some ⟨pr, 0, none⟩)) rfl (by kernel_rfl) (by kernel_rfl) (by kernel_rfl) (fun _ _ _ h => h) (Or.inl ⟨by rfl, fun w hSw => by go_simp⟩) (by assumption) ?_
       simp only [fGa, fGs, fGz, Act.put, fSa, fSz, fSs]
       refine wpAnyH_take (i := 2) (v := .pointer (some ⟨pr, 0, none⟩)) rfl (by kernel_rfl) (by kernel_rfl) (by kernel_rfl) (fun _ _ _ h => h) (Or.inl ⟨by rfl, fun w hSw => by go_simp⟩) (by assumption) ?_
       simp only [fGa, fGs, fGz, Act.put, fSa, fSz, fSs]
       refine wpAnyH_take (i := 3) (v := .pointer (some ⟨pr, 39, none⟩)) rfl (by kernel_rfl) (by kernel_rfl) (by kernel_rfl) (fun _ _ _ h => h) (Or.inl ⟨by rfl, fun w hSw => by go_simp⟩) (by assumption) ?_
       simp only [fGa, fGs, fGz, Act.put, fSa, fSz, fSs]
       refine wpAnyH_take (i := 5) (v := .slice (some ⟨g, 0, none⟩) 512 512) rfl (by kernel_rfl) (by kernel_rfl) (by kernel_rfl) (fun _ _ _ h => h) (Or.inl ⟨by rfl, fun w hSw => by go_simp⟩) (by assumption) ?_
       simp only [fGa, fGs, fGz, Act.put, fSa, fSz, fSs]
       refine wpAnyH_take (i := 6) (v := .pointer (some ⟨pr, 0, none⟩)) rfl (by kernel_rfl) (by kernel_rfl) (by kernel_rfl) (fun _ _ _ h => h) (Or.inl ⟨by rfl, fun w hSw => by go_simp⟩) (by assumption) ?_
       simp only [fGa, fGs, fGz, Act.put, fSa, fSz, fSs]
       refine wpAnyH_take (i := 7) (v := .pointer (some ⟨pr, 0, none⟩)) rfl (by kernel_rfl) (by kernel_rfl) (by kernel_rfl) (fun _ _ _ h => h) (Or.inl ⟨by rfl, fun w hSw => by go_simp⟩) (by assumption) ?_
       simp only [fGa, fGs, fGz, Act.put, fSa, fSz, fSs]
       refine wpAnyH_take (i := 8) (v := .pointer (some ⟨pr, 0, none⟩)) rfl (by kernel_rfl) (by kernel_rfl) (by kernel_rfl) (fun _ _ _ h => h) (Or.inl ⟨by rfl, fun w hSw => by go_simp⟩) (by assumption) ?_
       simp only [fGa, fGs, fGz, Act.put, fSa, fSz, fSs]
       refine wpAnyH_take (i := 9) (v := .pointer (some ⟨pr, 1, none⟩)) rfl (by kernel_rfl) (by kernel_rfl) (by kernel_rfl) (fun _ _ _ h => h) (Or.inl ⟨by rfl, fun w hSw => by go_simp⟩) (by assumption) ?_
       simp only [fGa, fGs, fGz, Act.put, fSa, fSz, fSs]
       refine wpAnyH_take (i := 10) (v := .agg (refV hs fi le).toArray) rfl (by kernel_rfl) (by kernel_rfl) (by kernel_rfl) (fun _ _ _ h => h) (yieldsIf_load_mid (by rfl) _ _ rfl _ _ rfl _ _ (fun w hSw => hSw) hund rfl hiR) (by assumption) ?_
       simp only [fGa, fGs, fGz, Act.put, fSa, fSz, fSs]
       refine wpAnyH_take (i := 11) (v := .int .i64 (nn : Int)) rfl (by kernel_rfl) (by kernel_rfl) (by kernel_rfl) (fun _ _ _ h => h) (Or.inl ⟨by rfl, fun w hSw => by go_simp⟩) (by assumption) ?_
       simp only [fGa, fGs, fGz, Act.put, fSa, fSz, fSs]
       refine wpAnyH_ready (rs := [4, 12]) (by kernel_rfl) (by simp) (AllReadyH.cons rfl (fun K hK => ?_) (AllReadyH.cons rfl (fun K hK => ?_) AllReadyH.nil))
       · refine step_loadBs (by rfl) (.tmp 94) rfl rfl c39 ?_
         refine hK.out _ _ (hHeld) (fun hH3 => ?_)
         clear hK K
         simp only [fGa, fGs, fGz, Act.put, fSa, fSz, fSs]
         refine wpAnyH_ready (rs := [12]) (by kernel_rfl) (by simp) (AllReadyH.cons rfl (fun K hK => ?_) AllReadyH.nil)
         refine step_call3C (by rfl) 74 piece_enter (.tmp 96) (.tmp 101) (.tmp 102) _ rfl rfl rfl rfl (unhide HPI _ g _ _ _ HMD.out) ?_
         rintro e wp ⟨rfl, hmp, hip⟩
         refine ⟨_, rfl, ?_⟩
         refine hK.out _ _ (reader_ref hmp.rd.arr) (fun hH4 => ?_)
         clear hK K
         simp only [fGa, fGs, fGz, Act.put, fSa, fSz, fSs]
         refine wpAnyH_ready (rs := [13]) (by kernel_rfl) (by simp) (AllReadyH.cons rfl (fun K hK => ?_) AllReadyH.nil)
         obtain ⟨ho, hBs, hlen⟩ := unhide HOWB wp g _ _ _ (by rfl) hmp
         refine step_appBs (by rfl) (.tmp 95) (.tmp 103) rfl rfl ho rfl hip hlen hBs ?_
         intro v2 wq ho2 hg2 hat2
         obtain ⟨⟨va2, vn2, vc2, hv2⟩, q1, q2, q3, q4⟩ := unhide HAP wp wq g _ _ _ v2 (by rfl) hmp ho2 hg2 hat2
         subst hv2
         refine hK.out _ _ (q3) (fun hH5 => ?_)
         clear hK K
         simp only [fGa, fGs, fGz, Act.put, fSa, fSz, fSs]
         refine wpAnyH_take (i := 14) (v := .pointer (some ⟨pr, 0, none⟩)) rfl (by kernel_rfl) (by kernel_rfl) (by kernel_rfl) (fun _ _ _ h => h) (Or.inl ⟨by rfl, fun w hSw => by go_simp⟩) (by assumption) ?_
         simp only [fGa, fGs, fGz, Act.put, fSa, fSz, fSs]
         refine wpAnyH_take (i := 15) (v := .pointer (some ⟨pr, 39, none⟩)) rfl (by kernel_rfl) (by kernel_rfl) (by kernel_rfl) (fun _ _ _ h => h) (Or.inl ⟨by rfl, fun w hSw => by go_simp⟩) (by assumption) ?_
         simp only [fGa, fGs, fGz, Act.put, fSa, fSz, fSs]
         refine wpAnyH_ready (rs := [16]) (by kernel_rfl) (by simp) (AllReadyH.cons rfl (fun K hK => ?_) AllReadyH.nil)
         refine step_storeBs (by rfl) (.tmp 106) (.tmp 104) rfl rfl rfl rfl q1 q2 ?_
         refine hK.out _ _ (reader_ref q4.rd.arr) (fun hH6 => ?_)
         clear hK K
         simp only [fGa, fGs, fGz, Act.put]
         refine wpAnyH_done (by kernel_rfl) ?_ _
         obtain ⟨wz, hwz⟩ : ∃ wz, wq.setCell ⟨pr, 39, none⟩ (.slice va2 vn2 vc2) = wz := ⟨_, rfl⟩
         rw [hwz] at q4
         have HMZ := hide q4
         have HWZ := hide hwz
         have HB10 := hide (unhide HBH _ g _ _ _ (by rfl) (q4.below HE.out (Below.refl _ _).drew))
         rw [decide_eq_false HLA.out] at HB10
         have HS10 : Hid (∀ W, Below wz.heap.size wz W → W.cell? ⟨pr, 39, none⟩ = some (.slice va2 vn2 vc2) ∧ W.rangeAt pr 1 (hs.map (Value.int .u8))) := hide (fun W hW => ⟨bkeptC hW q4.rd.cells.2.2.2.2.2.2.2.1, fun i v hv => bkeptC hW (ref_key (reader_ref q4.rd.arr) i v hv)⟩)
         clear hwz q1 q2 q3 q4 ho2 hg2 hat2 ho hBs hlen hip hmp hHeld hH3 hH4 hH5 hH6
         go_wp2_with fail
         rw [HWZ.out]
         refine wp_region_held_drew (S := fun W => W.cell? ⟨pr, 39, none⟩ = some (.slice va2 vn2 vc2) ∧ W.rangeAt pr 1 (hs.map (Value.int .u8))) (by kernel_rfl) (unhide HS10 _ (Below.refl _ _).drew) (fun hHeld => ?_)
         refine wpAnyH_take (i := 0) (v := .pointer (some ⟨pr, 0, none⟩)) rfl (by kernel_rfl) (by kernel_rfl) (by kernel_rfl) (fun _ _ _ h => h) (Or.inl ⟨by rfl, fun w hSw => by obtain ⟨hS1, hS2⟩ := hSw; go_simp⟩) (by assumption) ?_
         simp only [fGa, fGz, Act.put, fSa, fSz, fSs]
         refine wpAnyH_take (i := 1) (v := .pointer (some ⟨pr, 0, none⟩)) rfl (by kernel_rfl) (by kernel_rfl) (by kernel_rfl) (fun _ _ _ h => h) (Or.inl ⟨by rfl, fun w hSw => by obtain ⟨hS1, hS2⟩ := hSw; go_simp⟩) (by assumption) ?_
         simp only [fGa, fGs, fGz, Act.put, fSa, fSz, fSs]
         refine wpAnyH_take (i := 2) (v := .pointer (some ⟨pr, 0, none⟩)) rfl (by kernel_rfl) (by kernel_rfl) (by kernel_rfl) (fun _ _ _ h => h) (Or.inl ⟨by rfl, fun w hSw => by obtain ⟨hS1, hS2⟩ := hSw; go_simp⟩) (by assumption) ?_
         simp only [fGa, fGs, fGz, Act.put, fSa, fSz, fSs]
         refine wpAnyH_ready (rs := [3]) (by kernel_rfl) (by simp) (AllReadyH.cons rfl (fun K hK => ?_) AllReadyH.nil)
         refine step_call1C (by rfl) 55 behind_enter (.tmp 109) _ rfl rfl (unhide HB10) ?_
         rintro e wy ⟨rfl, hmy⟩
         refine ⟨_, rfl, ?_⟩
         refine hK.out _ _ (⟨hmy.rd.cells.2.2.2.2.2.2.2.1, ref_key (reader_ref hmy.rd.arr)⟩) (fun hJ1 => ?_)
         clear hK K
         simp only [fGa, fGs, fGz, Act.put, fSa, fSz, fSs]
         refine wpAnyH_take (i := 4) (v := .bool false) rfl (by kernel_rfl) (by kernel_rfl) (by kernel_rfl) (fun _ _ _ h => h) (Or.inl ⟨by rfl, fun w hSw => by obtain ⟨hS1, hS2⟩ := hSw; go_simp⟩) (by assumption) ?_
         simp only [fGa, fGs, fGz, Act.put, fSa, fSz, fSs]
         refine wpAnyH_take (i := 5) (v := undef) rfl (by kernel_rfl) (by kernel_rfl) (by kernel_rfl) (fun _ _ _ h => h) (Or.inr ⟨by rfl, rfl⟩) (by assumption) ?_
         simp only [fGa, fGs, fGz, Act.put, fSa, fSz, fSs]
         refine wpAnyH_take (i := 6) (v := undef) rfl (by kernel_rfl) (by kernel_rfl) (by kernel_rfl) (fun _ _ _ h => h) (Or.inr ⟨by rfl, rfl⟩) (by assumption) ?_
         simp only [fGa, fGs, fGz, Act.put, fSa, fSz, fSs]
         refine wpAnyH_take (i := 7) (v := undef) rfl (by kernel_rfl) (by kernel_rfl) (by kernel_rfl) (fun _ _ _ h => h) (Or.inr ⟨by rfl, rfl⟩) (by assumption) ?_
         simp only [fGa, fGs, fGz, Act.put, fSa, fSz, fSs]
         refine wpAnyH_take (i := 8) (v := undef) rfl (by kernel_rfl) (by kernel_rfl) (by kernel_rfl) (fun _ _ _ h => h) (Or.inr ⟨by rfl, rfl⟩) (by assumption) ?_
         simp only [fGa, fGs, fGz, Act.put, fSa, fSz, fSs]
         refine wpAnyH_take (i := 9) (v := undef) rfl (by kernel_rfl) (by kernel_rfl) (by kernel_rfl) (fun _ _ _ h => h) (Or.inr ⟨by rfl, rfl⟩) (by assumption) ?_
         simp only [fGa, fGs, fGz, Act.put, fSa, fSz, fSs]
         refine wpAnyH_take (i := 10) (v := undef) rfl (by kernel_rfl) (by kernel_rfl) (by kernel_rfl) (fun _ _ _ h => h) (Or.inr ⟨by rfl, rfl⟩) (by assumption) ?_
         simp only [fGa, fGs, fGz, Act.put, fSa, fSz, fSs]
         refine wpAnyH_take (i := 11) (v := undef) rfl (by kernel_rfl) (by kernel_rfl) (by kernel_rfl) (fun _ _ _ h => h) (Or.inr ⟨by rfl, rfl⟩) (by assumption) ?_
         simp only [fGa, fGs, fGz, Act.put, fSa, fSz, fSs]
         refine wpAnyH_take (i := 12) (v := undef) rfl (by kernel_rfl) (by kernel_rfl) (by kernel_rfl) (fun _ _ _ h => h) (Or.inr ⟨by rfl, rfl⟩) (by assumption) ?_
         simp only [fGa, fGs, fGz, Act.put, fSa, fSz, fSs]
         refine wpAnyH_take (i := 13) (v := undef) rfl (by kernel_rfl) (by kernel_rfl) (by kernel_rfl) (fun _ _ _ h => h) (Or.inr ⟨by rfl, rfl⟩) (by assumption) ?_
         simp only [fGa, fGs, fGz, Act.put, fSa, fSz, fSs]
         refine wpAnyH_take (i := 14) (v := undef) rfl (by kernel_rfl) (by kernel_rfl) (by kernel_rfl) (fun _ _ _ h => h) (Or.inr ⟨by rfl, rfl⟩) (by assumption) ?_
         simp only [fGa, fGs, fGz, Act.put, fSa, fSz, fSs]
         refine wpAnyH_take (i := 15) (v := undef) rfl (by kernel_rfl) (by kernel_rfl) (by kernel_rfl) (fun _ _ _ h => h) (Or.inr ⟨by rfl, rfl⟩) (by assumption) ?_
         simp only [fGa, fGs, fGz, Act.put, fSa, fSz, fSs]
         refine wpAnyH_take (i := 16) (v := undef) rfl (by kernel_rfl) (by kernel_rfl) (by kernel_rfl) (fun _ _ _ h => h) (Or.inr ⟨by rfl, rfl⟩) (by assumption) ?_
         simp only [fGa, fGs, fGz, Act.put, fSa, fSz, fSs]
         refine wpAnyH_take (i := 17) (v := undef) rfl (by kernel_rfl) (by kernel_rfl) (by kernel_rfl) (fun _ _ _ h => h) (Or.inr ⟨by rfl, rfl⟩) (by assumption) ?_
         simp only [fGa, fGs, fGz, Act.put, fSa, fSz, fSs]
         refine wpAnyH_take (i := 18) (v := .bool false) rfl (by kernel_rfl) (by kernel_rfl) (by kernel_rfl) (fun _ _ _ h => h) (Or.inl ⟨by rfl, fun w hSw => by obtain ⟨hS1, hS2⟩ := hSw; go_simp⟩) (by assumption) ?_
         simp only [fGa, fGs, fGz, Act.put, fSa, fSz, fSs]
         refine wpAnyH_done (by kernel_rfl) ?_ _
         have HZ := hide (unhide HFIN wy g _ _ _ hmy (unhide EC HSD.out HLA.out HH.out))
         clear hmy hHeld hJ1 HMZ HS10 HB10
         go_wp2
         go_end0
         exact ⟨rfl, HZ.out⟩
       · refine step_call3C (by rfl) 74 piece_enter (.tmp 96) (.tmp 101) (.tmp 102) _ rfl rfl rfl rfl (unhide HPI _ g _ _ _ HMD.out) ?_
         rintro e wp ⟨rfl, hmp, hip⟩
         refine ⟨_, rfl, ?_⟩
         refine hK.out _ _ (reader_ref hmp.rd.arr) (fun hH3 => ?_)
         clear hK K
         simp only [fGa, fGs, fGz, Act.put, fSa, fSz, fSs]
         refine wpAnyH_ready (rs := [4]) (by kernel_rfl) (by simp) (AllReadyH.cons rfl (fun K hK => ?_) AllReadyH.nil)
         refine step_loadBs (by rfl) (.tmp 94) rfl rfl hmp.rd.cells.2.2.2.2.2.2.2.1 ?_
         refine hK.out _ _ (hH3) (fun hH4 => ?_)
         clear hK K
         simp only [fGa, fGs, fGz, Act.put, fSa, fSz, fSs]
         refine wpAnyH_ready (rs := [13]) (by kernel_rfl) (by simp) (AllReadyH.cons rfl (fun K hK => ?_) AllReadyH.nil)
         obtain ⟨ho, hBs, hlen⟩ := unhide HOWB wp g _ _ _ (by rfl) hmp
         refine step_appBs (by rfl) (.tmp 95) (.tmp 103) rfl rfl ho rfl hip hlen hBs ?_
         intro v2 wq ho2 hg2 hat2
         obtain ⟨⟨va2, vn2, vc2, hv2⟩, q1, q2, q3, q4⟩ := unhide HAP wp wq g _ _ _ v2 (by rfl) hmp ho2 hg2 hat2
         subst hv2
         refine hK.out _ _ (q3) (fun hH5 => ?_)
         clear hK K
         simp only [fGa, fGs, fGz, Act.put, fSa, fSz, fSs]
         refine wpAnyH_take (i := 14) (v := .pointer (some ⟨pr, 0, none⟩)) rfl (by kernel_rfl) (by kernel_rfl) (by kernel_rfl) (fun _ _ _ h => h) (Or.inl ⟨by rfl, fun w hSw => by go_simp⟩) (by assumption) ?_
         simp only [fGa, fGs, fGz, Act.put, fSa, fSz, fSs]
         refine wpAnyH_take (i := 15) (v := .pointer (some ⟨pr, 39, none⟩)) rfl (by kernel_rfl) (by kernel_rfl) (by kernel_rfl) (fun _ _ _ h => h) (Or.inl ⟨by rfl, fun w hSw => by go_simp⟩) (by assumption) ?_
         simp only [fGa, fGs, fGz, Act.put, fSa, fSz, fSs]
         refine wpAnyH_ready (rs := [16]) (by kernel_rfl) (by simp) (AllReadyH.cons rfl (fun K hK => ?_) AllReadyH.nil)
         refine step_storeBs (by rfl) (.tmp 106) (.tmp 104) rfl rfl rfl rfl q1 q2 ?_
         refine hK.out _ _ (reader_ref q4.rd.arr) (fun hH6 => ?_)
         clear hK K
         simp only [fGa, fGs, fGz, Act.put]
         refine wpAnyH_done (by kernel_rfl) ?_ _
         obtain ⟨wz, hwz⟩ : ∃ wz, wq.setCell ⟨pr, 39, none⟩ (.slice va2 vn2 vc2) = wz := ⟨_, rfl⟩
         rw [hwz] at q4
         have HMZ := hide q4
         have HWZ := hide hwz
         have HB10 := hide (unhide HBH _ g _ _ _ (by rfl) (q4.below HE.out (Below.refl _ _).drew))
         rw [decide_eq_false HLA.out] at HB10
         have HS10 : Hid (∀ W, Below wz.heap.size wz W → W.cell? ⟨pr, 39, none⟩ = some (.slice va2 vn2 vc2) ∧ W.rangeAt pr 1 (hs.map (Value.int .u8))) := hide (fun W hW => ⟨bkeptC hW q4.rd.cells.2.2.2.2.2.2.2.1, fun i v hv => bkeptC hW (ref_key (reader_ref q4.rd.arr) i v hv)⟩)
         clear hwz q1 q2 q3 q4 ho2 hg2 hat2 ho hBs hlen hip hmp hHeld hH3 hH4 hH5 hH6
         go_wp2_with fail
         rw [HWZ.out]
         refine wp_region_held_drew (S := fun W => W.cell? ⟨pr, 39, none⟩ = some (.slice va2 vn2 vc2) ∧ W.rangeAt pr 1 (hs.map (Value.int .u8))) (by kernel_rfl) (unhide HS10 _ (Below.refl _ _).drew) (fun hHeld => ?_)
         refine wpAnyH_take (i := 0) (v := .pointer (some ⟨pr, 0, none⟩)) rfl (by kernel_rfl) (by kernel_rfl) (by kernel_rfl) (fun _ _ _ h => h) (Or.inl ⟨by rfl, fun w hSw => by obtain ⟨hS1, hS2⟩ := hSw; go_simp⟩) (by assumption) ?_
         simp only [fGa, fGz, Act.put, fSa, fSz, fSs]
         refine wpAnyH_take (i := 1) (v := .pointer (some ⟨pr, 0, none⟩)) rfl (by kernel_rfl) (by kernel_rfl) (by kernel_rfl) (fun _ _ _ h => h) (Or.inl ⟨by rfl, fun w hSw => by obtain ⟨hS1, hS2⟩ := hSw; go_simp⟩) (by assumption) ?_
         simp only [fGa, fGs, fGz, Act.put, fSa, fSz, fSs]
         refine wpAnyH_take (i := 2) (v := .pointer (some ⟨pr, 0, none⟩)) rfl (by kernel_rfl) (by kernel_rfl) (by kernel_rfl) (fun _ _ _ h => h) (Or.inl ⟨by rfl, fun w hSw => by obtain ⟨hS1, hS2⟩ := hSw; go_simp⟩) (by assumption) ?_
         simp only [fGa, fGs, fGz, Act.put, fSa, fSz, fSs]
         refine wpAnyH_ready (rs := [3]) (by kernel_rfl) (by simp) (AllReadyH.cons rfl (fun K hK => ?_) AllReadyH.nil)
         refine step_call1C (by rfl) 55 behind_enter (.tmp 109) _ rfl rfl (unhide HB10) ?_
         rintro e wy ⟨rfl, hmy⟩
         refine ⟨_, rfl, ?_⟩
         refine hK.out _ _ (⟨hmy.rd.cells.2.2.2.2.2.2.2.1, ref_key (reader_ref hmy.rd.arr)⟩) (fun hJ1 => ?_)
         clear hK K
         simp only [fGa, fGs, fGz, Act.put, fSa, fSz, fSs]
         refine wpAnyH_take (i := 4) (v := .bool false) rfl (by kernel_rfl) (by kernel_rfl) (by kernel_rfl) (fun _ _ _ h => h) (Or.inl ⟨by rfl, fun w hSw => by obtain ⟨hS1, hS2⟩ := hSw; go_simp⟩) (by assumption) ?_
         simp only [fGa, fGs, fGz, Act.put, fSa, fSz, fSs]
         refine wpAnyH_take (i := 5) (v := undef) rfl (by kernel_rfl) (by kernel_rfl) (by kernel_rfl) (fun _ _ _ h => h) (Or.inr ⟨by rfl, rfl⟩) (by assumption) ?_
         simp only [fGa, fGs, fGz, Act.put, fSa, fSz, fSs]
         refine wpAnyH_take (i := 6) (v := undef) rfl (by kernel_rfl) (by kernel_rfl) (by kernel_rfl) (fun _ _ _ h => h) (Or.inr ⟨by rfl, rfl⟩) (by assumption) ?_
         simp only [fGa, fGs, fGz, Act.put, fSa, fSz, fSs]
         refine wpAnyH_take (i := 7) (v := undef) rfl (by kernel_rfl) (by kernel_rfl) (by kernel_rfl) (fun _ _ _ h => h) (Or.inr ⟨by rfl, rfl⟩) (by assumption) ?_
         simp only [fGa, fGs, fGz, Act.put, fSa, fSz, fSs]
         refine wpAnyH_take (i := 8) (v := undef) rfl (by kernel_rfl) (by kernel_rfl) (by kernel_rfl) (fun _ _ _ h => h) (Or.inr ⟨by rfl, rfl⟩) (by assumption) ?_
         simp only [fGa, fGs, fGz, Act.put, fSa, fSz, fSs]
         refine wpAnyH_take (i := 9) (v := undef) rfl (by kernel_rfl) (by kernel_rfl) (by kernel_rfl) (fun _ _ _ h => h) (Or.inr ⟨by rfl, rfl⟩) (by assumption) ?_
         simp only [fGa, fGs, fGz, Act.put, fSa, fSz, fSs]
         refine wpAnyH_take (i := 10) (v := undef) rfl (by kernel_rfl) (by kernel_rfl) (by kernel_rfl) (fun _ _ _ h => h) (Or.inr ⟨by rfl, rfl⟩) (by assumption) ?_
         simp only [fGa, fGs, fGz, Act.put, fSa, fSz, fSs]
         refine wpAnyH_take (i := 11) (v := undef) rfl (by kernel_rfl) (by kernel_rfl) (by kernel_rfl) (fun _ _ _ h => h) (Or.inr ⟨by rfl, rfl⟩) (by assumption) ?_
         simp only [fGa, fGs, fGz, Act.put, fSa, fSz, fSs]
         refine wpAnyH_take (i := 12) (v := undef) rfl (by kernel_rfl) (by kernel_rfl) (by kernel_rfl) (fun _ _ _ h => h) (Or.inr ⟨by rfl, rfl⟩) (by assumption) ?_
         simp only [fGa, fGs, fGz, Act.put, fSa, fSz, fSs]
         refine wpAnyH_take (i := 13) (v := undef) rfl (by kernel_rfl) (by kernel_rfl) (by kernel_rfl) (fun _ _ _ h => h) (Or.inr ⟨by rfl, rfl⟩) (by assumption) ?_
         simp only [fGa, fGs, fGz, Act.put, fSa, fSz, fSs]
         refine wpAnyH_take (i := 14) (v := undef) rfl (by kernel_rfl) (by kernel_rfl) (by kernel_rfl) (fun _ _ _ h => h) (Or.inr ⟨by rfl, rfl⟩) (by assumption) ?_
         simp only [fGa, fGs, fGz, Act.put, fSa, fSz, fSs]
         refine wpAnyH_take (i := 15) (v := undef) rfl (by kernel_rfl) (by kernel_rfl) (by kernel_rfl) (fun _ _ _ h => h) (Or.inr ⟨by rfl, rfl⟩) (by assumption) ?_
         simp only [fGa, fGs, fGz, Act.put, fSa, fSz, fSs]
         refine wpAnyH_take (i := 16) (v := undef) rfl (by kernel_rfl) (by kernel_rfl) (by kernel_rfl) (fun _ _ _ h => h) (Or.inr ⟨by rfl, rfl⟩) (by assumption) ?_
         simp only [fGa, fGs, fGz, Act.put, fSa, fSz, fSs]
         refine wpAnyH_take (i := 17) (v := undef) rfl (by kernel_rfl) (by kernel_rfl) (by kernel_rfl) (fun _ _ _ h => h) (Or.inr ⟨by rfl, rfl⟩) (by assumption) ?_
         simp only [fGa, fGs, fGz, Act.put, fSa, fSz, fSs]
         refine wpAnyH_take (i := 18) (v := .bool false) rfl (by kernel_rfl) (by kernel_rfl) (by kernel_rfl) (fun _ _ _ h => h) (Or.inl ⟨by rfl, fun w hSw => by obtain ⟨hS1, hS2⟩ := hSw; go_simp⟩) (by assumption) ?_
         simp only [fGa, fGs, fGz, Act.put, fSa, fSz, fSs]
         refine wpAnyH_done (by kernel_rfl) ?_ _
         have HZ := hide (unhide HFIN wy g _ _ _ hmy (unhide EC HSD.out HLA.out HH.out))
         clear hmy hHeld hJ1 HMZ HS10 HB10
         go_wp2
         go_end0
         exact ⟨rfl, HZ.out⟩
     · have hh2 : hasB fr to_ S.ws (nm : Int) = false := by simpa using hh
       rw [hh2]
       have HF9 := hide (unhide HFA w9 g _ _ _ (nx : Int) HM8.out)
       have HEQ := hide (unhide ED HSD.out HLA.out hh2)
       clear hh hh2 HM8
       go_wp2_with fail
       refine (unhide HF9).mono ?_
       rintro e w10 ⟨rfl, hm10⟩
       have HZ := hide (unhide HFIN w10 g _ _ _ hm10 HEQ.out)
       clear hm10 HF9
       go_wp2
       refine bodyPost_ret (results_none rfl _ _ _) rfl ?_
       exact ⟨rfl, HZ.out⟩
 · rw [decide_eq_false hsd]
   have HF7 := hide (unhide HFA w7 g _ _ _ (nx : Int) HM7.out)
   have HEQ := hide (unhide EA hsd)
   clear hsd HM7
   go_wp2_with fail
   refine (unhide HF7).mono ?_
   rintro e w8 ⟨rfl, hm8⟩
   have HZ := hide (unhide HFIN w8 g _ _ _ hm8 HEQ.out)
   clear hm8 HF7
   go_wp2
   refine bodyPost_ret (results_none rfl _ _ _) rfl ?_
   exact ⟨rfl, HZ.out⟩
end Go.Proofs.YtlofoklfggmbiaaDoor

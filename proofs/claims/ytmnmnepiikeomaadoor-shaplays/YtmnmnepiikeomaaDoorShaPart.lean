/- An array within a block is written, and read, as one step of a region that draws; what Write makes of a Hash's cells. -/
import Derived.Test.YtmnmnepiikeomaaDoorShaKeyW
namespace Go.Proofs.YtmnmnepiikeomaaDoor
open Go.RowKit

section
variable {o : Oper} {a : Act} {w : World} {K : Act → World → Prop} {Q : Exit → Act → World → Prop} {E : Prop} {Y : Nat → Option Bool}
theorem store_part {g off : Nat} {t0 t : TypeId} {cs cs' : List Value} (h : Arr w g t0 cs) (hf : off + cs'.length ≤ cs.length) (h1 : ∀ u ∈ cs', u.oneCell' = true) (hi : (Tryd.prog.info? t).map (·.size) = some cs'.length) :
    (Instr.storeAt t (.pointer (some ⟨g, off, none⟩)) (.agg cs'.toArray)).run Tryd.prog w = .ok () (w.setRow g (cs.take off ++ cs' ++ cs.drop (off + cs'.length)).toArray) := by
  have hst := run_storeCells_at Tryd.prog g off t0 cs' 0 cs.toArray w h (by simpa using hf) h1
  simp only [Instr.storeAt, Instr.sureAddr, Sem.run_bind, Sem.run_pure, Result.andThen]
  cases hq : Tryd.prog.info? t with
  | none => simp [hq] at hi
  | some i =>
    have hs : cs'.length = i.size := by simp [hq] at hi; omega
    simp [Go.storeVar, sizeOf, typeInfo, hq, Value.cells, hs, hst]
theorem step_storePart (hgd : o.guard = none) (x y : Operand) (t : TypeId) (ho : o.op = .store t x y) {g off : Nat} {t0 : TypeId} {cs : List Value} (cs' : List Value) (hx : a.eval x = .pointer (some ⟨g, off, none⟩)) (hy : a.eval y = .agg cs'.toArray) (h : Arr w g t0 cs) (hi : (Tryd.prog.info? t).map (·.size) = some cs'.length)
    (hf : off + cs'.length ≤ cs.length) (h1 : ∀ u ∈ cs', u.oneCell' = true) (hk : ∀ w', Arr w' g t0 (cs.take off ++ cs' ++ cs.drop (off + cs'.length)) → Wrote w w' g → K (a.put o.dst undef) w') : if Region.wanted o Y = true then Oper.wp Tryd.prog o a w K Q else E := by
  have hw : Region.wanted o Y = true := by simp [Region.wanted, hgd]
  rw [if_pos hw]
  have h2 := store_part h hf h1 hi
  unfold Oper.wp execOp
  simp only [ho, hx, hy, Sem.run_bind, h2, Result.andThen_ok, Sem.run_pure]
  exact hk _ (setRow_heap w g _ _ t0 _ h) ⟨fun k hk => Go.setRow_other w g k _ hk, by simp, fun _ _ hb hB => below_setRow hb hB _⟩
theorem step_loadPart (hgd : o.guard = none) (x : Operand) (t : TypeId) (ho : o.op = .load t x) {g off n : Nat} {t0 e : TypeId} {cs : List Value} (cs' : List Value) (hx : a.eval x = .pointer (some ⟨g, off, none⟩)) (h : Arr w g t0 cs) (hp : ∀ j v, cs'[j]? = some v → cs[off + j]? = some v)
    (hu : Tryd.prog.underlying t = some (.array n e)) (hi : (Tryd.prog.info? t).map (·.size) = some cs'.length) (hk : K (a.put o.dst (.agg cs'.toArray)) w) : if Region.wanted o Y = true then Oper.wp Tryd.prog o a w K Q else E := by
  have hw : Region.wanted o Y = true := by simp [Region.wanted, hgd]
  rw [if_pos hw]
  have h0 := load_part h hp hu hi
  have h1 : (Instr.loadAt t (.pointer (some ⟨g, off, none⟩))).run Tryd.prog w = .ok (.agg cs'.toArray) w := by
    simp only [Instr.loadAt, Instr.sureAddr, Sem.run_bind, Sem.run_pure, Result.andThen]
    exact h0
  unfold Oper.wp execOp
  simp only [ho, hx, Sem.run_bind, h1, Result.andThen_ok, Sem.run_pure]
  exact hk
end
/-- The words of a Hash's cells written anew. -/
theorem hash_words (S T : H8) (r : List Int) (n : Nat) : (hashCells S r n).take 0 ++ T.vals ++ (hashCells S r n).drop (0 + T.vals.length) = hashCells T r n := by
  have e : 0 + T.vals.length = S.vals.length := rfl
  rw [List.take_zero, List.nil_append, e]
  unfold hashCells
  rw [List.append_assoc S.vals, List.drop_left, List.append_assoc]
/-- The room of a Hash's cells written anew, from a place on. -/
theorem hash_rest {S : H8} {r ys : List Int} {n u : Nat} (hu : u + ys.length ≤ r.length) : splice (hashCells S r n) (8 + u) (ys.map (Value.int .u8)) = hashCells S (r.take u ++ ys ++ r.drop (u + ys.length)) n := by
  unfold splice hashCells
  have hl : S.vals.length = 8 := rfl
  have h1 : (S.vals ++ r.map (Value.int .u8) ++ [Value.int .i64 (n : Int)]).take (8 + u) = S.vals ++ (r.take u).map (Value.int .u8) := by
    rw [List.append_assoc, ← hl, List.take_length_add_append, List.take_append_of_le_length (by simp; omega), List.map_take]
  have h2 : (S.vals ++ r.map (Value.int .u8) ++ [Value.int .i64 (n : Int)]).drop (8 + u + (ys.map (Value.int .u8)).length) = (r.drop (u + ys.length)).map (Value.int .u8) ++ [Value.int .i64 (n : Int)] := by
    rw [List.append_assoc, List.length_map, Nat.add_assoc, ← hl, List.drop_length_add_append, List.drop_append_of_le_length (by simp; omega), List.map_drop]
  rw [h1, h2]
  simp
/-- The length of a Hash's cells written anew. -/
theorem hash_set_len {S : H8} {r : List Int} {n m : Nat} (hr : r.length = 64) : (hashCells S r n).set 72 (.int .i64 (m : Int)) = hashCells S r m := by
  unfold hashCells
  have h : (S.vals ++ r.map (Value.int .u8)).length = 72 := by simp [H8.vals, hr]
  rw [List.set_append_right _ _ (by omega), h]
  rfl
end Go.Proofs.YtmnmnepiikeomaaDoor

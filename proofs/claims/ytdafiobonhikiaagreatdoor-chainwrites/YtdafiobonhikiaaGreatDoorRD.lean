/- The hash by the words behind the whole blocks; an array within a block is read. -/
import Derived.Test.YtdafiobonhikiaaGreatDoorRC
namespace Go.Proofs.YtdafiobonhikiaaGreatDoor
open Go.RowKit

theorem absorb_pre {s : H8} {xs ys : List Int} : ∀ n, (∀ j, j < 64 * n → xs[j]? = ys[j]?) → absorbN s xs n = absorbN s ys n
  | 0, _ => rfl
  | n + 1, h => by
    rw [absorbN, absorbN, absorb_pre n (fun j hj => h j (by omega))]
    congr 1
    apply List.ext_getElem?
    intro j
    by_cases hj : j < 64
    · rw [List.getElem?_take_of_lt hj, List.getElem?_take_of_lt hj, List.getElem?_drop, List.getElem?_drop, h _ (by omega)]
    · rw [List.getElem?_take_eq_none (by omega), List.getElem?_take_eq_none (by omega)]
theorem absorb_app {s : H8} {ys es : List Int} {q : Nat} (hq : ys.length = 64 * q) : ∀ t, absorbN s (ys ++ es) (q + t) = absorbN (absorbN s ys q) es t
  | 0 => by
    rw [Nat.add_zero, absorbN]
    exact absorb_pre q (fun j hj => List.getElem?_append_left (by omega))
  | t + 1 => by
    rw [← Nat.add_assoc, absorbN, absorbN, absorb_app hq t, List.drop_append]
    have e1 : List.drop (64 * (q + t)) ys = [] := List.drop_eq_nil_of_le (by omega)
    have e2 : 64 * (q + t) - ys.length = 64 * t := by omega
    rw [e1, e2, List.nil_append]
theorem end_len (xs : List Int) : (endB xs).length = 64 ∨ (endB xs).length = 128 := by
  have h := laidB_len xs
  rw [laid_end, List.length_append, List.length_take] at h
  have hz : zerosOf xs.length = (119 - xs.length % 64) % 64 := rfl
  omega
/-- The hash, by the words behind the whole blocks. -/
theorem sha_end (xs : List Int) : shaOf xs = keyB (absorbN (absorbN init8 xs (xs.length / 64)) (endB xs) ((endB xs).length / 64)) 32 := by
  have hl : (xs.take (64 * (xs.length / 64))).length = 64 * (xs.length / 64) := by rw [List.length_take]; omega
  have he := end_len xs
  have hn : (laidB xs).length / 64 = xs.length / 64 + (endB xs).length / 64 := by
    rw [laid_end, List.length_append, hl]
    omega
  rw [shaOf, hn, laid_end, absorb_app hl, absorb_pre (xs := xs.take (64 * (xs.length / 64))) (ys := xs) _ (fun j hj => List.getElem?_take_of_lt hj)]
theorem hash_at_word {S : H8} {r : List Int} {n j : Nat} (hj : j < 8) : (hashCells S r n)[j]? = S.vals[j]? := by
  unfold hashCells
  rw [List.append_assoc, List.getElem?_append_left (by simp [H8.vals]; omega)]

section
variable {ops : Array Oper} {rest : List Oper} {o : Oper} {a : Act} {Q : Exit → Act → World → Prop} {w : World}
theorem load_part {g off n : Nat} {t0 t e : TypeId} {cs cs' : List Value} (h : Arr w g t0 cs) (hp : ∀ j v, cs'[j]? = some v → cs[off + j]? = some v) (hu : Tryz.prog.underlying t = some (.array n e)) (hi : (Tryz.prog.info? t).map (·.size) = some cs'.length) :
    (loadVar t ⟨g, off, none⟩).run Tryz.prog w = .ok (.agg cs'.toArray) w := by
  have hl := run_loadCells_list (P := Tryz.prog) w ⟨g, off, none⟩ cs' (fun j v hv => by rw [Addr.add_lit, h.cell]; exact hp j v hv)
  cases hq : Tryz.prog.info? t with
  | none => simp [hq] at hi
  | some i =>
    have hs : i.size = cs'.length := by simpa [hq] using hi
    have hagg : (isAgg t).run Tryz.prog w = .ok true w := by
      unfold isAgg
      rw [Sem.run_bind, run_underlying hu w]
      rfl
    simp [loadVar, Sem.run_bind, hagg, sizeOf, typeInfo, hq, hs, hl]
/-- An array within a block is read. -/
theorem wpList_loadPart (hgd : o.guard = none) (x : Operand) (t : TypeId) (ho : o.op = .load t x) {g off n : Nat} {t0 e : TypeId} {cs : List Value} (cs' : List Value) (hx : a.eval x = .pointer (some ⟨g, off, none⟩)) (h : Arr w g t0 cs) (hp : ∀ j v, cs'[j]? = some v → cs[off + j]? = some v)
    (hu : Tryz.prog.underlying t = some (.array n e)) (hi : (Tryz.prog.info? t).map (·.size) = some cs'.length) (hk : wpList Tryz.prog ops Q rest (a.put o.dst (.agg cs'.toArray)) w) : wpList Tryz.prog ops Q (o :: rest) a w := by
  refine wpList_plain hgd fun K hK => ?_
  have h0 := load_part h hp hu hi
  have h1 : (Instr.loadAt t (.pointer (some ⟨g, off, none⟩))).run Tryz.prog w = .ok (.agg cs'.toArray) w := by
    simp only [Instr.loadAt, Instr.sureAddr, Sem.run_bind, Sem.run_pure, Result.andThen]
    exact h0
  unfold Oper.wp execOp
  simp only [ho, hx, Sem.run_bind, h1, Result.andThen_ok, Sem.run_pure]
  exact hK _ _ hk
end
section
variable {ops : Array Oper} {o : Oper} {a : Act} {w : World} {K : Act → World → Prop} {Q : Exit → Act → World → Prop} {E : Prop}
/-- A whole array is read, as one step of a region that draws. -/
theorem step_loadArr (hgd : o.guard = none) (x : Operand) (t : TypeId) (ho : o.op = .load t x) {g n : Nat} {e : TypeId} {cs : List Value} (hx : a.eval x = .pointer (some ⟨g, 0, none⟩)) (h : Arr w g t cs) (hu : Tryz.prog.underlying t = some (.array n e)) (hi : (Tryz.prog.info? t).map (·.size) = some cs.length)
    (hk : K (a.put o.dst (.agg cs.toArray)) w) : if Region.wanted o (yielded ops a.tmps) = true then Oper.wp Tryz.prog o a w K Q else E := by
  have hw : Region.wanted o (yielded ops a.tmps) = true := by simp [Region.wanted, hgd]
  rw [if_pos hw]
  have h1 := h.loadAt hu hi
  unfold Oper.wp execOp
  simp only [ho, hx, Sem.run_bind, h1, Result.andThen_ok, Sem.run_pure]
  exact hk
theorem step_storeArr (hgd : o.guard = none) (x y : Operand) (t : TypeId) (ho : o.op = .store t x y) {g : Nat} {cs cs' : List Value} (hx : a.eval x = .pointer (some ⟨g, 0, none⟩)) (hy : a.eval y = .agg cs'.toArray) (h : Arr w g t cs) (hi : (Tryz.prog.info? t).map (·.size) = some cs'.length)
    (hl : cs.length = cs'.length) (h1 : ∀ u ∈ cs', u.oneCell' = true) (hk : ∀ w', Arr w' g t cs' → Wrote w w' g → K (a.put o.dst undef) w') : if Region.wanted o (yielded ops a.tmps) = true then Oper.wp Tryz.prog o a w K Q else E := by
  have hw : Region.wanted o (yielded ops a.tmps) = true := by simp [Region.wanted, hgd]
  rw [if_pos hw]
  have h2 := h.storeAt hi hl h1
  unfold Oper.wp execOp
  simp only [ho, hx, hy, Sem.run_bind, h2, Result.andThen_ok, Sem.run_pure]
  exact hk _ (setRow_heap w g _ _ t _ h) ⟨fun k hk => Go.setRow_other w g k _ hk, by simp, fun _ _ hb hB => below_setRow hb hB _⟩
end
end Go.Proofs.YtdafiobonhikiaaGreatDoor

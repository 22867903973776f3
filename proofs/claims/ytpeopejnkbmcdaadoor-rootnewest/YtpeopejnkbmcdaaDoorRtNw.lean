/- What RootNewest answers. -/
import Derived.Test.YtpeopejnkbmcdaaDoorRtNb
import Derived.Test.YtpeopejnkbmcdaaDoorRtL
import Derived.Test.YtpeopejnkbmcdaaDoorLawTr
namespace Go.Proofs.YtpeopejnkbmcdaaDoor
open Go.RowKit Go.Maps

section
variable {ops : Array Oper} {rest : List Oper} {o : Oper} {a : Act} {Q : Exit → Act → World → Prop} {w : World} {K : Act → World → Prop} {E : Prop}
theorem run_storeN (w : World) (b f : Nat) (ty : TypeId) (v : Value) (ht : w.there b f 1) (hi : (Tryd.prog.info? ty).map (·.size) = some 1) (h1 : v.oneCell' = true) : (Instr.storeAt ty (.pointer (some ⟨b, f, none⟩)) v).run Tryd.prog w = .ok () (w.setCells b f [v]) := by
  have := run_storeCells_cells (P := Tryd.prog) b f [v] 0 w (fun j hj => by simpa using (ht j (by simpa using hj)).1) (fun j hj => by simpa using (ht j (by simpa using hj)).2) (fun u hu => by simp at hu; subst hu; exact h1)
  have hc : v.cells = #[v] := by cases v <;> first | rfl | cases h1
  simp only [Instr.storeAt, Instr.sureAddr, Sem.run_bind, Sem.run_pure, Result.andThen_ok]
  cases hq : Tryd.prog.info? ty with
  | none => simp [hq] at hi
  | some i =>
    have hs : i.size = 1 := by simpa [hq] using hi
    simp only [Nat.add_zero] at this
    simp [storeVar, sizeOf, typeInfo, hq, hc, hs, this]
/-- One cell of a block is written. -/
theorem wpList_setN (hgd : o.guard = none) (x y : Operand) (t : TypeId) (ho : o.op = .store t x y) {g f : Nat} {t0 : TypeId} {cs : List Value} {v : Value} (hx : a.eval x = .pointer (some ⟨g, f, none⟩)) (hy : a.eval y = v) (h : Arr w g t0 cs) (hf : f + 1 ≤ cs.length) (hi : (Tryd.prog.info? t).map (·.size) = some 1) (h1 : v.oneCell' = true)
    (hk : ∀ w', Arr w' g t0 (cs.set f v) → w.grownBy w' (some g) → wpList Tryd.prog ops Q rest (a.put o.dst undef) w') : wpList Tryd.prog ops Q (o :: rest) a w := by
  obtain ⟨a1, b1⟩ := jarr_puts [v] cs f w h
  refine wpList_plain hgd fun K hK => ?_
  unfold Oper.wp execOp
  simp only [ho, hx, hy, Sem.run_bind, run_storeN w g f t v (jarr_there h hf) hi h1, Result.andThen_ok, Sem.run_pure]
  exact hK _ _ (hk _ a1 b1)
theorem wpList_bldN1 (hgd : o.guard = none) (x : Operand) (ho : o.op = .build 30 #[(1, x)]) {vx u : Value} (hx : a.eval x = vx) (hrun : ∀ W, (Instr.build 30 #[(1, vx)]).run Tryd.prog W = .ok u W)
    (hk : wpList Tryd.prog ops Q rest (a.put o.dst u) w) : wpList Tryd.prog ops Q (o :: rest) a w := by
  refine wpList_plain hgd fun K hK => ?_
  unfold Oper.wp execOp
  simp only [ho, hx, List.map_toArray, List.map_cons, List.map_nil, Sem.run_bind, hrun w, Result.andThen_ok, Sem.run_pure]
  exact hK _ _ hk
theorem wpList_bldN4 (hgd : o.guard = none) (x0 x1 x6 x7 : Operand) (ho : o.op = .build 32 #[(0, x0), (1, x1), (6, x6), (7, x7)]) {v0 v1 v6 v7 u : Value} (h0 : a.eval x0 = v0) (h1 : a.eval x1 = v1) (h6 : a.eval x6 = v6) (h7 : a.eval x7 = v7) (hrun : ∀ W, (Instr.build 32 #[(0, v0), (1, v1), (6, v6), (7, v7)]).run Tryd.prog W = .ok u W)
    (hk : wpList Tryd.prog ops Q rest (a.put o.dst u) w) : wpList Tryd.prog ops Q (o :: rest) a w := by
  refine wpList_plain hgd fun K hK => ?_
  unfold Oper.wp execOp
  simp only [ho, h0, h1, h6, h7, List.map_toArray, List.map_cons, List.map_nil, Sem.run_bind, hrun w, Result.andThen_ok, Sem.run_pure]
  exact hK _ _ hk
end
def rfN (f : Int) : JF := ⟨List.replicate 32 0, f, 0⟩
theorem bldN1 (f : Int) (W : World) : (Instr.build 30 #[(1, .int .i64 f)]).run Tryd.prog W = .ok (.agg (jfV (rfN f)).toArray) W := by kernel_rfl
theorem bldN4 (n : Int) (W : World) : (Instr.build 32 #[(0, .int .i64 n), (1, .int .i64 8), (6, .agg (jfV (rfN 10)).toArray), (7, .agg (jfV (rfN 11)).toArray)]).run Tryd.prog W = .ok (.agg (slV (slQ n 0 0 0 10)).toArray) W := by kernel_rfl
theorem slQ_t (n T G S F T' : Int) : (slV (slQ n T G S F)).set 2 (.int .i64 T') = slV (slQ n T' G S F) := rfl
theorem slQ_g (n T G S F G' : Int) : (slV (slQ n T G S F)).set 3 (.int .i64 G') = slV (slQ n T G' S F) := rfl
theorem slQ_s (n T G S F S' : Int) : (slV (slQ n T G S F)).set 4 (.int .i64 S') = slV (slQ n T G S' F) := rfl
theorem slQ_f (n T G S F F' : Int) : (slV (slQ n T G S F)).set 69 (.int .i64 F') = slV (slQ n T G S F') := by kernel_rfl
theorem slQ_len (n T G S F : Int) : (slV (slQ n T G S F)).length = 105 := by kernel_rfl
theorem slQ_2 (n T G S F : Int) : (slV (slQ n T G S F))[2]? = some (.int .i64 T) := rfl
theorem infoI1 : (Tryd.prog.info? 3).map (·.size) = some 1 := by kernel_rfl
theorem sandN (m : Nat) (x : Int) (hm : m < 9223372036854775807) (e : (BitVec.ofInt 64 (m : Int)).toNat = m) : ∃ g : Nat, g ≤ m ∧ bits .and .i64 x (m : Int) = (g : Int) := by
  have hle : (BitVec.ofInt 64 x &&& BitVec.ofInt 64 (m : Int)).toNat ≤ m := by
    rw [BitVec.toNat_and, e]
    exact Nat.and_le_right
  refine ⟨(BitVec.ofInt 64 x &&& BitVec.ofInt 64 (m : Int)).toNat, hle, ?_⟩
  show IntKind.i64.wrap (((BitVec.ofInt 64 x &&& BitVec.ofInt 64 (m : Int)).toNat : Nat) : Int) = _
  generalize (BitVec.ofInt 64 x &&& BitVec.ofInt 64 (m : Int)).toNat = q at *
  rw [IntKind.wrap_i64]
  omega
/-- The first slot stands. -/
theorem nq_first {n : Nat} (h : 40 ≤ n ∧ n ≤ 1063) : Nq n 0 (stD (zeroD n) 0 (slL (slQ n 0 0 0 10)) 2) 0 0 0 10 := by
  have hq : QB n 0 0 0 10 := ⟨by omega, by omega, by omega, by omega, by omega⟩
  have hn := flush_one (D := zeroD n) (fun _ => rfl) (p := 0) (b := slL (slQ n 0 0 0 10)) (by simp [zeroD]; omega)
  refine ⟨?_, h, hq, by omega, by omega, fun i => rfl, ⟨Int.le_refl 0, by show (0 : Int) ≤ _; omega⟩, ⟨by show (0 : Int) ≤ 0 + 1; omega, by show (0 : Int) + 1 ≤ _; omega⟩, ⟨by show (0 : Int) ≤ 0 + 1; omega, by show (0 : Int) + 1 ≤ _; omega⟩, fun i hi e => ?_, fun j hj e r hr => ?_⟩
  · exact (flush_la _).trans (by simp [AD.write, zeroD])
  · have e0 : i = 0 := by omega
    subst e0
    exact hn 0 (by decide)
  · have e1 : j = 1 := by omega
    subst e1
    have h1 : (stD (zeroD n) 0 (slL (slQ n 0 0 0 10)) 2).now 1 = zsec := by
      refine (hn 1 (by decide)).trans ?_
      rw [if_neg (by decide), zeroD_now]
    rw [h1, sndO_none zsec_noneS] at hr
    cases hr
/-- The state behind a round's writes and crash, ahead of Read. -/
structure Nr (n k : Nat) (D : AD) (T G S F T' G' S' F' : Int) (c : Nat) (D' : AD) : Prop where
  sit : (Nq n (k + 1) D' T G S F ∧ D'.rd ≤ 2 * (k : Int) ∧ c < 2) ∨ (Nq n (k + 1) D' T' G' S' F' ∧ D'.rd ≤ 2 * (k : Int) ∧ 1 ≤ c)
section
variable {n k : Nat} {D : AD} {T G S F T' G' S' F' : Int} {j : Nat}
theorem Nq.up {m : Nat} (h : Nq n m D T G S F) (D' : AD) (m' : Nat) (hm : m ≤ m') (hk : m' ≤ 60) (h1 : D'.la = D.la) (h2 : D'.wr = D.wr) (hrd : 0 ≤ D'.rd ∧ D'.rd ≤ 2 * (m' : Int)) (hwt : D'.wt = D.wt) (hfl : D'.fl = D.fl) : Nq n m' D' T G S F :=
  h.same hm hk (by rw [h1]; exact h.la) (by rw [h2]; exact h.wr) (fun i _ => by unfold AD.now; rw [h1, h2]) hrd (by rw [hwt]; have := h.wt; omega) (by rw [hfl]; have := h.fl; omega)
theorem nr_zero (h : Nq n k D T G S F) (hk : k < 60) : Nr n k D T G S F T' G' S' F' 0 (stD D j (slL (slQ n T' G' S' F')) 0) := ⟨Or.inl ⟨h.up D (k + 1) (by omega) (by omega) rfl rfl (by have := h.rd; omega) rfl rfl, h.rd.2, by decide⟩⟩
theorem nr_zeroC (h : Nq n k D T G S F) (hk : k < 60) (fate : Nat → Int) : Nr n k D T G S F T' G' S' F' 0 ((stD D j (slL (slQ n T' G' S' F')) 0).settle fate) := by
  have hla := h.la; have hn0 := h.n0; have hrd := h.rd; have hwt := h.wt; have hfl := h.fl
  exact ⟨Or.inl ⟨h.same (by omega) (by omega) ((settle_la D fate).trans h.la) (fun _ => rfl) (fun i hi => settle_nil fate h.wr (by omega)) ⟨hrd.1, by show D.rd ≤ _; omega⟩ ⟨hwt.1, by show D.wt ≤ _; omega⟩ ⟨hfl.1, by show D.fl ≤ _; omega⟩, hrd.2, by decide⟩⟩
theorem nr_two (h : Nq n k D T G S F) (hk : k < 60) (eT : T' = T + 1) (hq : QB n T' G' S' F') (hj : T' % 2 = (j : Int)) (c : Nat) (hc : 2 ≤ c) : Nr n k D T G S F T' G' S' F' c (stD D j (slL (slQ n T' G' S' F')) 2) := by
  have hla := h.la; have hn0 := h.n0; have hrd := h.rd; have hwt := h.wt; have hfl := h.fl
  refine ⟨Or.inr ⟨h.next eT hq (Nat.le_refl _) (by omega) ((flush_la _).trans h.la) (fun _ => rfl) (fun i hi => ?_) ⟨hrd.1, by show D.rd ≤ _; omega⟩ ⟨by show 0 ≤ D.wt + 1; omega, by show D.wt + 1 ≤ _; omega⟩ ⟨by show 0 ≤ D.fl + 1; omega, by show D.fl + 1 ≤ _; omega⟩, hrd.2, by omega⟩⟩
  refine (flush_one h.wr (by omega) i hi).trans ?_
  by_cases e : j = i
  · subst e; rw [if_pos rfl, if_pos hj]
  · rw [if_neg e, if_neg (fun e2 => e (by omega))]
theorem nr_more {D' : AD} {c : Nat} (h : Nr n k D T G S F T' G' S' F' c D') (hw : ∀ i, D'.wr i = []) (hl : D'.la.length = n) (hn0 : 40 ≤ n) (fate : Nat → Int) : Nr n k D T G S F T' G' S' F' c (D'.settle fate) := by
  rcases h.sit with ⟨h1, h2, h3⟩ | ⟨h1, h2, h3⟩
  · exact ⟨Or.inl ⟨h1.same (Nat.le_refl _) h1.kl ((settle_la D' fate).trans hl) (fun _ => rfl) (fun i hi => settle_nil fate hw (by omega)) h1.rd h1.wt h1.fl, h2, h3⟩⟩
  · exact ⟨Or.inr ⟨h1.same (Nat.le_refl _) h1.kl ((settle_la D' fate).trans hl) (fun _ => rfl) (fun i hi => settle_nil fate hw (by omega)) h1.rd h1.wt h1.fl, h2, h3⟩⟩
theorem nr_oneC (h : Nq n k D T G S F) (hk : k < 60) (eT : T' = T + 1) (hq : QB n T' G' S' F') (hj : T' % 2 = (j : Int)) (hj2 : j < 2) (fate : Nat → Int) : Nr n k D T G S F T' G' S' F' 1 ((stD D j (slL (slQ n T' G' S' F')) 1).settle fate) := by
  have hla := h.la; have hn0 := h.n0; have hrd := h.rd; have hwt := h.wt; have hfl := h.fl
  rcases settle_one fate h.wr (p := j) (b := slL (slQ n T' G' S' F')) hj2 (by omega) with h1 | h1
  · exact ⟨Or.inl ⟨h.same (by omega) (by omega) ((settle_la _ fate).trans h.la) (fun _ => rfl) h1 ⟨hrd.1, by show D.rd ≤ _; omega⟩ ⟨by show 0 ≤ D.wt + 1; omega, by show D.wt + 1 ≤ _; omega⟩ ⟨hfl.1, by show D.fl ≤ _; omega⟩, hrd.2, by decide⟩⟩
  · refine ⟨Or.inr ⟨h.next eT hq (Nat.le_refl _) (by omega) ((settle_la _ fate).trans h.la) (fun _ => rfl) (fun i hi => ?_) ⟨hrd.1, by show D.rd ≤ _; omega⟩ ⟨by show 0 ≤ D.wt + 1; omega, by show D.wt + 1 ≤ _; omega⟩ ⟨hfl.1, by show D.fl ≤ _; omega⟩, hrd.2, by decide⟩⟩
    refine (h1 i hi).trans ?_
    by_cases e : j = i
    · subst e; rw [if_pos rfl, if_pos hj]
    · rw [if_neg e, if_neg (fun e2 => e (by omega))]
end
end Go.Proofs.YtpeopejnkbmcdaaDoor

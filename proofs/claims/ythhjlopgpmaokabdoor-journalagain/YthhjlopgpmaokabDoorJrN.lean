/- Lists of records in memory. -/
import Derived.Test.YthhjlopgpmaokabDoorJrK
namespace Go.Proofs.YthhjlopgpmaokabDoor
open Go.RowKit Go.Maps

/-- A slice of records: in this world it reads the list. -/
structure IsL (W : World) (v : Value) (l : List JR) (V : Nat → Value) : Prop where
  ok : ∀ r ∈ l, r.Ok
  val : ∃ a c, v = .slice a l.length c ∧ l.length ≤ c ∧ c ≤ 9223372036854775807 ∧ (a = none → c = 0) ∧ (0 < l.length → ∃ b o, a = some ⟨b, o, none⟩ ∧ ∀ j, j < l.length → W.rangeAt b (o + j * 34) (jrV (l.getD j .nul) (V j)))
  each : ∀ j, j < l.length → IsJ W (V j) (l.getD j .nul).rs
theorem jr_get {l : List JR} {P : JR → Prop} (h : ∀ e ∈ l, P e) {j : Nat} (hj : j < l.length) : P (l.getD j .nul) := by
  rw [List.getD_eq_getElem?_getD, List.getElem?_eq_getElem hj]
  exact h _ (List.getElem_mem hj)
theorem IsL.below {W W' : World} {v : Value} {l : List JR} {V : Nat → Value} (h : IsL W v l V) (hb : Below W.heap.size W W') : IsL W' v l V := by
  obtain ⟨h0, ⟨a, c, hv, hl, hm, hz, hc⟩, he⟩ := h
  refine ⟨h0, ⟨a, c, hv, hl, hm, hz, fun hp => ?_⟩, fun j hj => (he j hj).below hb⟩
  obtain ⟨b, o, ha, hcell⟩ := hc hp
  exact ⟨b, o, ha, fun j hj => jrange_kept (hcell j hj) hb⟩
theorem IsL.nil (W : World) : IsL W (.slice none 0 0) [] (fun _ => undef) := ⟨by simp, ⟨none, 0, rfl, Nat.le_refl _, by decide, fun _ => rfl, fun h => absurd h (by simp)⟩, fun j hj => by simp at hj⟩
/-- The cells of records. -/
def recsV : List JR → (Nat → Value) → List Value
  | [], _ => []
  | r :: l, V => jrV r (V 0) ++ recsV l (fun j => V (j + 1))
theorem recsV_len : ∀ {l : List JR} {V : Nat → Value}, (∀ r ∈ l, r.Ok) → (recsV l V).length = l.length * 34
  | [], _, _ => by simp [recsV]
  | r :: l, V, h => by
    rw [recsV, List.length_append, jrV_len (h r (by simp)).len, recsV_len (fun x hx => h x (by simp [hx])), List.length_cons]
    omega
theorem recsV_at : ∀ {l : List JR} {V : Nat → Value}, (∀ r ∈ l, r.Ok) → ∀ {j k : Nat}, j < l.length → k < 34 → (recsV l V)[j * 34 + k]? = (jrV (l.getD j .nul) (V j))[k]?
  | [], _, _, j, _, hj, _ => by simp at hj
  | r :: l, V, h, j, k, hj, hk => by
    have hl := jrV_len (h r (by simp)).len (V 0)
    rw [recsV]
    cases j with
    | zero => rw [List.getElem?_append_left (by omega)]; simp
    | succ j =>
      rw [List.getElem?_append_right (by omega), hl, show (j + 1) * 34 + k - 34 = j * 34 + k by omega, recsV_at (fun x hx => h x (by simp [hx])) (by simpa using hj) hk]
      simp
theorem recsV_snoc : ∀ {l : List JR} {V : Nat → Value} {r : JR} {u : Value}, recsV (l ++ [r]) (fun j => if j = l.length then u else V j) = recsV l V ++ jrV r u
  | [], V, r, u => by simp [recsV]
  | x :: l, V, r, u => by
    have ih := recsV_snoc (l := l) (V := fun j => V (j + 1)) (r := r) (u := u)
    show jrV x _ ++ recsV (l ++ [r]) _ = jrV x _ ++ recsV l _ ++ jrV r u
    rw [List.append_assoc, ← ih]
    congr 1
    simp
theorem recsV_one {l : List JR} {V : Nat → Value} (h : ∀ j, j < l.length → (V j).oneCell' = true) : ∀ u ∈ recsV l V, u.oneCell' = true := by
  induction l generalizing V with
  | nil => intro u hu; simp [recsV] at hu
  | cons r l ih =>
    intro u hu
    rw [recsV] at hu
    rcases List.mem_append.1 hu with hu | hu
    · exact jrV_one r (h 0 (by simp)) u hu
    · exact ih (fun j hj => h (j + 1) (by simpa using hj)) u hu
/-- Records in a slice of the call's own, each with references of its own. -/
structure OwnL (W : World) (B : Nat) (v : Value) (l : List JR) (V : Nat → Value) : Prop where
  ok : ∀ r ∈ l, r.Ok
  row : W.ownsRow B 52 34 v l.length (recsV l V)
  each : ∀ j, j < l.length → OwnJ W B (V j) (l.getD j .nul).rs
theorem OwnL.nil (W : World) (B : Nat) : OwnL W B (.slice none 0 0) [] (fun _ => undef) := ⟨by simp, World.ownsRow_nil _ _ _ _, fun j hj => by simp at hj⟩
theorem OwnL.below {W W' : World} {B : Nat} {v : Value} {l : List JR} {V : Nat → Value} (h : OwnL W B v l V) (hb : Below W.heap.size W W') : OwnL W' B v l V := ⟨h.ok, owns_below h.row hb, fun j hj => (h.each j hj).below hb⟩
theorem OwnL.mono {W : World} {B B' : Nat} {v : Value} {l : List JR} {V : Nat → Value} (h : OwnL W B v l V) (hb : B' ≤ B) : OwnL W B' v l V := ⟨h.ok, owns_mono h.row hb, fun j hj => (h.each j hj).mono hb⟩
theorem OwnL.isL {W : World} {B : Nat} {v : Value} {l : List JR} {V : Nat → Value} (h : OwnL W B v l V) : IsL W v l V := by
  have h' := h.row
  refine ⟨h.ok, ?_, fun j hj => (h.each j hj).isJ⟩
  rcases h.row.2 with ⟨rfl, h0⟩ | ⟨g, cap, cur, rfl, hb, hg, hle, hm, hs, ht⟩
  · exact ⟨none, 0, by rw [h0], by omega, by decide, fun _ => rfl, fun hp => by omega⟩
  · refine ⟨some ⟨g, 0, none⟩, cap, rfl, hle, by simpa [maxLen] using hm, fun h => (by cases h), fun hp => ⟨g, 0, rfl, fun j hj k u hu => ?_⟩⟩
    have hk : k < 34 := by
      have := (List.getElem?_eq_some_iff.1 hu).1
      rw [jrV_len (jr_get (P := JR.Ok) h.ok hj).len] at this
      exact this
    have e := recsV_at (V := V) h.ok hj hk
    rw [hu] at e
    have := World.ownsRow.cells (g := g) h' rfl (j * 34 + k) _ e
    rw [Addr.add_lit] at this
    rw [← this]
    congr 2
    omega
theorem OwnL.shape {W : World} {B : Nat} {v : Value} {l : List JR} {V : Nat → Value} (h : OwnL W B v l V) : ∃ a c, v = .slice a l.length c ∧ l.length ≤ c := by
  rcases h.row.2 with ⟨rfl, h0⟩ | ⟨g, cap, cur, rfl, _, _, hle, _⟩
  · exact ⟨none, 0, by rw [h0], by omega⟩
  · exact ⟨_, cap, rfl, hle⟩
theorem OwnL.grown {W W' : World} {B g : Nat} {v : Value} {l : List JR} {V : Nat → Value} {t : TypeId} {cs : Array Value} {m : Nat × Nat} (h : OwnL W B v l V) (hg : W.grownBy W' (some g)) (hc : W.heap[g]? = some (.cells cs t m)) (h1 : t ≠ 52) (h2 : t ≠ 73) : OwnL W' B v l V := by
  refine ⟨h.ok, h.row.kept hg ?_, fun j hj => ⟨(h.each j hj).1, (h.each j hj).2.kept hg (OwnJ.block (h.each j hj) hc h2)⟩⟩
  rcases h.row.2 with ⟨rfl, _⟩ | ⟨g', cap, cur, rfl, _, hgg, _⟩
  · exact Or.inl rfl
  · refine Or.inr fun e => ?_
    simp only [Value.ownBlock, Option.some.injEq] at e
    subst e
    rw [hgg] at hc
    simp only [Option.some.injEq, Obj.cells.injEq] at hc
    exact h1 hc.2.1.symm
/-- Nothing is changed but blocks of the types T, maps and new ones. -/
structure Cj (T : TypeId → Prop) (w w' : World) : Prop where
  os : w'.os = w.os
  tape : w'.tape = w.tape
  output : w'.output = w.output
  size : w.heap.size ≤ w'.heap.size
  block : ∀ (k : Nat) (cs : Array Value) (t : TypeId) (m : Nat × Nat), w.heap[k]? = some (Obj.cells cs t m) → ¬ T t → w'.heap[k]? = some (Obj.cells cs t m)
theorem Cj.refl (T : TypeId → Prop) (w : World) : Cj T w w := ⟨rfl, rfl, rfl, Nat.le_refl _, fun _ _ _ _ h _ => h⟩
theorem Cj.trans {T : TypeId → Prop} {a b c : World} (h : Cj T a b) (k : Cj T b c) : Cj T a c :=
  ⟨k.os.trans h.os, k.tape.trans h.tape, k.output.trans h.output, Nat.le_trans h.size k.size, fun i cs t m hi ht => k.block i cs t m (h.block i cs t m hi ht) ht⟩
theorem Cj.of_below {T : TypeId → Prop} {w w' : World} (h : Below w.heap.size w w') : Cj T w w' := ⟨h.os, h.tape, h.output, h.size, fun k _ _ _ hk _ => (h.block k (Array.getElem?_eq_some_iff.1 hk).1).trans hk⟩
theorem Cj.of_grown {T : TypeId → Prop} {w w' : World} {g : Nat} {t : TypeId} {cs : List Value} (hg : w.grownBy w' (some g)) (hA : Arr w g t cs) (ht : T t) : Cj T w w' :=
  ⟨hg.os, hg.tape, hg.output, hg.size, fun k ds t' m hk ht' => (hg.block k (Array.getElem?_eq_some_iff.1 hk).1 (fun e => by
    injection e with e
    subst e
    unfold Arr at hA
    rw [hA] at hk
    simp only [Option.some.injEq, Obj.cells.injEq] at hk
    exact ht' (hk.2.1 ▸ ht))).trans hk⟩
theorem Cj.mono {T T' : TypeId → Prop} {w w' : World} (h : Cj T w w') (ht : ∀ t, T t → T' t) : Cj T' w w' := ⟨h.os, h.tape, h.output, h.size, fun k cs t m hk hn => h.block k cs t m hk (fun e => hn (ht t e))⟩
theorem Arr.cj {T : TypeId → Prop} {w w' : World} {g : Nat} {t : TypeId} {cs : List Value} (h : Arr w g t cs) (hc : Cj T w w') (ht : ¬ T t) : Arr w' g t cs := hc.block g _ t (0, 0) h ht
theorem owns_cj {T : TypeId → Prop} {w w' : World} {B : Nat} {t : TypeId} {s n : Nat} {u : Value} {cs : List Value} (h : w.ownsRow B t s u n cs) (hc : Cj T w w') (ht : ¬ T t) : w'.ownsRow B t s u n cs := by
  refine ⟨h.1, ?_⟩
  rcases h.2 with hn | ⟨g, cap, cur, rfl, hb, hgg, rest⟩
  · exact .inl hn
  · exact .inr ⟨g, cap, cur, rfl, hb, hc.block g _ t (0, 0) hgg ht, rest⟩
theorem OwnJ.cj {T : TypeId → Prop} {w w' : World} {B : Nat} {v : Value} {l : List JF} (h : OwnJ w B v l) (hc : Cj T w w') (ht : ¬ T 73) : OwnJ w' B v l := ⟨h.1, owns_cj h.2 hc ht⟩
theorem Own8.cj {T : TypeId → Prop} {w w' : World} {B : Nat} {v : Value} {xs : List Int} (h : Own8 w B v xs) (hc : Cj T w w') (ht : ¬ T 5) : Own8 w' B v xs := ⟨owns_cj h.1 hc ht, h.2⟩
theorem OwnL.cj {T : TypeId → Prop} {w w' : World} {B : Nat} {v : Value} {l : List JR} {V : Nat → Value} (h : OwnL w B v l V) (hc : Cj T w w') (h1 : ¬ T 52) (h2 : ¬ T 73) : OwnL w' B v l V := ⟨h.ok, owns_cj h.row hc h1, fun j hj => (h.each j hj).cj hc h2⟩
theorem bslRc_x (a0 a1 a2 a3 a4 a5 a6 a7 a8 a9 b0 b1 b2 b3 b4 b5 b6 b7 b8 b9 c0 c1 c2 c3 c4 c5 c6 c7 c8 c9 d0 d1 n : Int) (rs : List JF) (ua : Option Addr) (un uc : Nat) (W : World) :
    (Instr.buildSlice 29 1 #[(0, .agg (jrV ⟨n, [a0, a1, a2, a3, a4, a5, a6, a7, a8, a9, b0, b1, b2, b3, b4, b5, b6, b7, b8, b9, c0, c1, c2, c3, c4, c5, c6, c7, c8, c9, d0, d1], rs⟩ (.slice ua un uc)).toArray)]).run Tryd.prog W = .ok (.slice (some ⟨W.heap.size, 0, none⟩) 1 1) (W.alloc (.cells (jrV ⟨n, [a0, a1, a2, a3, a4, a5, a6, a7, a8, a9, b0, b1, b2, b3, b4, b5, b6, b7, b8, b9, c0, c1, c2, c3, c4, c5, c6, c7, c8, c9, d0, d1], rs⟩ (.slice ua un uc)).toArray 52)) := by kernel_rfl
theorem bslRc {r : JR} (hh : r.p.length = 32) (ua : Option Addr) (un uc : Nat) (W : World) : (Instr.buildSlice 29 1 #[(0, .agg (jrV r (.slice ua un uc)).toArray)]).run Tryd.prog W = .ok (.slice (some ⟨W.heap.size, 0, none⟩) 1 1) (W.alloc (.cells (jrV r (.slice ua un uc)).toArray 52)) := by
  match r, hh with
  | ⟨n, [a0, a1, a2, a3, a4, a5, a6, a7, a8, a9, b0, b1, b2, b3, b4, b5, b6, b7, b8, b9, c0, c1, c2, c3, c4, c5, c6, c7, c8, c9, d0, d1], rs⟩, _ => exact bslRc_x a0 a1 a2 a3 a4 a5 a6 a7 a8 a9 b0 b1 b2 b3 b4 b5 b6 b7 b8 b9 c0 c1 c2 c3 c4 c5 c6 c7 c8 c9 d0 d1 n rs ua un uc W
theorem isL_one {W : World} {g : Nat} {r : JR} {u : Value} (hr : r.Ok) (hA : Arr W g 52 (jrV r u)) (hu : IsJ W u r.rs) : IsL W (.slice (some ⟨g, 0, none⟩) 1 1) [r] (fun _ => u) := by
  refine ⟨fun x hx => by rw [List.mem_singleton.1 hx]; exact hr, ⟨some ⟨g, 0, none⟩, 1, rfl, Nat.le_refl _, by decide, (fun e => by cases e), fun _ => ⟨g, 0, rfl, fun j hj => ?_⟩⟩, fun j hj => ?_⟩
  · have hj0 : j = 0 := by simpa using hj
    subst hj0
    exact hA.rangeJ
  · have hj0 : j = 0 := by simpa using hj
    subst hj0
    exact hu
section
variable {ops : Array Oper} {rest : List Oper} {o : Oper} {a : Act} {Q : Exit → Act → World → Prop} {w : World} {K : Act → World → Prop} {E : Prop}
/-- A record of a literal, appended to records of the call's own. -/
theorem wpList_appR (hgd : o.guard = none) (x y : Operand) (ho : o.op = .call { callee := .builtin .append, args := #[x, y], argTypes := #[29, 29] }) {B g : Nat} {v u : Value} {l : List JR} {V : Nat → Value} {r : JR} (hx : a.eval x = v) (hown : OwnL w B v l V) (hy : a.eval y = .slice (some ⟨g, 0, none⟩) 1 1)
    (hA : Arr w g 52 (jrV r u)) (hr : r.Ok) (hu : OwnJ w B u r.rs) (hl : l.length ≤ 1000000) (hB : B ≤ w.heap.size)
    (hk : ∀ v' w', OwnL w' B v' (l ++ [r]) (fun j => if j = l.length then u else V j) → w.grownBy w' v.ownBlock → wpList Tryd.prog ops Q rest (a.put o.dst v') w') : wpList Tryd.prog ops Q (o :: rest) a w := by
  refine wpList_plain hgd fun K hK => ?_
  obtain ⟨i0, hi, hz0, hz1, hz2⟩ := info_parts infoR
  obtain ⟨v', w', hrun, h2, h3, h4, h5⟩ := run_append_own_at (P := Tryd.prog) w B 29 o.type 52 i0 _ 34 64 Tryd.underlying29 hi hz0 hz1 hz2 rfl (by decide) v l.length (recsV l V) hown.row ⟨g, 0, none⟩ 1 1 (jrV r u) (by rw [jrV_len hr.len]) (fun j z hz => by rw [Addr.add_lit, Nat.zero_add]; rw [hA.cell]; exact hz) (jrV_one r hu.isJ.one) (by unfold maxLen; omega) (by omega) hB
  unfold Oper.wp execOp
  simp only [ho, resolve, invoke, builtin, Sem.run_bind, Sem.run_pure, Result.andThen_ok, List.map_toArray, List.map_cons, List.map_nil, hx, hy, hrun]
  have hap : ∀ {z : Value} {m : List JF}, OwnJ w B z m → OwnJ w' B z m := fun {z m} hz => ⟨hz.1, hz.2.kept h3 (owns_apart hz.2 hown.row (by decide))⟩
  refine hK _ _ (hk v' w' ⟨fun e he => ?_, ?_, fun j hj => ?_⟩ h3)
  · rcases List.mem_append.1 he with he | he
    · exact hown.ok e he
    · rw [List.mem_singleton.1 he]; exact hr
  · rw [List.length_append, recsV_snoc]; exact h2
  · rw [List.length_append] at hj
    by_cases e : j = l.length
    · rw [if_pos e, e, List.getD_eq_getElem?_getD, List.getElem?_append_right (Nat.le_refl _), Nat.sub_self]
      exact hap hu
    · have hj2 : j < l.length := by simp at hj; omega
      rw [if_neg e, List.getD_eq_getElem?_getD, List.getElem?_append_left hj2, ← List.getD_eq_getElem?_getD]
      exact hap (hown.each j hj2)
end
theorem samerec_enter (v u : Value) (W : World) : (callFunc 24 #[v, u]).run Tryd.prog W = .ok (.enter 24 #[v, u]) W := by kernel_rfl
set_option maxRecDepth 100000 in
set_option maxHeartbeats 4000000 in
theorem sameall_calls {w : World} {v1 v2 : Value} {l : List JR} {V1 V2 : Nat → Value} (h1 : IsL w v1 l V1) (h2 : IsL w v2 l V2) : Calls Tryd.prog 37 #[v1, v2] w fun e w' => e = .returned (.bool true) ∧ Below w.heap.size w w' := by
  obtain ⟨_, ⟨a1, c1, hv1, hl1, hm1, _, hc1⟩, he1⟩ := id h1
  obtain ⟨_, ⟨a2, c2, hv2, hl2, hm2, _, hc2⟩, he2⟩ := id h2
  have HR1 : Hid (∀ W, Below w.heap.size w W → ∀ j, j < l.length → ∃ b o, a1 = some ⟨b, o, none⟩ ∧ W.rangeAt b (o + j * 34) (jrV (l.getD j .nul) (V1 j))) := hide (fun W hW j hj => by
    obtain ⟨b, o, ha, hr⟩ := hc1 (by omega)
    exact ⟨b, o, ha, jrange_kept (hr j hj) hW⟩)
  have HR2 : Hid (∀ W, Below w.heap.size w W → ∀ j, j < l.length → ∃ b o, a2 = some ⟨b, o, none⟩ ∧ W.rangeAt b (o + j * 34) (jrV (l.getD j .nul) (V2 j))) := hide (fun W hW j hj => by
    obtain ⟨b, o, ha, hr⟩ := hc2 (by omega)
    exact ⟨b, o, ha, jrange_kept (hr j hj) hW⟩)
  have HSR : Hid (∀ W, Below w.heap.size w W → ∀ j, j < l.length → Calls Tryd.prog 24 #[.agg (jrV (l.getD j .nul) (V1 j)).toArray, .agg (jrV (l.getD j .nul) (V2 j)).toArray] W fun e w' => e = .returned (.bool true) ∧ Below W.heap.size W w') := hide (fun W hW j hj => samerec_calls (jr_get (P := JR.Ok) h1.ok hj) ((he1 j hj).below hW) ((he2 j hj).below hW))
  have HOK := hide h1.ok
  subst hv1 hv2
  obtain ⟨m, hm⟩ : ∃ m, m = l.length := ⟨_, rfl⟩
  rw [← hm] at HR1 HR2 HSR hl1 hl2 ⊢
  have HM := hide hm
  have HB0 := hide (Below.refl w.heap.size w)
  clear h1 h2 he1 he2 hc1 hc2 hm
  go_enter Tryd.func37, Tryd.ntmps37
  go_wp2_with fail
  go_loopw [5] (fun i W => ∃ k : Nat, k ≤ m ∧ i = .int .i64 k ∧ Hid (Below w.heap.size w W)) (fun i _ => m - (intOf i).toNat)
  case atStart => exact ⟨0, Nat.zero_le _, rfl, HB0⟩
  case round =>
    clear HB0
    obtain ⟨k, hk, rfl, HW⟩ := hrel
    by_cases hlt : k < m
    · obtain ⟨b1, o1, rfl, _⟩ := unhide HR1 wr HW.out k hlt
      obtain ⟨b2, o2, rfl, _⟩ := unhide HR2 wr HW.out k hlt
      have HRA : Hid (∀ W, Below w.heap.size w W → W.rangeAt b1 (o1 + k * 34) (jrV (l.getD k .nul) (V1 k)) ∧ W.rangeAt b2 (o2 + k * 34) (jrV (l.getD k .nul) (V2 k))) := hide (fun W hW => by
        obtain ⟨b1', o1', e1, r1⟩ := unhide HR1 W hW k hlt
        obtain ⟨b2', o2', e2, r2⟩ := unhide HR2 W hW k hlt
        injection e1 with e1
        injection e1 with e1 e3
        injection e2 with e2
        injection e2 with e2 e4
        subst e1 e2 e3 e4
        exact ⟨r1, r2⟩)
      have HX0 : Hid (Below w.heap.size w wr.drew) := hide HW.out.drew
      have HSK := hide (fun W hW => unhide HSR W hW k hlt)
      have hrok : (l.getD k .nul).Ok := jr_get (P := JR.Ok) HOK.out (by rw [← HM.out]; exact hlt)
      have hinf1 := infoRof hrok.len (V1 k)
      have hinf2 := infoRof hrok.len (V2 k)
      generalize jrV (l.getD k .nul) (V1 k) = rc1 at *
      generalize jrV (l.getD k .nul) (V2 k) = rc2 at *
      clear hrok HW
      go_wp2_with fail
      refine wp_region_held_drew (S := fun W => W.rangeAt b1 (o1 + k * 34) rc1 ∧ W.rangeAt b2 (o2 + k * 34) rc2) (by kernel_rfl) (unhide HRA _ HX0.out) (fun hHeld => ?_)
      refine wpAnyH_take (i := 0) (v := .slice (some ⟨b1, o1, none⟩) m c1) rfl (by kernel_rfl) (by kernel_rfl) (by kernel_rfl) (fun _ _ _ h => h) (Or.inl ⟨by rfl, fun w hSw => by obtain ⟨hS1, hS2⟩ := hSw; go_simp⟩) (by assumption) ?_
      simp only [List.getElem_toArray, List.getElem_cons_zero, Act.put, List.setIfInBounds_toArray, List.set_cons_zero, List.set_cons_succ]
      refine wpAnyH_take (i := 1) (v := .int .i64 (k : Int)) rfl (by kernel_rfl) (by kernel_rfl) (by kernel_rfl) (fun _ _ _ h => h) (Or.inl ⟨by rfl, fun w hSw => by obtain ⟨hS1, hS2⟩ := hSw; go_simp⟩) (by assumption) ?_
      simp only [List.getElem_toArray, List.getElem_cons_succ, List.getElem_cons_zero, Act.put, List.setIfInBounds_toArray, List.set_cons_zero, List.set_cons_succ]
      refine wpAnyH_take (i := 2) (v := .pointer (some ⟨b1, o1 + k * 34, none⟩)) rfl (by kernel_rfl) (by kernel_rfl) (by kernel_rfl) (fun _ _ _ h => h) (Or.inl ⟨by rfl, fun w hSw => by obtain ⟨hS1, hS2⟩ := hSw; go_simp⟩) (by assumption) ?_
      simp only [List.getElem_toArray, List.getElem_cons_succ, List.getElem_cons_zero, Act.put, List.setIfInBounds_toArray, List.set_cons_zero, List.set_cons_succ]
      refine wpAnyH_take (i := 3) (v := .agg (rc1).toArray) rfl (by kernel_rfl) (by kernel_rfl) (by kernel_rfl) (fun _ _ _ h => h) (yieldsIf_load_mid (by rfl) _ _ rfl _ _ rfl _ _ (fun w hSw => hSw.1) Tryd.underlying52 rfl hinf1) (by assumption) ?_
      simp only [List.getElem_toArray, List.getElem_cons_succ, List.getElem_cons_zero, Act.put, List.setIfInBounds_toArray, List.set_cons_zero, List.set_cons_succ]
      refine wpAnyH_take (i := 4) (v := .slice (some ⟨b2, o2, none⟩) m c2) rfl (by kernel_rfl) (by kernel_rfl) (by kernel_rfl) (fun _ _ _ h => h) (Or.inl ⟨by rfl, fun w hSw => by obtain ⟨hS1, hS2⟩ := hSw; go_simp⟩) (by assumption) ?_
      simp only [List.getElem_toArray, List.getElem_cons_succ, List.getElem_cons_zero, Act.put, List.setIfInBounds_toArray, List.set_cons_zero, List.set_cons_succ]
      refine wpAnyH_take (i := 5) (v := .int .i64 (k : Int)) rfl (by kernel_rfl) (by kernel_rfl) (by kernel_rfl) (fun _ _ _ h => h) (Or.inl ⟨by rfl, fun w hSw => by obtain ⟨hS1, hS2⟩ := hSw; go_simp⟩) (by assumption) ?_
      simp only [List.getElem_toArray, List.getElem_cons_succ, List.getElem_cons_zero, Act.put, List.setIfInBounds_toArray, List.set_cons_zero, List.set_cons_succ]
      refine wpAnyH_take (i := 6) (v := .pointer (some ⟨b2, o2 + k * 34, none⟩)) rfl (by kernel_rfl) (by kernel_rfl) (by kernel_rfl) (fun _ _ _ h => h) (Or.inl ⟨by rfl, fun w hSw => by obtain ⟨hS1, hS2⟩ := hSw; go_simp⟩) (by assumption) ?_
      simp only [List.getElem_toArray, List.getElem_cons_succ, List.getElem_cons_zero, Act.put, List.setIfInBounds_toArray, List.set_cons_zero, List.set_cons_succ]
      refine wpAnyH_take (i := 7) (v := .agg (rc2).toArray) rfl (by kernel_rfl) (by kernel_rfl) (by kernel_rfl) (fun _ _ _ h => h) (yieldsIf_load_mid (by rfl) _ _ rfl _ _ rfl _ _ (fun w hSw => hSw.2) Tryd.underlying52 rfl hinf2) (by assumption) ?_
      simp only [List.getElem_toArray, List.getElem_cons_succ, List.getElem_cons_zero, Act.put, List.setIfInBounds_toArray, List.set_cons_zero, List.set_cons_succ]
      refine wpAnyH_ready (rs := [8]) (by kernel_rfl) (by simp) (AllReadyH.cons rfl (fun K hK => ?_) AllReadyH.nil)
      refine step_call2J (by rfl) 24 samerec_enter (.tmp 20) (.tmp 24) _ rfl rfl rfl (HSK.out _ HX0.out) ?_
      rintro e wb ⟨rfl, hwb⟩
      have HX1 : Hid (Below w.heap.size w wb) := hide (below_then HX0.out hwb)
      refine ⟨_, rfl, ?_⟩
      refine hK.out _ _ (unhide HRA _ HX1.out) (fun hJ1 => ?_)
      clear hK K
      simp only [List.getElem_toArray, List.getElem_cons_succ, List.getElem_cons_zero, Act.put, List.setIfInBounds_toArray, List.set_cons_zero, List.set_cons_succ]
      refine wpAnyH_take (i := 9) (v := .bool false) rfl (by kernel_rfl) (by kernel_rfl) (by kernel_rfl) (fun _ _ _ h => h) (Or.inl ⟨by rfl, fun w hSw => by obtain ⟨hS1, hS2⟩ := hSw; go_simp⟩) (by assumption) ?_
      simp only [List.getElem_toArray, List.getElem_cons_succ, List.getElem_cons_zero, Act.put, List.setIfInBounds_toArray, List.set_cons_zero, List.set_cons_succ]
      refine wpAnyH_done (by kernel_rfl) ?_ _
      go_wp2
      go_roundw
      case rel => exact ⟨k + 1, by omega, by go_num, HX1⟩
      case measure => simp [intOf]; omega
    · go_wp2
      go_ret
      exact ⟨rfl, HW.out⟩
end Go.Proofs.YthhjlopgpmaokabDoor

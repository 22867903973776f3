/- RootLent: four rows of bytes beside one another, filled and lengthened. -/
import Derived.Test.YtpeopejnkbmcdaaDoorRtL
import Derived.Test.YtpeopejnkbmcdaaDoorFam
namespace Go.Proofs.YtpeopejnkbmcdaaDoor
open Go.RowKit Go.Maps

section
variable {ops : Array Oper} {rest : List Oper} {o : Oper} {a : Act} {Q : Exit → Act → World → Prop} {w : World} {K : Act → World → Prop}
theorem wp_appL (x y : Operand) (ho : o.op = .call { callee := .builtin .append, args := #[x, y], argTypes := #[41, 41] }) {B : Nat} {v : Value} {xs : List Value} {ad : Addr} {m c : Nat} {ys : List Int} (hx : a.eval x = v) (hrow : Row w B 5 v xs) (hy : a.eval y = .slice (some ad) m c) (hys : IsB w (.slice (some ad) m c) ys)
    (hl : xs.length + m ≤ 140737488355328) (hB : B ≤ w.heap.size) (hk : ∀ v' w', Row w' B 5 v' (xs ++ ys.map (Value.int .u8)) → w.grownBy w' v.ownBlock → (v'.ownBlock = v.ownBlock ∨ v'.ownBlock = some w.heap.size) → Shares w w' 5 v xs (ys.map (Value.int .u8)) → K (a.put o.dst v') w') : o.wp Tryd.prog a w K Q := by
  obtain ⟨i0, hi, hz0, hz1, hz2⟩ := info_parts info8
  have hm := hys.lenEq
  subst hm
  obtain ⟨v', w', hr, h2, h3, h4, h5⟩ := run_append_share (P := Tryd.prog) w B 41 o.type 5 i0 (.int .u8 0) 1 Tryd.underlying41 hi hz0 hz1 hz2 rfl v xs hrow ad ys.length c (ys.map (Value.int .u8)) (by simp) hys.cells (u8_one ys) (by unfold maxLen; omega) (by omega) hB
  unfold Oper.wp execOp
  simp only [ho, resolve, invoke, builtin, Sem.run_bind, Sem.run_pure, Result.andThen_ok, List.map_toArray, List.map_cons, List.map_nil, hx, hy, hr]
  exact hk v' w' h2 h3 h4 h5
theorem wpList_appL (hgd : o.guard = none) (x y : Operand) (ho : o.op = .call { callee := .builtin .append, args := #[x, y], argTypes := #[41, 41] }) {B : Nat} {v : Value} {xs : List Value} {ad : Addr} {m c : Nat} {ys : List Int} (hx : a.eval x = v) (hrow : Row w B 5 v xs) (hy : a.eval y = .slice (some ad) m c) (hys : IsB w (.slice (some ad) m c) ys)
    (hl : xs.length + m ≤ 140737488355328) (hB : B ≤ w.heap.size) (hk : ∀ v' w', Row w' B 5 v' (xs ++ ys.map (Value.int .u8)) → w.grownBy w' v.ownBlock → (v'.ownBlock = v.ownBlock ∨ v'.ownBlock = some w.heap.size) → Shares w w' 5 v xs (ys.map (Value.int .u8)) → wpList Tryd.prog ops Q rest (a.put o.dst v') w') : wpList Tryd.prog ops Q (o :: rest) a w :=
  wpList_plain hgd fun _ hK => wp_appL x y ho hx hrow hy hys hl hB fun v' w' h1 h2 h3 h4 => hK _ _ (hk v' w' h1 h2 h3 h4)
end
/-- The marks. -/
def mL (k : Nat) : Value := .int .u8 ((k : Int) + 1)
def tL (k : Nat) : Value := .int .u8 ((k : Int) + 11)
def RfL (X : Nat → List Value) (i : Nat) : Nat → List Value := fun k => if k < i then List.replicate 512 (mL k) else X k
theorem RfL_lt {X : Nat → List Value} {i k : Nat} (h : k < i) : RfL X i k = List.replicate 512 (mL k) := if_pos h
theorem RfL_ge {X : Nat → List Value} {i k : Nat} (h : ¬ k < i) : RfL X i k = X k := if_neg h
/-- All that lies there. -/
structure Lq (w0 W : World) (B S g2 g13 gl : Nat) (us : List Value) (U : Nat → Value) (R : Nat → List Value) (cs : List Value) : Prop where
  l : Row W S 41 (.slice (some ⟨gl, 0, none⟩) 4 4) us
  us : ∀ k, k < 4 → us[k]? = some (U k)
  rows : Lines W B S 5 U R 4
  a2 : Arr W g2 32 cs
  a13 : Arr W g13 32 cs
  be : Below w0.heap.size w0 W
  lo : w0.heap.size ≤ B ∧ g2 < B ∧ B ≤ S ∧ S ≤ g13 ∧ S ≤ gl
theorem Lq.size {w0 W : World} {B S g2 g13 gl : Nat} {us : List Value} {U : Nat → Value} {R : Nat → List Value} {cs : List Value} (h : Lq w0 W B S g2 g13 gl us U R cs) : S ≤ W.heap.size ∧ gl < W.heap.size := by
  have h1 := h.a13.lt
  have h2 := (h.l.lt gl rfl).2
  have := h.lo
  omega
theorem Lq.cell {w0 W : World} {B S g2 g13 gl : Nat} {us : List Value} {U : Nat → Value} {R : Nat → List Value} {cs : List Value} (h : Lq w0 W B S g2 g13 gl us U R cs) {k : Nat} (hk : k < 4) : W.cell? ⟨gl, k, none⟩ = some (U k) := by
  have hl : us.length = 4 := by
    obtain ⟨a, c, e⟩ := h.l.shape
    injection e with _ e2 _
    exact e2.symm
  rw [h.l.cellAt (by omega), h.us k hk]
/-- One of the rows, or what is new, changes. -/
theorem Lq.next {w0 W W' : World} {B S g2 g13 gl k : Nat} {us : List Value} {U : Nat → Value} {R R' : Nat → List Value} {cs : List Value} (h : Lq w0 W B S g2 g13 gl us U R cs) (hk : k < 4) (hg : W.grownBy W' (U k).ownBlock) (hr : Row W' B 5 (U k) (R' k)) (he : ∀ j, j < 4 → j ≠ k → R' j = R j) : Lq w0 W' B S g2 g13 gl us U R' cs := by
  have hb := (h.rows.row k hk).lt
  have hh := h.rows.hi k hk
  have hlo := h.lo
  refine ⟨h.l.kept hg (h.l.apart (h.rows.row k hk) (by decide)), h.us, ?_, h.a2.keep (hg.block g2 h.a2.lt (fun e => ?_)), h.a13.keep (hg.block g13 h.a13.lt (fun e => ?_)), h.be.grown hg h.be.size (fun j hj => ?_), h.lo⟩
  · refine (h.rows.step hk hg hr).ext fun j hj => ?_
    by_cases e : j = k
    · subst e; rw [upd_same]
    · rw [upd_other _ _ e, he j hj e]
  · have := hb g2 e.symm; omega
  · have := hh g13 e.symm; omega
  · have := hb j hj; omega
theorem Lq.below {w0 W W' : World} {B S g2 g13 gl : Nat} {us : List Value} {U : Nat → Value} {R : Nat → List Value} {cs : List Value} (h : Lq w0 W B S g2 g13 gl us U R cs) (hb : Below W.heap.size W W') : Lq w0 W' B S g2 g13 gl us U R cs :=
  ⟨h.l.out (Out.of_below (B := 0) (S := 0) hb) (fun _ _ => Or.inr (Nat.zero_le _)), h.us, h.rows.below hb, h.a2.below hb, h.a13.below hb, below_then h.be hb, h.lo⟩
theorem Lq.ext {w0 W : World} {B S g2 g13 gl : Nat} {us : List Value} {U : Nat → Value} {R R' : Nat → List Value} {cs : List Value} (h : Lq w0 W B S g2 g13 gl us U R cs) (he : ∀ k, k < 4 → R' k = R k) : Lq w0 W B S g2 g13 gl us U R' cs :=
  ⟨h.l, h.us, h.rows.ext he, h.a2, h.a13, h.be, h.lo⟩
/-- Whatever a row of slices does that lies behind. -/
theorem Lq.other {w0 W W' : World} {B S g2 g13 gl SL : Nat} {us ms : List Value} {v : Value} {U : Nat → Value} {R : Nat → List Value} {cs : List Value} (h : Lq w0 W B S g2 g13 gl us U R cs) (hm : Row W SL 41 v ms) (hSL : gl < SL ∧ g13 < SL) (hg : W.grownBy W' v.ownBlock) : Lq w0 W' B S g2 g13 gl us U R cs := by
  have hb := hm.lt
  have hlo := h.lo
  refine ⟨h.l.kept hg (Or.inr fun e => ?_), h.us, ⟨fun k hk => (h.rows.row k hk).kept hg ((h.rows.row k hk).apart hm (by decide)), h.rows.hi, h.rows.apart⟩, h.a2.keep (hg.block g2 h.a2.lt (fun e => ?_)), h.a13.keep (hg.block g13 h.a13.lt (fun e => ?_)), h.be.grown hg h.be.size (fun j hj => ?_), h.lo⟩
  · have := (hb gl e.symm).1; omega
  · have := (hb g2 e.symm).1; omega
  · have := (hb g13 e.symm).1; omega
  · have := (hb j hj).1; omega
/-- A slice in the block of another one, or in a new one. -/
def LocL (w : World) (u v : Value) : Prop := v.ownBlock = u.ownBlock ∨ ∃ k, v.ownBlock = some k ∧ w.heap.size ≤ k
theorem app_stepL {wr W W' : World} {u v v' : Value} (hG : wr.grownBy W u.ownBlock) (hg : W.grownBy W' v.ownBlock) (hv : LocL wr u v) (hat : v'.ownBlock = v.ownBlock ∨ v'.ownBlock = some W.heap.size) : wr.grownBy W' u.ownBlock ∧ LocL wr u v' := by
  refine ⟨grown_new hG hg ?_, ?_⟩
  · rcases hv with hv | ⟨k, hk, hle⟩
    · exact Or.inl hv
    · exact Or.inr fun j hj => by rw [hk] at hj; injection hj with hj; omega
  · rcases hat with hat | hat
    · rcases hv with hv | ⟨k, hk, hle⟩
      · exact Or.inl (hat.trans hv)
      · exact Or.inr ⟨k, hat.trans hk, hle⟩
    · exact Or.inr ⟨_, hat, hG.size⟩
/-- What the first k have become, lengthened. -/
def LongL (w : World) (B S : Nat) (U : Nat → Value) (ms : List Value) (i : Nat) : Prop :=
  ∀ k, k < i → ∃ u, ms[k]? = some u ∧ Row w B 5 u (longer (mL k) (tL k) 512 600) ∧ (u.ownBlock = (U k).ownBlock ∨ ∃ g, u.ownBlock = some g ∧ S ≤ g)
theorem LongL.step {w w' : World} {B S : Nat} {U : Nat → Value} {R : Nat → List Value} {ms : List Value} {n i : Nat} (h : LongL w B S U ms i) (hi : i < n) (hR : Lines w B S 5 U R n) (hg : w.grownBy w' (U i).ownBlock) : LongL w' B S U ms i := by
  intro k hk
  obtain ⟨u, h1, h2, h3⟩ := h k hk
  refine ⟨u, h1, h2.kept hg ?_, h3⟩
  rcases h3 with h3 | ⟨g, hg1, hg2⟩
  · rw [h3]; exact hR.apart k i (by omega) hi (by omega)
  · refine Or.inr fun e => ?_
    have := hR.hi i hi g (e.symm.trans hg1)
    omega
theorem LongL.rows {w w' : World} {B S : Nat} {U : Nat → Value} {ms : List Value} {i : Nat} (h : LongL w B S U ms i) (hR : ∀ u xs, Row w B 5 u xs → Row w' B 5 u xs) : LongL w' B S U ms i := by
  intro k hk
  obtain ⟨u, h1, h2, h3⟩ := h k hk
  exact ⟨u, h1, hR _ _ h2, h3⟩
theorem LongL.add {w : World} {B S : Nat} {U : Nat → Value} {ms : List Value} {i : Nat} (h : LongL w B S U ms i) (hm : ms.length = i) {g1 : Value} {wr : World} (hS : S ≤ wr.heap.size)
    (r1 : Row w B 5 g1 (longer (mL i) (tL i) 512 600)) (l1 : LocL wr (U i) g1) : LongL w B S U (ms ++ [g1]) (i + 1) := by
  intro k hk
  by_cases e : k < i
  · obtain ⟨u, h1, h2, h3⟩ := h k e
    exact ⟨u, by rw [List.getElem?_append_left (by omega)]; exact h1, h2, h3⟩
  · obtain rfl : k = i := by omega
    refine ⟨g1, by rw [List.getElem?_append_right (by omega), hm, Nat.sub_self]; rfl, r1, ?_⟩
    rcases l1 with hg | ⟨j, h1, h2⟩
    · exact Or.inl hg
    · exact Or.inr ⟨j, h1, by omega⟩
theorem infoSlL : (Tryd.prog.info? 41).map (fun i => (i.zero, i.size, i.bytes)) = some (some (.slice none 0 0), 1, 24) := by kernel_rfl
/-- The four slices beside one another. -/
theorem lq_new {w0 W : World} {B S g2 g13 : Nat} {U : Nat → Value} {R : Nat → List Value} {cs : List Value} {u0 u1 u2 u3 : Value} (e0 : U 0 = u0) (e1 : U 1 = u1) (e2 : U 2 = u2) (e3 : U 3 = u3) (hR : Lines W B S 5 U R 4) (h2 : Arr W g2 32 cs) (h13 : Arr W g13 32 cs) (hb : Below w0.heap.size w0 W) (hlo : w0.heap.size ≤ B ∧ g2 < B ∧ B ≤ S ∧ S ≤ g13) :
    Lq w0 (W.alloc (.cells #[u0, u1, u2, u3] 41)) B S g2 g13 W.heap.size [u0, u1, u2, u3] U R cs := by
  have hba := jalloc_below W (.cells #[u0, u1, u2, u3] 41)
  have := h13.lt
  refine ⟨⟨rfl, .inr ⟨W.heap.size, 4, #[u0, u1, u2, u3], rfl, by omega, heap_alloc_last W _, Nat.le_refl 4, by decide, rfl, rfl⟩⟩, fun k hk => ?_, hR.below hba, h2.below hba, h13.below hba, below_then hb hba, hlo.1, hlo.2.1, hlo.2.2.1, hlo.2.2.2, by omega⟩
  match k, hk with
  | 0, _ => rw [e0]; rfl
  | 1, _ => rw [e1]; rfl
  | 2, _ => rw [e2]; rfl
  | 3, _ => rw [e3]; rfl
theorem own8_row {w : World} {B : Nat} {v : Value} {xs : List Int} (h : Own8 w B v xs) : Row w B 5 v (xs.map (Value.int .u8)) := by
  unfold Row
  rw [List.length_map]
  exact h.1
def U4 {α : Type} (a b c d : α) (k : Nat) : α := if k = 0 then a else if k = 1 then b else if k = 2 then c else d
theorem lines4 {W : World} {t : TypeId} {b0 b1 b2 b3 b4 : Nat} {v0 v1 v2 v3 : Value} {x0 x1 x2 x3 : List Value} (r0 : Row W b0 t v0 x0) (r1 : Row W b1 t v1 x1) (r2 : Row W b2 t v2 x2) (r3 : Row W b3 t v3 x3)
    (t0 : ∀ g, v0.ownBlock = some g → b0 ≤ g ∧ g < b1) (t1 : ∀ g, v1.ownBlock = some g → b1 ≤ g ∧ g < b2) (t2 : ∀ g, v2.ownBlock = some g → b2 ≤ g ∧ g < b3) (t3 : ∀ g, v3.ownBlock = some g → b3 ≤ g ∧ g < b4) (m1 : b0 ≤ b1) (m2 : b1 ≤ b2) (m3 : b2 ≤ b3) (m4 : b3 ≤ b4) :
    Lines W b0 b4 t (U4 v0 v1 v2 v3) (U4 x0 x1 x2 x3) 4 := by
  have iv : ∀ k, k < 4 → ∀ g, (U4 v0 v1 v2 v3 k).ownBlock = some g → U4 b0 b1 b2 b3 k ≤ g ∧ g < U4 b1 b2 b3 b4 k := fun k hk g hg => by
    match k, hk, hg with
    | 0, _, hg => exact t0 g hg
    | 1, _, hg => exact t1 g hg
    | 2, _, hg => exact t2 g hg
    | 3, _, hg => exact t3 g hg
  have mo : ∀ j k, j < k → k < 4 → U4 b1 b2 b3 b4 j ≤ U4 b0 b1 b2 b3 k := fun j k hj hk => by
    match j, k, hj, hk with
    | 0, 1, _, _ => exact Nat.le_refl _
    | 0, 2, _, _ => exact m2
    | 0, 3, _, _ => exact Nat.le_trans m2 m3
    | 1, 2, _, _ => exact Nat.le_refl _
    | 1, 3, _, _ => exact m3
    | 2, 3, _, _ => exact Nat.le_refl _
    | j + 3, _, hj, hk => omega
  have top : ∀ k, k < 4 → U4 b1 b2 b3 b4 k ≤ b4 := fun k hk => by
    match k, hk with
    | 0, _ => exact Nat.le_trans m2 (Nat.le_trans m3 m4)
    | 1, _ => exact Nat.le_trans m3 m4
    | 2, _ => exact m4
    | 3, _ => exact Nat.le_refl _
  refine ⟨fun k hk => ?_, fun k hk g hg => ?_, fun j k hj hk hne => ?_⟩
  · match k, hk with
    | 0, _ => exact r0
    | 1, _ => exact r1.mono m1
    | 2, _ => exact r2.mono (Nat.le_trans m1 m2)
    | 3, _ => exact r3.mono (Nat.le_trans m1 (Nat.le_trans m2 m3))
  · exact Nat.lt_of_lt_of_le (iv k hk g hg).2 (top k hk)
  · cases hb : (U4 v0 v1 v2 v3 j).ownBlock with
    | none => exact Or.inl rfl
    | some g =>
      refine Or.inr fun e => ?_
      have h1 := iv j hj g hb
      have h2 := iv k hk g e.symm
      rcases Nat.lt_or_gt_of_ne hne with hl | hl
      · have := mo j k hl hk; omega
      · have := mo k j hl hj; omega
/-- The state of the lengthening. -/
structure Lr (w0 W : World) (B S g2 g13 gl : Nat) (us : List Value) (U : Nat → Value) (R : Nat → List Value) (cs : List Value) (SL : Nat) (lv : Value) (ms : List Value) (k : Nat) : Prop where
  q : Lq w0 W B S g2 g13 gl us U R cs
  len : ms.length = k
  row : Row W SL 41 lv ms
  lg : LongL W B S U ms k
  sz : gl < SL ∧ g13 < SL ∧ SL ≤ W.heap.size
theorem row_allocL {W : World} {B : Nat} {t : TypeId} {v : Value} {xs : List Value} (h : Row W B t v xs) (o : Obj) : Row (W.alloc o) B t v xs := h.kept (World.grownBy_alloc W o none) (by cases v.ownBlock <;> simp)
theorem longer_rep (m t : Value) (n z : Nat) : longer m t n z ++ [t] = longer m t n (z + 1) := by
  have := longer_add m t n z 1
  simpa using this
/-- One more is lengthened. -/
theorem Lr.add {w0 wr W W' : World} {B S g2 g13 gl : Nat} {us : List Value} {U : Nat → Value} {X : Nat → List Value} {cs : List Value} {SL k : Nat} {lv lv' mv : Value} {ms : List Value} (h : Lr w0 wr B S g2 g13 gl us U (RfL X 4) cs SL lv ms k) (hk : k < 4) (hG : wr.grownBy W (U k).ownBlock) (hU : Row W B 5 (U k) (longer (mL k) (tL k) 512 0)) (hM : Row W B 5 mv (longer (mL k) (tL k) 512 600)) (hL : LocL wr (U k) mv)
    (hg : (W.alloc (.cells #[mv] 41)).grownBy W' lv.ownBlock) (hr : Row W' SL 41 lv' (ms ++ [mv])) : Lr w0 W' B S g2 g13 gl us U (RfL X 4) cs SL lv' (ms ++ [mv]) (k + 1) := by
  have hmG : Row W SL 41 lv ms := h.row.kept hG (h.row.apart (h.q.rows.row k hk) (by decide))
  have hq : Lq w0 W B S g2 g13 gl us U (RfL X 4) cs := h.q.next hk hG (by rw [RfL_lt hk, ← longer_zero (mL k) (tL k)]; exact hU) (fun _ _ _ => rfl)
  have hg2 : W.grownBy W' lv.ownBlock := (World.grownBy_alloc W _ _).trans hg
  have hsz := h.sz
  have h1 := hG.size
  have h2 := hg2.size
  have hS := h.q.size
  refine ⟨hq.other hmG ⟨hsz.1, hsz.2.1⟩ hg2, by rw [List.length_append, List.length_singleton, h.len], hr, ?_, hsz.1, hsz.2.1, by omega⟩
  exact (((h.lg.step hk h.q.rows hG).add h.len hS.1 hM hL).rows fun u xs hu => hu.kept hg2 (hu.apart hmG (by decide)))
/-- What is read of the rows at the end. -/
theorem Lr.read {w0 W : World} {B S g2 g13 gl : Nat} {us : List Value} {U : Nat → Value} {X : Nat → List Value} {cs : List Value} {SL : Nat} {lv : Value} {ms : List Value} (h : Lr w0 W B S g2 g13 gl us U (RfL X 4) cs SL lv ms 4) :
    ∃ gm cm, lv = .slice (some ⟨gm, 0, none⟩) 4 cm ∧ 4 ≤ cm ∧ cm ≤ 9223372036854775807 ∧ (∀ k : Nat, k < 4 → ∃ g c, W.cell? ⟨gl, k, none⟩ = some (.slice (some ⟨g, 0, none⟩) 512 c) ∧ 512 ≤ c ∧ c ≤ 9223372036854775807 ∧ ∀ j : Nat, j < 512 → W.cell? ⟨g, j, none⟩ = some (.int .u8 ((k : Int) + 1))) ∧
      (∀ k : Nat, k < 4 → ∃ g c, W.cell? ⟨gm, k, none⟩ = some (.slice (some ⟨g, 0, none⟩) 1112 c) ∧ 1112 ≤ c ∧ c ≤ 9223372036854775807 ∧ ∀ j : Nat, j < 600 → W.cell? ⟨g, 512 + j, none⟩ = some (.int .u8 ((k : Int) + 11))) := by
  obtain ⟨gm, cm, rfl, h1, h2, _, _⟩ := h.row.head (by rw [h.len]; decide)
  have hr := h.row
  rw [h.len] at h1 hr
  refine ⟨gm, cm, by rw [h.len], h1, h2, fun k hk => ?_, fun k hk => ?_⟩
  · have hr := h.q.rows.row k hk
    rw [RfL_lt hk] at hr
    obtain ⟨g, c, hv, q1, q2, _, _⟩ := hr.head (by rw [List.length_replicate]; decide)
    rw [List.length_replicate] at hv q1
    refine ⟨g, c, by rw [h.q.cell hk, hv], q1, q2, fun j hj => ?_⟩
    rw [hv] at hr
    rw [hr.cellAt (by rw [List.length_replicate]; exact hj), List.getElem?_replicate, if_pos hj]
    rfl
  · obtain ⟨u, e1, e2, _⟩ := h.lg k hk
    obtain ⟨g, c, hv, q1, q2, _, _⟩ := e2.head (by rw [longer_len]; decide)
    rw [longer_len] at hv q1
    refine ⟨g, c, by rw [hr.cellAt (by rw [h.len]; exact hk), e1, hv], q1, q2, fun j hj => ?_⟩
    rw [hv] at e2
    rw [e2.cellAt (by rw [longer_len]; omega), longer_at _ _ (by omega), if_neg (by omega)]
    rfl
end Go.Proofs.YtpeopejnkbmcdaaDoor

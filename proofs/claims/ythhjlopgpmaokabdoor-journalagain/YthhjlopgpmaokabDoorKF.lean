/- A disk in memory: its blocks, and what they read. What outside, Sectors, Acts, bytes and New answer. What Read answers. One sector as a slice of sectors. -/
import Derived.Test.YthhjlopgpmaokabDoorKA
import Derived.Test.YthhjlopgpmaokabDoorKD
import Derived.Deep.MidRow
import Derived.Deep.AppendLies
import Derived.Maps.OwnSet
namespace Go.Proofs.YthhjlopgpmaokabDoor
open Go.RowKit Go.Maps

/-- Nothing is changed but blocks of F, and new ones. -/
structure Up (F : Nat → Prop) (w w' : World) : Prop where
  os : w'.os = w.os
  tape : w'.tape = w.tape
  output : w'.output = w.output
  size : w.heap.size ≤ w'.heap.size
  block : ∀ k, k < w.heap.size → ¬ F k → w'.heap[k]? = w.heap[k]?
theorem Up.refl (F : Nat → Prop) (w : World) : Up F w w := ⟨rfl, rfl, rfl, Nat.le_refl _, fun _ _ _ => rfl⟩
theorem Up.trans {F F' : Nat → Prop} {a b c : World} (h : Up F a b) (k : Up F' b c) (hF : ∀ x, F' x → F x ∨ a.heap.size ≤ x) : Up F a c :=
  ⟨k.os.trans h.os, k.tape.trans h.tape, k.output.trans h.output, Nat.le_trans h.size k.size, fun i hi ho => (k.block i (Nat.lt_of_lt_of_le hi h.size) (fun hx => (hF i hx).elim ho (fun hx => by omega))).trans (h.block i hi ho)⟩
theorem Up.of_below {F : Nat → Prop} {w w' : World} (h : Below w.heap.size w w') : Up F w w' := ⟨h.os, h.tape, h.output, h.size, fun k hk _ => h.block k hk⟩
theorem Up.of_grown {F : Nat → Prop} {w w' : World} {row : Option Nat} (h : w.grownBy w' row) (hF : ∀ g, row = some g → F g) : Up F w w' := ⟨h.os, h.tape, h.output, h.size, fun k hk hn => h.block k hk (fun e => hn (hF k e.symm))⟩
theorem Up.mono {F F' : Nat → Prop} {w w' : World} (h : Up F w w') (hF : ∀ x, F x → F' x) : Up F' w w' := ⟨h.os, h.tape, h.output, h.size, fun k hk hn => h.block k hk (fun e => hn (hF k e))⟩
theorem Up.below {F : Nat → Prop} {w w' : World} {B : Nat} (h : Up F w w') (hB : B ≤ w.heap.size) (hF : ∀ x, F x → B ≤ x) : Below B w w' := ⟨h.os, h.tape, h.output, h.size, fun k hk => h.block k (by omega) (fun hx => by have := hF k hx; omega)⟩
theorem Up.then_below {F : Nat → Prop} {a w w' : World} (h : Up F a w) (k : Below w.heap.size w w') : Up F a w' := h.trans (F' := fun _ => False) (Up.of_below k) (fun _ h => h.elim)
theorem Up.cells {F : Nat → Prop} {w w' : World} (h : Up F w w') {g : Nat} {cs : Array Value} {t : TypeId} {m : Nat × Nat} (hg : w.heap[g]? = some (.cells cs t m)) (hF : ¬ F g) : w'.heap[g]? = some (.cells cs t m) := by
  rw [h.block g (Array.getElem?_eq_some_iff.1 hg).1 hF]; exact hg
theorem Up.cell {F : Nat → Prop} {w w' : World} (h : Up F w w') {a : Addr} {v : Value} (hc : w.cell? a = some v) (hF : ¬ F a.block) : w'.cell? a = some v :=
  (World.cell?_of_block (h.block a.block (World.block_lt_of_cell? w a hc) hF)).trans hc
theorem Arr.up {F : Nat → Prop} {w w' : World} {g : Nat} {t : TypeId} {cs : List Value} (h : Arr w g t cs) (hu : Up F w w') (hF : ¬ F g) : Arr w' g t cs := hu.cells h hF
theorem owns_up {F : Nat → Prop} {w w' : World} {base : Nat} {t : TypeId} {size : Nat} {v : Value} {n : Nat} {cs : List Value} (h : w.ownsRow base t size v n cs) (hu : Up F w w') (hF : ∀ g, v.ownBlock = some g → ¬ F g) : w'.ownsRow base t size v n cs := by
  refine ⟨h.1, ?_⟩
  rcases h.2 with hn | ⟨g, cap, cur, rfl, hb, hgg, rest⟩
  · exact .inl hn
  · exact .inr ⟨g, cap, cur, rfl, hb, hu.cells hgg (hF g rfl), rest⟩

/-- Rows of sectors. -/
theorem flat_get {α : Type} (n : Nat) : ∀ (ss : List (List α)), (∀ s ∈ ss, s.length = n) → ∀ i j, j < n → ss.flatten[n * i + j]? = (ss.getD i [])[j]?
  | [], _, i, j, _ => by simp
  | s :: t, h, i, j, hj => by
    have hs := h s (by simp)
    rw [List.flatten_cons]
    cases i with
    | zero => rw [Nat.mul_zero, Nat.zero_add, List.getElem?_append_left (by omega)]; rfl
    | succ i =>
      rw [List.getElem?_append_right (by rw [hs, Nat.mul_succ]; omega), hs, show n * (i + 1) + j - n = n * i + j by rw [Nat.mul_succ]; omega, flat_get n t (fun s hs => h s (by simp [hs])) i j hj]
      rfl
theorem flat_len {α : Type} (n : Nat) (ss : List (List α)) (h : ∀ s ∈ ss, s.length = n) : ss.flatten.length = n * ss.length := by
  induction ss with
  | nil => simp
  | cons s t ih => rw [List.flatten_cons, List.length_append, ih (fun s hs => h s (by simp [hs])), h s (by simp), List.length_cons, Nat.mul_succ]; omega
theorem flat_set {α : Type} {n : Nat} (hn : 0 < n) {ss : List (List α)} (h : ∀ s ∈ ss, s.length = n) {i : Nat} (hi : i < ss.length) {s' : List α} (hs' : s'.length = n) (q : Nat) :
    (ss.set i s').flatten[q]? = if n * i ≤ q ∧ q < n * i + n then s'[q - n * i]? else ss.flatten[q]? := by
  have h' : ∀ s ∈ ss.set i s', s.length = n := fun s hs => by
    rcases List.mem_or_eq_of_mem_set hs with hs | hs
    · exact h s hs
    · rw [hs]; exact hs'
  have hq : q = n * (q / n) + q % n := (Nat.div_add_mod q n).symm
  have hm : q % n < n := Nat.mod_lt _ hn
  rw [hq, flat_get n _ h' _ _ hm, flat_get n _ h _ _ hm, ← hq]
  by_cases e : q / n = i
  · subst e
    rw [if_pos (by omega), List.getD_eq_getElem?_getD, List.getElem?_set_self hi, Option.getD_some, show q - n * (q / n) = q % n by omega]
  · rw [if_neg (fun hc => e (by
      have h1 : q / n < i + 1 := Nat.div_lt_of_lt_mul (by rw [Nat.mul_succ]; omega)
      have h2 : i ≤ q / n := (Nat.le_div_iff_mul_le hn).2 (by rw [Nat.mul_comm]; omega)
      omega)), List.getD_eq_getElem?_getD, List.getElem?_set_ne (fun h => e h.symm), ← List.getD_eq_getElem?_getD]
def u8V (s : List Int) : List Value := s.map (Value.int .u8)
def secV (ss : List (List Int)) : List Value := (ss.map u8V).flatten
theorem u8V_len (s : List Int) : (u8V s).length = s.length := by simp [u8V]
theorem u8V_one (s : List Int) : ∀ u ∈ u8V s, u.oneCell' = true := u8_one s
theorem secV_lens {ss : List (List Int)} (h : ∀ s ∈ ss, IsSec s) : ∀ s ∈ ss.map u8V, s.length = 512 := fun s hs => by
  obtain ⟨t, ht, rfl⟩ := List.mem_map.1 hs
  rw [u8V_len]; exact (h t ht).1
theorem secV_len {ss : List (List Int)} (h : ∀ s ∈ ss, IsSec s) : (secV ss).length = ss.length * 512 := by
  unfold secV
  rw [flat_len 512 _ (secV_lens h), List.length_map, Nat.mul_comm]
theorem secV_one (ss : List (List Int)) : ∀ u ∈ secV ss, u.oneCell' = true := fun u hu => by
  obtain ⟨l, hl, hu⟩ := List.mem_flatten.1 hu
  obtain ⟨t, _, rfl⟩ := List.mem_map.1 hl
  exact u8_one t u hu
theorem secV_append (a b : List (List Int)) : secV (a ++ b) = secV a ++ secV b := by simp [secV]
theorem secV_single (s : List Int) : secV [s] = u8V s := by simp [secV]
theorem secV_nil : secV [] = [] := rfl
theorem secV_get {ss : List (List Int)} (h : ∀ s ∈ ss, IsSec s) {i j : Nat} (hi : i < ss.length) (hj : j < 512) : (secV ss)[512 * i + j]? = (u8V (ss.getD i zsec))[j]? := by
  unfold secV
  rw [flat_get 512 _ (secV_lens h) i j hj, List.getD_eq_getElem?_getD, List.getElem?_map, List.getElem?_eq_getElem hi, List.getD_eq_getElem?_getD, List.getElem?_eq_getElem hi]
  rfl
/-- A sector of a row, as cells. -/
theorem owns_range {w : World} {base g n cap : Nat} {ss : List (List Int)} (h : w.ownsRow base 99 512 (.slice (some ⟨g, 0, none⟩) n cap) n (secV ss)) (hs : ∀ s ∈ ss, IsSec s) {i : Nat} (hi : i < ss.length) :
    w.rangeAt g (i * 512) (u8V (ss.getD i zsec)) := by
  intro j v hv
  have hsi : IsSec (ss.getD i zsec) := by rw [List.getD_eq_getElem?_getD, List.getElem?_eq_getElem hi]; exact hs _ (List.getElem_mem hi)
  have hj : j < 512 := by have := (List.getElem?_eq_some_iff.1 hv).1; rw [u8V_len, hsi.1] at this; exact this
  have := h.cells (g := g) rfl (512 * i + j) v (by rw [secV_get hs hi hj]; exact hv)
  rw [Addr.add_lit] at this
  rw [show i * 512 + j = 0 + (512 * i + j) by omega]
  exact this
theorem owns_there {w : World} {base g n cap : Nat} {xs : List Value} (h : w.ownsRow base 99 512 (.slice (some ⟨g, 0, none⟩) n cap) n xs) {i : Nat} (hi : i < n) : w.there g (i * 512) 512 := by
  rcases h.2 with ⟨hn, _⟩ | ⟨g', cap', cur, hv, _, hg, hle, _, hs, _⟩
  · cases hn
  · injection hv with e1 e2 e3
    injection e1 with e1
    injection e1 with e1
    subst e1 e3
    intro j hj
    have hlt : i * 512 + j < cur.size := by
      rw [hs]
      have : (i + 1) * 512 ≤ cap * 512 := Nat.mul_le_mul_right _ (by omega)
      omega
    refine ⟨?_, ?_⟩
    · rw [cell_of_row w g (i * 512 + j) cur _ (0, 0) hg, Array.getElem?_eq_getElem hlt]; rfl
    · unfold World.frozen?
      rw [hg]
      simp
theorem setCells_row {g : Nat} {t : TypeId} : ∀ (vs : List Value) (o : Nat) (w : World) (cur : Array Value), w.heap[g]? = some (.cells cur t (0, 0)) → o + vs.length ≤ cur.size →
    ∃ c2 : Array Value, (w.setCells g o vs).heap[g]? = some (.cells c2 t (0, 0)) ∧ c2.size = cur.size ∧ (∀ q, c2[q]? = if o ≤ q ∧ q < o + vs.length then vs[q - o]? else cur[q]?)
  | [], o, w, cur, h, _ => ⟨cur, h, rfl, fun q => by rw [if_neg (by rw [List.length_nil]; omega)]⟩
  | v :: r, o, w, cur, h, hl => by
    have h1 := heap_setCell_same w g o cur t v h
    simp only [List.length_cons] at hl
    obtain ⟨c2, e1, e2, e3⟩ := setCells_row r (o + 1) (w.setCell ⟨g, o, none⟩ v) _ h1 (by simp; omega)
    refine ⟨c2, by rw [World.setCells]; exact e1, by rw [e2]; simp, fun q => ?_⟩
    rw [e3 q]
    by_cases hq : q = o
    · subst hq
      have hqs : q < cur.size := by omega
      rw [if_neg (by omega), if_pos (by simp), Nat.sub_self]
      simp [hqs]
    · by_cases hc : o + 1 ≤ q ∧ q < o + 1 + r.length
      · rw [if_pos hc, if_pos (by simp; omega), show q - o = (q - (o + 1)) + 1 by omega]
        simp
      · rw [if_neg hc, if_neg (by simp; omega), Array.getElem?_setIfInBounds_ne (fun h => hq h.symm)]
theorem setCells_other (g : Nat) : ∀ (vs : List Value) (o : Nat) (w : World), (∀ k, k ≠ g → (w.setCells g o vs).heap[k]? = w.heap[k]?) ∧ (w.setCells g o vs).heap.size = w.heap.size ∧ (w.setCells g o vs).os = w.os ∧ (w.setCells g o vs).tape = w.tape ∧ (w.setCells g o vs).output = w.output
  | [], _, w => ⟨fun _ _ => rfl, rfl, rfl, rfl, rfl⟩
  | v :: r, o, w => by
    obtain ⟨h1, h2, h3, h4, h5⟩ := setCells_other g r (o + 1) (w.setCell ⟨g, o, none⟩ v)
    rw [World.setCells]
    exact ⟨fun k hk => (h1 k hk).trans (Below.heap_setCell w ⟨g, o, none⟩ v k hk), h2.trans (by simp), h3, h4, h5⟩
theorem grown_setCells (w : World) (g o : Nat) (vs : List Value) : w.grownBy (w.setCells g o vs) (some g) := by
  obtain ⟨h1, h2, h3, h4, h5⟩ := setCells_other g vs o w
  exact ⟨h3, h4, h5, by rw [h2]; exact Nat.le_refl _, fun k _ hk => h1 k (fun e => hk (by rw [e]))⟩
/-- A sector of a row is written. -/
theorem owns_set {w : World} {base g n cap : Nat} {ss : List (List Int)} (h : w.ownsRow base 99 512 (.slice (some ⟨g, 0, none⟩) n cap) n (secV ss)) (hs : ∀ s ∈ ss, IsSec s) (hn : n = ss.length) {i : Nat} (hi : i < ss.length) {s : List Int} (hx : IsSec s) :
    (w.setCells g (i * 512) (u8V s)).ownsRow base 99 512 (.slice (some ⟨g, 0, none⟩) n cap) n (secV (ss.set i s)) := by
  have hs2 : ∀ t ∈ ss.set i s, IsSec t := fun t ht => by
    rcases List.mem_or_eq_of_mem_set ht with ht | ht
    · exact hs t ht
    · rw [ht]; exact hx
  refine ⟨by rw [secV_len hs2, List.length_set, hn], ?_⟩
  rcases h.2 with ⟨hv, _⟩ | ⟨g', cap', cur, hv, hb, hg, hle, hm, hsz, ht⟩
  · cases hv
  · injection hv with e1 e2 e3
    injection e1 with e1
    injection e1 with e1
    subst e1 e3
    have hul : (u8V s).length = 512 := by rw [u8V_len]; exact hx.1
    have hroom : i * 512 + (u8V s).length ≤ cur.size := by
      rw [hsz, hul]
      have : (i + 1) * 512 ≤ cap * 512 := Nat.mul_le_mul_right _ (by omega)
      omega
    obtain ⟨c2, e1, e2, e3⟩ := setCells_row (u8V s) (i * 512) w cur hg hroom
    refine .inr ⟨g, cap, c2, rfl, hb, e1, hle, hm, by rw [e2, hsz], ?_⟩
    apply List.ext_getElem?
    intro q
    have hsv : (secV (ss.set i s)) = ((ss.map u8V).set i (u8V s)).flatten := by rw [secV, List.map_set]
    rw [hsv, flat_set (by omega) (secV_lens hs) (by simpa using hi) hul]
    by_cases hq : q < n * 512
    · rw [List.getElem?_take_of_lt hq, Array.getElem?_toList, e3 q, hul, Nat.mul_comm i 512]
      have : cur[q]? = (ss.map u8V).flatten[q]? := by
        have h2 : (cur.toList.take (n * 512))[q]? = (secV ss)[q]? := by rw [ht]
        rw [List.getElem?_take_of_lt hq, Array.getElem?_toList] at h2
        exact h2
      rw [this]
    · have hL : (ss.map u8V).flatten.length = n * 512 := by have := secV_len hs; rw [← hn] at this; exact this
      have hq2 : (ss.map u8V).flatten.length ≤ q := by omega
      have hq3 : (c2.toList.take (n * 512)).length ≤ q := by have := List.length_take_le (n * 512) c2.toList; omega
      have hi2 : i + 1 ≤ n := by omega
      have hq4 : ¬ (512 * i ≤ q ∧ q < 512 * i + 512) := by omega
      rw [List.getElem?_eq_none hq3, if_neg hq4, List.getElem?_eq_none hq2]

/-- What a map of slices holds, read as it is. -/
def RV (v : Value) : Option (DataW Value × List MemPlace) := some (.held v, [])
/-- A disk. -/
structure Dk (w : World) (p gl gm : Nat) (V : Nat → Value) (D : AD) : Prop where
  ok : D.Ok
  blk : Arr w p 89 [.slice (some ⟨gl, 0, none⟩) D.la.length D.la.length, .map (some gm), .int .i64 D.rd, .int .i64 D.wt, .int .i64 D.fl]
  las : w.ownsRow 0 99 512 (.slice (some ⟨gl, 0, none⟩) D.la.length D.la.length) D.la.length (secV D.la)
  map : ∃ M : DataW Value, w.ownsMap Tryd.prog 3 RV gm D.wt.toNat M ∧ (∀ i : Nat, M.atKey (.int .i64 (i : Int)) (.held (.slice none 0 0)) = .held (V i) ∧ Maps.has M (.int .i64 (i : Int)) = decide (0 < (D.wr i).length)) ∧ ∀ x : Int, Maps.has M (.int .i64 x) = true → 0 ≤ x
  row : ∀ i, w.ownsRow 0 99 512 (V i) (D.wr i).length (secV (D.wr i))
  own : ∀ i j g, (V i).ownBlock = some g → (V j).ownBlock = some g → i = j
  low : ∀ i, (V i).ownBlock ≠ some gl
/-- Its blocks. -/
def Ft (p gl gm : Nat) (V : Nat → Value) (b : Nat) : Prop := b = p ∨ b = gl ∨ b = gm ∨ ∃ i, (V i).ownBlock = some b
theorem Dk.lt {w : World} {p gl gm : Nat} {V : Nat → Value} {D : AD} (h : Dk w p gl gm V D) {b : Nat} (hb : Ft p gl gm V b) : b < w.heap.size := by
  rcases hb with rfl | rfl | rfl | ⟨i, hi⟩
  · exact h.blk.lt
  · exact (h.las.lt b rfl).2
  · obtain ⟨M, hM, _⟩ := h.map; exact hM.lt
  · exact ((h.row i).lt b hi).2
theorem Dk.up {w w' : World} {p gl gm : Nat} {V : Nat → Value} {D : AD} {F : Nat → Prop} (h : Dk w p gl gm V D) (hu : Up F w w') (hF : ∀ b, Ft p gl gm V b → ¬ F b) : Dk w' p gl gm V D := by
  obtain ⟨M, hM, h2⟩ := h.map
  refine ⟨h.ok, h.blk.up hu (hF p (Or.inl rfl)), owns_up h.las hu (fun g hg => hF g (Or.inr (Or.inl (by simpa [Value.ownBlock] using hg.symm)))), ⟨M, ?_, h2⟩, fun i => owns_up (h.row i) hu (fun g hg => hF g (Or.inr (Or.inr (Or.inr ⟨i, hg⟩)))), h.own, h.low⟩
  obtain ⟨es, clock, hb, F1, hs, hD⟩ := hM
  exact ⟨es, clock, (hu.block gm (Array.getElem?_eq_some_iff.1 hb).1 (hF gm (Or.inr (Or.inr (Or.inl rfl))))).trans hb, F1, hs, hD⟩
theorem Dk.below {w w' : World} {p gl gm : Nat} {V : Nat → Value} {D : AD} (h : Dk w p gl gm V D) (hb : Below w.heap.size w w') : Dk w' p gl gm V D := h.up (F := fun _ => False) (Up.of_below hb) (fun _ _ h => h)
theorem Dk.p_gl {w : World} {p gl gm : Nat} {V : Nat → Value} {D : AD} (h : Dk w p gl gm V D) : p ≠ gl := by
  rintro rfl
  rcases h.las.2 with ⟨hv, _⟩ | ⟨g', cap', cur, hv, _, hg, _⟩
  · cases hv
  · injection hv with e1
    injection e1 with e1
    injection e1 with e1
    subst e1
    have := h.blk
    unfold Arr at this
    rw [hg] at this
    simp only [Option.some.injEq, Obj.cells.injEq] at this
    exact absurd this.2.1 (by decide)
theorem Dk.p_gm {w : World} {p gl gm : Nat} {V : Nat → Value} {D : AD} (h : Dk w p gl gm V D) : p ≠ gm := by
  rintro rfl
  obtain ⟨M, ⟨es, clock, hb, _⟩, _⟩ := h.map
  have := h.blk
  unfold Arr at this
  rw [hb] at this
  cases this
theorem Dk.gl_gm {w : World} {p gl gm : Nat} {V : Nat → Value} {D : AD} (h : Dk w p gl gm V D) : gl ≠ gm := by
  rintro rfl
  obtain ⟨M, ⟨es, clock, hb, _⟩, _⟩ := h.map
  rcases h.las.2 with ⟨hv, _⟩ | ⟨g', cap', cur, hv, _, hg, _⟩
  · cases hv
  · injection hv with e1
    injection e1 with e1
    injection e1 with e1
    subst e1
    rw [hb] at hg
    cases hg
theorem Dk.v_p {w : World} {p gl gm : Nat} {V : Nat → Value} {D : AD} (h : Dk w p gl gm V D) (i : Nat) : (V i).ownBlock ≠ some p := by
  intro e
  rcases (h.row i).2 with ⟨hv, _⟩ | ⟨g', cap', cur, hv, _, hg, _⟩
  · rw [hv] at e; cases e
  · rw [hv] at e
    simp only [Value.ownBlock, Option.some.injEq] at e
    subst e
    have := h.blk
    unfold Arr at this
    rw [hg] at this
    simp only [Option.some.injEq, Obj.cells.injEq] at this
    exact absurd this.2.1 (by decide)
theorem Dk.v_gm {w : World} {p gl gm : Nat} {V : Nat → Value} {D : AD} (h : Dk w p gl gm V D) (i : Nat) : (V i).ownBlock ≠ some gm := by
  intro e
  obtain ⟨M, ⟨es, clock, hb, _⟩, _⟩ := h.map
  rcases (h.row i).2 with ⟨hv, _⟩ | ⟨g', cap', cur, hv, _, hg, _⟩
  · rw [hv] at e; cases e
  · rw [hv] at e
    simp only [Value.ownBlock, Option.some.injEq] at e
    subst e
    rw [hb] at hg
    cases hg
/-- The acts, or what else lies in the disk's own block, are written. -/
theorem Dk.acts {w w' : World} {p gl gm : Nat} {V : Nat → Value} {D : AD} (h : Dk w p gl gm V D) (hg : w.grownBy w' (some p)) {rd wt fl : Int} (hw : D.wt ≤ wt)
    (hb : Arr w' p 89 [.slice (some ⟨gl, 0, none⟩) D.la.length D.la.length, .map (some gm), .int .i64 rd, .int .i64 wt, .int .i64 fl]) : Dk w' p gl gm V { D with rd := rd, wt := wt, fl := fl } := by
  obtain ⟨M, hM, h2⟩ := h.map
  have hok := h.ok
  refine ⟨⟨hok.lo, hok.hi, hok.las, hok.wrs, hok.out⟩, hb, h.las.kept hg (Or.inr (by simp only [Value.ownBlock, ne_eq, Option.some.injEq]; exact fun e => h.p_gl e.symm)), ⟨M, (hM.kept hg (by simp only [ne_eq, Option.some.injEq]; exact fun e => h.p_gm e.symm)).mono (by show D.wt.toNat ≤ wt.toNat; omega), h2⟩, fun i => (h.row i).kept hg (Or.inr (h.v_p i)), h.own, h.low⟩
end Go.Proofs.YthhjlopgpmaokabDoor

namespace Go.Proofs.YthhjlopgpmaokabDoor
open Go.RowKit Go.Maps

theorem size_alloc (w : World) (o : Obj) : (w.alloc o).heap.size = w.heap.size + 1 := by simp
theorem Arr.cell_of {w : World} {g : Nat} {t : TypeId} {cs : List Value} (h : Arr w g t cs) {j : Nat} {v : Value} (hj : cs[j]? = some v) : w.cell? ⟨g, j, none⟩ = some v := by rw [h.cell]; exact hj
theorem Dk.cells {w : World} {p gl gm : Nat} {V : Nat → Value} {D : AD} (h : Dk w p gl gm V D) : w.cell? ⟨p, 0, none⟩ = some (.slice (some ⟨gl, 0, none⟩) D.la.length D.la.length) ∧ w.cell? ⟨p, 1, none⟩ = some (.map (some gm)) ∧
    w.cell? ⟨p, 2, none⟩ = some (.int .i64 D.rd) ∧ w.cell? ⟨p, 3, none⟩ = some (.int .i64 D.wt) ∧ w.cell? ⟨p, 4, none⟩ = some (.int .i64 D.fl) :=
  ⟨h.blk.cell_of rfl, h.blk.cell_of rfl, h.blk.cell_of rfl, h.blk.cell_of rfl, h.blk.cell_of rfl⟩
theorem Dk.frozen {w : World} {p gl gm : Nat} {V : Nat → Value} {D : AD} (h : Dk w p gl gm V D) (j : Nat) : w.frozen? ⟨p, j, none⟩ = false := h.blk.frozen j

set_option maxRecDepth 100000 in
set_option maxHeartbeats 1000000 in
theorem sectors_calls {w : World} {p gl n cap : Nat} (hc : w.cell? ⟨p, 0, none⟩ = some (.slice (some ⟨gl, 0, none⟩) n cap)) :
    Calls Tryd.prog 47 #[.pointer (some ⟨p, 0, none⟩)] w fun e w' => e = .returned (.int .i64 n) ∧ w' = w := by
  go_enter Tryd.func47, Tryd.ntmps47
  go_wp2
  go_ret
  exact ⟨rfl, rfl⟩
set_option maxRecDepth 100000 in
set_option maxHeartbeats 1000000 in
theorem outside_in {w : World} {p gl n cap i : Nat} (hc : w.cell? ⟨p, 0, none⟩ = some (.slice (some ⟨gl, 0, none⟩) n cap)) (hi : i < n) :
    Calls Tryd.prog 45 #[.pointer (some ⟨p, 0, none⟩), .int .i64 (i : Int)] w fun e w' => e = .returned (.bool false) ∧ w' = w := by
  have h0 : decide ((i : Int) < 0) = false := by simp
  have h1 : decide (n ≤ i) = false := by simpa using hi
  go_enter Tryd.func45, Tryd.ntmps45
  go_wp2
  go_ret
  exact ⟨rfl, rfl⟩
set_option maxRecDepth 100000 in
set_option maxHeartbeats 1000000 in
theorem outside_out {w : World} {p gl n cap : Nat} {x : Int} (hc : w.cell? ⟨p, 0, none⟩ = some (.slice (some ⟨gl, 0, none⟩) n cap)) (hx : x < 0 ∨ (n : Int) ≤ x) :
    Calls Tryd.prog 45 #[.pointer (some ⟨p, 0, none⟩), .int .i64 x] w fun e w' => e = .returned (.bool true) ∧ w' = w := by
  by_cases h : x < 0
  · go_enter Tryd.func45, Tryd.ntmps45
    go_wp2
    go_ret
    exact ⟨rfl, rfl⟩
  · have h1 : decide (x < 0) = false := by simpa using h
    have h2 : decide ((n : Int) ≤ x) = true := by rcases hx with hx | hx; · exact absurd hx h
                                                  · simpa using hx
    go_enter Tryd.func45, Tryd.ntmps45
    go_wp2
    go_ret
    exact ⟨rfl, rfl⟩
set_option maxRecDepth 100000 in
set_option maxHeartbeats 1000000 in
theorem acts_calls {w : World} {p : Nat} {a b c : Int} (h2 : w.cell? ⟨p, 2, none⟩ = some (.int .i64 a)) (h3 : w.cell? ⟨p, 3, none⟩ = some (.int .i64 b)) (h4 : w.cell? ⟨p, 4, none⟩ = some (.int .i64 c)) :
    Calls Tryd.prog 25 #[.pointer (some ⟨p, 0, none⟩)] w fun e w' => e = .returned (.agg #[.int .i64 a, .int .i64 b, .int .i64 c]) ∧ Below w.heap.size w w' := by
  have hp := World.block_lt_of_cell? w _ h2
  have hp' : p < w.heap.size := hp
  go_enter Tryd.func25, Tryd.ntmps25
  go_wp2
  exact bodyPost_ret (v := .agg #[.int .i64 a, .int .i64 b, .int .i64 c]) (by simp [results, Tryd.results25, go_sem]) rfl ⟨rfl, (Below.refl _ _).alloc (Nat.le_refl _) _⟩
set_option maxRecDepth 100000 in
set_option maxHeartbeats 1000000 in
theorem bytes_calls {w : World} {cs : List Value} :
    Calls Tryd.prog 50 #[.agg cs.toArray] w fun e w' => e = .returned (.slice (some ⟨w.heap.size, 0, none⟩) 512 512) ∧ w' = w.alloc (.cells cs.toArray 99) := by
  go_enter Tryd.func50, Tryd.ntmps50
  go_wp2
  go_ret
  exact ⟨rfl, rfl⟩
set_option maxRecDepth 100000 in
set_option maxHeartbeats 1000000 in
theorem new_bad {w : World} {n : Int} (h : n < 2 ∨ 65536 < n) :
    Calls Tryd.prog 9 #[.int .i64 n] w fun e w' => e = .returned (.tuple #[.pointer none, .int .i64 30]) ∧ w' = w := by
  by_cases h1 : n < 2
  · go_enter Tryd.func9, Tryd.ntmps9
    go_wp2
    go_ret2
    exact ⟨rfl, rfl⟩
  · have h2 : 65536 < n := by omega
    go_enter Tryd.func9, Tryd.ntmps9
    go_wp2
    go_ret2
    exact ⟨rfl, rfl⟩
def zeroD (n : Nat) : AD := ⟨List.replicate n zsec, fun _ => [], 0, 0, 0⟩
theorem zeroD_ok {n : Nat} (h2 : 2 ≤ n) (h6 : n ≤ 65536) : (zeroD n).Ok := by
  refine ⟨by simp [zeroD]; exact h2, by simp [zeroD]; exact h6, fun s hs => ?_, fun i s hs => by simp [zeroD] at hs, fun _ _ => rfl⟩
  rw [List.eq_of_mem_replicate hs]; exact zsec_is
theorem made_all (c : Value) (m n : Nat) (hm : 0 < m) : (madeCells (Value.agg (List.replicate m c).toArray).cells n).toList = List.replicate n c := by
  apply List.ext_getElem
  · simp [madeCells]
  · intro j h1 h2
    have hlt : j % m < m := Nat.mod_lt _ hm
    simp [madeCells, Value.cells, hlt]
theorem secV_zero (n : Nat) : secV (List.replicate n zsec) = List.replicate (n * 512) (.int .u8 0) := by
  unfold secV zsec u8V
  rw [List.map_replicate, List.map_replicate]
  generalize 512 = m
  induction n with
  | zero => simp
  | succ n ih => rw [List.replicate_succ, List.flatten_cons, ih, Nat.succ_mul, Nat.add_comm, List.replicate_append_replicate]
theorem infoS : (Tryd.prog.info? 99).map (fun i => (i.zero, i.size, i.bytes)) = some (some (.agg (List.replicate 512 (Value.int .u8 0)).toArray), 512, 512) := by kernel_rfl
theorem map_none (w : World) (g : Nat) (h : w.heap[g]? = some (.map #[] 0)) : w.ownsMap Tryd.prog 3 RV g 0 (.map []) := ⟨#[], 0, h, ⟨by simp, MapKept.stamped_empty 0, by simp⟩, Nat.le_refl _, rfl⟩
set_option maxRecDepth 100000 in
set_option maxHeartbeats 1000000 in
theorem new_calls {w : World} {n : Nat} (h2 : 2 ≤ n) (h6 : n ≤ 65536) :
    Calls Tryd.prog 9 #[.int .i64 (n : Int)] w fun e w' => ∃ p gl gm V, e = .returned (.tuple #[.pointer (some ⟨p, 0, none⟩), .int .i64 0]) ∧ Dk w' p gl gm V (zeroD n) ∧ w.heap.size ≤ p ∧ w.heap.size ≤ gl ∧ w.heap.size ≤ gm ∧ (∀ i, V i = .slice none 0 0) ∧ Below w.heap.size w w' := by
  have hmm := @run_makeMap Tryd.prog
  obtain ⟨i0, hi, hz0, hz1, hz2⟩ := info_parts infoS
  have hmade := made_all (.int .u8 0) 512 (n * 512) (by omega)
  rw [← secV_zero] at hmade
  have HM := hide hmade
  clear hmade
  have hd1 : decide ((n : Int) < 2) = false := by simp; omega
  have hd2 : decide (65536 < (n : Int)) = false := by simp; omega
  go_enter Tryd.func9, Tryd.ntmps9
  go_wp2_with (at_make; refine wpList_make_full _ rfl _ _ 86 rfl 0 99 i0 (.agg (List.replicate 512 (Value.int .u8 0)).toArray) 512 Tryd.underlying86 hi hz0 hz1 _ _ _ _ n rfl rfl rfl rfl (by rw [hz2]; omega) (by unfold maxLen; omega) (Nat.zero_le _) ?_; intro w1 hr1 hg1)
  rw [HM.out] at hr1
  have hsz := hg1.size
  have hb1 : Below w.heap.size w w1 := ⟨hg1.os, hg1.tape, hg1.output, hg1.size, fun k hk => hg1.block k hk (by simp)⟩
  have hlt1 : w.heap.size < w1.heap.size := (hr1.lt _ rfl).2
  have hm2 := heap_alloc_last w1 (.map #[] 0)
  have hbb : Below w1.heap.size w1 ((w1.alloc (Obj.map #[] 0)).alloc (Obj.cells #[Value.slice (some ⟨w.heap.size, 0, none⟩) n n, Value.map (some w1.heap.size), Value.int IntKind.i64 0, Value.int IntKind.i64 0, Value.int IntKind.i64 0] 89)) :=
    ((Below.refl _ _).alloc (Nat.le_refl _) _).alloc (by simp) _
  go_ret2
  refine ⟨w1.heap.size + 1, w.heap.size, w1.heap.size, fun _ => .slice none 0 0, rfl, ?_, by omega, Nat.le_refl _, by omega, fun _ => rfl, hb1.trans (hbb.mono (by omega))⟩
  have hlen : (zeroD n).la.length = n := by simp [zeroD]
  refine ⟨zeroD_ok h2 h6, ?_, ?_, ⟨.map [], ?_, ?_, ?_⟩, fun i => World.ownsRow_nil _ _ _ _, fun i j g h => (by cases h), fun i => (by simp [Value.ownBlock])⟩
  · rw [hlen]
    have := heap_alloc_last (w1.alloc (Obj.map #[] 0)) (Obj.cells #[Value.slice (some ⟨w.heap.size, 0, none⟩) n n, Value.map (some w1.heap.size), Value.int IntKind.i64 0, Value.int IntKind.i64 0, Value.int IntKind.i64 0] 89)
    rw [size_alloc] at this
    exact this
  · rw [hlen]; exact owns_below hr1 hbb
  · refine map_none _ _ ?_
    have h3 := Below.heap_alloc (w1.alloc (Obj.map #[] 0)) (Obj.cells #[Value.slice (some ⟨w.heap.size, 0, none⟩) n n, Value.map (some w1.heap.size), Value.int IntKind.i64 0, Value.int IntKind.i64 0, Value.int IntKind.i64 0] 89) w1.heap.size (by simp)
    exact h3.trans hm2
  · intro i
    exact ⟨rfl, rfl⟩
  · intro x hx
    simp [Maps.has] at hx
end Go.Proofs.YthhjlopgpmaokabDoor

namespace Go.Proofs.YthhjlopgpmaokabDoor
open Go.RowKit Go.Maps

theorem keyI : Keyed Tryd.prog 3 := int_keyed Tryd.underlying3
theorem zeroSl (w : World) : (zeroValue 86).run Tryd.prog w = .ok (.slice none 0 0) w := by kernel_rfl
theorem wfI {i : Int} (h : -9223372036854775808 ≤ i) (h2 : i ≤ 9223372036854775807) : (Lit.int .i64 i).wf = true := WalkArith.wf_i64 (by omega)
theorem Dk.look {w : World} {p gl gm : Nat} {V : Nat → Value} {D : AD} (h : Dk w p gl gm V D) {i : Nat} (hi : i ≤ 9223372036854775807) : (Instr.lookup 87 (.map (some gm)) (.int .i64 (i : Int)) false).run Tryd.prog w = .ok (V i) w := by
  obtain ⟨M, hM, h2, _⟩ := h.map
  obtain ⟨v, ps, hrun, hv⟩ := hM.lookup keyI Tryd.underlying87 (zeroSl w) (zd := .held (.slice none 0 0)) (zp := []) rfl (keyOf_int_mk Tryd.underlying3 (wfI (i := (i : Int)) (by omega) (by omega)))
  rw [(h2 i).1] at hv
  unfold RV at hv
  simp only [Option.some.injEq, Prod.mk.injEq, DataW.held.injEq] at hv
  rw [hrun, hv.1]
section
variable {ops : Array Oper} {rest : List Oper} {o : Oper} {a : Act} {Q : Exit → Act → World → Prop} {w : World}
theorem wpList_lookRun (hgd : o.guard = none) (m x : Operand) (t : TypeId) (ho : o.op = .lookup t m x false) {b : Nat} {key v : Value} (hm : a.eval m = .map (some b)) (hx : a.eval x = key) (hrun : (Instr.lookup t (.map (some b)) key false).run Tryd.prog w = .ok v w)
    (hk : wpList Tryd.prog ops Q rest (a.put o.dst v) w) : wpList Tryd.prog ops Q (o :: rest) a w := by
  refine wpList_plain hgd fun K hK => ?_
  unfold Oper.wp execOp
  simp only [ho, hm, hx, Sem.run_bind, hrun, Result.andThen_ok, Sem.run_pure]
  exact hK _ _ hk
end
theorem grown_cell (w : World) (g o : Nat) (v : Value) : w.grownBy (w.setCell ⟨g, o, none⟩ v) (some g) := ⟨rfl, rfl, rfl, by simp, fun k _ hk => Below.heap_setCell w ⟨g, o, none⟩ v k (fun e => hk (by rw [e]))⟩
theorem dk_read {w : World} {p gl gm : Nat} {V : Nat → Value} {D : AD} (h : Dk w p gl gm V D) : Dk (w.setCell ⟨p, 2, none⟩ (.int .i64 (D.rd + 1))) p gl gm V D.read :=
  h.acts (grown_cell w p 2 _) (Int.le_refl _) (h.blk.set 2 _)
set_option maxRecDepth 100000 in
set_option maxHeartbeats 1000000 in
theorem read_lasts {w : World} {p gl gm i : Nat} {V : Nat → Value} {D : AD} (h : Dk w p gl gm V D) (hi : i < D.la.length) (hr0 : 0 ≤ D.rd) (hr1 : D.rd ≤ 1152921504606846976) (hw : D.wr i = []) :
    Calls Tryd.prog 22 #[.pointer (some ⟨p, 0, none⟩), .int .i64 (i : Int)] w fun e w' => e = .returned (.tuple #[.slice (some ⟨w.heap.size, 0, none⟩) 512 512, .int .i64 0]) ∧
      w' = (w.setCell ⟨p, 2, none⟩ (.int .i64 (D.rd + 1))).alloc (.cells (u8V (D.now i)).toArray 99) := by
  have hD1 := dk_read h
  have hlen := h.ok.hi
  obtain ⟨c0, c1, c2, c3, c4⟩ := h.cells
  have hf2 := h.frozen 2
  have hO := hide (outside_in (i := i) c0 hi)
  have hlook := hD1.look (i := i) (by omega)
  obtain ⟨a, c, hV⟩ : ∃ a c, V i = .slice a 0 c := by
    rcases (h.row i).2 with ⟨hv, _⟩ | ⟨g', cap', cur, hv, _⟩
    · exact ⟨_, _, hv⟩
    · exact ⟨_, _, by rw [hv, hw]; rfl⟩
  rw [hV] at hlook
  have hnow : D.now i = D.la.getD i zsec := by unfold AD.now; rw [hw]; rfl
  have hsec : IsSec (D.la.getD i zsec) := hnow ▸ h.ok.now hi
  have hrange := owns_range hD1.las h.ok.las (i := i) hi
  rw [hnow]
  have hrange' : (w.setCell ⟨p, 2, none⟩ (.int .i64 (D.rd + 1))).rangeAt gl (i * 512) (u8V (D.la.getD i zsec)) := hrange
  have hsl : (u8V (D.la.getD i zsec)).length = 512 := by rw [u8V_len]; exact hsec.1
  have hinf : (Tryd.prog.info? 99).map (·.size) = some (u8V (D.la.getD i zsec)).length := by rw [hsl]; kernel_rfl
  have hBy := fun W => hide (bytes_calls (w := W) (cs := u8V (D.la.getD i zsec)))
  have hne := h.p_gl
  clear hrange hnow hsec hV hw hD1
  generalize u8V (D.la.getD i zsec) = cs at *
  generalize hn : D.la.length = n at *
  generalize D.rd = rd at *
  go_enter Tryd.func22, Tryd.ntmps22
  go_wp2_with (first
    | (go_at_call 45; refine (unhide hO).mono ?_; rintro e w1 ⟨rfl, rfl⟩)
    | (at_lookup; refine wpList_lookRun rfl _ _ 87 rfl rfl rfl hlook ?_)
    | (refine wpList_load_mid rfl 99 (.tmp 40) rfl gl (i * 512) rfl cs (.array 512 5) hrange' Tryd.underlying99 rfl hinf ?_)
    | (go_at_call 50; refine (unhide (hBy _)).mono ?_; rintro e w2 ⟨rfl, rfl⟩))
  go_ret2
  exact ⟨by simp, rfl⟩
theorem Dk.rowAt {w : World} {p gl gm : Nat} {V : Nat → Value} {D : AD} (h : Dk w p gl gm V D) {i k : Nat} (hk : (D.wr i).length = k + 1) : ∃ g cap, V i = .slice (some ⟨g, 0, none⟩) (k + 1) cap ∧ k + 1 ≤ cap ∧ cap ≤ 9223372036854775807 ∧ w.ownsRow 0 99 512 (.slice (some ⟨g, 0, none⟩) (k + 1) cap) (k + 1) (secV (D.wr i)) := by
  have hr := h.row i
  rcases hr.2 with ⟨_, h0⟩ | ⟨g', cap', cur, hv, _, _, hle, hm, _⟩
  · omega
  · rw [hk] at hv
    rw [hk, hv] at hr
    exact ⟨g', cap', hv, by omega, by simpa [maxLen] using hm, hr⟩
set_option maxRecDepth 100000 in
set_option maxHeartbeats 1000000 in
theorem read_cached {w : World} {p gl gm i k : Nat} {V : Nat → Value} {D : AD} (h : Dk w p gl gm V D) (hi : i < D.la.length) (hr0 : 0 ≤ D.rd) (hr1 : D.rd ≤ 1152921504606846976) (hw : (D.wr i).length = k + 1) :
    Calls Tryd.prog 22 #[.pointer (some ⟨p, 0, none⟩), .int .i64 (i : Int)] w fun e w' => e = .returned (.tuple #[.slice (some ⟨w.heap.size, 0, none⟩) 512 512, .int .i64 0]) ∧
      w' = (w.setCell ⟨p, 2, none⟩ (.int .i64 (D.rd + 1))).alloc (.cells (u8V (D.now i)).toArray 99) := by
  have hD1 := dk_read h
  have hlen := h.ok.hi
  obtain ⟨c0, c1, c2, c3, c4⟩ := h.cells
  have hf2 := h.frozen 2
  have hO := hide (outside_in (i := i) c0 hi)
  have hlook := hD1.look (i := i) (by omega)
  obtain ⟨g, c, hV, hkc, hcm, hrow⟩ := hD1.rowAt (i := i) (k := k) hw
  rw [hV] at hlook
  have hnow : D.now i = (D.wr i).getD k zsec := by
    have hk : k < (D.wr i).length := by omega
    have e : (D.wr i).getD k zsec = (D.wr i)[k] := by rw [List.getD_eq_getElem?_getD, List.getElem?_eq_getElem hk]; rfl
    unfold AD.now
    rw [e, List.getLast?_eq_getElem?, hw, Nat.add_sub_cancel, List.getElem?_eq_getElem hk]
    rfl
  have hsec : IsSec ((D.wr i).getD k zsec) := hnow ▸ h.ok.now hi
  have hrange' : (w.setCell ⟨p, 2, none⟩ (.int .i64 (D.rd + 1))).rangeAt g (k * 512) (u8V ((D.wr i).getD k zsec)) := owns_range hrow (h.ok.wrs i) (i := k) (show k < (D.wr i).length by omega)
  rw [hnow]
  have hsl : (u8V ((D.wr i).getD k zsec)).length = 512 := by rw [u8V_len]; exact hsec.1
  have hinf : (Tryd.prog.info? 99).map (·.size) = some (u8V ((D.wr i).getD k zsec)).length := by rw [hsl]; kernel_rfl
  have hBy := fun W => hide (bytes_calls (w := W) (cs := u8V ((D.wr i).getD k zsec)))
  clear hnow hsec hV hw hD1 hrow
  generalize u8V ((D.wr i).getD k zsec) = cs at *
  generalize hn : D.la.length = n at *
  generalize D.rd = rd at *
  go_enter Tryd.func22, Tryd.ntmps22
  go_wp2_with (first
    | (go_at_call 45; refine (unhide hO).mono ?_; rintro e w1 ⟨rfl, rfl⟩)
    | (at_lookup; refine wpList_lookRun rfl _ _ 87 rfl rfl rfl hlook ?_)
    | (refine wpList_load_mid rfl 99 (.tmp 32) rfl g (k * 512) rfl cs (.array 512 5) hrange' Tryd.underlying99 rfl hinf ?_)
    | (go_at_call 50; refine (unhide (hBy _)).mono ?_; rintro e w2 ⟨rfl, rfl⟩))
  go_ret2
  exact ⟨by simp, rfl⟩
set_option maxRecDepth 100000 in
set_option maxHeartbeats 1000000 in
theorem read_bad {w : World} {p gl n cap : Nat} {x : Int} (hc : w.cell? ⟨p, 0, none⟩ = some (.slice (some ⟨gl, 0, none⟩) n cap)) (hx : x < 0 ∨ (n : Int) ≤ x) :
    Calls Tryd.prog 22 #[.pointer (some ⟨p, 0, none⟩), .int .i64 x] w fun e w' => e = .returned (.tuple #[.slice none 0 0, .int .i64 31]) ∧ w' = w := by
  have hO := hide (outside_out (x := x) hc hx)
  clear hx
  go_enter Tryd.func22, Tryd.ntmps22
  go_wp2_with (go_at_call 45; refine (unhide hO).mono ?_; rintro e w1 ⟨rfl, rfl⟩)
  go_ret2
  exact ⟨rfl, rfl⟩
/-- What Read answers: the sector in memory of its own. -/
theorem read_calls {w : World} {p gl gm i : Nat} {V : Nat → Value} {D : AD} (h : Dk w p gl gm V D) (hi : i < D.la.length) (hr0 : 0 ≤ D.rd) (hr1 : D.rd ≤ 1152921504606846976) :
    Calls Tryd.prog 22 #[.pointer (some ⟨p, 0, none⟩), .int .i64 (i : Int)] w fun e w' => ∃ g, e = .returned (.tuple #[.slice (some ⟨g, 0, none⟩) 512 512, .int .i64 0]) ∧
      w.heap.size ≤ g ∧ Arr w' g 99 (u8V (D.now i)) ∧ Dk w' p gl gm V D.read ∧ w.grownBy w' (some p) := by
  have hfin : ∀ w', w' = (w.setCell ⟨p, 2, none⟩ (.int .i64 (D.rd + 1))).alloc (.cells (u8V (D.now i)).toArray 99) → w.heap.size ≤ w.heap.size ∧ Arr w' w.heap.size 99 (u8V (D.now i)) ∧ Dk w' p gl gm V D.read ∧ w.grownBy w' (some p) := by
    rintro w' rfl
    have h1 := Arr.new (w.setCell ⟨p, 2, none⟩ (.int .i64 (D.rd + 1))) (u8V (D.now i)) 99
    have e1 : (w.setCell ⟨p, 2, none⟩ (.int .i64 (D.rd + 1))).heap.size = w.heap.size := by simp
    rw [e1] at h1
    refine ⟨Nat.le_refl _, h1, (dk_read h).below ((Below.refl _ _).alloc (Nat.le_refl _) _), (grown_cell w p 2 _).trans (World.grownBy_alloc _ _ _)⟩
  cases hw : (D.wr i).length with
  | zero =>
    refine (read_lasts h hi hr0 hr1 (List.eq_nil_of_length_eq_zero hw)).mono ?_
    rintro e w' ⟨rfl, hw'⟩
    exact ⟨_, rfl, hfin w' hw'⟩
  | succ k =>
    refine (read_cached h hi hr0 hr1 hw).mono ?_
    rintro e w' ⟨rfl, hw'⟩
    exact ⟨_, rfl, hfin w' hw'⟩
end Go.Proofs.YthhjlopgpmaokabDoor

namespace Go.Proofs.YthhjlopgpmaokabDoor
open Go.RowKit Go.Maps

theorem fold_at : ∀ (cs : List Value) (k : Nat) (z : Array Value), k + cs.length ≤ z.size → ((cs.zipIdx k).foldl (fun a p => a.setIfInBounds (0 + p.2) p.1) z).size = z.size ∧ ∀ q, ((cs.zipIdx k).foldl (fun a p => a.setIfInBounds (0 + p.2) p.1) z)[q]? = if k ≤ q ∧ q < k + cs.length then cs[q - k]? else z[q]?
  | [], k, z, _ => ⟨rfl, fun q => by rw [if_neg (by rw [List.length_nil]; omega)]; rfl⟩
  | c :: t, k, z, h => by
    simp only [List.length_cons] at h
    obtain ⟨h1, h2⟩ := fold_at t (k + 1) (z.setIfInBounds (0 + k) c) (by simp; omega)
    rw [List.zipIdx_cons, List.foldl_cons]
    refine ⟨by rw [h1]; simp, fun q => ?_⟩
    rw [h2 q]
    by_cases hq : q = k
    · subst hq
      have hqs : q < z.size := by omega
      rw [if_neg (by omega), if_pos (by simp), Nat.sub_self]
      simp [hqs]
    · by_cases hc : k + 1 ≤ q ∧ q < k + 1 + t.length
      · rw [if_pos hc, if_pos (by simp; omega), show q - k = (q - (k + 1)) + 1 by omega]
        simp
      · rw [if_neg hc, if_neg (by simp; omega), Array.getElem?_setIfInBounds_ne (by omega)]
theorem fold_all (cs : List Value) (z : Array Value) (h : z.size = cs.length) : cs.toArray.zipIdx.foldl (fun a p => a.setIfInBounds (0 + p.2) p.1) z = cs.toArray := by
  have hf := fold_at cs 0 z (by omega)
  have e : cs.toArray.zipIdx.foldl (fun a p => a.setIfInBounds (0 + p.2) p.1) z = (cs.zipIdx 0).foldl (fun a p => a.setIfInBounds (0 + p.2) p.1) z := by
    rw [← Array.foldl_toList]
    simp
  rw [e]
  apply Array.ext_getElem?
  intro q
  rw [hf.2 q]
  by_cases hq : q < cs.length
  · rw [if_pos (by omega)]; simp
  · rw [if_neg (by omega), Array.getElem?_eq_none (by omega), Array.getElem?_eq_none (by simpa using hq)]
theorem build_one {cs : List Value} (hl : cs.length = 512) (W : World) : (Instr.buildSlice 86 1 #[(0, .agg cs.toArray)]).run Tryd.prog W = .ok (.slice (some ⟨W.heap.size, 0, none⟩) 1 1) (W.alloc (.cells cs.toArray 99)) := by
  obtain ⟨i0, hi0, hz0, hz1, hz2⟩ := info_parts infoS
  have hzl : (List.replicate 512 (Value.int IntKind.u8 0)).toArray.size = 512 := by rw [List.size_toArray, List.length_replicate]
  generalize (List.replicate 512 (Value.int IntKind.u8 0)).toArray = zz at hz0 hzl
  have hzero : (zeroValue 99).run Tryd.prog W = .ok (.agg zz) W := by
    simp [zeroValue, typeInfo, hi0, hz0]
  have hsize : (sizeOf 99).run Tryd.prog W = .ok 512 W := by
    simp [sizeOf, typeInfo, hi0, hz1]
  have hfill : ∀ z : Array Value, z.size = 512 → Instr.fill (fun i => some (i * 512, 512)) z [(0, .agg cs.toArray)] = some cs.toArray := fun z hz => by
    have h1 : (Value.agg cs.toArray).cells = cs.toArray := rfl
    unfold Instr.fill
    simp only [h1, Nat.zero_mul]
    rw [if_neg (by simp [hl, hz])]
    rw [fold_all cs z (by omega)]
    rfl
  have hms : ((Array.range (1 * 512)).map (zz[· % zz.size]!)).size = 512 := by simp
  unfold Instr.buildSlice
  rw [Sem.run_bind, run_underlying Tryd.underlying86 W]
  simp only [Result.andThen_ok, Sem.run_bind, hsize]
  rw [if_neg (by decide), if_neg (by decide), Sem.run_bind, hzero, Result.andThen_ok, Sem.run_bind, Sem.run_pure, Result.andThen_ok]
  have hc : (Value.agg zz).cells = zz := rfl
  rw [hc]
  generalize (Array.range (1 * 512)).map (fun x => zz[x % zz.size]!) = z2 at hms
  rw [hfill z2 hms]
  rfl
section
variable {ops : Array Oper} {o : Oper} {a : Act} {w : World} {K : Act → World → Prop} {Q : Exit → Act → World → Prop} {E : Prop}
theorem step_look (hgd : o.guard = none) (m x : Operand) (t : TypeId) (ho : o.op = .lookup t m x false) {b : Nat} {key v : Value} (hm : a.eval m = .map (some b)) (hx : a.eval x = key) (hrun : (Instr.lookup t (.map (some b)) key false).run Tryd.prog w = .ok v w)
    (hk : K (a.put o.dst v) w) : if Region.wanted o (yielded ops a.tmps) = true then Oper.wp Tryd.prog o a w K Q else E := by
  have hw : Region.wanted o (yielded ops a.tmps) = true := by simp [Region.wanted, hgd]
  rw [if_pos hw]
  unfold Oper.wp execOp
  simp only [ho, hm, hx, Sem.run_bind, hrun, Result.andThen_ok, Sem.run_pure]
  exact hk
theorem step_build (hgd : o.guard = none) (x : Operand) (ho : o.op = .buildSlice 86 1 #[(0, x)]) {cs : List Value} (hx : a.eval x = .agg cs.toArray) (hl : cs.length = 512)
    (hk : K (a.put o.dst (.slice (some ⟨w.heap.size, 0, none⟩) 1 1)) (w.alloc (.cells cs.toArray 99))) : if Region.wanted o (yielded ops a.tmps) = true then Oper.wp Tryd.prog o a w K Q else E := by
  have hw : Region.wanted o (yielded ops a.tmps) = true := by simp [Region.wanted, hgd]
  rw [if_pos hw]
  unfold Oper.wp execOp
  simp only [ho, List.map_toArray, List.map_cons, List.map_nil, hx, Sem.run_bind, build_one hl w, Result.andThen_ok, Sem.run_pure]
  exact hk
theorem step_mapRun (hgd : o.guard = none) (m x y : Operand) (t : TypeId) (ho : o.op = .mapUpdate t m x y) {b : Nat} {key v : Value} {w' : World} (hm : a.eval m = .map (some b)) (hx : a.eval x = key) (hy : a.eval y = v) (hrun : (Instr.mapUpdate t (.map (some b)) key v).run Tryd.prog w = .ok () w')
    (hk : K (a.put o.dst undef) w') : if Region.wanted o (yielded ops a.tmps) = true then Oper.wp Tryd.prog o a w K Q else E := by
  have hw : Region.wanted o (yielded ops a.tmps) = true := by simp [Region.wanted, hgd]
  rw [if_pos hw]
  unfold Oper.wp execOp
  simp only [ho, hm, hx, hy, Sem.run_bind, hrun, Result.andThen_ok, Sem.run_pure]
  exact hk
end
end Go.Proofs.YthhjlopgpmaokabDoor

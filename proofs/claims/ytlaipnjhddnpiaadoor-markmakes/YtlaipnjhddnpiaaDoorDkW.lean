/- A disk in memory: its blocks, and what they read. -/
import Derived.Test.YtlaipnjhddnpiaaDoorArr
import Derived.Test.YtlaipnjhddnpiaaDoorDkQ
import Derived.Test.YtlaipnjhddnpiaaDoorOwn
import Derived.Deep.MidRow
import Derived.Deep.AppendLies
import Derived.Maps.OwnSet
namespace Go.Proofs.YtlaipnjhddnpiaaDoor
open Go.RowKit Go.Maps

/-- Nothing is changed but blocks of F, and new ones. -/
structure Up (F : Nat → Prop) (w w' : World) : Prop where
  os : w'.os = w.os
  tape : w'.tape = w.tape
  output : w'.output = w.output
  size : w.heap.size ≤ w'.heap.size
  block : ∀ k, k < w.heap.size → ¬ F k → w'.heap[k]? = w.heap[k]?
theorem Up.refl (F : Nat → Prop) (w : World) : Up F w w := ⟨rfl, rfl, rfl, Nat.le_refl _, fun _ _ _ => rfl⟩
theorem Up.trans {F F' : Nat → Prop} {a b c : World} (h : Up F a b) (k : Up F' b c) (hF : ∀ x, F' x → F x ∨ a.heap.size ≤ x) : Up F a c :=
  ⟨k.os.trans h.os, k.tape.trans h.tape, k.output.trans h.output, Nat.le_trans h.size k.size, fun i hi ho => (k.block i (Nat.lt_of_lt_of_le hi h.size) (fun hx => (hF i hx).elim ho (fun hx => by omega))).trans (h.block i hi ho)⟩
theorem Up.of_below {F : Nat → Prop} {w w' : World} (h : Below w.heap.size w w') : Up F w w' := ⟨h.os, h.tape, h.output, h.size, fun k hk _ => h.block k hk⟩
theorem Up.of_grown {F : Nat → Prop} {w w' : World} {row : Option Nat} (h : w.grownBy w' row) (hF : ∀ g, row = some g → F g) : Up F w w' := ⟨h.os, h.tape, h.output, h.size, fun k hk hn => h.block k hk (fun e => hn (hF k e.symm))⟩
theorem Up.mono {F F' : Nat → Prop} {w w' : World} (h : Up F w w') (hF : ∀ x, F x → F' x) : Up F' w w' := ⟨h.os, h.tape, h.output, h.size, fun k hk hn => h.block k hk (fun e => hn (hF k e))⟩
theorem Up.below {F : Nat → Prop} {w w' : World} {B : Nat} (h : Up F w w') (hB : B ≤ w.heap.size) (hF : ∀ x, F x → B ≤ x) : Below B w w' := ⟨h.os, h.tape, h.output, h.size, fun k hk => h.block k (by omega) (fun hx => by have := hF k hx; omega)⟩
theorem Up.then_below {F : Nat → Prop} {a w w' : World} (h : Up F a w) (k : Below w.heap.size w w') : Up F a w' := h.trans (F' := fun _ => False) (Up.of_below k) (fun _ h => h.elim)
theorem Up.cells {F : Nat → Prop} {w w' : World} (h : Up F w w') {g : Nat} {cs : Array Value} {t : TypeId} {m : Nat × Nat} (hg : w.heap[g]? = some (.cells cs t m)) (hF : ¬ F g) : w'.heap[g]? = some (.cells cs t m) := by
  rw [h.block g (Array.getElem?_eq_some_iff.1 hg).1 hF]; exact hg
theorem Up.cell {F : Nat → Prop} {w w' : World} (h : Up F w w') {a : Addr} {v : Value} (hc : w.cell? a = some v) (hF : ¬ F a.block) : w'.cell? a = some v :=
  (World.cell?_of_block (h.block a.block (World.block_lt_of_cell? w a hc) hF)).trans hc
theorem Arr.up {F : Nat → Prop} {w w' : World} {g : Nat} {t : TypeId} {cs : List Value} (h : Arr w g t cs) (hu : Up F w w') (hF : ¬ F g) : Arr w' g t cs := hu.cells h hF
theorem owns_up {F : Nat → Prop} {w w' : World} {base : Nat} {t : TypeId} {size : Nat} {v : Value} {n : Nat} {cs : List Value} (h : w.ownsRow base t size v n cs) (hu : Up F w w') (hF : ∀ g, v.ownBlock = some g → ¬ F g) : w'.ownsRow base t size v n cs := by
  refine ⟨h.1, ?_⟩
  rcases h.2 with hn | ⟨g, cap, cur, rfl, hb, hgg, rest⟩
  · exact .inl hn
  · exact .inr ⟨g, cap, cur, rfl, hb, hu.cells hgg (hF g rfl), rest⟩

/-- Rows of sectors. -/
theorem flat_get {α : Type} (n : Nat) : ∀ (ss : List (List α)), (∀ s ∈ ss, s.length = n) → ∀ i j, j < n → ss.flatten[n * i + j]? = (ss.getD i [])[j]?
  | [], _, i, j, _ => by simp
  | s :: t, h, i, j, hj => by
    have hs := h s (by simp)
    rw [List.flatten_cons]
    cases i with
    | zero => rw [Nat.mul_zero, Nat.zero_add, List.getElem?_append_left (by omega)]; rfl
    | succ i =>
      rw [List.getElem?_append_right (by rw [hs, Nat.mul_succ]; omega), hs, show n * (i + 1) + j - n = n * i + j by rw [Nat.mul_succ]; omega, flat_get n t (fun s hs => h s (by simp [hs])) i j hj]
      rfl
theorem flat_len {α : Type} (n : Nat) (ss : List (List α)) (h : ∀ s ∈ ss, s.length = n) : ss.flatten.length = n * ss.length := by
  induction ss with
  | nil => simp
  | cons s t ih => rw [List.flatten_cons, List.length_append, ih (fun s hs => h s (by simp [hs])), h s (by simp), List.length_cons, Nat.mul_succ]; omega
theorem flat_set {α : Type} {n : Nat} (hn : 0 < n) {ss : List (List α)} (h : ∀ s ∈ ss, s.length = n) {i : Nat} (hi : i < ss.length) {s' : List α} (hs' : s'.length = n) (q : Nat) :
    (ss.set i s').flatten[q]? = if n * i ≤ q ∧ q < n * i + n then s'[q - n * i]? else ss.flatten[q]? := by
  have h' : ∀ s ∈ ss.set i s', s.length = n := fun s hs => by
    rcases List.mem_or_eq_of_mem_set hs with hs | hs
    · exact h s hs
    · rw [hs]; exact hs'
  have hq : q = n * (q / n) + q % n := (Nat.div_add_mod q n).symm
  have hm : q % n < n := Nat.mod_lt _ hn
  rw [hq, flat_get n _ h' _ _ hm, flat_get n _ h _ _ hm, ← hq]
  by_cases e : q / n = i
  · subst e
    rw [if_pos (by omega), List.getD_eq_getElem?_getD, List.getElem?_set_self hi, Option.getD_some, show q - n * (q / n) = q % n by omega]
  · rw [if_neg (fun hc => e (by
      have h1 : q / n < i + 1 := Nat.div_lt_of_lt_mul (by rw [Nat.mul_succ]; omega)
      have h2 : i ≤ q / n := (Nat.le_div_iff_mul_le hn).2 (by rw [Nat.mul_comm]; omega)
      omega)), List.getD_eq_getElem?_getD, List.getElem?_set_ne (fun h => e h.symm), ← List.getD_eq_getElem?_getD]
def u8V (s : List Int) : List Value := s.map (Value.int .u8)
def secV (ss : List (List Int)) : List Value := (ss.map u8V).flatten
theorem u8V_len (s : List Int) : (u8V s).length = s.length := by simp [u8V]
theorem u8V_one (s : List Int) : ∀ u ∈ u8V s, u.oneCell' = true := u8_one s
theorem secV_lens {ss : List (List Int)} (h : ∀ s ∈ ss, IsSec s) : ∀ s ∈ ss.map u8V, s.length = 512 := fun s hs => by
  obtain ⟨t, ht, rfl⟩ := List.mem_map.1 hs
  rw [u8V_len]; exact (h t ht).1
theorem secV_len {ss : List (List Int)} (h : ∀ s ∈ ss, IsSec s) : (secV ss).length = ss.length * 512 := by
  unfold secV
  rw [flat_len 512 _ (secV_lens h), List.length_map, Nat.mul_comm]
theorem secV_one (ss : List (List Int)) : ∀ u ∈ secV ss, u.oneCell' = true := fun u hu => by
  obtain ⟨l, hl, hu⟩ := List.mem_flatten.1 hu
  obtain ⟨t, _, rfl⟩ := List.mem_map.1 hl
  exact u8_one t u hu
theorem secV_append (a b : List (List Int)) : secV (a ++ b) = secV a ++ secV b := by simp [secV]
theorem secV_single (s : List Int) : secV [s] = u8V s := by simp [secV]
theorem secV_nil : secV [] = [] := rfl
theorem secV_get {ss : List (List Int)} (h : ∀ s ∈ ss, IsSec s) {i j : Nat} (hi : i < ss.length) (hj : j < 512) : (secV ss)[512 * i + j]? = (u8V (ss.getD i zsec))[j]? := by
  unfold secV
  rw [flat_get 512 _ (secV_lens h) i j hj, List.getD_eq_getElem?_getD, List.getElem?_map, List.getElem?_eq_getElem hi, List.getD_eq_getElem?_getD, List.getElem?_eq_getElem hi]
  rfl
/-- A sector of a row, as cells. -/
theorem owns_range {w : World} {base g n cap : Nat} {ss : List (List Int)} (h : w.ownsRow base 113 512 (.slice (some ⟨g, 0, none⟩) n cap) n (secV ss)) (hs : ∀ s ∈ ss, IsSec s) {i : Nat} (hi : i < ss.length) :
    w.rangeAt g (i * 512) (u8V (ss.getD i zsec)) := by
  intro j v hv
  have hsi : IsSec (ss.getD i zsec) := by rw [List.getD_eq_getElem?_getD, List.getElem?_eq_getElem hi]; exact hs _ (List.getElem_mem hi)
  have hj : j < 512 := by have := (List.getElem?_eq_some_iff.1 hv).1; rw [u8V_len, hsi.1] at this; exact this
  have := h.cells (g := g) rfl (512 * i + j) v (by rw [secV_get hs hi hj]; exact hv)
  rw [Addr.add_lit] at this
  rw [show i * 512 + j = 0 + (512 * i + j) by omega]
  exact this
theorem owns_there {w : World} {base g n cap : Nat} {xs : List Value} (h : w.ownsRow base 113 512 (.slice (some ⟨g, 0, none⟩) n cap) n xs) {i : Nat} (hi : i < n) : w.there g (i * 512) 512 := by
  rcases h.2 with ⟨hn, _⟩ | ⟨g', cap', cur, hv, _, hg, hle, _, hs, _⟩
  · cases hn
  · injection hv with e1 e2 e3
    injection e1 with e1
    injection e1 with e1
    subst e1 e3
    intro j hj
    have hlt : i * 512 + j < cur.size := by
      rw [hs]
      have : (i + 1) * 512 ≤ cap * 512 := Nat.mul_le_mul_right _ (by omega)
      omega
    refine ⟨?_, ?_⟩
    · rw [cell_of_row w g (i * 512 + j) cur _ (0, 0) hg, Array.getElem?_eq_getElem hlt]; rfl
    · unfold World.frozen?
      rw [hg]
      simp
theorem setCells_row {g : Nat} {t : TypeId} : ∀ (vs : List Value) (o : Nat) (w : World) (cur : Array Value), w.heap[g]? = some (.cells cur t (0, 0)) → o + vs.length ≤ cur.size →
    ∃ c2 : Array Value, (w.setCells g o vs).heap[g]? = some (.cells c2 t (0, 0)) ∧ c2.size = cur.size ∧ (∀ q, c2[q]? = if o ≤ q ∧ q < o + vs.length then vs[q - o]? else cur[q]?)
  | [], o, w, cur, h, _ => ⟨cur, h, rfl, fun q => by rw [if_neg (by rw [List.length_nil]; omega)]⟩
  | v :: r, o, w, cur, h, hl => by
    have h1 := heap_setCell_same w g o cur t v h
    simp only [List.length_cons] at hl
    obtain ⟨c2, e1, e2, e3⟩ := setCells_row r (o + 1) (w.setCell ⟨g, o, none⟩ v) _ h1 (by simp; omega)
    refine ⟨c2, by rw [World.setCells]; exact e1, by rw [e2]; simp, fun q => ?_⟩
    rw [e3 q]
    by_cases hq : q = o
    · subst hq
      have hqs : q < cur.size := by omega
      rw [if_neg (by omega), if_pos (by simp), Nat.sub_self]
      simp [hqs]
    · by_cases hc : o + 1 ≤ q ∧ q < o + 1 + r.length
      · rw [if_pos hc, if_pos (by simp; omega), show q - o = (q - (o + 1)) + 1 by omega]
        simp
      · rw [if_neg hc, if_neg (by simp; omega), Array.getElem?_setIfInBounds_ne (fun h => hq h.symm)]
theorem setCells_other (g : Nat) : ∀ (vs : List Value) (o : Nat) (w : World), (∀ k, k ≠ g → (w.setCells g o vs).heap[k]? = w.heap[k]?) ∧ (w.setCells g o vs).heap.size = w.heap.size ∧ (w.setCells g o vs).os = w.os ∧ (w.setCells g o vs).tape = w.tape ∧ (w.setCells g o vs).output = w.output
  | [], _, w => ⟨fun _ _ => rfl, rfl, rfl, rfl, rfl⟩
  | v :: r, o, w => by
    obtain ⟨h1, h2, h3, h4, h5⟩ := setCells_other g r (o + 1) (w.setCell ⟨g, o, none⟩ v)
    rw [World.setCells]
    exact ⟨fun k hk => (h1 k hk).trans (Below.heap_setCell w ⟨g, o, none⟩ v k hk), h2.trans (by simp), h3, h4, h5⟩
theorem grown_setCells (w : World) (g o : Nat) (vs : List Value) : w.grownBy (w.setCells g o vs) (some g) := by
  obtain ⟨h1, h2, h3, h4, h5⟩ := setCells_other g vs o w
  exact ⟨h3, h4, h5, by rw [h2]; exact Nat.le_refl _, fun k _ hk => h1 k (fun e => hk (by rw [e]))⟩
/-- A sector of a row is written. -/
theorem owns_set {w : World} {base g n cap : Nat} {ss : List (List Int)} (h : w.ownsRow base 113 512 (.slice (some ⟨g, 0, none⟩) n cap) n (secV ss)) (hs : ∀ s ∈ ss, IsSec s) (hn : n = ss.length) {i : Nat} (hi : i < ss.length) {s : List Int} (hx : IsSec s) :
    (w.setCells g (i * 512) (u8V s)).ownsRow base 113 512 (.slice (some ⟨g, 0, none⟩) n cap) n (secV (ss.set i s)) := by
  have hs2 : ∀ t ∈ ss.set i s, IsSec t := fun t ht => by
    rcases List.mem_or_eq_of_mem_set ht with ht | ht
    · exact hs t ht
    · rw [ht]; exact hx
  refine ⟨by rw [secV_len hs2, List.length_set, hn], ?_⟩
  rcases h.2 with ⟨hv, _⟩ | ⟨g', cap', cur, hv, hb, hg, hle, hm, hsz, ht⟩
  · cases hv
  · injection hv with e1 e2 e3
    injection e1 with e1
    injection e1 with e1
    subst e1 e3
    have hul : (u8V s).length = 512 := by rw [u8V_len]; exact hx.1
    have hroom : i * 512 + (u8V s).length ≤ cur.size := by
      rw [hsz, hul]
      have : (i + 1) * 512 ≤ cap * 512 := Nat.mul_le_mul_right _ (by omega)
      omega
    obtain ⟨c2, e1, e2, e3⟩ := setCells_row (u8V s) (i * 512) w cur hg hroom
    refine .inr ⟨g, cap, c2, rfl, hb, e1, hle, hm, by rw [e2, hsz], ?_⟩
    apply List.ext_getElem?
    intro q
    have hsv : (secV (ss.set i s)) = ((ss.map u8V).set i (u8V s)).flatten := by rw [secV, List.map_set]
    rw [hsv, flat_set (by omega) (secV_lens hs) (by simpa using hi) hul]
    by_cases hq : q < n * 512
    · rw [List.getElem?_take_of_lt hq, Array.getElem?_toList, e3 q, hul, Nat.mul_comm i 512]
      have : cur[q]? = (ss.map u8V).flatten[q]? := by
        have h2 : (cur.toList.take (n * 512))[q]? = (secV ss)[q]? := by rw [ht]
        rw [List.getElem?_take_of_lt hq, Array.getElem?_toList] at h2
        exact h2
      rw [this]
    · have hL : (ss.map u8V).flatten.length = n * 512 := by have := secV_len hs; rw [← hn] at this; exact this
      have hq2 : (ss.map u8V).flatten.length ≤ q := by omega
      have hq3 : (c2.toList.take (n * 512)).length ≤ q := by have := List.length_take_le (n * 512) c2.toList; omega
      have hi2 : i + 1 ≤ n := by omega
      have hq4 : ¬ (512 * i ≤ q ∧ q < 512 * i + 512) := by omega
      rw [List.getElem?_eq_none hq3, if_neg hq4, List.getElem?_eq_none hq2]

/-- What a map of slices holds, read as it is. -/
def RV (v : Value) : Option (DataW Value × List MemPlace) := some (.held v, [])
/-- A disk. -/
structure Dk (w : World) (p gl gm : Nat) (V : Nat → Value) (D : AD) : Prop where
  ok : D.Ok
  blk : Arr w p 57 [.slice (some ⟨gl, 0, none⟩) D.la.length D.la.length, .map (some gm), .int .i64 D.rd, .int .i64 D.wt, .int .i64 D.fl]
  las : w.ownsRow 0 113 512 (.slice (some ⟨gl, 0, none⟩) D.la.length D.la.length) D.la.length (secV D.la)
  map : ∃ M : DataW Value, w.ownsMap Tryd.prog 3 RV gm D.wt.toNat M ∧ (∀ i : Nat, M.atKey (.int .i64 (i : Int)) (.held (.slice none 0 0)) = .held (V i) ∧ Maps.has M (.int .i64 (i : Int)) = decide (0 < (D.wr i).length)) ∧ ∀ x : Int, Maps.has M (.int .i64 x) = true → 0 ≤ x
  row : ∀ i, w.ownsRow 0 113 512 (V i) (D.wr i).length (secV (D.wr i))
  own : ∀ i j g, (V i).ownBlock = some g → (V j).ownBlock = some g → i = j
  low : ∀ i, (V i).ownBlock ≠ some gl
/-- Its blocks. -/
def Ft (p gl gm : Nat) (V : Nat → Value) (b : Nat) : Prop := b = p ∨ b = gl ∨ b = gm ∨ ∃ i, (V i).ownBlock = some b
theorem Dk.lt {w : World} {p gl gm : Nat} {V : Nat → Value} {D : AD} (h : Dk w p gl gm V D) {b : Nat} (hb : Ft p gl gm V b) : b < w.heap.size := by
  rcases hb with rfl | rfl | rfl | ⟨i, hi⟩
  · exact h.blk.lt
  · exact (h.las.lt b rfl).2
  · obtain ⟨M, hM, _⟩ := h.map; exact hM.lt
  · exact ((h.row i).lt b hi).2
theorem Dk.up {w w' : World} {p gl gm : Nat} {V : Nat → Value} {D : AD} {F : Nat → Prop} (h : Dk w p gl gm V D) (hu : Up F w w') (hF : ∀ b, Ft p gl gm V b → ¬ F b) : Dk w' p gl gm V D := by
  obtain ⟨M, hM, h2⟩ := h.map
  refine ⟨h.ok, h.blk.up hu (hF p (Or.inl rfl)), owns_up h.las hu (fun g hg => hF g (Or.inr (Or.inl (by simpa [Value.ownBlock] using hg.symm)))), ⟨M, ?_, h2⟩, fun i => owns_up (h.row i) hu (fun g hg => hF g (Or.inr (Or.inr (Or.inr ⟨i, hg⟩)))), h.own, h.low⟩
  obtain ⟨es, clock, hb, F1, hs, hD⟩ := hM
  exact ⟨es, clock, (hu.block gm (Array.getElem?_eq_some_iff.1 hb).1 (hF gm (Or.inr (Or.inr (Or.inl rfl))))).trans hb, F1, hs, hD⟩
theorem Dk.below {w w' : World} {p gl gm : Nat} {V : Nat → Value} {D : AD} (h : Dk w p gl gm V D) (hb : Below w.heap.size w w') : Dk w' p gl gm V D := h.up (F := fun _ => False) (Up.of_below hb) (fun _ _ h => h)
theorem Dk.p_gl {w : World} {p gl gm : Nat} {V : Nat → Value} {D : AD} (h : Dk w p gl gm V D) : p ≠ gl := by
  rintro rfl
  rcases h.las.2 with ⟨hv, _⟩ | ⟨g', cap', cur, hv, _, hg, _⟩
  · cases hv
  · injection hv with e1
    injection e1 with e1
    injection e1 with e1
    subst e1
    have := h.blk
    unfold Arr at this
    rw [hg] at this
    simp only [Option.some.injEq, Obj.cells.injEq] at this
    exact absurd this.2.1 (by decide)
theorem Dk.p_gm {w : World} {p gl gm : Nat} {V : Nat → Value} {D : AD} (h : Dk w p gl gm V D) : p ≠ gm := by
  rintro rfl
  obtain ⟨M, ⟨es, clock, hb, _⟩, _⟩ := h.map
  have := h.blk
  unfold Arr at this
  rw [hb] at this
  cases this
theorem Dk.gl_gm {w : World} {p gl gm : Nat} {V : Nat → Value} {D : AD} (h : Dk w p gl gm V D) : gl ≠ gm := by
  rintro rfl
  obtain ⟨M, ⟨es, clock, hb, _⟩, _⟩ := h.map
  rcases h.las.2 with ⟨hv, _⟩ | ⟨g', cap', cur, hv, _, hg, _⟩
  · cases hv
  · injection hv with e1
    injection e1 with e1
    injection e1 with e1
    subst e1
    rw [hb] at hg
    cases hg
theorem Dk.v_p {w : World} {p gl gm : Nat} {V : Nat → Value} {D : AD} (h : Dk w p gl gm V D) (i : Nat) : (V i).ownBlock ≠ some p := by
  intro e
  rcases (h.row i).2 with ⟨hv, _⟩ | ⟨g', cap', cur, hv, _, hg, _⟩
  · rw [hv] at e; cases e
  · rw [hv] at e
    simp only [Value.ownBlock, Option.some.injEq] at e
    subst e
    have := h.blk
    unfold Arr at this
    rw [hg] at this
    simp only [Option.some.injEq, Obj.cells.injEq] at this
    exact absurd this.2.1 (by decide)
theorem Dk.v_gm {w : World} {p gl gm : Nat} {V : Nat → Value} {D : AD} (h : Dk w p gl gm V D) (i : Nat) : (V i).ownBlock ≠ some gm := by
  intro e
  obtain ⟨M, ⟨es, clock, hb, _⟩, _⟩ := h.map
  rcases (h.row i).2 with ⟨hv, _⟩ | ⟨g', cap', cur, hv, _, hg, _⟩
  · rw [hv] at e; cases e
  · rw [hv] at e
    simp only [Value.ownBlock, Option.some.injEq] at e
    subst e
    rw [hb] at hg
    cases hg
/-- The acts, or what else lies in the disk's own block, are written. -/
theorem Dk.acts {w w' : World} {p gl gm : Nat} {V : Nat → Value} {D : AD} (h : Dk w p gl gm V D) (hg : w.grownBy w' (some p)) {rd wt fl : Int} (hw : D.wt ≤ wt)
    (hb : Arr w' p 57 [.slice (some ⟨gl, 0, none⟩) D.la.length D.la.length, .map (some gm), .int .i64 rd, .int .i64 wt, .int .i64 fl]) : Dk w' p gl gm V { D with rd := rd, wt := wt, fl := fl } := by
  obtain ⟨M, hM, h2⟩ := h.map
  have hok := h.ok
  refine ⟨⟨hok.lo, hok.hi, hok.las, hok.wrs, hok.out⟩, hb, h.las.kept hg (Or.inr (by simp only [Value.ownBlock, ne_eq, Option.some.injEq]; exact fun e => h.p_gl e.symm)), ⟨M, (hM.kept hg (by simp only [ne_eq, Option.some.injEq]; exact fun e => h.p_gm e.symm)).mono (by show D.wt.toNat ≤ wt.toNat; omega), h2⟩, fun i => (h.row i).kept hg (Or.inr (h.v_p i)), h.own, h.low⟩
end Go.Proofs.YtlaipnjhddnpiaaDoor

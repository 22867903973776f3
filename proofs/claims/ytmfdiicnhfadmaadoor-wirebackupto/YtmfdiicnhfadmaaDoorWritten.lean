/- What written answers: the writings of a number and of a byte string, in a new list. -/
import Derived.Test.YtmfdiicnhfadmaaDoorIsb
namespace Go.Proofs.YtmfdiicnhfadmaaDoor
open Go.RowKit

/-- One writing: the slice, by which Read it is read, its n, its number; the bytes that it reads. -/
structure Ent where
  val : Value
  which : Int
  n : Int
  v : Int
  bytes : List Int
def Ent.cells (e : Ent) : List Value := [e.val, .int .i64 e.which, .int .i64 e.n, .int .u64 e.v]
def Ent.sort (e : Ent) : Int × Int × Int × List Int := (e.which, e.n, e.v, e.bytes)
def entCells (es : List Ent) : List Value := es.flatMap Ent.cells
def Ents (w : World) (B : Nat) (es : List Ent) : Prop := ∀ e ∈ es, Own8 w B e.val e.bytes
/-- The number in n bytes: what is left of it. -/
def wV (V : Int) (n : Nat) : Int := if n < 8 then V % 2 ^ (8 * n) else V
def wTail (V : Int) (k : Nat) : List (Int × Int × Int × List Int) := (List.range k).map fun i => (4, ((i + 1 : Nat) : Int), wV V (i + 1), fB (wV V (i + 1)) (i + 1))
def wSpec (V : Int) (xs : List Int) (k : Nat) : List (Int × Int × Int × List Int) := [(2, 0, V, uBytes V), (6, (xs.length : Int), 0, bB xs)] ++ wTail V k

theorem Ents.grown {w w' : World} {B B' : Nat} {es : List Ent} {l : Value} {n : Nat} {cs : List Value} (h : Ents w B es) (hl : w.ownsRow B' 39 4 l n cs) (hg : w.grownBy w' l.ownBlock) : Ents w' B es :=
  fun e he => ⟨(h e he).1.kept hg (owns_apart (h e he).1 hl (by decide)), (h e he).2⟩
theorem Ents.below {w w' : World} {B : Nat} {es : List Ent} (h : Ents w B es) (hb : Below w.heap.size w w') : Ents w' B es := fun e he => (h e he).below hb
theorem entCells_len (es : List Ent) : (entCells es).length = es.length * 4 := by
  induction es with
  | nil => rfl
  | cons e t ih => simp only [entCells, List.flatMap_cons, List.length_append, List.length_cons] at *; rw [ih]; simp [Ent.cells]; omega
theorem entCells_snoc (es : List Ent) (e : Ent) : entCells (es ++ [e]) = entCells es ++ e.cells := by simp [entCells]
theorem wTail_succ (V : Int) (k : Nat) : wTail V (k + 1) = wTail V k ++ [(4, ((k + 1 : Nat) : Int), wV V (k + 1), fB (wV V (k + 1)) (k + 1))] := by simp [wTail, List.range_succ]
theorem emod_le_self' {a b : Int} (ha : 0 ≤ a) (hb : 0 < b) : a % b ≤ a := by
  have h1 := Int.mul_ediv_add_emod a b
  have h2 : 0 ≤ b * (a / b) := Int.mul_nonneg (by omega) (Int.ediv_nonneg ha (by omega))
  omega
theorem wV_le {V : Int} (h0 : 0 ≤ V) (h1 : V ≤ 18446744073709551615) (n : Nat) : 0 ≤ wV V n ∧ wV V n ≤ 18446744073709551615 := by
  unfold wV
  split
  · have hp : (0 : Int) < 2 ^ (8 * n) := Int.pow_pos (by decide)
    have := Int.emod_nonneg V (Int.ne_of_gt hp)
    have := emod_le_self' h0 hp
    omega
  · exact ⟨h0, h1⟩

theorem pow_le_top {k : Nat} (h : k < 7) : (1 : Int) ≤ 2 ^ (8 * (k + 1)) ∧ (2 : Int) ^ (8 * (k + 1)) ≤ 18446744073709551615 := by
  have hp : (0 : Int) < 2 ^ (8 * (k + 1)) := Int.pow_pos (by decide)
  have h2 : (2 : Int) ^ (8 * (k + 1)) ≤ 2 ^ 56 := by exact_mod_cast Nat.pow_le_pow_right (by decide : 0 < 2) (show 8 * (k + 1) ≤ 56 by omega)
  have e : (2 : Int) ^ 56 = 72057594037927936 := by decide
  omega
theorem wV_lt {V : Int} {n : Nat} (h : n < 8) : wV V n = V % 2 ^ (8 * n) := by unfold wV; rw [if_pos h]
theorem wV_ge {V : Int} {n : Nat} (h : ¬ n < 8) : wV V n = V := by unfold wV; rw [if_neg h]
theorem fits_lt {V : Int} {n : Nat} : (V % 2 ^ (8 * n) / 2 ^ (8 * n) != 0) = false := by
  have hp : (0 : Int) < 2 ^ (8 * n) := Int.pow_pos (by decide)
  rw [Int.ediv_eq_zero_of_lt (Int.emod_nonneg _ (Int.ne_of_gt hp)) (Int.emod_lt_of_pos _ hp)]
  rfl
theorem fits_8 {V : Int} (h0 : 0 ≤ V) (h1 : V ≤ 18446744073709551615) : (V / 2 ^ (8 * 8) != 0) = false := by
  have e : (2 : Int) ^ (8 * 8) = 18446744073709551616 := by decide
  rw [e, Int.ediv_eq_zero_of_lt h0 (by omega)]
  rfl
/-- One writing more. -/
theorem ents_snoc {w' : World} {V : Int} {xs : List Int} {k B : Nat} {es : List Ent} {x : Value} (h : Ents w' B es) (hs : es.length = k + 2 ∧ es.map Ent.sort = wSpec V xs k) (hx : Own8 w' B x (fB (wV V (k + 1)) (k + 1))) :
    Ents w' B (es ++ [⟨x, 4, ((k + 1 : Nat) : Int), wV V (k + 1), fB (wV V (k + 1)) (k + 1)⟩]) ∧ (es ++ [⟨x, 4, ((k + 1 : Nat) : Int), wV V (k + 1), fB (wV V (k + 1)) (k + 1)⟩] : List Ent).length = k + 1 + 2 ∧
      (es ++ [(⟨x, 4, ((k + 1 : Nat) : Int), wV V (k + 1), fB (wV V (k + 1)) (k + 1)⟩ : Ent)]).map Ent.sort = wSpec V xs (k + 1) := by
  refine ⟨fun e he => ?_, by simp [hs.1], ?_⟩
  · rcases List.mem_append.1 he with he | he
    · exact h e he
    · simp only [List.mem_cons, List.not_mem_nil, or_false] at he
      subst he
      exact hx
  · rw [List.map_append, hs.2, wSpec, wSpec, wTail_succ, List.append_assoc]
    rfl

theorem cells_new (w : World) (cs : List Value) (t : TypeId) : ∀ j u, cs[j]? = some u → (w.alloc (.cells cs.toArray t)).cell? ((⟨w.heap.size, 0, none⟩ : Addr).add j) = some u := by
  intro j u hu
  rw [Addr.add_lit, cell_of_row _ w.heap.size (0 + j) cs.toArray t (0, 0) (heap_alloc_new w _)]
  simpa using hu

theorem one_ent (a : Option Addr) (n c : Nat) (x y z : Int) : ∀ u ∈ [Value.slice a n c, .int .i64 x, .int .i64 y, .int .u64 z], u.oneCell' = true := by
  intro u hu
  simp only [List.mem_cons, List.not_mem_nil, or_false] at hu
  rcases hu with rfl | rfl | rfl | rfl <;> rfl

/-- What a round of written does. -/
theorem written_step {w w4 w5 : World} {V : Int} {xs : List Int} {k : Nat} {es : List Ent} {u5 v5 : Value} {a4 : Option Addr} {n4 c4 : Nat} {o : Obj} (hnx : Below w.heap.size w w4) (hown4 : w4.ownsRow w.heap.size 39 4 u5 (k + 2) (entCells es))
    (hents4 : Ents w4 w.heap.size es) (hs : es.length = k + 2 ∧ es.map Ent.sort = wSpec V xs k) (hu4 : Own8 w4 w.heap.size (.slice a4 n4 c4) (fB (wV V (k + 1)) (k + 1))) (hgrow : (w4.alloc o).grownBy w5 u5.ownBlock)
    (hown5 : w5.ownsRow w.heap.size 39 4 v5 (k + 2 + 1) (entCells es ++ [.slice a4 n4 c4, .int .i64 4, .int .i64 ((k : Int) + 1), .int .u64 (wV V (k + 1))])) :
    ∃ es', w5.ownsRow w.heap.size 39 4 v5 (k + 1 + 2) (entCells es') ∧ Ents w5 w.heap.size es' ∧ Hid (es'.length = k + 1 + 2 ∧ es'.map Ent.sort = wSpec V xs (k + 1)) ∧ Below w.heap.size w w5 := by
  have hal : Below w4.heap.size w4 (w4.alloc o) := (Below.refl _ _).alloc (Nat.le_refl _) _
  have ha := hown4.alloc o
  have he := (hents4.below hal).grown ha hgrow
  have hu : Own8 w5 w.heap.size (.slice a4 n4 c4) (fB (wV V (k + 1)) (k + 1)) := ⟨(hu4.below hal).1.kept hgrow (owns_apart (hu4.below hal).1 ha (by decide)), hu4.2⟩
  have hS := ents_snoc he hs hu
  refine ⟨_, ?_, hS.1, hS.2, (hnx.alloc hnx.size o).grown hgrow (by have := hnx.size; simp; omega) (fun j hj => (hown4.lt j hj).1)⟩
  rw [entCells_snoc]
  exact hown5

theorem infoW : (Tryd.prog.info? 39).map (fun i => (i.zero, i.size, i.bytes)) = some (some (.agg #[.slice none 0 0, .int .i64 0, .int .i64 0, .int .u64 0]), 4, 48) := by kernel_rfl

set_option maxHeartbeats 400000 in
theorem written_calls (V : Int) {w : World} {vb : Value} {xs : List Int} (h0 : 0 ≤ V) (h1 : V ≤ 18446744073709551615) (hb : IsB w vb xs) (hl : xs.length ≤ 140737488351232) :
    Calls Tryd.prog 16 #[.int .u64 V, vb] w fun e w' => ∃ v es, e = .returned v ∧ w'.ownsRow w.heap.size 39 4 v es.length (entCells es) ∧ Ents w' w.heap.size es ∧ es.map Ent.sort = wSpec V xs 8 ∧ Below w.heap.size w w' := by
  obtain ⟨i0, hi, hz0, hz1, hz2⟩ := info_parts infoW
  have hb' := hb
  obtain ⟨_, a, cap, rfl, hlc, hm, _, _⟩ := hb
  obtain ⟨n, hn⟩ : ∃ n, n = xs.length := ⟨_, rfl⟩
  rw [← hn] at hlc hb' hl ⊢
  have HN := hide hn
  clear hn
  go_enter Tryd.func16, Tryd.ntmps16
  go_wp2_with fail
  refine (uint_own _ h0 (top9 h1)).mono ?_
  rintro e w1 ⟨a1, n1, c1, rfl, hu1, hb1⟩
  go_wp2_with fail
  refine (bytes_own (hb'.below hb1) (by rw [← HN.out]; exact hl)).mono ?_
  rintro e w2 ⟨a2, n2, c2, rfl, hu2, hb2⟩
  have hB2 := hb1.trans (hb2.mono hb1.size)
  have hu12 := hu1.below hb2
  have hu2' := hu2.mono hb1.size
  clear hb1 hb2 hu1 hu2
  go_wp2_with fail
  have hown0 : (w2.alloc (.cells #[.slice a1 n1 c1, .int .i64 2, .int .i64 0, .int .u64 V, .slice a2 n2 c2, .int .i64 6, .int .i64 (n : Int), .int .u64 0] 39)).ownsRow w.heap.size 39 4 (.slice (some ⟨w2.heap.size, 0, none⟩) 2 2) 2
      (entCells [⟨.slice a1 n1 c1, 2, 0, V, uBytes V⟩, ⟨.slice a2 n2 c2, 6, n, 0, bB xs⟩]) :=
    World.ownsRow_lit (base := w.heap.size) (e := 39) (size := 4) w2 _ 2 hB2.size (by decide) rfl
  have hn3 : Below w2.heap.size w2 (w2.alloc (.cells #[.slice a1 n1 c1, .int .i64 2, .int .i64 0, .int .u64 V, .slice a2 n2 c2, .int .i64 6, .int .i64 (n : Int), .int .u64 0] 39)) := (Below.refl _ _).alloc (Nat.le_refl _) _
  have hents0 : Ents (w2.alloc (.cells #[.slice a1 n1 c1, .int .i64 2, .int .i64 0, .int .u64 V, .slice a2 n2 c2, .int .i64 6, .int .i64 (n : Int), .int .u64 0] 39)) w.heap.size [⟨.slice a1 n1 c1, 2, 0, V, uBytes V⟩, ⟨.slice a2 n2 c2, 6, n, 0, bB xs⟩] := by
    intro e he
    simp only [List.mem_cons, List.not_mem_nil, or_false] at he
    rcases he with rfl | rfl
    · exact hu12.below hn3
    · exact hu2'.below hn3
  have hB3 := hB2.trans (hn3.mono hB2.size)
  go_loopw [5, 6] (fun l i wr => ∃ (k : Nat) (es : List Ent), k ≤ 8 ∧ i = .int .i64 ((k + 1 : Nat) : Int) ∧ wr.ownsRow w.heap.size 39 4 l (k + 2) (entCells es) ∧ Ents wr w.heap.size es ∧ Hid (es.length = k + 2 ∧ es.map Ent.sort = wSpec V xs k) ∧ Below w.heap.size w wr)
    (fun _ i _ => 10 - (intOf i).toNat)
  case atStart => exact ⟨0, _, by omega, rfl, hown0, hents0, ⟨rfl, by simp [Ent.sort, wSpec, wTail, HN.out]⟩, hB3⟩
  case round =>
    clear hown0 hents0 hn3 hB3 hB2 hu12 hu2'
    obtain ⟨k, es, hk, rfl, hown, hents, HES, hnx⟩ := hrel
    have hsz := hnx.size
    by_cases h8 : k < 7
    · obtain ⟨M, hM⟩ : ∃ M : Int, M = 2 ^ (8 * (k + 1)) := ⟨_, rfl⟩
      have hM1 := pow_le_top h8
      have hwr : IntKind.u64.wrap (2 ^ (8 * (k + 1))) = M := by rw [hM]; exact IntWalk.u64_in _ ⟨by omega, hM1.2⟩
      rw [← hM] at hM1
      obtain ⟨hM1, hM2⟩ := hM1
      have HM := hide hM
      clear hM
      go_wp2_with fail
      refine (fixed_own (k + 1) (by omega) _ (by exact Int.emod_nonneg _ (by omega)) (by omega) (by omega) (by rw [HM.out]; exact fits_lt)).mono ?_
      rintro e w4 ⟨a4, n4, c4, rfl, hu4, hb4⟩
      have hown4 : w4.ownsRow w.heap.size 39 4 u5 (k + 2) (entCells es) := owns_below hown hb4
      have hents4 := hents.below hb4
      have hnx4 := hnx.trans (hb4.mono hsz)
      have hsz4 := hnx4.size
      have hu4' := hu4.mono hsz
      clear hown hents hnx hb4 hu4
      go_wp2_with (at_builtin; refine wpList_append_own _ rfl _ _ 35 rfl w.heap.size 39 i0 _ 4 48 Tryd.underlying35 hi hz0 hz1 hz2 rfl (by decide) _ _ _ rfl (hown4.alloc _) ⟨w4.heap.size, 0, none⟩ 1 1 [.slice a4 n4 c4, .int .i64 4, .int .i64 ((k : Int) + 1), .int .u64 (V % M)] rfl rfl (cells_new _ _ _) (one_ent _ _ _ _ _ _) (by unfold maxLen; omega) (by omega) (by simp; omega) ?_; intro v5 w5 hown5 hgrow hnil)
      have hWV : wV V (k + 1) = V % M := by rw [wV_lt (by omega), HM.out]
      rw [← hWV] at hu4' hown5
      obtain ⟨es', q1, q2, q3, q4⟩ := written_step (k := k) hnx4 hown4 hents4 HES.out hu4' hgrow hown5
      go_roundw
      case rel => exact ⟨k + 1, es', by omega, by go_num, q1, q2, q3, q4⟩
      case measure => simp [intOf]; omega
    · by_cases h9 : k < 8
      · obtain rfl : k = 7 := by omega
        go_wp2_with fail
        refine (fixed_own (7 + 1) (by omega) _ (by exact h0) (by omega) (by omega) (fits_8 h0 h1)).mono ?_
        rintro e w4 ⟨a4, n4, c4, rfl, hu4, hb4⟩
        have hown4 : w4.ownsRow w.heap.size 39 4 u5 (7 + 2) (entCells es) := owns_below hown hb4
        have hents4 := hents.below hb4
        have hnx4 := hnx.trans (hb4.mono hsz)
        have hsz4 := hnx4.size
        have hu4' := hu4.mono hsz
        clear hown hents hnx hb4 hu4
        go_wp2_with (at_builtin; refine wpList_append_own _ rfl _ _ 35 rfl w.heap.size 39 i0 _ 4 48 Tryd.underlying35 hi hz0 hz1 hz2 rfl (by decide) _ _ _ rfl (hown4.alloc _) ⟨w4.heap.size, 0, none⟩ 1 1 [.slice a4 n4 c4, .int .i64 4, .int .i64 (8), .int .u64 (V)] rfl rfl (cells_new _ _ _) (one_ent _ _ _ _ _ _) (by unfold maxLen; omega) (by omega) (by simp; omega) ?_; intro v5 w5 hown5 hgrow hnil)
        have hWV : wV V (7 + 1) = V := wV_ge (by decide)
        have hu5 : Own8 w4 w.heap.size (.slice a4 n4 c4) (fB (wV V (7 + 1)) (7 + 1)) := by rw [hWV]; exact hu4'
        have hown6 : w5.ownsRow w.heap.size 39 4 v5 (7 + 2 + 1) (entCells es ++ [.slice a4 n4 c4, .int .i64 4, .int .i64 (((7 : Nat) : Int) + 1), .int .u64 (wV V (7 + 1))]) := by rw [hWV]; exact hown5
        obtain ⟨es', q1, q2, q3, q4⟩ := written_step (k := 7) hnx4 hown4 hents4 HES.out hu5 hgrow hown6
        go_roundw
        case rel => exact ⟨7 + 1, es', by omega, rfl, q1, q2, q3, q4⟩
        case measure => simp [intOf]
      · go_wp2
        go_ret
        obtain rfl : k = 8 := by omega
        have h := HES.out
        exact ⟨_, es, rfl, by rw [h.1]; exact hown, hents, h.2, hnx⟩

/-- The i-th writing lies in its four cells. -/
theorem entCells_at {es : List Ent} {i f : Nat} (hi : i < es.length) (hf : f < 4) : (entCells es)[4 * i + f]? = (es[i].cells)[f]? := by
  induction es generalizing i with
  | nil => simp at hi
  | cons e t ih =>
    have hl : e.cells.length = 4 := rfl
    rw [show entCells (e :: t) = e.cells ++ entCells t by simp [entCells]]
    cases i with
    | zero => rw [List.getElem?_append_left (by omega)]; simp
    | succ j =>
      rw [List.getElem?_append_right (by omega), hl, show 4 * (j + 1) + f - 4 = 4 * j + f by omega, ih (by simpa using hi)]
      simp
/-- The three kinds of writings. -/
theorem wSpec_len (V : Int) (xs : List Int) (k : Nat) : (wSpec V xs k).length = k + 2 := by simp [wSpec, wTail]
theorem sort_at {V : Int} {xs : List Int} {es : List Ent} (h : es.map Ent.sort = wSpec V xs 8) {i : Nat} (hi : i < es.length) :
    (i = 0 ∧ es[i].sort = (2, 0, V, uBytes V)) ∨ (i = 1 ∧ es[i].sort = (6, (xs.length : Int), 0, bB xs)) ∨ ∃ n : Nat, 1 ≤ n ∧ n ≤ 8 ∧ es[i].sort = (4, (n : Int), wV V n, fB (wV V n) n) := by
  have hl : es.length = 10 := by have := congrArg List.length h; rw [List.length_map, wSpec_len] at this; exact this
  have he : (es.map Ent.sort)[i]? = (wSpec V xs 8)[i]? := by rw [h]
  rw [List.getElem?_map, List.getElem?_eq_getElem hi, Option.map_some] at he
  match i, hi, he with
  | 0, _, he => left; exact ⟨rfl, by simpa [wSpec] using he⟩
  | 1, _, he => right; left; exact ⟨rfl, by simpa [wSpec] using he⟩
  | j + 2, hi, he =>
    right; right
    have hj : j < 8 := by omega
    refine ⟨j + 1, by omega, by omega, ?_⟩
    rw [wSpec, List.getElem?_append_right (by simp)] at he
    simp [wTail, hj] at he
    simpa using he
end Go.Proofs.YtmfdiicnhfadmaaDoor

/- tail of WireOwn; append of bytes onto a row that others share, at the walk. -/
import Derived.Test.YtmfpkoegpoboiabDoorJoin
import Derived.Test.YtmfpkoegpoboiabDoorFam
namespace Go.Proofs.YtmfpkoegpoboiabDoor
open Go.RowKit

section
variable {ops : Array Oper} {rest : List Oper} {o : Oper} {a : Act} {Q : Exit → Act → World → Prop} {w : World} {K : Act → World → Prop}
theorem wp_appSh (x y : Operand) (ho : o.op = .call { callee := .builtin .append, args := #[x, y], argTypes := #[23, 23] }) {B : Nat} {v : Value} {xs : List Value} {ad : Addr} {m c : Nat} {ys : List Int} (hx : a.eval x = v) (hrow : Row w B 5 v xs) (hy : a.eval y = .slice (some ad) m c) (hys : IsB w (.slice (some ad) m c) ys)
    (hl : xs.length + m ≤ 140737488355328) (hB : B ≤ w.heap.size) (hk : ∀ v' w', Row w' B 5 v' (xs ++ ys.map (Value.int .u8)) → w.grownBy w' v.ownBlock → (v'.ownBlock = v.ownBlock ∨ v'.ownBlock = some w.heap.size) → Shares w w' 5 v xs (ys.map (Value.int .u8)) → K (a.put o.dst v') w') : o.wp Tryd.prog a w K Q := by
  obtain ⟨i0, hi, hz0, hz1, hz2⟩ := info_parts info8
  have hm := hys.lenEq
  subst hm
  obtain ⟨v', w', hr, h2, h3, h4, h5⟩ := run_append_share (P := Tryd.prog) w B 23 o.type 5 i0 (.int .u8 0) 1 Tryd.underlying23 hi hz0 hz1 hz2 rfl v xs hrow ad ys.length c (ys.map (Value.int .u8)) (by simp) hys.cells (u8_one ys) (by unfold maxLen; omega) (by omega) hB
  unfold Oper.wp execOp
  simp only [ho, resolve, invoke, builtin, Sem.run_bind, Sem.run_pure, Result.andThen_ok, List.map_toArray, List.map_cons, List.map_nil, hx, hy, hr]
  exact hk v' w' h2 h3 h4 h5
theorem wpList_appSh (hgd : o.guard = none) (x y : Operand) (ho : o.op = .call { callee := .builtin .append, args := #[x, y], argTypes := #[23, 23] }) {B : Nat} {v : Value} {xs : List Value} {ad : Addr} {m c : Nat} {ys : List Int} (hx : a.eval x = v) (hrow : Row w B 5 v xs) (hy : a.eval y = .slice (some ad) m c) (hys : IsB w (.slice (some ad) m c) ys)
    (hl : xs.length + m ≤ 140737488355328) (hB : B ≤ w.heap.size) (hk : ∀ v' w', Row w' B 5 v' (xs ++ ys.map (Value.int .u8)) → w.grownBy w' v.ownBlock → (v'.ownBlock = v.ownBlock ∨ v'.ownBlock = some w.heap.size) → Shares w w' 5 v xs (ys.map (Value.int .u8)) → wpList Tryd.prog ops Q rest (a.put o.dst v') w') : wpList Tryd.prog ops Q (o :: rest) a w :=
  wpList_plain hgd fun _ hK => wp_appSh x y ho hx hrow hy hys hl hB fun v' w' h1 h2 h3 h4 => hK _ _ (hk v' w' h1 h2 h3 h4)
theorem step_appSh {E : Prop} (hgd : o.guard = none) (x y : Operand) (ho : o.op = .call { callee := .builtin .append, args := #[x, y], argTypes := #[23, 23] }) {B : Nat} {v : Value} {xs : List Value} {ad : Addr} {m c : Nat} {ys : List Int} (hx : a.eval x = v) (hrow : Row w B 5 v xs) (hy : a.eval y = .slice (some ad) m c) (hys : IsB w (.slice (some ad) m c) ys)
    (hl : xs.length + m ≤ 140737488355328) (hB : B ≤ w.heap.size) (hk : ∀ v' w', Row w' B 5 v' (xs ++ ys.map (Value.int .u8)) → w.grownBy w' v.ownBlock → (v'.ownBlock = v.ownBlock ∨ v'.ownBlock = some w.heap.size) → Shares w w' 5 v xs (ys.map (Value.int .u8)) → K (a.put o.dst v') w') : if Region.wanted o (yielded ops a.tmps) = true then Oper.wp Tryd.prog o a w K Q else E := by
  have hw : Region.wanted o (yielded ops a.tmps) = true := by simp [Region.wanted, hgd]
  rw [if_pos hw]
  exact wp_appSh x y ho hx hrow hy hys hl hB hk
end
theorem mapRep (n : Nat) (t : Int) : (List.replicate n t).map (Value.int .u8) = List.replicate n (Value.int .u8 t) := by simp

def sliceLen : Value → Nat
  | .slice _ n _ => n
  | _ => 0
theorem owns_slice {w : World} {B : Nat} {t : TypeId} {s : Nat} {v : Value} {n : Nat} {cs : List Value} (h : w.ownsRow B t s v n cs) : ∃ a c, v = .slice a n c := by
  rcases h.2 with ⟨rfl, rfl⟩ | ⟨g, cap, cur, rfl, _⟩
  · exact ⟨none, 0, rfl⟩
  · exact ⟨_, cap, rfl⟩
/-- The mark behind the i-th list. -/
def tm (i : Nat) : Int := ((251 + i % 5 : Nat) : Int)
theorem tm_byte (i : Nat) : 0 ≤ tm i ∧ tm i ≤ 255 := by unfold tm; omega
theorem tm_wrap (i : Nat) : (251 + (i : Int) % 5) % 256 = tm i := by unfold tm; omega
set_option maxHeartbeats 1000000 in
theorem tail_calls (i n : Nat) (w : World) (hi1 : i < 1000000) (hn1 : 0 < n) (hn : n ≤ 2) : Calls Tryd.prog 35 #[.int .i64 (i : Int), .int .i64 (n : Int)] w fun e w' => ∃ g c, e = .returned (.slice (some ⟨g, 0, none⟩) n c) ∧ IsB w' (.slice (some ⟨g, 0, none⟩) n c) (List.replicate n (tm i)) ∧ Below w.heap.size w w' := by
  obtain ⟨i0, hi, hz0, hz1, hz2⟩ := info_parts info8
  have hT := tm_wrap i
  go_enter Tryd.func35, Tryd.ntmps35
  go_wp2
  go_loopw [5] (fun l wr => ∃ (k : Nat), k ≤ n ∧ wr.ownsRow w.heap.size 5 1 l k (List.replicate k (Value.int .u8 (tm i))) ∧ Below w.heap.size w wr) (fun l _ => n - (sliceLen l))
  case atStart => exact ⟨0, by omega, World.ownsRow_nil _ _ _ _, Below.refl _ _⟩
  case round =>
    obtain ⟨k, hk, hown, hb⟩ := hrel
    have hsz := hb.size
    obtain ⟨a, c, rfl⟩ := owns_slice hown
    by_cases hlt : k < n
    · go_wp2_with (at_builtin; refine wpList_append_own _ rfl _ _ 23 rfl w.heap.size 5 i0 (.int .u8 0) 1 1 Tryd.underlying23 hi hz0 hz1 hz2 rfl (by decide) _ _ _ rfl (hown.alloc _) ⟨wr.heap.size, 0, none⟩ 1 1 [.int .u8 (tm i)] rfl rfl (cell_one_new _ _ _) (by intro u hu; simp at hu; subst hu; rfl) (by unfold maxLen; omega) (by omega) (by simp; omega) ?_; intro v5 w5 hown5 hgrow5 hnil5)
      have hnx5 : Below w.heap.size w w5 := (hb.alloc hsz _).grown hgrow5 (by simp; omega) (fun k hk => (hown.lt k hk).1)
      obtain ⟨a5, c5, rfl⟩ := owns_slice hown5
      go_roundw
      case rel => exact ⟨k + 1, by omega, by rw [List.replicate_succ']; exact hown5, hnx5⟩
      case measure => simp [sliceLen]; omega
    · obtain rfl : k = n := by omega
      obtain ⟨g, cp, hv, hcp, hcpm, hgB, _⟩ := owns_shape hown hn1
      injection hv with e1 _ e3
      subst e1 e3
      go_wp2
      go_ret
      have hI := isB_owns (xs := List.replicate k (tm i)) (by rw [mapRep]; exact hown) (fun x hx => by rw [List.eq_of_mem_replicate hx]; exact tm_byte i)
      exact ⟨g, c, rfl, hI, hb⟩
end Go.Proofs.YtmfpkoegpoboiabDoor

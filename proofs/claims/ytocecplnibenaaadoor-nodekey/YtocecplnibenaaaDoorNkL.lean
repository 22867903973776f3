/- NodeKey: the walk. -/
import Derived.Test.YtocecplnibenaaaDoorNkR
import Derived.Test.YtocecplnibenaaaDoorNAp
import Derived.Test.YtocecplnibenaaaDoorNmW
namespace Go.Proofs.YtocecplnibenaaaDoor
open Go.RowKit Go.Maps

theorem store8k_run {W : World} {b o : Nat} {x : Int} {u : Value} (h : W.cell? ⟨b, o, none⟩ = some u) (hf : W.frozen? ⟨b, o, none⟩ = false) : (Instr.storeAt 5 (.pointer (some ⟨b, o, none⟩)) (.int .u8 x)).run Tryd.prog W = .ok () (W.setCell ⟨b, o, none⟩ (.int .u8 x)) := by
  have hu := Tryd.underlying5
  go_simp
section
variable {ops : Array Oper} {rest : List Oper} {o : Oper} {a : Act} {Q : Exit → Act → World → Prop} {w : World} {K : Act → World → Prop} {E : Prop}
theorem step_store8k (hgd : o.guard = none) (x y : Operand) (ho : o.op = .store 5 x y) {b of : Nat} {z : Int} {u : Value} (hx : a.eval x = .pointer (some ⟨b, of, none⟩)) (hy : a.eval y = .int .u8 z) (hc : w.cell? ⟨b, of, none⟩ = some u) (hf : w.frozen? ⟨b, of, none⟩ = false) (hk : K (a.put o.dst undef) (w.setCell ⟨b, of, none⟩ (.int .u8 z))) : if Region.wanted o (yielded ops a.tmps) = true then Oper.wp Tryd.prog o a w K Q else E := by
  rw [if_pos (by simp [Region.wanted, hgd])]
  unfold Oper.wp execOp
  simp only [ho, hx, hy, Sem.run_bind, store8k_run hc hf, Result.andThen_ok, Sem.run_pure]
  exact hk
theorem wpList_putE (hgd : o.guard = none) (x y : Operand) (t : TypeId) (ho : o.op = .store t x y) {B g n c k j : Nat} {l : List Ent} {ds : List Value} {e' : Ent} (hx : a.eval x = .pointer (some ⟨g, k * 68 + j, none⟩)) (hy : a.eval y = .agg ds.toArray) (h : OwnE w B (.slice (some ⟨g, 0, none⟩) n c) l) (hn : l.length = n) (hk : k < n) (hi : (Tryd.prog.info? t).map (·.size) = some ds.length) (hj : j + ds.length ≤ 68) (h1 : ∀ u ∈ ds, u.oneCell' = true)
    (he : putsV (enV (l.getD k default)) j ds = enV e') (hok : EnOk e')
    (hq : ∀ w', OwnE w' B (.slice (some ⟨g, 0, none⟩) n c) (l.set k e') → w.grownBy w' (some g) → wpList Tryd.prog ops Q rest (a.put o.dst undef) w') : wpList Tryd.prog ops Q (o :: rest) a w := by
  obtain ⟨a1, b1⟩ := h.put hn hk hj he hok
  exact wpList_store_mid hgd t x y ho g (k * 68 + j) ds.toArray hx hy (by simpa using h.room hn hk hj) (by simpa using hi) (all_oneCell_toArray h1) (hq _ (by simpa using a1) (by simpa using b1))
end
theorem mkS_snoc (x : List Int) (b : Nat) : mkS x ++ ⟨#[UInt8.ofNat b]⟩ = mkS (x ++ [((b : Nat) : Int)]) := by
  refine toL_inj ?_
  rw [toL_mkS, List.map_append]
  show (mkS x ++ ⟨#[UInt8.ofNat b]⟩ : ByteArray).data.toList = _
  rw [ByteArray.data_append, Array.toList_append]
  have h : (mkS x).data.toList = _ := toL_mkS x
  rw [h]
  simp
theorem bK0z (W : World) : (Instr.build 31 #[]).run Tryd.prog W = .ok (.agg (zK.map (Value.int .u8)).toArray) W := by rw [← z32_zK]; exact bK0 W
theorem zK_len : zK.length = 32 := by unfold zK; simp
theorem IsEn.tail0 {w : World} {a : Option Addr} {m c : Nat} {l : List Ent} (h : IsEn w (.slice a m c) l) (hm : m = 0) : l = [] := List.eq_nil_of_length_eq_zero (by have := h.lenEq.1; omega)
end Go.Proofs.YtocecplnibenaaaDoor

/- Byte strings that lie beside one another in a Kept. Settle of byte strings that lie untouched. Byte strings and lists that lie beside one another, and what is held against them. -/
import Derived.Test.YtpklbchbldipnabDoorNAu
import Derived.Test.YtpklbchbldipnabDoorNAj
namespace Go.Proofs.YtpklbchbldipnabDoor
open Go.RowKit Go.Maps Classical

def TT (t : TypeId) : Prop := t = 5 ∨ t = 25
theorem rowB_below {w w' : World} {B : Nat} {t : TypeId} {v : Value} {xs : List Value} (h : Row w B t v xs) (hb : Below w.heap.size w w') : Row w' B t v xs := h.grown ⟨hb.os, hb.tape, hb.output, hb.size, fun k hk _ => hb.block k hk⟩
theorem arr_off {w : World} {p B : Nat} {t t2 : TypeId} {cs xs : List Value} {v : Value} (h : Arr w p t cs) (hr : Row w B t2 v xs) (ht : t ≠ t2) : some p ≠ v.ownBlock := by
  rcases hr.2 with ⟨rfl, _⟩ | ⟨g, cap, cur, rfl, _, hg, _⟩
  · simp [Value.ownBlock]
  · intro e
    simp only [Value.ownBlock, Option.some.injEq] at e
    subst e
    have h' : w.heap[p]? = some (.cells cs.toArray t) := h
    rw [hg] at h'
    simp only [Option.some.injEq, Obj.cells.injEq] at h'
    exact ht h'.2.1.symm
theorem arr_grown {w w' : World} {p : Nat} {t : TypeId} {cs : List Value} {row : Option Nat} (h : Arr w p t cs) (hg : w.grownBy w' row) (hne : some p ≠ row) : Arr w' p t cs := h.keep (hg.block p h.lt hne)
/-- The state of the loops. -/
structure Sb (w W : World) (B p gL n cL : Nat) (us KC : List Value) (U : Nat → Value) (R : Nat → List Value) : Prop where
  arr : Arr W p 58 KC
  rl : Row W B 25 (.slice (some ⟨gL, 0, none⟩) n cL) us
  ln : Lines W B w.heap.size 5 U R n
  ch : Ch B TT w W
theorem Sb.below {w W W' : World} {B p gL n cL : Nat} {us KC : List Value} {U : Nat → Value} {R : Nat → List Value} (h : Sb w W B p gL n cL us KC U R) (hb : Below W.heap.size W W') : Sb w W' B p gL n cL us KC U R :=
  ⟨h.arr.below hb, rowB_below h.rl hb, h.ln.below hb, h.ch.trans (Ch.of_below hb)⟩
theorem Sb.ext {w W : World} {B p gL n cL : Nat} {us KC : List Value} {U : Nat → Value} {R R' : Nat → List Value} (h : Sb w W B p gL n cL us KC U R) (he : ∀ k, k < n → R' k = R k) : Sb w W B p gL n cL us KC U R' := ⟨h.arr, h.rl, h.ln.ext he, h.ch⟩
theorem Sb.row {w W W' : World} {B p gL n cL i : Nat} {us KC ys : List Value} {U : Nat → Value} {R : Nat → List Value} (h : Sb w W B p gL n cL us KC U R) (hi : i < n) (hg : W.grownBy W' (U i).ownBlock) (hr : Row W' B 5 (U i) ys) : Sb w W' B p gL n cL us KC U (upd R i ys) :=
  ⟨arr_grown h.arr hg (arr_off h.arr (h.ln.row i hi) (by decide)), h.rl.kept hg (h.rl.apart (h.ln.row i hi) (by decide)), h.ln.step hi hg hr, h.ch.trans (Ch.of_owns (h.ln.row i hi) (Nat.le_refl _) hg (Or.inl rfl))⟩
theorem Sb.more {w W W' : World} {B p gL n cL : Nat} {us KC ms : List Value} {mr : Value} {U : Nat → Value} {R : Nat → List Value} (h : Sb w W B p gL n cL us KC U R) (hm : Row W w.heap.size 25 mr ms) (hgl : gL < w.heap.size) (hB : B ≤ w.heap.size) (hg : W.grownBy W' mr.ownBlock) : Sb w W' B p gL n cL us KC U R :=
  ⟨arr_grown h.arr hg (arr_off h.arr hm (by decide)), h.rl.kept hg (Or.inr fun e => by have := (hm.lt gL e.symm).1; omega), ⟨fun k hk => (h.ln.row k hk).kept hg ((h.ln.row k hk).apart hm (by decide)), h.ln.hi, h.ln.apart⟩, h.ch.trans (Ch.of_owns hm hB hg (Or.inr rfl))⟩
def mvb (i : Nat) : Value := .int .u8 (1 + (i : Int))
def Rmb (L : Nat → Nat) (X : Nat → List Value) (i : Nat) : Nat → List Value := fun k => if k < i then List.replicate (L k) (mvb k) else X k
theorem Rmb_lt {L : Nat → Nat} {X : Nat → List Value} {i k : Nat} (h : k < i) : Rmb L X i k = List.replicate (L k) (mvb k) := if_pos h
theorem Rmb_ge {L : Nat → Nat} {X : Nat → List Value} {i k : Nat} (h : ¬ k < i) : Rmb L X i k = X k := if_neg h
theorem infoLb : (Tryd.prog.info? 25).map (fun i => (i.zero, i.size, i.bytes)) = some (some (.slice none 0 0), 1, 24) := by kernel_rfl
theorem infoU8 : (Tryd.prog.info? 5).map (fun i => (i.zero, i.size, i.bytes)) = some (some (.int .u8 0), 1, 1) := by kernel_rfl
section
variable {ops : Array Oper} {rest : List Oper} {o : Oper} {a : Act} {Q : Exit → Act → World → Prop} {w : World} {K : Act → World → Prop}
theorem wp_appBh (x y : Operand) (ho : o.op = .call { callee := .builtin .append, args := #[x, y], argTypes := #[25, 25] }) {B : Nat} {v : Value} {xs : List Value} {ad : Addr} {m c : Nat} {ys : List Value} (hx : a.eval x = v) (hrow : Row w B 5 v xs) (hy : a.eval y = .slice (some ad) m c) (hl2 : ys.length = m) (hys : ∀ j u, ys[j]? = some u → w.cell? (ad.add j) = some u) (h1 : ∀ u ∈ ys, u.oneCell' = true)
    (hl : xs.length + m ≤ 1000000000) (hB : B ≤ w.heap.size) (hk : ∀ v' w', Row w' B 5 v' (xs ++ ys) → w.grownBy w' v.ownBlock → (v'.ownBlock = v.ownBlock ∨ v'.ownBlock = some w.heap.size) → Shares w w' 5 v xs ys → K (a.put o.dst v') w') : o.wp Tryd.prog a w K Q := by
  obtain ⟨i0, hi, hz0, hz1, hz2⟩ := info_parts infoU8
  obtain ⟨v', w', hr, h2, h3, h4, h5⟩ := run_append_share (P := Tryd.prog) w B 25 o.type 5 i0 (.int .u8 0) 1 Tryd.underlying25 hi hz0 hz1 hz2 rfl v xs hrow ad m c ys hl2 hys h1 (by unfold maxLen; omega) (by omega) hB
  unfold Oper.wp execOp
  simp only [ho, resolve, invoke, builtin, Sem.run_bind, Sem.run_pure, Result.andThen_ok, List.map_toArray, List.map_cons, List.map_nil, hx, hy, hr]
  exact hk v' w' h2 h3 h4 h5
theorem wpList_appBh (hgd : o.guard = none) (x y : Operand) (ho : o.op = .call { callee := .builtin .append, args := #[x, y], argTypes := #[25, 25] }) {B : Nat} {v : Value} {xs : List Value} {ad : Addr} {m c : Nat} {ys : List Value} (hx : a.eval x = v) (hrow : Row w B 5 v xs) (hy : a.eval y = .slice (some ad) m c) (hl2 : ys.length = m) (hys : ∀ j u, ys[j]? = some u → w.cell? (ad.add j) = some u) (h1 : ∀ u ∈ ys, u.oneCell' = true)
    (hl : xs.length + m ≤ 1000000000) (hB : B ≤ w.heap.size) (hk : ∀ v' w', Row w' B 5 v' (xs ++ ys) → w.grownBy w' v.ownBlock → (v'.ownBlock = v.ownBlock ∨ v'.ownBlock = some w.heap.size) → Shares w w' 5 v xs ys → wpList Tryd.prog ops Q rest (a.put o.dst v') w') : wpList Tryd.prog ops Q (o :: rest) a w :=
  wpList_plain hgd fun _ hK => wp_appBh x y ho hx hrow hy hl2 hys h1 hl hB fun v' w' h1 h2 h3 h4 => hK _ _ (hk v' w' h1 h2 h3 h4)
end
/-- What the first i byte strings have become, lengthened by seventy. -/
def Lgb (w : World) (B S : Nat) (U : Nat → Value) (L : Nat → Nat) (ms : List Value) (i : Nat) : Prop :=
  ∀ k, k < i → ∃ u, ms[k]? = some u ∧ Row w B 5 u (longer (mvb k) (mvb k) (L k) 70) ∧ (u.ownBlock = (U k).ownBlock ∨ ∃ g, u.ownBlock = some g ∧ S ≤ g)
theorem Lgb.step {w w' : World} {B S : Nat} {U : Nat → Value} {R : Nat → List Value} {L : Nat → Nat} {ms : List Value} {n i : Nat} (h : Lgb w B S U L ms i) (hi : i < n) (hR : Lines w B S 5 U R n) (hg : w.grownBy w' (U i).ownBlock) : Lgb w' B S U L ms i := by
  intro k hk
  obtain ⟨u, h1, h2, h3⟩ := h k hk
  refine ⟨u, h1, h2.kept hg ?_, h3⟩
  rcases h3 with h3 | ⟨g, hg1, hg2⟩
  · rw [h3]; exact hR.apart k i (by omega) hi (by omega)
  · refine Or.inr fun e => ?_
    have := hR.hi i hi g (e.symm.trans hg1)
    omega
theorem Lgb.lines {w w' : World} {B S : Nat} {U : Nat → Value} {L : Nat → Nat} {ms : List Value} {i : Nat} (h : Lgb w B S U L ms i) (hR : ∀ u xs, Row w B 5 u xs → Row w' B 5 u xs) : Lgb w' B S U L ms i := by
  intro k hk
  obtain ⟨u, h1, h2, h3⟩ := h k hk
  exact ⟨u, h1, hR _ _ h2, h3⟩
theorem Lgb.add {w : World} {B S : Nat} {U : Nat → Value} {L : Nat → Nat} {ms : List Value} {i : Nat} (h : Lgb w B S U L ms i) (hm : ms.length = i) {g1 : Value} {wr : World} (hS : S ≤ wr.heap.size)
    (r1 : Row w B 5 g1 (longer (mvb i) (mvb i) (L i) 70)) (l1 : Loc wr (U i) g1) : Lgb w B S U L (ms ++ [g1]) (i + 1) := by
  intro k hk
  by_cases e : k < i
  · obtain ⟨u, h1, h2, h3⟩ := h k e
    exact ⟨u, by rw [List.getElem?_append_left (by omega)]; exact h1, h2, h3⟩
  · obtain rfl : k = i := by omega
    refine ⟨g1, by rw [List.getElem?_append_right (by omega), hm, Nat.sub_self]; rfl, r1, ?_⟩
    rcases l1 with hg | ⟨j, h1, h2⟩
    · exact Or.inl hg
    · exact Or.inr ⟨j, h1, by omega⟩
end Go.Proofs.YtpklbchbldipnabDoor

namespace Go.Proofs.YtpklbchbldipnabDoor
open Go.RowKit Go.Maps Classical

set_option maxRecDepth 100000 in
set_option maxHeartbeats 16000000 in
theorem settle_calls {w : World} {B p n gL cL gW cW : Nat} {us ws : List Value} {U : Nat → Value} {X : Nat → List Int} {L : Nat → Nat} (hA : Arr w p 58 [.slice (some ⟨gL, 0, none⟩) n cL, .slice (some ⟨gW, 0, none⟩) n cW]) (hl : Row w B 25 (.slice (some ⟨gL, 0, none⟩) n cL) us) (hlw : Row w B 25 (.slice (some ⟨gW, 0, none⟩) n cW) ws)
    (hun : us.length = n) (hus : ∀ k, k < n → us[k]? = some (U k)) (hwn : ws.length = n) (hws : ∀ k, k < n → ∃ u, ws[k]? = some u ∧ IsB w u (X k)) (hR : Lines w B w.heap.size 5 U (fun k => (X k).map (Value.int .u8)) n) (hX : ∀ k, k < n → IsB w (U k) (X k)) (hn0 : 0 < n) (hn : n ≤ 100) (hL : ∀ k, k < n → (X k).length = L k ∧ L k ≤ 1000000) (hB : B ≤ w.heap.size) :
    Calls Tryd.prog 25 #[.pointer (some ⟨p, 0, none⟩)] w fun e w' => e = .returned (.bool true) ∧ Ch B TT w w' := by
  have HUN := hide hun
  have HUS := hide hus
  have HLL := hide hL
  obtain ⟨gL', cL', e0, hc1, hc2, _, hgLw⟩ := hl.head (by rw [hun]; exact hn0)
  injection e0 with e1 e2 e3
  clear e2
  injection e1 with e1
  injection e1 with e1
  subst e1 e3
  rw [hun] at hc1
  obtain ⟨gW', cW', e0, hd1, hd2, _, _⟩ := hlw.head (by rw [hwn]; exact hn0)
  injection e0 with e1 e2 e3
  clear e2
  injection e1 with e1
  injection e1 with e1
  subst e1 e3
  rw [hwn] at hd1
  have hp0 : w.cell? ⟨p, 0, none⟩ = some (.slice (some ⟨gL, 0, none⟩) n cL) := by rw [hA.cell]; rfl
  have hp1 : w.cell? ⟨p, 1, none⟩ = some (.slice (some ⟨gW, 0, none⟩) n cW) := by rw [hA.cell]; rfl
  have HSM : Hid (∀ i, i < n → ∃ a1 n1 c1 a2 n2 c2, (∀ W, Below w.heap.size w W → W.cell? ⟨p, 0, none⟩ = some (.slice (some ⟨gL, 0, none⟩) n cL) ∧ W.cell? ⟨p, 1, none⟩ = some (.slice (some ⟨gW, 0, none⟩) n cW) ∧ W.cell? ⟨gL, i, none⟩ = some (.slice a1 n1 c1) ∧ W.cell? ⟨gW, i, none⟩ = some (.slice a2 n2 c2)) ∧ ∀ W, Below w.heap.size w W → Calls Tryd.prog 9 #[.slice a1 n1 c1, .slice a2 n2 c2] W fun e w' => e = .returned (.bool true) ∧ Below w.heap.size w w') := fun i hi => by
    obtain ⟨u, hu1, hu2⟩ := hws i hi
    have hx := hX i hi
    obtain ⟨a1, n1, c1, s1⟩ := hx.shape
    obtain ⟨a2, n2, c2, s2⟩ := hu2.shape
    have k1 : w.cell? ⟨gL, i, none⟩ = some (.slice a1 n1 c1) := by rw [hl.cellAt (by rw [hun]; exact hi), hus i hi, s1]
    have k2 : w.cell? ⟨gW, i, none⟩ = some (.slice a2 n2 c2) := by rw [hlw.cellAt (by rw [hwn]; exact hi), hu1, s2]
    rw [s1] at hx
    rw [s2] at hu2
    refine ⟨a1, n1, c1, a2, n2, c2, fun W hW => ⟨(hW.cell (p := ⟨p, 0, none⟩) (World.block_lt_of_cell? w _ hp0)).trans hp0, (hW.cell (p := ⟨p, 1, none⟩) (World.block_lt_of_cell? w _ hp1)).trans hp1, (hW.cell (p := ⟨gL, i, none⟩) (World.block_lt_of_cell? w _ k1)).trans k1, (hW.cell (p := ⟨gW, i, none⟩) (World.block_lt_of_cell? w _ k2)).trans k2⟩, fun W hW => ?_⟩
    refine (same_calls (hx.below hW) (hu2.below hW)).mono ?_
    rintro e w' ⟨x1, x2⟩
    exact ⟨x1, hW.trans ((below_same x2).mono hW.size)⟩
  have HP : Hid (∀ W, Below w.heap.size w W → W.cell? ⟨p, 0, none⟩ = some (.slice (some ⟨gL, 0, none⟩) n cL)) := fun W hW => (hW.cell (p := ⟨p, 0, none⟩) (World.block_lt_of_cell? w _ hp0)).trans hp0
  obtain ⟨KC, hKC⟩ : ∃ KC, [Value.slice (some ⟨gL, 0, none⟩) n cL, .slice (some ⟨gW, 0, none⟩) n cW] = KC := ⟨_, rfl⟩
  rw [hKC] at hA
  have HKC : Hid (KC[0]? = some (.slice (some ⟨gL, 0, none⟩) n cL)) := by rw [← hKC]; exact rfl
  have HSB : Hid (∀ W, Below w.heap.size w W → Sb w W B p gL n cL us KC U (fun k => (X k).map (Value.int .u8))) := fun W hW => ⟨hA.below hW, rowB_below hl hW, hR.below hW, Ch.of_below hW⟩
  obtain ⟨i0, hi, hz0, hz1, hz2⟩ := info_parts infoLb
  obtain ⟨XV, hXV⟩ : ∃ XV : Nat → List Value, (fun k => (X k).map (Value.int .u8)) = XV := ⟨_, rfl⟩
  have HXL : Hid (∀ k, k < n → (XV k).length = L k) := fun k hk => by
    rw [← hXV]
    show ((X k).map (Value.int .u8)).length = _
    rw [List.length_map]
    exact (hL k hk).1
  rw [hXV] at HSB
  clear hun hus hL hA hl hlw hwn hws hR hX hp0 hp1 hKC hXV
  go_enter Tryd.func25, Tryd.ntmps25
  go_wp2_with fail
  go_loopw [3] (fun iv W => ∃ i : Nat, i ≤ n ∧ iv = .int .i64 (i : Int) ∧ Hid (Below w.heap.size w W)) (fun iv _ => n - (intOf iv).toNat)
  case atStart => exact ⟨0, by omega, rfl, Below.refl _ _⟩
  case round =>
    obtain ⟨i4, hi4, rfl, HB⟩ := hrel
    have hp0 := unhide HP wr HB.out
    by_cases hlt4 : i4 < n
    · obtain ⟨a1, n1, c1, a2, n2, c2, hcl, hsm⟩ := unhide HSM i4 hlt4
      have HCL := hide hcl
      have HS4 := hide hsm
      have hltI4 : (i4 : Int) < (n : Int) := by omega
      clear hcl hsm
      go_wp2_with fail
      focus (go_region_held3 (fun W => W.cell? ⟨p, 0, none⟩ = some (.slice (some ⟨gL, 0, none⟩) n cL) ∧ W.cell? ⟨p, 1, none⟩ = some (.slice (some ⟨gW, 0, none⟩) n cW) ∧ W.cell? ⟨gL, i4, none⟩ = some (.slice a1 n1 c1) ∧ W.cell? ⟨gW, i4, none⟩ = some (.slice a2 n2 c2))
        ((refine unhide HCL _ ?_; (repeat (first | assumption | exact HB.out | exact Below.refl _ _ | refine Below.drew ?_))))
        (first
          | (go_at_call 9; refine (unhide HS4 _ (by repeat (first | assumption | exact HB.out | exact Below.refl _ _ | refine Below.drew ?_))).mono ?_; rintro e w9 ⟨rfl, hb9⟩)))
      go_wp2
      go_roundw
      case rel => exact ⟨i4 + 1, by omega, by go_num, hb9⟩
      case measure => simp [intOf]; omega
    · have hltI4 : ¬ (i4 : Int) < (n : Int) := by omega
      have HS0 := hide (unhide HSB wr HB.out)
      clear HSM HSB HB HP
      go_wp2_with fail
      rename World => w0
      go_loopw [4] (fun iv W => ∃ (i : Nat), i ≤ n ∧ iv = .int .i64 (i : Int) ∧ Hid (Sb w W B p gL n cL us KC U (Rmb L XV i))) (fun i _ => n - (intOf i).toNat)
      case atStart => exact ⟨0, by omega, rfl, HS0.out.ext fun k hk => Rmb_ge (by omega)⟩
      case round =>
        clear HS0 hp0
        obtain ⟨i, hin, rfl, HS⟩ := hrel
        have hp0 : wr.cell? ⟨p, 0, none⟩ = some (.slice (some ⟨gL, 0, none⟩) n cL) := by rw [HS.out.arr.cell]; exact HKC.out
        by_cases hlt : i < n
        · have hri := HS.out.ln.row i hlt
          rw [Rmb_ge (by omega)] at hri
          obtain ⟨m, hm⟩ : ∃ m, m = L i := ⟨_, rfl⟩
          have hxl := unhide HXL i hlt
          obtain ⟨_, hmb⟩ := unhide HLL i hlt
          rw [← hm] at hxl hmb
          obtain ⟨a, c, hui⟩ := hri.shape
          rw [hxl] at hui
          have HXI := hide hxl
          have HUI := hide hui
          have HMM := hide hm
          have hiI : (i : Int) < (n : Int) := by omega
          clear hxl hui hm hri
          go_wp2_with fail
          go_loopw [5] (fun jv W => ∃ (j : Nat), j ≤ m ∧ jv = .int .i64 (j : Int) ∧ Hid (Sb w W B p gL n cL us KC U (upd (Rmb L XV i) i (marked (mvb i) j (XV i))))) (fun j _ => m - (intOf j).toNat)
          case atStart =>
            refine ⟨0, by omega, rfl, HS.out.ext fun k hk => ?_⟩
            by_cases e : k = i
            · subst e; rw [upd_same, marked_zero, Rmb_ge (by omega)]
            · rw [upd_other _ _ e]
          case round =>
            clear HS hp0
            obtain ⟨j, hj, rfl, HS2⟩ := hrel
            have hp0 : wr.cell? ⟨p, 0, none⟩ = some (.slice (some ⟨gL, 0, none⟩) n cL) := by rw [HS2.out.arr.cell]; exact HKC.out
            have hcell : wr.cell? ⟨gL, i, none⟩ = some (.slice a m c) := by
              rw [HS2.out.rl.cellAt (by rw [HUN.out]; exact hlt), unhide HUS i hlt, HUI.out]
            by_cases hjm : j < m
            · have hri := HS2.out.ln.row i hlt
              rw [upd_same, HUI.out] at hri
              have hlen : (marked (mvb i) j (XV i)).length = m := by rw [marked_len (by rw [HXI.out]; omega), HXI.out]
              obtain ⟨g, c2, hv, hg1, hg2, hgB, hgw⟩ := hri.head (by rw [hlen]; omega)
              rw [hlen] at hg1
              injection hv with e1 e2 e3
              subst e1 e3
              have hold : wr.cell? ⟨g, j, none⟩ = (marked (mvb i) j (XV i))[j]? := hri.cellAt (by rw [hlen]; exact hjm)
              obtain ⟨old, hold2⟩ : ∃ old, (marked (mvb i) j (XV i))[j]? = some old := ⟨_, List.getElem?_eq_getElem (by rw [hlen]; exact hjm)⟩
              rw [hold2] at hold
              have hfr := hri.frozenAt j
              have hjI : (j : Int) < (m : Int) := by omega
              have hrem : (i : Int).tmod 250 = (i : Int) := by rw [Int.tmod_eq_emod_of_nonneg (by omega)]; omega
              obtain ⟨hs1, hs2⟩ := hri.set j (mvb i)
              rw [marked_set (by rw [HXI.out]; exact hjm)] at hs1
              have hu : (U i).ownBlock = some g := by rw [HUI.out]; rfl
              have HF : Hid (Sb w (wr.setCell ⟨g, j, none⟩ (.int .u8 (1 + (i : Int)))) B p gL n cL us KC U (upd (Rmb L XV i) i (marked (mvb i) (j + 1) (XV i)))) := by
                refine (HS2.out.row hlt (W' := wr.setCell ⟨g, j, none⟩ (mvb i)) (ys := marked (mvb i) (j + 1) (XV i)) (by rw [hu]; exact hs2) (by rw [HUI.out]; exact hs1)).ext fun k hk => ?_
                by_cases e : k = i
                · subst e; rw [upd_same, upd_same]
                · rw [upd_other _ _ e, upd_other _ _ e, upd_other _ _ e]
              clear hold2 hlen e2 hs1 hs2 hri hu HS2
              go_wp2
              go_roundw
              case rel => exact ⟨j + 1, by omega, by go_num, HF⟩
              case measure => simp [intOf]; omega
            · have hjI : ¬ (j : Int) < (m : Int) := by omega
              have HF : Hid (Sb w wr B p gL n cL us KC U (Rmb L XV (i + 1))) := HS2.out.ext fun k hk => by
                by_cases e : k = i
                · subst e
                  obtain rfl : j = m := by omega
                  rw [upd_same, Rmb_lt (by omega), ← HMM.out, ← HXI.out, marked_all]
                · rw [upd_other _ _ e]
                  by_cases e2 : k < i
                  · rw [Rmb_lt e2, Rmb_lt (by omega)]
                  · rw [Rmb_ge e2, Rmb_ge (by omega)]
              clear HS2
              go_wp2
              go_roundw
              case rel => exact ⟨i + 1, by omega, by go_num, HF⟩
              case measure => simp [intOf]; omega
        · obtain rfl : i = n := by omega
          have hiN : ¬ (i : Int) < (i : Int) := by omega
          clear hi4 hlt4 hltI4
          go_wp2_with fail
          go_loopw [6, 7] (fun mr iv W => ∃ (k : Nat) (ms : List Value), k ≤ i ∧ iv = .int .i64 (k : Int) ∧ ms.length = k ∧ Row W w.heap.size 25 mr ms ∧ Hid (Sb w W B p gL i cL us KC U (Rmb L XV i) ∧ Lgb W B w.heap.size U L ms k)) (fun _ k _ => i - (intOf k).toNat)
          case atStart => exact ⟨0, [], by omega, rfl, rfl, Row.nil _ _ _, HS.out, fun k hk => by omega⟩
          case round =>
            clear HS hp0
            obtain ⟨k, ms, hk, rfl, hms, hmr, HS2⟩ := hrel
            obtain ⟨hS2, hlg⟩ := HS2.out
            have hp0 : wr.cell? ⟨p, 0, none⟩ = some (.slice (some ⟨gL, 0, none⟩) i cL) := by rw [hS2.arr.cell]; exact HKC.out
            by_cases hlt2 : k < i
            · obtain ⟨m, hm⟩ : ∃ m, m = L k := ⟨_, rfl⟩
              obtain ⟨_, hmb⟩ := unhide HLL k hlt2
              rw [← hm] at hmb
              have hr0 := hS2.ln.row k hlt2
              rw [Rmb_lt hlt2, ← hm, ← longer_zero (mvb k) (mvb k)] at hr0
              obtain ⟨a, c, hui⟩ := hr0.shape
              rw [longer_len, Nat.add_zero] at hui
              have hcell : wr.cell? ⟨gL, k, none⟩ = some (.slice a m c) := by
                rw [hS2.rl.cellAt (by rw [HUN.out]; exact hlt2), unhide HUS k hlt2, hui]
              have hszO := hS2.ch.size
              have hBr : B ≤ wr.heap.size := Nat.le_trans hB hszO
              rw [hui] at hr0
              have HMM := hide hm
              have HUI := hide hui
              have HMS := hide hms
              have HMR := hide hmr
              have hkI : (k : Int) < (i : Int) := by omega
              have HSS := hide hS2
              have HLG := hide hlg
              clear hm hui hms hlt hin hS2 hlg HS2 hmr
              go_wp2_with fail
              go_loopw [8, 9] (fun gv nv W => ∃ (q : Nat), q ≤ 70 ∧ nv = .int .i64 (q : Int) ∧ wr.grownBy W (Value.slice a m c).ownBlock ∧ Row W B 5 (.slice a m c) (longer (mvb k) (mvb k) m 0) ∧ Row W B 5 gv (longer (mvb k) (mvb k) m q) ∧ Loc wr (.slice a m c) gv) (fun _ n _ => 70 - (intOf n).toNat)
              case atStart => exact ⟨0, by omega, rfl, grown_refl _ _, hr0, hr0, Or.inl rfl⟩
              case round =>
                clear hcell hr0 hp0
                obtain ⟨q, hq, rfl, hG5, hu5, hw5, hL5⟩ := hrel
                obtain ⟨a5, c5, hs5⟩ := hw5.shape
                rw [longer_len] at hs5
                subst hs5
                have hszG := hG5.size
                by_cases hqz : q < 70
                · have hqI : (q : Int) < 70 := by omega
                  have hrem : (k : Int).tmod 250 = (k : Int) := by rw [Int.tmod_eq_emod_of_nonneg (by omega)]; omega
                  have HU6 := hide (hu5.grown (World.grownBy_alloc wr (.cells #[.int .u8 (1 + (k : Int))] 5) none))
                  have HW6 := hide (hw5.grown (World.grownBy_alloc wr (.cells #[.int .u8 (1 + (k : Int))] 5) none))
                  have HG6 := hide (hG5.trans (World.grownBy_alloc wr (.cells #[.int .u8 (1 + (k : Int))] 5) _))
                  have HC6 := hide (cell_one_new wr (.int .u8 (1 + (k : Int))) 5)
                  clear hu5 hw5
                  go_wp2_with (at_builtin; refine wpList_appBh rfl (.tmp 91) (.tmp 96) rfl rfl (unhide HW6) rfl rfl (unhide HC6) (by intro u hu; simp at hu; subst hu; rfl) (by rw [longer_len]; omega) (by simp; omega) ?_; intro v7 w7 hw7 hg7 hat7 hsh7)
                  obtain ⟨hG7, hL7⟩ := app_step HG6.out hg7 hL5 hat7
                  have e7 : [Value.int .u8 (1 + (k : Int))] = List.replicate 1 (mvb k) := rfl
                  rw [e7] at hw7 hsh7
                  have hu7 := hsh7.longer HU6.out
                  have hw8 : Row w7 B 5 v7 (longer (mvb k) (mvb k) m (q + 1)) := by rw [← longer_add]; exact hw7
                  refine ⟨⟨q + 1, by omega, by go_num, hG7, hu7, hw8, hL7⟩, ?_⟩
                  simp [intOf]; omega
                · obtain ⟨m3, hm3⟩ : ∃ m3, m3 = m + q := ⟨_, rfl⟩
                  rw [← hm3] at hw5 hL5 ⊢
                  have hq3 : q = 70 := by omega
                  rw [hq3] at hw5
                  have hqI : ¬ (q : Int) < 70 := by omega
                  have hm3b : m3 ≤ 2000000 := by omega
                  have HM3 := hide hm3
                  have hap5 := HMR.out.apart (HSS.out.ln.row k hlt2) (by decide)
                  rw [HUI.out] at hap5
                  have hmrG := HMR.out.kept hG5 hap5
                  have HHL5 := hide hL5
                  have HHW5 := hide hw5
                  have HHU5 := hide hu5
                  have HHG5 := hide hG5
                  have HMRG := hide hmrG
                  clear hq3 hm3 hap5 hL5 hw5 hu5 hG5 hmrG
                  go_wp2_with (at_builtin; refine wpList_append_own _ rfl _ _ 56 rfl w.heap.size 25 i0 (.slice none 0 0) 1 24 Tryd.underlying56 hi hz0 hz1 hz2 rfl (by decide) _ _ _ rfl (World.ownsRow.alloc HMRG.out _) ⟨wr.heap.size, 0, none⟩ 1 1 [.slice a5 m3 c5] rfl rfl (cell_one_new _ _ _) (by intro u hu; simp at hu; subst hu; rfl) (by have := HMS.out; unfold maxLen; omega) (by have := HMS.out; omega) (by simp; omega) ?_; intro v8 w8 hw8 hg8 hnil8)
                  have hG8 := (World.grownBy_alloc wr (.cells #[.slice a5 m3 c5] 25) _).trans hg8
                  have hG5' := HHG5.out
                  rw [← HUI.out] at hG5'
                  have hS5 : Sb w wr B p gL i cL us KC U (Rmb L XV i) := by
                    refine (HSS.out.row hlt2 hG5' (ys := longer (mvb k) (mvb k) m 0) (by rw [HUI.out]; exact HHU5.out)).ext fun j hj => ?_
                    by_cases e : j = k
                    · subst e
                      rw [upd_same, longer_zero, Rmb_lt hlt2, HMM.out]
                    · rw [upd_other _ _ e]
                  have hS8 := hS5.more HMRG.out hgLw hB hG8
                  have hlg8 := HLG.out.step hlt2 HSS.out.ln hG5'
                  have hL5' := HHL5.out
                  rw [← HUI.out] at hL5'
                  have hkp : ∀ u xs, Row wr B 5 u xs → Row w8 B 5 u xs := fun u xs h => h.kept hG8 (h.apart HMRG.out (by decide))
                  have hlg9 := (hlg8.add HMS.out hszO (by rw [← HMM.out]; exact HHW5.out) hL5').lines hkp
                  refine ⟨⟨k + 1, _, by omega, by go_num, by simp [HMS.out], ?_, hS8, hlg9⟩, ?_⟩
                  · unfold Row
                    rw [List.length_append]
                    exact hw8
                  · simp [intOf]; omega
            · obtain rfl : k = i := by omega
              obtain ⟨am, cm, hu6⟩ := hmr.shape
              subst hu6
              rw [hms] at hmr ⊢
              have HF : Hid (∀ j, j < k → ∃ gm g c g' c', am = some ⟨gm, 0, none⟩ ∧ k ≤ cm ∧ cm ≤ 9223372036854775807 ∧ wr.cell? ⟨gm, j, none⟩ = some (.slice (some ⟨g', 0, none⟩) (L j + 70) c') ∧ L j + 70 ≤ c' ∧ c' ≤ 9223372036854775807 ∧ wr.cell? ⟨gL, j, none⟩ = some (.slice g (L j) c) ∧ (∀ q, q < L j + 70 → wr.cell? ⟨g', q, none⟩ = some (.int .u8 (1 + (j : Int)))) ∧ (0 < L j → ∃ g2, g = some ⟨g2, 0, none⟩ ∧ L j ≤ c ∧ c ≤ 9223372036854775807 ∧ ∀ q, q < L j → wr.cell? ⟨g2, q, none⟩ = some (.int .u8 (1 + (j : Int))))) := fun j hj => by
                obtain ⟨gm, cm2, hvm, r1, r2, _, _⟩ := hmr.head (by omega)
                injection hvm with x1 x2 x3
                subst x1 x3
                have hr := hS2.ln.row j hj
                rw [Rmb_lt hj] at hr
                obtain ⟨u, hu, hru, _⟩ := hlg j hj
                obtain ⟨a, c, hs⟩ := hr.shape
                rw [List.length_replicate] at hs
                obtain ⟨g', c', hs', s1, s2, _, _⟩ := hru.head (by rw [longer_len]; omega)
                rw [longer_len] at hs' s1
                refine ⟨gm, a, c, g', c', rfl, by omega, r2, ?_, s1, s2, ?_, fun q hq => ?_, fun hp => ?_⟩
                · rw [hmr.cellAt (by rw [hms]; exact hj), hu, hs']
                · rw [hS2.rl.cellAt (by rw [HUN.out]; exact hj), unhide HUS j hj, hs]
                · rw [hs'] at hru
                  rw [hru.cellAt (by rw [longer_len]; exact hq), longer_at _ _ hq]
                  simp [mvb]
                · obtain ⟨g2, c2, hv, t1, t2, _, _⟩ := hr.head (by rw [List.length_replicate]; exact hp)
                  rw [hs, List.length_replicate] at hv
                  rw [List.length_replicate] at t1
                  injection hv with e1 _ e3
                  subst e1 e3
                  rw [hs] at hr
                  refine ⟨g2, rfl, t1, t2, fun q hq => ?_⟩
                  rw [hr.cellAt (by rw [List.length_replicate]; exact hq), List.getElem?_replicate, if_pos hq]
                  rfl
              have HO2 := hide hS2.ch
              obtain ⟨wz, hwz⟩ : ∃ wz, wz = wr := ⟨_, rfl⟩
              rw [← hwz] at HF HO2
              have HP0 : Hid (∀ W, Below wz.heap.size wz W → W.cell? ⟨p, 0, none⟩ = some (.slice (some ⟨gL, 0, none⟩) k cL)) := fun W hW => by
                rw [hwz] at hW
                exact (hW.cell (p := ⟨p, 0, none⟩) (World.block_lt_of_cell? wr _ hp0)).trans hp0
              have HWZ : Hid (Below wz.heap.size wz wr) := by rw [hwz]; exact Below.refl _ _
              clear hmr hS2 hlg HS2 hwz hms
              go_wp2_with fail
              go_loopw [10] (fun iv W => ∃ (j : Nat), j ≤ k ∧ iv = .int .i64 (j : Int) ∧ Hid (Below wz.heap.size wz W)) (fun j _ => k - (intOf j).toNat)
              case atStart => exact ⟨0, by omega, rfl, HWZ⟩
              case round =>
                clear HWZ hp0
                obtain ⟨j, hj, rfl, HB1⟩ := hrel
                by_cases hjk : j < k
                · obtain ⟨gm, gq, cq, g', c', rfl, y1, y2, f1, f2, f3, f4, f5, f6⟩ := unhide HF j hjk
                  obtain ⟨_, hLj⟩ := unhide HLL j hjk
                  generalize L j = m at *
                  obtain ⟨y, hy⟩ : ∃ y, y = m + 70 := ⟨_, rfl⟩
                  rw [← hy] at f1 f2 f5
                  have hyb : y ≤ 2000000 := by omega
                  have hmy : m ≤ y := by omega
                  have hjI : (j : Int) < (k : Int) := by omega
                  have hrem : (j : Int).tmod 250 = (j : Int) := by rw [Int.tmod_eq_emod_of_nonneg (by omega)]; omega
                  have F1 : Hid (∀ W, Below wz.heap.size wz W → W.cell? ⟨gm, j, none⟩ = some (.slice (some ⟨g', 0, none⟩) y c')) := fun W h => (h.cell (p := ⟨gm, j, none⟩) (World.block_lt_of_cell? wz _ f1)).trans f1
                  have F4 : Hid (∀ W, Below wz.heap.size wz W → W.cell? ⟨gL, j, none⟩ = some (.slice gq m cq)) := fun W h => (h.cell (p := ⟨gL, j, none⟩) (World.block_lt_of_cell? wz _ f4)).trans f4
                  have F5 : Hid (∀ W, Below wz.heap.size wz W → ∀ q, q < y → W.cell? ⟨g', q, none⟩ = some (.int .u8 (1 + (j : Int)))) := fun W h q hq => (h.cell (p := ⟨g', q, none⟩) (World.block_lt_of_cell? wz _ (f5 q hq))).trans (f5 q hq)
                  have F6 : Hid (∀ W, Below wz.heap.size wz W → 0 < m → ∃ g2, gq = some ⟨g2, 0, none⟩ ∧ m ≤ cq ∧ cq ≤ 9223372036854775807 ∧ ∀ q, q < m → W.cell? ⟨g2, q, none⟩ = some (.int .u8 (1 + (j : Int)))) := fun W h hp => by
                    obtain ⟨g2, e1, e2, e3, e4⟩ := f6 hp
                    exact ⟨g2, e1, e2, e3, fun q hq => (h.cell (p := ⟨g2, q, none⟩) (World.block_lt_of_cell? wz _ (e4 q hq))).trans (e4 q hq)⟩
                  clear f1 f4 f5 f6 hy
                  go_wp2_with fail
                  go_loopw [11] (fun iv W => ∃ (c : Nat), c ≤ y ∧ iv = .int .i64 (c : Int) ∧ Hid (Below wz.heap.size wz W)) (fun c _ => y - (intOf c).toNat)
                  case atStart => exact ⟨0, by omega, rfl, HB1⟩
                  case round =>
                    clear HB1
                    obtain ⟨c, hc, rfl, HB2⟩ := hrel
                    have e0 := unhide HP0 wr HB2.out
                    have e1 := unhide F1 wr HB2.out
                    by_cases hcy : c < y
                    · have hcI : (c : Int) < (y : Int) := by omega
                      have x0 := unhide F5 wr HB2.out c hcy
                      have e4 := unhide F4 wr HB2.out
                      by_cases hcm3 : c < m
                      · obtain ⟨g2, rfl, t1, t2, t3⟩ := unhide F6 wr HB2.out (by omega)
                        have hcmI : (c : Int) < (m : Int) := by omega
                        have z0 := t3 c hcm3
                        clear t3
                        go_wp2_with fail
                        refine ⟨⟨c + 1, by omega, by go_num, HB2⟩, ?_⟩
                        simp [intOf]; omega
                      · have hcmI : ¬ (c : Int) < (m : Int) := by omega
                        go_wp2_with fail
                        refine ⟨⟨c + 1, by omega, by go_num, HB2⟩, ?_⟩
                        simp [intOf]; omega
                    · have hcI : ¬ (c : Int) < (y : Int) := by omega
                      go_wp2
                      go_roundw
                      case rel => exact ⟨j + 1, by omega, by go_num, HB2⟩
                      case measure => simp [intOf]; omega
                · have hjI : ¬ (j : Int) < (k : Int) := by omega
                  go_wp2
                  go_ret
                  exact ⟨rfl, HO2.out.trans (Ch.of_below HB1.out)⟩
end Go.Proofs.YtpklbchbldipnabDoor

namespace Go.Proofs.YtpklbchbldipnabDoor
open Go.RowKit Go.Maps Classical

section
variable {ops : Array Oper} {rest : List Oper} {o : Oper} {a : Act} {Q : Exit → Act → World → Prop} {w : World} {K : Act → World → Prop}
/-- One list appended to a row of lists, and where it lies then. -/
theorem wpList_appLe (hgd : o.guard = none) (x y : Operand) (ho : o.op = .call { callee := .builtin .append, args := #[x, y], argTypes := #[59, 59] }) {B g : Nat} {v u : Value} {us : List Value} (hx : a.eval x = v) (hrow : Row w B 22 v us) (hy : a.eval y = .slice (some ⟨g, 0, none⟩) 1 1)
    (hc : w.cell? ⟨g, 0, none⟩ = some u) (h1 : u.oneCell' = true) (hl : us.length ≤ 1000000) (hB : B ≤ w.heap.size)
    (hk : ∀ v' w', Row w' B 22 v' (us ++ [u]) → w.grownBy w' v.ownBlock → (v'.ownBlock = v.ownBlock ∨ v'.ownBlock = some w.heap.size) → wpList Tryd.prog ops Q rest (a.put o.dst v') w') : wpList Tryd.prog ops Q (o :: rest) a w := by
  obtain ⟨i0, hi, hz0, hz1, hz2⟩ := info_parts infoLt
  obtain ⟨v', w', hr, h2, h3, h4, h5⟩ := run_append_share (P := Tryd.prog) w B 59 o.type 22 i0 (.slice none 0 0) 24 Tryd.underlying59 hi hz0 hz1 hz2 rfl v us hrow ⟨g, 0, none⟩ 1 1 [u] rfl (fun j z hu => by
    cases j with
    | zero =>
      have hu' : u = z := Option.some.inj hu
      subst hu'
      exact hc
    | succ j => simp at hu) (fun z hz => by rw [List.mem_singleton.1 hz]; exact h1) (by unfold maxLen; omega) (by omega) hB
  refine wpList_plain hgd fun K hK => ?_
  unfold Oper.wp execOp
  simp only [ho, resolve, invoke, builtin, Sem.run_bind, Sem.run_pure, Result.andThen_ok, List.map_toArray, List.map_cons, List.map_nil, hx, hy, hr]
  exact hK _ _ (hk v' w' h2 h3 h4)
end
/-- nl lists and nw of what is held against them. -/
structure LpE (w wr : World) (nl nw : Nat) (vl vw : Value) (us ws : List Value) (U : Nat → Value) (X : Nat → List Ent) : Prop where
  bel : Below w.heap.size w wr
  rl : Row wr w.heap.size 22 vl us
  rw' : Row wr w.heap.size 22 vw ws
  ap : ∀ k, vl.ownBlock = some k → vw.ownBlock ≠ some k
  lu : us.length = nl
  lw : ws.length = nw
  le : nw ≤ nl
  each : ∀ k, k < nl → us[k]? = some (U k)
  rows : ∀ k, k < nl → OwnE wr w.heap.size (U k) (X k)
  apart : ∀ j k, j < nl → k < nl → j ≠ k → (U j).ownBlock = none ∨ (U j).ownBlock ≠ (U k).ownBlock
  wants : ∀ k, k < nw → ∃ u, ws[k]? = some u ∧ OwnE wr w.heap.size u (X k)
  len : ∀ k, k < nl → (X k).length ≤ 10000
theorem LpE.nil (w : World) (hb : Below w.heap.size w w) : LpE w w 0 0 (.slice none 0 0) (.slice none 0 0) [] [] (fun _ => undef) (fun _ => []) :=
  ⟨hb, Row.nil _ _ _, Row.nil _ _ _, fun k h => by simp [Value.ownBlock] at h, rfl, rfl, Nat.le_refl _, fun k hk => by omega, fun k hk => by omega, fun j k hj => by omega, fun k hk => by omega, fun k hk => by omega⟩
theorem LpE.below {w wr w' : World} {nl nw : Nat} {vl vw : Value} {us ws : List Value} {U : Nat → Value} {X : Nat → List Ent} (h : LpE w wr nl nw vl vw us ws U X) (hb : Below wr.heap.size wr w') : LpE w w' nl nw vl vw us ws U X :=
  ⟨h.bel.trans (hb.mono h.bel.size), rowB_below h.rl hb, rowB_below h.rw' hb, h.ap, h.lu, h.lw, h.le, h.each, fun k hk => (h.rows k hk).below hb, h.apart, fun k hk => by
    obtain ⟨u, h1, h2⟩ := h.wants k hk
    exact ⟨u, h1, h2.below hb⟩, h.len⟩
/-- What changes but the list of lists. -/
theorem LpE.addL {w wr w1 w2 w3 : World} {n : Nat} {vl vl' vw l : Value} {us ws : List Value} {U : Nat → Value} {X : Nat → List Ent} {xs : List Ent} (h : LpE w wr n n vl vw us ws U X) (hb1 : Below wr.heap.size wr w1) (hr1 : OwnE w1 wr.heap.size l xs) (hxs : xs.length ≤ 10000) (hb2 : Below w1.heap.size w1 w2)
    (hr3 : Row w3 w.heap.size 22 vl' (us ++ [l])) (hg3 : w2.grownBy w3 vl.ownBlock) (hat : vl'.ownBlock = vl.ownBlock ∨ vl'.ownBlock = some w2.heap.size) : LpE w w3 (n + 1) n vl' vw (us ++ [l]) ws (upd U n l) (upd X n xs) := by
  have h2 : LpE w w2 n n vl vw us ws U X := (h.below hb1).below hb2
  have hr2 : OwnE w2 wr.heap.size l xs := hr1.below hb2
  have hk : ∀ {B : Nat} {v : Value} {ys : List Ent}, OwnE w2 B v ys → OwnE w3 B v ys := fun hr => hr.kept hg3 (hr.apart h2.rl (by decide))
  have hwl : w.heap.size ≤ wr.heap.size := h.bel.size
  refine ⟨h2.bel.grown hg3 h2.bel.size (fun k hk => (h2.rl.lt k hk).1), hr3, h2.rw'.kept hg3 ?_, fun k h1 h3 => ?_, by rw [List.length_append, h.lu]; rfl, h.lw, by omega, fun k hk => ?_, fun k hk' => ?_, fun j k hj hk' hne => ?_, fun k hk' => ?_, fun k hk' => ?_⟩
  · cases hv : vw.ownBlock with
    | none => exact Or.inl rfl
    | some x => exact Or.inr (fun e => h.ap x e.symm hv)
  · rcases hat with hat | hat
    · exact h.ap k (hat ▸ h1) h3
    · rw [hat] at h1
      injection h1 with h1
      have := (h2.rw'.lt k h3).2
      omega
  · by_cases e : k = n
    · subst e
      rw [upd_same, List.getElem?_append_right (by rw [h.lu]; exact Nat.le_refl _), h.lu, Nat.sub_self]
      rfl
    · rw [upd_other _ _ e, List.getElem?_append_left (by rw [h.lu]; omega)]
      exact h.each k (by omega)
  · by_cases e : k = n
    · subst e; rw [upd_same, upd_same]; exact hk (hr2.mono hwl)
    · rw [upd_other _ _ e, upd_other _ _ e]; exact hk (h2.rows k (by omega))
  · have far : ∀ i, i < n → ∀ b, (U i).ownBlock = some b → b < wr.heap.size := fun i hi b hb => ((h.rows i hi).lt b hb).2
    have new : ∀ b, l.ownBlock = some b → wr.heap.size ≤ b := fun b hb => (hr1.lt b hb).1
    by_cases e : j = n
    · subst e
      rw [upd_same, upd_other _ _ (show k ≠ j by omega)]
      cases hl : l.ownBlock with
      | none => exact Or.inl rfl
      | some b => exact Or.inr (fun e2 => by have h8 := far k (by omega) b e2.symm; have h9 := new b hl; omega)
    · by_cases e2 : k = n
      · subst e2
        rw [upd_same, upd_other _ _ e]
        cases hl : (U j).ownBlock with
        | none => exact Or.inl rfl
        | some b => exact Or.inr (fun e3 => by have h8 := far j (by omega) b hl; have h9 := new b e3.symm; omega)
      · rw [upd_other _ _ e, upd_other _ _ e2]
        exact h.apart j k (by omega) (by omega) hne
  · obtain ⟨u, h3, h4⟩ := h2.wants k hk'
    refine ⟨u, h3, ?_⟩
    rw [upd_other _ _ (show k ≠ n by omega)]
    exact hk h4
  · by_cases e : k = n
    · subst e; rw [upd_same]; exact hxs
    · rw [upd_other _ _ e]; exact h.len k (by omega)
theorem LpE.addW {w wr w2 w3 : World} {n : Nat} {vl vw vw' u : Value} {us ws : List Value} {U : Nat → Value} {X : Nat → List Ent} (h : LpE w wr (n + 1) n vl vw us ws U X) (hu : OwnE wr w.heap.size u (X n)) (hb2 : Below wr.heap.size wr w2)
    (hr3 : Row w3 w.heap.size 22 vw' (ws ++ [u])) (hg3 : w2.grownBy w3 vw.ownBlock) (hat : vw'.ownBlock = vw.ownBlock ∨ vw'.ownBlock = some w2.heap.size) : LpE w w3 (n + 1) (n + 1) vl vw' us (ws ++ [u]) U X := by
  have h2 := h.below hb2
  have hk : ∀ {B : Nat} {v : Value} {ys : List Ent}, OwnE w2 B v ys → OwnE w3 B v ys := fun hr => hr.kept hg3 (hr.apart h2.rw' (by decide))
  refine ⟨h2.bel.grown hg3 h2.bel.size (fun k hk => (h2.rw'.lt k hk).1), h2.rl.kept hg3 ?_, hr3, fun k h1 h3 => ?_, h.lu, by rw [List.length_append, h.lw]; rfl, Nat.le_refl _, h.each, fun k hk' => hk (h2.rows k hk'), h.apart, fun k hk' => ?_, h.len⟩
  · cases hv : vl.ownBlock with
    | none => exact Or.inl rfl
    | some x => exact Or.inr (fun e => h.ap x hv e.symm)
  · rcases hat with hat | hat
    · exact h.ap k h1 (hat ▸ h3)
    · rw [hat] at h3
      injection h3 with h3
      have := (h2.rl.lt k h1).2
      omega
  · by_cases e : k = n
    · subst e
      refine ⟨u, ?_, hk (hu.below hb2)⟩
      rw [List.getElem?_append_right (by rw [h.lw]; exact Nat.le_refl _), h.lw, Nat.sub_self]
      rfl
    · obtain ⟨z, h3, h4⟩ := h2.wants k (by omega)
      exact ⟨z, by rw [List.getElem?_append_left (by rw [h.lw]; omega)]; exact h3, hk h4⟩
def LzE (w wr : World) (c : Nat) (vl vw : Value) : Prop := ∃ us ws U X, LpE w wr c c vl vw us ws U X
/-- marked of any such lists. -/
theorem markedE_lists {w wr : World} {c : Nat} {vl vw : Value} (h : LzE w wr c vl vw) (hc : c ≤ 100) (hc0 : 0 < c) : Calls Tryd.prog 26 #[vl] wr fun e w' => e = .returned (.bool true) ∧ Below w.heap.size wr w' := by
  obtain ⟨us, ws, U, X, h⟩ := h
  have hsz := h.bel.size
  rcases h.rl.2 with ⟨rfl, h0⟩ | ⟨g, cap, cur, rfl, _⟩
  · exact absurd (h.lu.symm.trans h0) (by omega)
  · have hl := h.rl
    rw [h.lu] at hl ⊢
    refine marked_some (U := U) (X := X) (L := fun k => (X k).length) hl h.lu h.each ⟨h.rows, fun k hk b hb => ((h.rows k hk).lt b hb).2, h.apart⟩ hc (fun k hk => ⟨rfl, h.len k hk⟩) hsz

theorem row_ch {w w' : World} {B b : Nat} {T : TypeId → Prop} {t : TypeId} {v : Value} {xs : List Value} (h : Row w b t v xs) (hc : Ch B T w w') (ht : ¬ T t) : Row w' b t v xs := Ch.owns hc h ht
theorem ownE_ch {w w' : World} {B b : Nat} {T : TypeId → Prop} {v : Value} {l : List Ent} (h : OwnE w b v l) (hc : Ch B T w w') (ht : ¬ T 38) : OwnE w' b v l := ⟨h.1, Ch.owns hc h.2 ht⟩
theorem own8_chT {w w' : World} {B b : Nat} {T : TypeId → Prop} {v : Value} {xs : List Int} (h : Own8 w b v xs) (hc : Ch B T w w') (ht : ¬ T 5) : Own8 w' b v xs := ⟨Ch.owns hc h.1 ht, h.2⟩
theorem LpE.ch {w wr w' : World} {nl nw : Nat} {vl vw : Value} {us ws : List Value} {U : Nat → Value} {X : Nat → List Ent} {T : TypeId → Prop} (h : LpE w wr nl nw vl vw us ws U X) (hc : Ch w.heap.size T wr w') (h1 : ¬ T 38) (h2 : ¬ T 22) : LpE w w' nl nw vl vw us ws U X :=
  ⟨belowCh h.bel hc h.bel.size, row_ch h.rl hc h2, row_ch h.rw' hc h2, h.ap, h.lu, h.lw, h.le, h.each, fun k hk => ownE_ch (h.rows k hk) hc h1, h.apart, fun k hk => by
    obtain ⟨u, q1, q2⟩ := h.wants k hk
    exact ⟨u, q1, ownE_ch q2 hc h1⟩, h.len⟩
/-- n byte strings that were handed out, and what they held. -/
structure Kq (w W : World) (p n : Nat) (vl vw : Value) (us ws : List Value) (U : Nat → Value) (X : Nat → List Int) : Prop where
  bel : Below w.heap.size w W
  arr : Arr W p 58 [vl, vw]
  pb : w.heap.size ≤ p
  rl : Row W w.heap.size 25 vl us
  rw' : Row W w.heap.size 25 vw ws
  ap : ∀ k, vl.ownBlock = some k → vw.ownBlock ≠ some k
  lu : us.length = n
  lw : ws.length = n
  each : ∀ k, k < n → us[k]? = some (U k)
  rows : ∀ k, k < n → Own8 W w.heap.size (U k) (X k)
  apart : ∀ j k, j < n → k < n → j ≠ k → (U j).ownBlock = none ∨ (U j).ownBlock ≠ (U k).ownBlock
  wants : ∀ k, k < n → ∃ u, ws[k]? = some u ∧ Own8 W w.heap.size u (X k)
  len : ∀ k, k < n → (X k).length ≤ 1000000
theorem Kq.ch {w W w' : World} {p n : Nat} {vl vw : Value} {us ws : List Value} {U : Nat → Value} {X : Nat → List Int} {T : TypeId → Prop} (h : Kq w W p n vl vw us ws U X) (hc : Ch w.heap.size T W w') (h1 : ¬ T 5) (h2 : ¬ T 25) (h3 : ¬ T 58) : Kq w w' p n vl vw us ws U X :=
  ⟨belowCh h.bel hc h.bel.size, h.arr.ch hc h3, h.pb, row_ch h.rl hc h2, row_ch h.rw' hc h2, h.ap, h.lu, h.lw, h.each, fun k hk => own8_chT (h.rows k hk) hc h1, h.apart, fun k hk => by
    obtain ⟨u, q1, q2⟩ := h.wants k hk
    exact ⟨u, q1, own8_chT q2 hc h1⟩, h.len⟩
theorem Kq.below {w W w' : World} {p n : Nat} {vl vw : Value} {us ws : List Value} {U : Nat → Value} {X : Nat → List Int} (h : Kq w W p n vl vw us ws U X) (hb : Below W.heap.size W w') : Kq w w' p n vl vw us ws U X := h.ch (T := fun _ => False) (Ch.of_below hb) id id id
theorem row_of8 {w : World} {B : Nat} {v : Value} {xs : List Int} (h : Own8 w B v xs) : Row w B 5 v (xs.map (Value.int .u8)) := by
  have h1 := h.1
  unfold Row
  rw [List.length_map]
  exact h1
/-- Settle of all of them. -/
theorem kq_settle {w W : World} {p n : Nat} {vl vw : Value} {us ws : List Value} {U : Nat → Value} {X : Nat → List Int} (h : Kq w W p n vl vw us ws U X) (hn0 : 0 < n) (hn : n ≤ 100) : Calls Tryd.prog 25 #[.pointer (some ⟨p, 0, none⟩)] W fun e w' => e = .returned (.bool true) ∧ Ch w.heap.size TT W w' := by
  obtain ⟨gL, cL, e1, _, _, _, _⟩ := h.rl.head (by rw [h.lu]; exact hn0)
  obtain ⟨gW, cW, e2, _, _, _, _⟩ := h.rw'.head (by rw [h.lw]; exact hn0)
  have hl := h.rl
  have hlw := h.rw'
  have hA := h.arr
  rw [h.lu] at e1
  rw [h.lw] at e2
  rw [e1] at hl hA
  rw [e2] at hlw hA
  exact settle_calls (U := U) (X := X) (L := fun k => (X k).length) hA hl hlw h.lu h.each h.lw (fun k hk => by
    obtain ⟨u, q1, q2⟩ := h.wants k hk
    exact ⟨u, q1, q2.isB⟩) ⟨fun k hk => row_of8 (h.rows k hk), fun k hk b hb => ((row_of8 (h.rows k hk)).lt b hb).2, h.apart⟩ (fun k hk => (h.rows k hk).isB) hn0 hn (fun k hk => ⟨rfl, h.len k hk⟩) h.bel.size
end Go.Proofs.YtpklbchbldipnabDoor

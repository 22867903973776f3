/- chain: two writers over one space, stepped by turns, and a reader behind one of them. -/
import Derived.Test.YtmgjjopngebecabDoorSG
namespace Go.Proofs.YtmgjjopngebecabDoor
open Go.RowKit Go.Maps

theorem fieldFirst_run_x (a0 a1 a2 a3 a4 a5 a6 a7 a8 a9 b0 b1 b2 b3 b4 b5 b6 b7 b8 b9 c0 c1 c2 c3 c4 c5 c6 c7 c8 c9 d0 d1 : Int) (fi le : Int) (W : World) : (Instr.field 34 (.agg (refV [a0, a1, a2, a3, a4, a5, a6, a7, a8, a9, b0, b1, b2, b3, b4, b5, b6, b7, b8, b9, c0, c1, c2, c3, c4, c5, c6, c7, c8, c9, d0, d1] fi le).toArray) 1).run Tryd.prog W = .ok (.int .i64 fi) W := by kernel_rfl
theorem fieldFirst_run {hs : List Int} (hh : hs.length = 32) (fi le : Int) (W : World) : (Instr.field 34 (.agg (refV hs fi le).toArray) 1).run Tryd.prog W = .ok (.int .i64 fi) W := by
  match hs, hh with
  | [a0, a1, a2, a3, a4, a5, a6, a7, a8, a9, b0, b1, b2, b3, b4, b5, b6, b7, b8, b9, c0, c1, c2, c3, c4, c5, c6, c7, c8, c9, d0, d1], _ => exact fieldFirst_run_x a0 a1 a2 a3 a4 a5 a6 a7 a8 a9 b0 b1 b2 b3 b4 b5 b6 b7 b8 b9 c0 c1 c2 c3 c4 c5 c6 c7 c8 c9 d0 d1 fi le W
theorem done_calls {w : World} {g : Nat} {dn : Int} (h36 : w.cell? ⟨g, 36, none⟩ = some (.int .i64 dn)) : Calls Tryd.prog 24 #[.pointer (some ⟨g, 0, none⟩)] w fun e w' => e = .returned (.int .i64 dn) ∧ w' = w := by
  go_enter Tryd.func24, Tryd.ntmps24
  go_wp2
  go_ret
  exact ⟨rfl, rfl⟩
theorem done_enter (v : Value) (W : World) : (callFunc 24 #[v]).run Tryd.prog W = .ok (.enter 24 #[v]) W := by kernel_rfl
theorem Wr.done {w : World} {p pw gn cn : Nat} {rv : Value} {bs : List Int} {ks : List Nat} {j : Nat} (h : Wr w p pw gn cn rv bs ks j) : Calls Tryd.prog 24 #[.pointer (some ⟨pw, 0, none⟩)] w fun e w' => e = .returned (.int .i64 (j : Int)) ∧ w' = w := by
  obtain ⟨_, _, _, _, hV36, _⟩ := writerV_cells (p := p) (shaOf_len bs) ((ks.getD 0 0 : Nat) : Int) (bs.length : Int) (.slice (some ⟨gn, 0, none⟩) ks.length cn) (j : Int) rv
  exact done_calls (arr_cell h.arr hV36)
theorem Wr.pos {w : World} {p pw gn cn : Nat} {rv : Value} {bs : List Int} {ks : List Nat} {j : Nat} (h : Wr w p pw gn cn rv bs ks j) : 1 ≤ ks.length ∧ ks.length ≤ 2185 := by
  have h1 := h.cnt
  have h2 := h.len
  have h3 := secN_hi (bs.length : Int)
  refine ⟨?_, by omega⟩
  unfold secN at h1
  rw [if_neg (by omega), if_neg (by omega)] at h1
  omega
theorem Wr.nums {w : World} {p pw gn cn : Nat} {rv : Value} {bs : List Int} {ks : List Nat} {j : Nat} (h : Wr w p pw gn cn rv bs ks j) : Calls Tryd.prog 23 #[.pointer (some ⟨pw, 0, none⟩)] w fun e w' => ∃ g2 c2, e = .returned (.slice (some ⟨g2, 0, none⟩) ks.length c2) ∧ Below w.heap.size w w' := by
  obtain ⟨_, _, _, hV35, _, _⟩ := writerV_cells (p := p) (shaOf_len bs) ((ks.getD 0 0 : Nat) : Int) (bs.length : Int) (.slice (some ⟨gn, 0, none⟩) ks.length cn) (j : Int) rv
  have h1 := h.pos
  exact (numbers_calls (arr_cell h.arr hV35) h.row (by omega) (by omega)).mono (fun e w' ⟨g2, c2, a, _, b⟩ => ⟨g2, c2, a, b⟩)
theorem Wr.refs {w : World} {p pw gn cn : Nat} {rv : Value} {bs : List Int} {ks : List Nat} {j : Nat} (h : Wr w p pw gn cn rv bs ks j) : Calls Tryd.prog 31 #[.pointer (some ⟨pw, 0, none⟩)] w fun e w' => e = .returned (.agg (refV (shaOf bs) ((ks.getD 0 0 : Nat) : Int) (bs.length : Int)).toArray) ∧ Below w.heap.size w w' := wref_calls (shaOf_len bs) (writer_ref h.arr)
/-- Two writers and a reader, whatever their memory. -/
def TnX (w : World) (p gl gm heap sd : Nat) (a b : List Int) (kv kw : List Nat) (pv gv cv pw gn cw B pr up ug : Nat) (W : World) (jv jw jr : Nat) : Prop := ∃ V D rv rw_ nv bv S, Tn w W p gl gm V D heap sd a b kv kw pv gv cv rv jv pw gn cw rw_ jw B pr up ug nv bv jr S
section
variable {w W W' : World} {p gl gm heap sd : Nat} {a b : List Int} {kv kw : List Nat} {pv gv cv pw gn cw B pr up ug jv jw jr : Nat}
theorem TnX.below (h : TnX w p gl gm heap sd a b kv kw pv gv cv pw gn cw B pr up ug W jv jw jr) (hb : Below W.heap.size W W') : TnX w p gl gm heap sd a b kv kw pv gv cv pw gn cw B pr up ug W' jv jw jr := by
  obtain ⟨V, D, rv, rw_, nv, bv, S, h⟩ := h
  exact ⟨V, D, rv, rw_, nv, bv, S, h.below hb⟩
theorem TnX.bel (h : TnX w p gl gm heap sd a b kv kw pv gv cv pw gn cw B pr up ug W jv jw jr) : Below w.heap.size w W := by
  obtain ⟨V, D, rv, rw_, nv, bv, S, h⟩ := h
  exact h.bel
theorem TnX.les (h : TnX w p gl gm heap sd a b kv kw pv gv cv pw gn cw B pr up ug W jv jw jr) : jv ≤ kv.length ∧ jw ≤ kw.length := by
  obtain ⟨V, D, rv, rw_, nv, bv, S, h⟩ := h
  exact ⟨h.vv.le, h.ww.le⟩
theorem TnX.doneV (h : TnX w p gl gm heap sd a b kv kw pv gv cv pw gn cw B pr up ug W jv jw jr) : Calls Tryd.prog 24 #[.pointer (some ⟨pv, 0, none⟩)] W fun e w' => e = .returned (.int .i64 (jv : Int)) ∧ w' = W := by
  obtain ⟨V, D, rv, rw_, nv, bv, S, h⟩ := h
  exact h.vv.done
theorem TnX.doneW (h : TnX w p gl gm heap sd a b kv kw pv gv cv pw gn cw B pr up ug W jv jw jr) : Calls Tryd.prog 24 #[.pointer (some ⟨pw, 0, none⟩)] W fun e w' => e = .returned (.int .i64 (jw : Int)) ∧ w' = W := by
  obtain ⟨V, D, rv, rw_, nv, bv, S, h⟩ := h
  exact h.ww.done
theorem TnX.numsV (h : TnX w p gl gm heap sd a b kv kw pv gv cv pw gn cw B pr up ug W jv jw jr) : Calls Tryd.prog 23 #[.pointer (some ⟨pv, 0, none⟩)] W fun e w' => ∃ g2 c2, e = .returned (.slice (some ⟨g2, 0, none⟩) kv.length c2) ∧ TnX w p gl gm heap sd a b kv kw pv gv cv pw gn cw B pr up ug w' jv jw jr := by
  obtain ⟨V, D, rv, rw_, nv, bv, S, h⟩ := h
  exact h.vv.nums.mono (fun e w' ⟨g2, c2, q1, q2⟩ => ⟨g2, c2, q1, V, D, rv, rw_, nv, bv, S, h.below q2⟩)
theorem TnX.numsW (h : TnX w p gl gm heap sd a b kv kw pv gv cv pw gn cw B pr up ug W jv jw jr) : Calls Tryd.prog 23 #[.pointer (some ⟨pw, 0, none⟩)] W fun e w' => ∃ g2 c2, e = .returned (.slice (some ⟨g2, 0, none⟩) kw.length c2) ∧ TnX w p gl gm heap sd a b kv kw pv gv cv pw gn cw B pr up ug w' jv jw jr := by
  obtain ⟨V, D, rv, rw_, nv, bv, S, h⟩ := h
  exact h.ww.nums.mono (fun e w' ⟨g2, c2, q1, q2⟩ => ⟨g2, c2, q1, V, D, rv, rw_, nv, bv, S, h.below q2⟩)
theorem TnX.refsV (h : TnX w p gl gm heap sd a b kv kw pv gv cv pw gn cw B pr up ug W jv jw jr) : Calls Tryd.prog 31 #[.pointer (some ⟨pv, 0, none⟩)] W fun e w' => e = .returned (.agg (refV (shaOf a) ((kv.getD 0 0 : Nat) : Int) (a.length : Int)).toArray) ∧ TnX w p gl gm heap sd a b kv kw pv gv cv pw gn cw B pr up ug w' jv jw jr := by
  obtain ⟨V, D, rv, rw_, nv, bv, S, h⟩ := h
  exact h.vv.refs.mono (fun e w' ⟨q1, q2⟩ => ⟨q1, V, D, rv, rw_, nv, bv, S, h.below q2⟩)
theorem TnX.stepV (h : TnX w p gl gm heap sd a b kv kw pv gv cv pw gn cw B pr up ug W jv jw jr) (hK : KC heap sd a b kv kw) (hT : TT w) (hj : jv < kv.length) : Calls Tryd.prog 32 #[.pointer (some ⟨pv, 0, none⟩)] W fun e w' => ∃ u, e = .returned u ∧ TnX w p gl gm heap sd a b kv kw pv gv cv pw gn cw B pr up ug w' (jv + 1) jw jr := by
  obtain ⟨V, D, rv, rw_, nv, bv, S, h⟩ := h
  exact (h.stepV hK hT hj).mono (fun e w' ⟨u, rv', V', D', q1, q2⟩ => ⟨u, q1, V', D', rv', rw_, nv, bv, S, q2⟩)
theorem TnX.stepV_end (h : TnX w p gl gm heap sd a b kv kw pv gv cv pw gn cw B pr up ug W kv.length jw jr) : Calls Tryd.prog 32 #[.pointer (some ⟨pv, 0, none⟩)] W fun e w' => ∃ u, e = .returned u ∧ TnX w p gl gm heap sd a b kv kw pv gv cv pw gn cw B pr up ug w' kv.length jw jr := by
  obtain ⟨V, D, rv, rw_, nv, bv, S, h⟩ := h
  exact (wstep_done h.vv).mono (fun e w' ⟨q1, q2⟩ => ⟨_, q1, V, D, rv, rw_, nv, bv, S, h.below q2⟩)
theorem TnX.stepW (h : TnX w p gl gm heap sd a b kv kw pv gv cv pw gn cw B pr up ug W jv jw jr) (hK : KC heap sd a b kv kw) (hT : TT w) (hj : jw < kw.length) : Calls Tryd.prog 32 #[.pointer (some ⟨pw, 0, none⟩)] W fun e w' => ∃ u, e = .returned u ∧ TnX w p gl gm heap sd a b kv kw pv gv cv pw gn cw B pr up ug w' jv (jw + 1) jr := by
  obtain ⟨V, D, rv, rw_, nv, bv, S, h⟩ := h
  exact (h.stepW hK hT hj).mono (fun e w' ⟨u, rv', V', D', q1, q2⟩ => ⟨u, q1, V', D', rv, rv', nv, bv, S, q2⟩)
theorem TnX.stepR (h : TnX w p gl gm heap sd a b kv kw pv gv cv pw gn cw B pr up ug W jv jw jr) (hK : KC heap sd a b kv kw) (hT : TT w) (hj : jr < jv) : Calls Tryd.prog 22 #[.pointer (some ⟨pr, 0, none⟩)] W fun e w' => ∃ u, e = .returned u ∧ TnX w p gl gm heap sd a b kv kw pv gv cv pw gn cw B pr up ug w' jv jw (jr + 1) := by
  obtain ⟨V, D, rv, rw_, nv, bv, S, h⟩ := h
  exact (h.stepR hK hT hj).mono (fun e w' ⟨u, nv', bv', D', S', q1, q2⟩ => ⟨u, q1, V, D', rv, rw_, nv', bv', S', q2⟩)
/-- What is left when both are written. -/
structure Td (w W : World) (p gl gm heap sd : Nat) (a b : List Int) (kv kw : List Nat) (pw gn cw B pr up ug : Nat) (M : Int) (V : Nat → Value) (D : AD) (rw_ nv bv : Value) (S : RS) : Prop where
  dk : Dk W p gl gm V D
  la : D.la.length = sd
  rd : 0 ≤ D.rd ∧ D.rd ≤ M
  av : ∀ t, t < kv.length → D.now (kv.getD t 0) = sectK a kv t
  aw : ∀ t, t < kw.length → D.now (kw.getD t 0) = sectK b kw t
  ww : Wr W p pw gn cw rw_ b kw kw.length
  rr : Rd W B p pr up ug (shaOf a) ((kv.getD 0 0 : Nat) : Int) (a.length : Int) heap sd nv bv S
  got : Got heap sd a kv kv.length S
  l1 : ∀ x, Ft p gl gm V x → w.heap.size ≤ x
  x2 : ∀ x, Fw pw gn rw_ x → ¬ Ft p gl gm V x
  x3 : ∀ x, Fr pr up ug nv bv x → ¬ Ft p gl gm V x
  tt : TT W
  bel : Below w.heap.size w W
theorem TnX.ends (h : TnX w p gl gm heap sd a b kv kw pv gv cv pw gn cw B pr up ug W kv.length kw.length kv.length) : (∃ V D rw_ nv bv S, Td w W p gl gm heap sd a b kv kw pw gn cw B pr up ug 2185 V D rw_ nv bv S) ∧ a.length ≤ 1048576 ∧ b.length ≤ 1048576 ∧ (kv.length : Int) = secN (a.length : Int) ∧ (kw.length : Int) = secN (b.length : Int) ∧ 1 ≤ kv.length ∧ 1 ≤ kw.length := by
  obtain ⟨V, D, rv, rw_, nv, bv, S, h⟩ := h
  have h1 := h.vv.pos
  have h2 := h.ww.pos
  have h3 := h.dn.rd
  exact ⟨⟨V, D, rw_, nv, bv, S, h.dk, h.dn.la, ⟨by omega, by omega⟩, h.dn.av, h.dn.aw, h.ww, h.rr, h.got, h.l1, h.x2, h.x3, h.tt, h.bel⟩, h.vv.len, h.ww.len, h.vv.cnt, h.ww.cnt, h1.1, h2.1⟩
theorem Td.below {M : Int} {V : Nat → Value} {D : AD} {rw_ nv bv : Value} {S : RS} (h : Td w W p gl gm heap sd a b kv kw pw gn cw B pr up ug M V D rw_ nv bv S) (hb : Below W.heap.size W W') : Td w W' p gl gm heap sd a b kv kw pw gn cw B pr up ug M V D rw_ nv bv S :=
  ⟨h.dk.below hb, h.la, h.rd, h.av, h.aw, h.ww.up (F := fun _ => False) (Up.of_below hb) (fun _ _ h => h), h.rr.below hb, h.got, h.l1, h.x2, h.x3, h.tt.below hb, below_then h.bel hb⟩
/-- A chain that lies there is got. -/
theorem Td.get {M : Int} {V : Nat → Value} {D : AD} {rw_ nv bv : Value} {S : RS} (h : Td w W p gl gm heap sd a b kv kw pw gn cw B pr up ug M V D rw_ nv bv S) (hM : M ≤ 100000) (hT : TT w) {c : List Int} {ks : List Nat} (hcl : c.length ≤ 1048576) (hk : (ks.length : Int) = secN (c.length : Int)) (hk0 : 1 ≤ ks.length) (hks : ∀ x ∈ ks, 1 ≤ x ∧ x < 65536 ∧ heap ≤ x ∧ x < sd) (hn : ks.Nodup) (hh : 1 ≤ heap ∧ heap < sd) (hN : ∀ t, t < ks.length → D.now (ks.getD t 0) = sectK c ks t) :
    Calls Tryd.prog 17 #[.pointer (some ⟨p, 0, none⟩), .int .i64 (heap : Int), .agg (refV (shaOf c) ((ks.getD 0 0 : Nat) : Int) (c.length : Int)).toArray] W fun e w' => ∃ ra rn rc, e = .returned (.tuple #[.slice ra rn rc, .int .i64 0, .int .i64 0]) ∧ Own8 w' W.heap.size (.slice ra rn rc) c ∧ (∃ D', Td w w' p gl gm heap sd a b kv kw pw gn cw B pr up ug (M + 2185) V D' rw_ nv bv S) ∧ Up (fun x => x = p) W w' := by
  have hm := hks _ (getD_mem (show 0 < ks.length by omega))
  have h9 := secN_hi (c.length : Int)
  have hrd := h.rd
  have hget := get_good (heap := heap) (fi := ks.getD 0 0) (k := ks.length) h.dk h.tt (fun x hx => Nat.le_trans hT.size (h.l1 x hx)) (shaOf_len c) (sha_bytes c) (c.length : Int) hh.1 (by rw [h.la]; exact hh.2) hk.symm hk0 ⟨hm.2.2.1, by rw [h.la]; exact hm.2.2.2⟩ (by omega) (by omega)
  rw [h.la] at hget
  obtain ⟨q1, q2, q3⟩ := put_got (D := zeroD 2) hcl hk (by omega) hks hn hh.2 ((ks.getD 0 0 : Nat) : Int) (N := D.now) (fun t ht => by rw [hN t ht, putAll_in (zeroD 2) c hn (Nat.le_refl _) ht])
  obtain ⟨G, hG⟩ : ∃ G, G = goS D.now (shaOf c) ((ks.getD 0 0 : Nat) : Int) (c.length : Int) heap sd ks.length (begS heap sd (ks.getD 0 0)) := ⟨_, rfl⟩
  rw [← hG] at q1 q2 q3 hget
  have hoe : outE G = 0 := by unfold outE; rw [if_pos q2]
  rw [q1, q2, hoe] at hget
  refine Calls.mono hget ?_
  rintro e w' ⟨ra, rn, rc, n, rfl, k1, k2, k3, k4⟩
  rw [q3] at k3
  have hpl : w.heap.size ≤ p := h.l1 p (Or.inl rfl)
  refine ⟨ra, rn, rc, rfl, k1, ⟨D.reads n, k2, h.la, ⟨by show 0 ≤ D.rd + (n : Int); omega, by show D.rd + (n : Int) ≤ _; omega⟩, h.av, h.aw, h.ww.up k4 (fun x hx e => h.x2 x hx (Or.inl e)), h.rr.up k4 (fun x hx e => h.x3 x hx (Or.inl e)), h.got, h.l1, h.x2, h.x3, h.tt.up k4 (fun x hx => by rw [hx]; exact Nat.le_trans hT.size hpl), h.bel.trans (k4.below h.bel.size (fun x hx => by omega))⟩, k4⟩
theorem Td.bytes {M : Int} {V : Nat → Value} {D : AD} {rw_ nv bv : Value} {S : RS} (h : Td w W p gl gm heap sd a b kv kw pw gn cw B pr up ug M V D rw_ nv bv S) (hl : a.length ≤ 1048576) (hk : (kv.length : Int) = secN (a.length : Int)) : Calls Tryd.prog 25 #[.pointer (some ⟨pr, 0, none⟩)] W fun e w' => ∃ ra rn rc, e = .returned (.slice ra rn rc) ∧ IsB w' (.slice ra rn rc) a ∧ Below W.heap.size W w' := by
  have hb : S.by_ = a := by
    rw [h.got.by_, List.take_of_length_le]
    have h10 := hk
    unfold secN at h10
    rw [if_neg (by omega), if_neg (by omega)] at h10
    omega
  refine (rbytes_end h.rr (by rw [h.got.ns, List.take_length]; exact hk) (by rw [hb]; omega)).mono ?_
  rintro e w' ⟨ra, rn, rc, rfl, h1, h2⟩
  rw [hb] at h1
  exact ⟨ra, rn, rc, rfl, h1.isB, h2⟩
end
end Go.Proofs.YtmgjjopngebecabDoor

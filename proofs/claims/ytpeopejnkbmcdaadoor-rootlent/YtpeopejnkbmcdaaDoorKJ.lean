/- What readNumbers, keyIn, named and Decode answer. What named and Decode answer. What Decode answers. -/
import Derived.Test.YtpeopejnkbmcdaaDoorKI
namespace Go.Proofs.YtpeopejnkbmcdaaDoor
open Go.RowKit Go.Maps

theorem jputs_snoc : ∀ (cs xs : List Value) (k : Nat) (c : Value), jputs xs k (cs ++ [c]) = (jputs xs k cs).set (k + cs.length) c
  | [], _, _, _ => rfl
  | d :: cs, xs, k, c => by
    rw [List.cons_append, jputs, jputs, jputs_snoc cs, List.length_cons, show k + (cs.length + 1) = k + 1 + cs.length by omega]
/-- The numbers that lie there. -/
def rdN (b : List Int) (k n m : Nat) : List Int := (List.range m).map (fun j => IntKind.i64.wrap (leN ((b.drop (k + n * j)).take n)))
theorem rdN_len (b : List Int) (k n m : Nat) : (rdN b k n m).length = m := by simp [rdN]
theorem rdN_snoc (b : List Int) (k n m : Nat) : rdN b k n (m + 1) = rdN b k n m ++ [IntKind.i64.wrap (leN ((b.drop (k + n * m)).take n))] := by simp [rdN, List.range_succ]
theorem rdN_step (b : List Int) (k n m o : Nat) (cs : List Value) : (jputs cs o (nV (rdN b k n m))).set (o + m) (.int .i64 (IntKind.i64.wrap (leN ((b.drop (k + n * m)).take n)))) = jputs cs o (nV (rdN b k n (m + 1))) := by
  rw [rdN_snoc, nV, nV, List.map_append, List.map_cons, List.map_nil, jputs_snoc, List.length_map, rdN_len]
theorem sgrown_set (W : World) (g j : Nat) (u : Value) : W.grownBy (W.setCell ⟨g, j, none⟩ u) (some g) := ⟨rfl, rfl, rfl, by simp, fun k _ hk => Below.heap_setCell W ⟨g, j, none⟩ u k (fun e => hk (by rw [e]))⟩
theorem sarr_set {W : World} {g j : Nat} {t : TypeId} {cs : List Value} (h : Arr W g t cs) (u : Value) : Arr (W.setCell ⟨g, j, none⟩ u) g t (cs.set j u) := by
  have := heap_setCell_same W g j cs.toArray t u h
  rw [List.setIfInBounds_toArray] at this
  exact this
theorem slice32s {bk of n c k : Nat} (h : k + 32 ≤ c) (W : World) : (Instr.sliceAt 41 (.slice (some ⟨bk, of, none⟩) n c) (some (.int .i64 (k : Int))) (some (.int .i64 ((k + 32 : Nat) : Int))) none).run Tryd.prog W = .ok (.slice (some ⟨bk, of + k, none⟩) 32 (c - k)) W := by
  rw [slice_lh _ n c k (k + 32) (by omega) h W]
  unfold subA
  rw [if_neg (by omega), Option.map_some, Addr.add_lit, Nat.add_sub_cancel_left]
theorem isB_rangeS {w : World} {bk of n c : Nat} {b : List Int} (h : IsB w (.slice (some ⟨bk, of, none⟩) n c) b) {k m : Nat} (hk : k + m ≤ b.length) (hm : 0 < m) : w.rangeAt bk (of + k) (((b.drop k).take m).map (Value.int .u8)) := by
  obtain ⟨_, a, cap, hv, _, _, _, hc⟩ := h
  injection hv with e1 e2 e3
  obtain ⟨b2, of2, ha, hcell⟩ := hc (by omega)
  rw [ha] at e1
  injection e1 with e1
  injection e1 with e1 e4
  subst e1 e4
  intro j u hu
  rw [List.getElem?_map, Option.map_eq_some_iff] at hu
  obtain ⟨x, hx, rfl⟩ := hu
  have hj : j < m := by have := (List.getElem?_eq_some_iff.1 hx).1; simp at this; omega
  rw [List.getElem?_take_of_lt hj, List.getElem?_drop] at hx
  rw [Nat.add_assoc, hcell (k + j) (by omega), List.getD_eq_getElem?_getD, hx]
  rfl
def z32K : List Value := List.replicate 32 (.int .u8 0)
theorem infoK0 : (Tryd.prog.info? 28).map (fun i => (i.zero, i.size, i.bytes)) = some (some (.agg z32K.toArray), 32, 32) := by kernel_rfl
set_option maxRecDepth 100000 in
set_option maxHeartbeats 1000000 in
theorem readNs_calls {w0 w : World} {v : Value} {b : List Int} {k n g o m c : Nat} {cs : List Value} (h : IsB w0 v b) (hw : Below w0.heap.size w0 w) (hg : w0.heap.size ≤ g) (hA : Arr w g 67 cs) (hl : cs.length = 9) (ho : o + m ≤ 9) (h1 : 1 ≤ n) (h8 : n ≤ 8) (hs : k + n * m ≤ b.length) (_hb : b.length ≤ 1000) (_hc : m ≤ c) :
    Calls Tryd.prog 43 #[v, .int .i64 (k : Int), .int .i64 (n : Int), .slice (some ⟨g, o, none⟩) m c] w fun e w' => e = .returned (.tuple #[]) ∧ Arr w' g 67 (jputs cs o (nV (rdN b k n m))) ∧ Below w0.heap.size w0 w' := by
  have HRF : Hid (∀ W, Below w0.heap.size w0 W → ∀ q, q < m → Calls Tryd.prog 49 #[v, .int .i64 ((k + n * q : Nat) : Int), .int .i64 (n : Int)] W fun e w' => e = .returned (.tuple #[.int .u64 (leN ((b.drop (k + n * q)).take n)), .int .i64 ((k + n * (q + 1) : Nat) : Int), .int .i64 0]) ∧ w' = W) := hide (fun W hW q hq => by
    have hle : n * (q + 1) ≤ n * m := Nat.mul_le_mul_left n (by omega)
    rw [Nat.mul_succ] at hle
    have := rfixed_calls (h.below hW) ((k + n * q : Nat) : Int) (n : Int)
    have e1 : rdF b ((k + n * q : Nat) : Int) (n : Int) = (leN ((b.drop (k + n * q)).take n), ((k + n * (q + 1) : Nat) : Int), 0) := by
      unfold rdF
      rw [if_neg (by omega), if_neg (by omega), if_neg (by omega), Int.toNat_natCast, Int.toNat_natCast, Nat.mul_succ]
      congr 2
      omega
    rw [e1] at this
    exact this)
  obtain ⟨va, vn, vc, rfl⟩ := h.shape
  have HA0 : Hid (Arr w g 67 (jputs cs o (nV (rdN b k n 0)))) := hide hA
  have HB0 := hide hw
  have HG := hide hg
  have HST : Hid (∀ q, (jputs cs o (nV (rdN b k n q))).set (o + q) (.int .i64 (IntKind.i64.wrap (leN ((b.drop (k + n * q)).take n)))) = jputs cs o (nV (rdN b k n (q + 1)))) := hide (fun q => rdN_step b k n q o cs)
  have HLN : Hid (∀ q, (jputs cs o (nV (rdN b k n q))).length = 9) := hide (fun q => by rw [jputs_len, hl])
  have HK0 : Hid (((k + n * 0 : Nat) : Int) = (k : Int)) := hide (by simp)
  clear h hA hw hl hs hg
  go_enter Tryd.func43, Tryd.ntmps43
  go_wp2_with fail
  go_loopw [1, 14] (fun av i W => ∃ q : Nat, q ≤ m ∧ i = .int .i64 q ∧ av = .int .i64 ((k + n * q : Nat) : Int) ∧ Hid (Arr W g 67 (jputs cs o (nV (rdN b k n q)))) ∧ Hid (Below w0.heap.size w0 W)) (fun _ i _ => m - (intOf i).toNat)
  case atStart => exact ⟨0, Nat.zero_le _, rfl, by rw [HK0.out], HA0, HB0⟩
  case round =>
    clear HA0 HB0
    obtain ⟨q, hq, rfl, rfl, HA, HB⟩ := hrel
    by_cases hlt : q < m
    · have HRQ := hide (unhide HRF wr HB.out q hlt)
      have HSQ := hide (unhide HST q)
      have hcl : ∃ u, wr.cell? ⟨g, o + q, none⟩ = some u := by
        have hlen := unhide HLN q
        exact ⟨(jputs cs o (nV (rdN b k n q)))[o + q]'(by omega), by rw [HA.out.cell, List.getElem?_eq_getElem]⟩
      obtain ⟨u0, hcl⟩ := hcl
      have hfr := HA.out.frozen (o + q)
      obtain ⟨kr, hkr⟩ : ∃ kr : Int, kr = ((k + n * (q + 1) : Nat) : Int) := ⟨_, rfl⟩
      rw [← hkr] at HRQ
      have HKR := hide hkr
      clear hkr
      generalize ((k + n * q : Nat) : Int) = kq at *
      generalize leN ((b.drop (k + n * q)).take n) = L at *
      go_wp2_with fail
      refine (unhide HRQ).mono ?_
      rintro e w2 ⟨rfl, hw2⟩
      obtain rfl := hw2.symm
      clear hw2
      go_wp2_with fail
      have HA2 : Hid (Arr (wr.setCell ⟨g, o + q, none⟩ (.int .i64 (wrap64 L))) g 67 (jputs cs o (nV (rdN b k n (q + 1))))) := hide (by have e := sarr_set (j := o + q) HA.out (.int .i64 (IntKind.i64.wrap L)); rw [HSQ.out, IntWalk.i64_left] at e; exact e)
      have HB2 : Hid (Below w0.heap.size w0 (wr.setCell ⟨g, o + q, none⟩ (.int .i64 (wrap64 L)))) := hide (jbelow_grown HB.out (sgrown_set _ _ _ _) HB.out.size HG.out)
      refine ⟨⟨q + 1, by omega, by go_num, by rw [HKR.out], HA2, HB2⟩, ?_⟩
      simp [intOf]
      omega
    · have HQM : Hid (q = m) := hide (by omega)
      have HA9 : Hid (Arr wr g 67 (jputs cs o (nV (rdN b k n m)))) := hide (by have := HA.out; rw [HQM.out] at this; exact this)
      go_wp2
      go_end0
      exact ⟨rfl, HA9.out, HB.out⟩
set_option maxRecDepth 100000 in
set_option maxHeartbeats 1000000 in
theorem keyIn_calls {w : World} {v : Value} {b : List Int} (h : IsB w v b) {k : Nat} (hs : k + 32 ≤ b.length) :
    Calls Tryd.prog 44 #[v, .int .i64 (k : Int)] w fun e w' => e = .returned (.agg (((b.drop k).take 32).map (Value.int .u8)).toArray) ∧ Below w.heap.size w w' := by
  have hbl := h.len
  have hrl : ((b.drop k).take 32).length = 32 := by simp; omega
  obtain ⟨_, va, vc, rfl, hlc, hvm, _, hcell⟩ := id h
  obtain ⟨bk, of, rfl, _⟩ := hcell (by omega)
  have hsl := fun W => slice32s (bk := bk) (of := of) (n := b.length) (c := vc) (k := k) (by omega) W
  have hap := fun W => arr_atK (some ⟨bk, of + k, none⟩) (vc - k) W
  have HS : Hid (∀ W, Below w.heap.size w W → W.rangeAt bk (of + k) (((b.drop k).take 32).map (Value.int .u8))) := hide (fun W hW => isB_rangeS (h.below hW) (by omega) (by decide))
  obtain ⟨k1, hk1⟩ : ∃ k1 : Nat, k1 = k + 32 := ⟨_, rfl⟩
  rw [← hk1] at hsl
  have e1 : (k : Int) + 32 = (k1 : Int) := by omega
  have e1w : IntKind.i64.wrap ((k : Int) + 32) = (k1 : Int) := by rw [e1]; exact IntWalk.i64_in _ (by omega)
  have hinfK := infoKof hrl
  have hone : ∀ u ∈ ((b.drop k).take 32).map (Value.int .u8), u.oneCell' = true := by
    intro u hu
    obtain ⟨x, _, rfl⟩ := List.mem_map.1 hu
    rfl
  have hlen : z32K.length = (((b.drop k).take 32).map (Value.int .u8)).length := by rw [List.length_map, hrl]; rfl
  generalize ((b.drop k).take 32).map (Value.int .u8) = rc at *
  generalize hbn : b.length = bn at *
  have HB1 := hide (jalloc_below w (.cells z32K.toArray 28))
  have hr1 := unhide HS _ HB1.out
  clear h hcell hk1 hbn hrl
  go_enter Tryd.func44, Tryd.ntmps44
  go_wp2_with (first
    | (refine wpList_allocJ rfl 28 rfl infoK0 ?_)
    | (refine wpList_loadJ rfl 28 (.tmp 10) rfl bk (of + k) rfl rc _ hr1 Tryd.underlying28 rfl hinfK ?_)
    | (refine wpList_storeJ rfl (.tmp 4) (.tmp 11) 28 rfl rfl rfl (Arr.new w z32K 28) hinfK hlen hone ?_; intro w2 hA2 hg2)
    | fail)
  have HB3 := hide (jbelow_grown HB1.out hg2 HB1.out.size (Nat.le_refl _))
  refine bodyPost_ret (results_rowJ rfl rfl hA2 Tryd.underlying28 rfl hinfK) rfl ?_
  exact ⟨rfl, HB3.out⟩
end Go.Proofs.YtpeopejnkbmcdaaDoor

namespace Go.Proofs.YtpeopejnkbmcdaaDoor
open Go.RowKit Go.Maps

theorem sequal_calls {w : World} {va vb : Value} {xs ys : List Int} (ha : IsB w va xs) (hb : IsB w vb ys) : Calls Tryd.prog 34 #[va, vb] w fun e w' => e = .returned (.bool (decide (xs = ys))) ∧ w' = w := by
  have c1 := conv_isB ha
  have c2 := conv_isB hb
  have he : ((mkS xs).toList == (mkS ys).toList) = decide (xs = ys) := by
    rw [Bool.eq_iff_iff, beq_iff_eq, decide_eq_true_iff, ByteArray.toList_eq, ByteArray.toList_eq]
    exact ⟨fun h => mkS_inj ha.mem hb.mem (congrArg ByteArray.mk (Array.toList_inj.1 h)), fun h => by rw [h]⟩
  clear ha hb
  go_enter Tryd.func34, Tryd.ntmps34
  go_wp2
  go_ret
  exact ⟨by rfl, rfl⟩
theorem swrap4 {b : List Int} (hb : By8 b) (k : Nat) : IntKind.i64.wrap (leN ((b.drop k).take 4)) = w4 b k := by
  have := jfour hb k
  exact IntWalk.i64_in _ (by omega)
theorem rdN_four {b : List Int} (hb : By8 b) (k : Nat) : rdN b k 4 2 = [w4 b k, w4 b (k + 4)] := by
  have e : rdN b k 4 2 = [IntKind.i64.wrap (leN ((b.drop k).take 4)), IntKind.i64.wrap (leN ((b.drop (k + 4)).take 4))] := rfl
  rw [e, swrap4 hb, swrap4 hb]
theorem rdN_eight (b : List Int) (k : Nat) : rdN b k 8 3 = [w8 b k, w8 b (k + 8), w8 b (k + 16)] := rfl
theorem nums_are {b : List Int} (hb : By8 b) : jputs (jputs (jputs (jputs z9 0 (nV (rdN b 4 4 2))) 2 (nV (rdN b 12 8 3))) 5 (nV (rdN b 100 4 2))) 7 (nV (rdN b 140 4 2)) = nV (slN (nmS b)) := by
  rw [rdN_four hb, rdN_four hb, rdN_four hb, rdN_eight]
  rfl
theorem list32 {l : List Int} (h : l.length = 32) : ∃ k0 k1 k2 k3 k4 k5 k6 k7 k8 k9 k10 k11 k12 k13 k14 k15 k16 k17 k18 k19 k20 k21 k22 k23 k24 k25 k26 k27 k28 k29 k30 k31, l = [k0, k1, k2, k3, k4, k5, k6, k7, k8, k9, k10, k11, k12, k13, k14, k15, k16, k17, k18, k19, k20, k21, k22, k23, k24, k25, k26, k27, k28, k29, k30, k31] :=
  match l, h with
  | [k0, k1, k2, k3, k4, k5, k6, k7, k8, k9, k10, k11, k12, k13, k14, k15, k16, k17, k18, k19, k20, k21, k22, k23, k24, k25, k26, k27, k28, k29, k30, k31], _ => ⟨k0, k1, k2, k3, k4, k5, k6, k7, k8, k9, k10, k11, k12, k13, k14, k15, k16, k17, k18, k19, k20, k21, k22, k23, k24, k25, k26, k27, k28, k29, k30, k31, rfl⟩
theorem buildSl_x (k0 k1 k2 k3 k4 k5 k6 k7 k8 k9 k10 k11 k12 k13 k14 k15 k16 k17 k18 k19 k20 k21 k22 k23 k24 k25 k26 k27 k28 k29 k30 k31 r0 r1 r2 r3 r4 r5 r6 r7 r8 r9 r10 r11 r12 r13 r14 r15 r16 r17 r18 r19 r20 r21 r22 r23 r24 r25 r26 r27 r28 r29 r30 r31 m0 m1 m2 m3 m4 m5 m6 m7 m8 m9 m10 m11 m12 m13 m14 m15 m16 m17 m18 m19 m20 m21 m22 m23 m24 m25 m26 m27 m28 m29 m30 m31 a0 a1 a2 a3 a4 a5 a6 a7 a8 : Int) (W : World) :
    (Instr.build 32 #[(0, .int .i64 a0), (1, .int .i64 a1), (2, .int .i64 a2), (3, .int .i64 a3), (4, .int .i64 a4), (5, .agg ([k0, k1, k2, k3, k4, k5, k6, k7, k8, k9, k10, k11, k12, k13, k14, k15, k16, k17, k18, k19, k20, k21, k22, k23, k24, k25, k26, k27, k28, k29, k30, k31].map (Value.int .u8)).toArray), (6, .agg (jfV ⟨[r0, r1, r2, r3, r4, r5, r6, r7, r8, r9, r10, r11, r12, r13, r14, r15, r16, r17, r18, r19, r20, r21, r22, r23, r24, r25, r26, r27, r28, r29, r30, r31], a5, a6⟩).toArray), (7, .agg (jfV ⟨[m0, m1, m2, m3, m4, m5, m6, m7, m8, m9, m10, m11, m12, m13, m14, m15, m16, m17, m18, m19, m20, m21, m22, m23, m24, m25, m26, m27, m28, m29, m30, m31], a7, a8⟩).toArray)]).run Tryd.prog W = .ok (.agg (slV ⟨a0, a1, a2, a3, a4, [k0, k1, k2, k3, k4, k5, k6, k7, k8, k9, k10, k11, k12, k13, k14, k15, k16, k17, k18, k19, k20, k21, k22, k23, k24, k25, k26, k27, k28, k29, k30, k31], ⟨[r0, r1, r2, r3, r4, r5, r6, r7, r8, r9, r10, r11, r12, r13, r14, r15, r16, r17, r18, r19, r20, r21, r22, r23, r24, r25, r26, r27, r28, r29, r30, r31], a5, a6⟩, ⟨[m0, m1, m2, m3, m4, m5, m6, m7, m8, m9, m10, m11, m12, m13, m14, m15, m16, m17, m18, m19, m20, m21, m22, m23, m24, m25, m26, m27, m28, m29, m30, m31], a7, a8⟩⟩).toArray) W := by kernel_rfl
theorem buildSl {s : SL} (h : s.Ok) (W : World) : (Instr.build 32 #[(0, .int .i64 s.sc), (1, .int .i64 s.j), (2, .int .i64 s.t), (3, .int .i64 s.g), (4, .int .i64 s.s), (5, .agg (s.k.map (Value.int .u8)).toArray), (6, .agg (jfV s.r).toArray), (7, .agg (jfV s.m).toArray)]).run Tryd.prog W = .ok (.agg (slV s).toArray) W := by
  have hk := h.len
  have hr := h.r.len
  have hm := h.m.len
  clear h
  rcases s with ⟨a0, a1, a2, a3, a4, lk, ⟨lr, a5, a6⟩, ⟨lm, a7, a8⟩⟩
  obtain ⟨k0, k1, k2, k3, k4, k5, k6, k7, k8, k9, k10, k11, k12, k13, k14, k15, k16, k17, k18, k19, k20, k21, k22, k23, k24, k25, k26, k27, k28, k29, k30, k31, rfl⟩ := list32 hk
  obtain ⟨r0, r1, r2, r3, r4, r5, r6, r7, r8, r9, r10, r11, r12, r13, r14, r15, r16, r17, r18, r19, r20, r21, r22, r23, r24, r25, r26, r27, r28, r29, r30, r31, rfl⟩ := list32 hr
  obtain ⟨m0, m1, m2, m3, m4, m5, m6, m7, m8, m9, m10, m11, m12, m13, m14, m15, m16, m17, m18, m19, m20, m21, m22, m23, m24, m25, m26, m27, m28, m29, m30, m31, rfl⟩ := list32 hm
  exact buildSl_x k0 k1 k2 k3 k4 k5 k6 k7 k8 k9 k10 k11 k12 k13 k14 k15 k16 k17 k18 k19 k20 k21 k22 k23 k24 k25 k26 k27 k28 k29 k30 k31 r0 r1 r2 r3 r4 r5 r6 r7 r8 r9 r10 r11 r12 r13 r14 r15 r16 r17 r18 r19 r20 r21 r22 r23 r24 r25 r26 r27 r28 r29 r30 r31 m0 m1 m2 m3 m4 m5 m6 m7 m8 m9 m10 m11 m12 m13 m14 m15 m16 m17 m18 m19 m20 m21 m22 m23 m24 m25 m26 m27 m28 m29 m30 m31 a0 a1 a2 a3 a4 a5 a6 a7 a8 W
theorem keyIn_enter (v u : Value) (W : World) : (callFunc 44 #[v, u]).run Tryd.prog W = .ok (.enter 44 #[v, u]) W := by kernel_rfl
theorem yields_bld8S {ops : Array Oper} {o : Oper} {a : Act} {S : World → Prop} (hw : Region.wanted o (yielded ops a.tmps) = true) (t : TypeId) (x0 x1 x2 x3 x4 x5 x6 x7 : Operand) (ho : o.op = .build t #[(0, x0), (1, x1), (2, x2), (3, x3), (4, x4), (5, x5), (6, x6), (7, x7)]) {v0 v1 v2 v3 v4 v5 v6 v7 v : Value} (h0 : a.eval x0 = v0) (h1 : a.eval x1 = v1) (h2 : a.eval x2 = v2) (h3 : a.eval x3 = v3) (h4 : a.eval x4 = v4) (h5 : a.eval x5 = v5) (h6 : a.eval x6 = v6) (h7 : a.eval x7 = v7) (hrun : ∀ W, (Instr.build t #[(0, v0), (1, v1), (2, v2), (3, v3), (4, v4), (5, v5), (6, v6), (7, v7)]).run Tryd.prog W = .ok v W) : YieldsIf Tryd.prog ops S o v a :=
  .inl ⟨hw, fun w _ => by
    unfold execOp
    simp only [ho, List.map_toArray, List.map_cons, List.map_nil, h0, h1, h2, h3, h4, h5, h6, h7, Sem.run_bind, hrun w, Result.andThen_ok, Sem.run_pure]⟩
set_option maxRecDepth 100000 in
set_option maxHeartbeats 2000000 in
theorem snamed_calls {w : World} {v : Value} {b : List Int} (h : IsB w v b) (hl : b.length = 512) :
    Calls Tryd.prog 33 #[v] w fun e w' => e = .returned (.agg (slV (nmS b)).toArray) ∧ Below w.heap.size w w' := by
  have hby : By8 b := h.mem
  have hok := nmS_ok hby hl
  obtain ⟨C1, hC1⟩ : ∃ C, C = jputs z9 0 (nV (rdN b 4 4 2)) := ⟨_, rfl⟩
  obtain ⟨C2, hC2⟩ : ∃ C, C = jputs C1 2 (nV (rdN b 12 8 3)) := ⟨_, rfl⟩
  obtain ⟨C3, hC3⟩ : ∃ C, C = jputs C2 5 (nV (rdN b 100 4 2)) := ⟨_, rfl⟩
  have hC4 : jputs C3 7 (nV (rdN b 140 4 2)) = nV (slN (nmS b)) := by rw [hC3, hC2, hC1]; exact nums_are hby
  have l1 : C1.length = 9 := by rw [hC1, jputs_len]; rfl
  have l2 : C2.length = 9 := by rw [hC2, jputs_len, l1]
  have l3 : C3.length = 9 := by rw [hC3, jputs_len, l2]
  have HR1 : Hid (∀ w1 W g, Below w.heap.size w w1 → Below w1.heap.size w1 W → w1.heap.size ≤ g → Arr W g 67 z9 → Calls Tryd.prog 43 #[v, .int .i64 4, .int .i64 4, .slice (some ⟨g, 0, none⟩) 2 9] W fun e w' => e = .returned (.tuple #[]) ∧ Arr w' g 67 C1 ∧ Below w1.heap.size w1 w') := hide (fun w1 W g h1 h2 h3 hA => by
    rw [hC1]; exact readNs_calls (k := 4) (n := 4) (h.below h1) h2 h3 hA rfl (by decide) (by decide) (by decide) (by omega) (by omega) (by decide))
  have HR2 : Hid (∀ w1 W g, Below w.heap.size w w1 → Below w1.heap.size w1 W → w1.heap.size ≤ g → Arr W g 67 C1 → Calls Tryd.prog 43 #[v, .int .i64 12, .int .i64 8, .slice (some ⟨g, 2, none⟩) 3 7] W fun e w' => e = .returned (.tuple #[]) ∧ Arr w' g 67 C2 ∧ Below w1.heap.size w1 w') := hide (fun w1 W g h1 h2 h3 hA => by
    rw [hC2]; exact readNs_calls (k := 12) (n := 8) (h.below h1) h2 h3 hA l1 (by decide) (by decide) (by decide) (by omega) (by omega) (by decide))
  have HR3 : Hid (∀ w1 W g, Below w.heap.size w w1 → Below w1.heap.size w1 W → w1.heap.size ≤ g → Arr W g 67 C2 → Calls Tryd.prog 43 #[v, .int .i64 100, .int .i64 4, .slice (some ⟨g, 5, none⟩) 2 4] W fun e w' => e = .returned (.tuple #[]) ∧ Arr w' g 67 C3 ∧ Below w1.heap.size w1 w') := hide (fun w1 W g h1 h2 h3 hA => by
    rw [hC3]; exact readNs_calls (k := 100) (n := 4) (h.below h1) h2 h3 hA l2 (by decide) (by decide) (by decide) (by omega) (by omega) (by decide))
  have HR4 : Hid (∀ w1 W g, Below w.heap.size w w1 → Below w1.heap.size w1 W → w1.heap.size ≤ g → Arr W g 67 C3 → Calls Tryd.prog 43 #[v, .int .i64 140, .int .i64 4, .slice (some ⟨g, 7, none⟩) 2 2] W fun e w' => e = .returned (.tuple #[]) ∧ Arr w' g 67 (nV (slN (nmS b))) ∧ Below w1.heap.size w1 w') := hide (fun w1 W g h1 h2 h3 hA => by
    rw [← hC4]; exact readNs_calls (k := 140) (n := 4) (h.below h1) h2 h3 hA l3 (by decide) (by decide) (by decide) (by omega) (by omega) (by decide))
  have HK1 : Hid (∀ W, Below w.heap.size w W → Calls Tryd.prog 44 #[v, .int .i64 36] W fun e w' => e = .returned (.agg ((nmS b).k.map (Value.int .u8)).toArray) ∧ Below W.heap.size W w') := hide (fun W hW => keyIn_calls (k := 36) (h.below hW) (by omega))
  have HK2 : Hid (∀ W, Below w.heap.size w W → Calls Tryd.prog 44 #[v, .int .i64 68] W fun e w' => e = .returned (.agg ((nmS b).r.h.map (Value.int .u8)).toArray) ∧ Below W.heap.size W w') := hide (fun W hW => keyIn_calls (k := 68) (h.below hW) (by omega))
  have HK3 : Hid (∀ W, Below w.heap.size w W → Calls Tryd.prog 44 #[v, .int .i64 108] W fun e w' => e = .returned (.agg ((nmS b).m.h.map (Value.int .u8)).toArray) ∧ Below W.heap.size W w') := hide (fun W hW => keyIn_calls (k := 108) (h.below hW) (by omega))
  clear hC1 hC2 hC3 hC4 l1 l2 l3
  have hb8 := buildRf hok.r.len (nmS b).r.f (nmS b).r.l
  have hb9 := buildRf hok.m.len (nmS b).m.f (nmS b).m.l
  have HBR : Hid (∀ W, (Instr.build 30 #[(0, .agg ((nmS b).r.h.map (Value.int .u8)).toArray), (1, .int .i64 (nmS b).r.f), (2, .int .i64 (nmS b).r.l)]).run Tryd.prog W = .ok (.agg (jfV (nmS b).r).toArray) W) := hide hb8
  have HBM : Hid (∀ W, (Instr.build 30 #[(0, .agg ((nmS b).m.h.map (Value.int .u8)).toArray), (1, .int .i64 (nmS b).m.f), (2, .int .i64 (nmS b).m.l)]).run Tryd.prog W = .ok (.agg (jfV (nmS b).m).toArray) W) := hide hb9
  have HBS := hide (buildSl hok)
  have HCL : Hid (∀ W g, Arr W g 67 (nV (slN (nmS b))) → W.cell? ⟨g, 0, none⟩ = some (.int .i64 (nmS b).sc) ∧ W.cell? ⟨g, 1, none⟩ = some (.int .i64 (nmS b).j) ∧ W.cell? ⟨g, 2, none⟩ = some (.int .i64 (nmS b).t) ∧ W.cell? ⟨g, 3, none⟩ = some (.int .i64 (nmS b).g) ∧ W.cell? ⟨g, 4, none⟩ = some (.int .i64 (nmS b).s) ∧ W.cell? ⟨g, 5, none⟩ = some (.int .i64 (nmS b).r.f) ∧ W.cell? ⟨g, 6, none⟩ = some (.int .i64 (nmS b).r.l) ∧ W.cell? ⟨g, 7, none⟩ = some (.int .i64 (nmS b).m.f) ∧ W.cell? ⟨g, 8, none⟩ = some (.int .i64 (nmS b).m.l)) := hide (fun W g hA => ⟨hA.cell 0, hA.cell 1, hA.cell 2, hA.cell 3, hA.cell 4, hA.cell 5, hA.cell 6, hA.cell 7, hA.cell 8⟩)
  have hinfS := infoSof hok
  have hlenS : z105.length = (slV (nmS b)).length := by rw [slV_len hok]; rfl
  have honeS := slV_one (nmS b)
  clear hb8 hb9
  generalize nmS b = s at *
  obtain ⟨va, vn, vc, rfl⟩ := h.shape
  have hba := jalloc_below w (.cells z105.toArray 32)
  have hA0 := Arr.new w z105 32
  obtain ⟨w1, hw1⟩ : ∃ w1, w1 = w.alloc (.cells z105.toArray 32) := ⟨_, rfl⟩
  rw [← hw1] at hba hA0
  have HBA := hide hba
  have HA0 := hide hA0
  have HW1 := hide hw1
  have hbb := jalloc_below w1 (.cells z9.toArray 67)
  have hA1 := Arr.new w1 z9 67
  obtain ⟨w2, hw2⟩ : ∃ w2, w2 = w1.alloc (.cells z9.toArray 67) := ⟨_, rfl⟩
  rw [← hw2] at hbb hA1
  have HBB := hide hbb
  have HA1 := hide hA1
  have HW2 := hide hw2
  obtain ⟨g2, hg2⟩ : ∃ g2, g2 = w.heap.size := ⟨_, rfl⟩
  rw [← hg2] at HA0
  have HG2 := hide hg2
  obtain ⟨g3, hg3⟩ : ∃ g3, g3 = w1.heap.size := ⟨_, rfl⟩
  rw [← hg3] at HA1
  have HG3 := hide hg3
  have HLE : Hid (w1.heap.size ≤ g3) := hide (by rw [HG3.out]; exact Nat.le_refl _)
  clear h hby hok hba hA0 hw1 hbb hA1 hw2 hg2 hg3 hl
  generalize slV s = cs1 at *
  generalize nV (slN s) = ns at *
  generalize jfV s.r = jr at *
  generalize jfV s.m = jm at *
  generalize s.k.map (Value.int .u8) = kk at *
  generalize s.r.h.map (Value.int .u8) = rh at *
  generalize s.m.h.map (Value.int .u8) = mh at *
  generalize s.sc = x0 at *
  generalize s.j = x1 at *
  generalize s.t = x2 at *
  generalize s.g = x3 at *
  generalize s.s = x4 at *
  generalize s.r.f = x5 at *
  generalize s.r.l = x6 at *
  generalize s.m.f = x7 at *
  generalize s.m.l = x8 at *
  go_enter Tryd.func33, Tryd.ntmps33
  go_wp2_with (first
    | (refine wpList_allocJ rfl 32 rfl infoSlo ?_; rw [← HW1.out, ← HG2.out])
    | (refine wpList_allocJ rfl 67 rfl info9 ?_; rw [← HW2.out, ← HG3.out])
    | fail)
  refine (sizes_calls w2 g3).mono ?_
  rintro e wx ⟨rfl, hwx⟩
  obtain rfl := hwx.symm
  clear hwx
  go_wp2_with fail
  refine (unhide HR1 _ _ _ HBA.out HBB.out HLE.out HA1.out).mono ?_
  rintro e w3 ⟨rfl, hA3, hB3⟩
  have HA3 := hide hA3
  have HB3 := hide hB3
  clear hA3 hB3 HA1 HBB HR1
  go_wp2_with fail
  refine (counts_calls w3 g3).mono ?_
  rintro e wx ⟨rfl, hwx⟩
  obtain rfl := hwx.symm
  clear hwx
  go_wp2_with fail
  refine (unhide HR2 _ _ _ HBA.out HB3.out HLE.out HA3.out).mono ?_
  rintro e w4 ⟨rfl, hA4, hB4⟩
  have HA4 := hide hA4
  have HB4 := hide hB4
  clear hA4 hB4 HA3 HB3 HR2
  go_wp2_with fail
  refine (root_calls w4 g3).mono ?_
  rintro e wx ⟨rfl, hwx⟩
  obtain rfl := hwx.symm
  clear hwx
  go_wp2_with fail
  refine (unhide HR3 _ _ _ HBA.out HB4.out HLE.out HA4.out).mono ?_
  rintro e w5 ⟨rfl, hA5, hB5⟩
  have HA5 := hide hA5
  have HB5 := hide hB5
  clear hA5 hB5 HA4 HB4 HR3
  go_wp2_with fail
  refine (memo_calls w5 g3).mono ?_
  rintro e wx ⟨rfl, hwx⟩
  obtain rfl := hwx.symm
  clear hwx
  go_wp2_with fail
  refine (unhide HR4 _ _ _ HBA.out HB5.out HLE.out HA5.out).mono ?_
  rintro e w6 ⟨rfl, hA6, hB6⟩
  have HA6 := hide hA6
  have HB6 := hide hB6
  clear hA6 hB6 HA5 HB5 HR4
  go_wp2_with fail
  have hHS : ∀ W, Below w1.heap.size w1 W → W.heap[g3]? = w6.heap[g3]? → True := fun _ _ _ => trivial
  have HS : Hid (∀ W, Below w6.heap.size w6 W → W.cell? ⟨g3, 0, none⟩ = some (.int .i64 x0) ∧ W.cell? ⟨g3, 1, none⟩ = some (.int .i64 x1) ∧ W.cell? ⟨g3, 2, none⟩ = some (.int .i64 x2) ∧ W.cell? ⟨g3, 3, none⟩ = some (.int .i64 x3) ∧ W.cell? ⟨g3, 4, none⟩ = some (.int .i64 x4) ∧ W.cell? ⟨g3, 5, none⟩ = some (.int .i64 x5) ∧ W.cell? ⟨g3, 6, none⟩ = some (.int .i64 x6) ∧ W.cell? ⟨g3, 7, none⟩ = some (.int .i64 x7) ∧ W.cell? ⟨g3, 8, none⟩ = some (.int .i64 x8)) := hide (fun W hW => unhide HCL W g3 (HA6.out.below hW))
  have HWB : Hid (∀ W, Below w6.heap.size w6 W → Below w.heap.size w W ∧ Arr W g2 32 z105) := hide (fun W hW => by
    have h1 := below_then HB6.out hW
    exact ⟨below_then HBA.out h1, HA0.out.below h1⟩)
  clear hHS
  have HBD := hide ((Below.refl w6.heap.size w6).drew)
  refine wp_region_held_drew (S := fun W => W.cell? ⟨g3, 0, none⟩ = some (.int .i64 x0) ∧ W.cell? ⟨g3, 1, none⟩ = some (.int .i64 x1) ∧ W.cell? ⟨g3, 2, none⟩ = some (.int .i64 x2) ∧ W.cell? ⟨g3, 3, none⟩ = some (.int .i64 x3) ∧ W.cell? ⟨g3, 4, none⟩ = some (.int .i64 x4) ∧ W.cell? ⟨g3, 5, none⟩ = some (.int .i64 x5) ∧ W.cell? ⟨g3, 6, none⟩ = some (.int .i64 x6) ∧ W.cell? ⟨g3, 7, none⟩ = some (.int .i64 x7) ∧ W.cell? ⟨g3, 8, none⟩ = some (.int .i64 x8)) (by kernel_rfl) (unhide HS _ HBD.out) (fun hHeld => ?_)
  refine wpAnyH_take (i := 0) (v := .pointer (some ⟨g3, 0, none⟩)) rfl (by kernel_rfl) (by kernel_rfl) (by kernel_rfl) (fun _ _ _ h => h) (Or.inl ⟨by rfl, fun w hSw => by obtain ⟨hS0, hS1, hS2, hS3, hS4, hS5, hS6, hS7, hS8⟩ := hSw; go_simp⟩) (by assumption) ?_
  simp only [List.getElem_toArray, List.getElem_cons_zero, Act.put, List.setIfInBounds_toArray, List.set_cons_zero, List.set_cons_succ]
  refine wpAnyH_take (i := 1) (v := .int .i64 x0) rfl (by kernel_rfl) (by kernel_rfl) (by kernel_rfl) (fun _ _ _ h => h) (Or.inl ⟨by rfl, fun w hSw => by obtain ⟨hS0, hS1, hS2, hS3, hS4, hS5, hS6, hS7, hS8⟩ := hSw; go_simp⟩) (by assumption) ?_
  simp only [List.getElem_toArray, List.getElem_cons_succ, List.getElem_cons_zero, Act.put, List.setIfInBounds_toArray, List.set_cons_zero, List.set_cons_succ]
  refine wpAnyH_take (i := 2) (v := .pointer (some ⟨g3, 1, none⟩)) rfl (by kernel_rfl) (by kernel_rfl) (by kernel_rfl) (fun _ _ _ h => h) (Or.inl ⟨by rfl, fun w hSw => by obtain ⟨hS0, hS1, hS2, hS3, hS4, hS5, hS6, hS7, hS8⟩ := hSw; go_simp⟩) (by assumption) ?_
  simp only [List.getElem_toArray, List.getElem_cons_succ, List.getElem_cons_zero, Act.put, List.setIfInBounds_toArray, List.set_cons_zero, List.set_cons_succ]
  refine wpAnyH_take (i := 3) (v := .int .i64 x1) rfl (by kernel_rfl) (by kernel_rfl) (by kernel_rfl) (fun _ _ _ h => h) (Or.inl ⟨by rfl, fun w hSw => by obtain ⟨hS0, hS1, hS2, hS3, hS4, hS5, hS6, hS7, hS8⟩ := hSw; go_simp⟩) (by assumption) ?_
  simp only [List.getElem_toArray, List.getElem_cons_succ, List.getElem_cons_zero, Act.put, List.setIfInBounds_toArray, List.set_cons_zero, List.set_cons_succ]
  refine wpAnyH_take (i := 4) (v := .pointer (some ⟨g3, 2, none⟩)) rfl (by kernel_rfl) (by kernel_rfl) (by kernel_rfl) (fun _ _ _ h => h) (Or.inl ⟨by rfl, fun w hSw => by obtain ⟨hS0, hS1, hS2, hS3, hS4, hS5, hS6, hS7, hS8⟩ := hSw; go_simp⟩) (by assumption) ?_
  simp only [List.getElem_toArray, List.getElem_cons_succ, List.getElem_cons_zero, Act.put, List.setIfInBounds_toArray, List.set_cons_zero, List.set_cons_succ]
  refine wpAnyH_take (i := 5) (v := .int .i64 x2) rfl (by kernel_rfl) (by kernel_rfl) (by kernel_rfl) (fun _ _ _ h => h) (Or.inl ⟨by rfl, fun w hSw => by obtain ⟨hS0, hS1, hS2, hS3, hS4, hS5, hS6, hS7, hS8⟩ := hSw; go_simp⟩) (by assumption) ?_
  simp only [List.getElem_toArray, List.getElem_cons_succ, List.getElem_cons_zero, Act.put, List.setIfInBounds_toArray, List.set_cons_zero, List.set_cons_succ]
  refine wpAnyH_take (i := 6) (v := .pointer (some ⟨g3, 3, none⟩)) rfl (by kernel_rfl) (by kernel_rfl) (by kernel_rfl) (fun _ _ _ h => h) (Or.inl ⟨by rfl, fun w hSw => by obtain ⟨hS0, hS1, hS2, hS3, hS4, hS5, hS6, hS7, hS8⟩ := hSw; go_simp⟩) (by assumption) ?_
  simp only [List.getElem_toArray, List.getElem_cons_succ, List.getElem_cons_zero, Act.put, List.setIfInBounds_toArray, List.set_cons_zero, List.set_cons_succ]
  refine wpAnyH_take (i := 7) (v := .int .i64 x3) rfl (by kernel_rfl) (by kernel_rfl) (by kernel_rfl) (fun _ _ _ h => h) (Or.inl ⟨by rfl, fun w hSw => by obtain ⟨hS0, hS1, hS2, hS3, hS4, hS5, hS6, hS7, hS8⟩ := hSw; go_simp⟩) (by assumption) ?_
  simp only [List.getElem_toArray, List.getElem_cons_succ, List.getElem_cons_zero, Act.put, List.setIfInBounds_toArray, List.set_cons_zero, List.set_cons_succ]
  refine wpAnyH_take (i := 8) (v := .pointer (some ⟨g3, 4, none⟩)) rfl (by kernel_rfl) (by kernel_rfl) (by kernel_rfl) (fun _ _ _ h => h) (Or.inl ⟨by rfl, fun w hSw => by obtain ⟨hS0, hS1, hS2, hS3, hS4, hS5, hS6, hS7, hS8⟩ := hSw; go_simp⟩) (by assumption) ?_
  simp only [List.getElem_toArray, List.getElem_cons_succ, List.getElem_cons_zero, Act.put, List.setIfInBounds_toArray, List.set_cons_zero, List.set_cons_succ]
  refine wpAnyH_take (i := 9) (v := .int .i64 x4) rfl (by kernel_rfl) (by kernel_rfl) (by kernel_rfl) (fun _ _ _ h => h) (Or.inl ⟨by rfl, fun w hSw => by obtain ⟨hS0, hS1, hS2, hS3, hS4, hS5, hS6, hS7, hS8⟩ := hSw; go_simp⟩) (by assumption) ?_
  simp only [List.getElem_toArray, List.getElem_cons_succ, List.getElem_cons_zero, Act.put, List.setIfInBounds_toArray, List.set_cons_zero, List.set_cons_succ]
  refine wpAnyH_take (i := 10) (v := .slice va vn vc) rfl (by kernel_rfl) (by kernel_rfl) (by kernel_rfl) (fun _ _ _ h => h) (Or.inl ⟨by rfl, fun w hSw => by obtain ⟨hS0, hS1, hS2, hS3, hS4, hS5, hS6, hS7, hS8⟩ := hSw; go_simp⟩) (by assumption) ?_
  simp only [List.getElem_toArray, List.getElem_cons_succ, List.getElem_cons_zero, Act.put, List.setIfInBounds_toArray, List.set_cons_zero, List.set_cons_succ]
  refine wpAnyH_take (i := 12) (v := .slice va vn vc) rfl (by kernel_rfl) (by kernel_rfl) (by kernel_rfl) (fun _ _ _ h => h) (Or.inl ⟨by rfl, fun w hSw => by obtain ⟨hS0, hS1, hS2, hS3, hS4, hS5, hS6, hS7, hS8⟩ := hSw; go_simp⟩) (by assumption) ?_
  simp only [List.getElem_toArray, List.getElem_cons_succ, List.getElem_cons_zero, Act.put, List.setIfInBounds_toArray, List.set_cons_zero, List.set_cons_succ]
  refine wpAnyH_take (i := 14) (v := .pointer (some ⟨g3, 5, none⟩)) rfl (by kernel_rfl) (by kernel_rfl) (by kernel_rfl) (fun _ _ _ h => h) (Or.inl ⟨by rfl, fun w hSw => by obtain ⟨hS0, hS1, hS2, hS3, hS4, hS5, hS6, hS7, hS8⟩ := hSw; go_simp⟩) (by assumption) ?_
  simp only [List.getElem_toArray, List.getElem_cons_succ, List.getElem_cons_zero, Act.put, List.setIfInBounds_toArray, List.set_cons_zero, List.set_cons_succ]
  refine wpAnyH_take (i := 15) (v := .int .i64 x5) rfl (by kernel_rfl) (by kernel_rfl) (by kernel_rfl) (fun _ _ _ h => h) (Or.inl ⟨by rfl, fun w hSw => by obtain ⟨hS0, hS1, hS2, hS3, hS4, hS5, hS6, hS7, hS8⟩ := hSw; go_simp⟩) (by assumption) ?_
  simp only [List.getElem_toArray, List.getElem_cons_succ, List.getElem_cons_zero, Act.put, List.setIfInBounds_toArray, List.set_cons_zero, List.set_cons_succ]
  refine wpAnyH_take (i := 16) (v := .pointer (some ⟨g3, 6, none⟩)) rfl (by kernel_rfl) (by kernel_rfl) (by kernel_rfl) (fun _ _ _ h => h) (Or.inl ⟨by rfl, fun w hSw => by obtain ⟨hS0, hS1, hS2, hS3, hS4, hS5, hS6, hS7, hS8⟩ := hSw; go_simp⟩) (by assumption) ?_
  simp only [List.getElem_toArray, List.getElem_cons_succ, List.getElem_cons_zero, Act.put, List.setIfInBounds_toArray, List.set_cons_zero, List.set_cons_succ]
  refine wpAnyH_take (i := 17) (v := .int .i64 x6) rfl (by kernel_rfl) (by kernel_rfl) (by kernel_rfl) (fun _ _ _ h => h) (Or.inl ⟨by rfl, fun w hSw => by obtain ⟨hS0, hS1, hS2, hS3, hS4, hS5, hS6, hS7, hS8⟩ := hSw; go_simp⟩) (by assumption) ?_
  simp only [List.getElem_toArray, List.getElem_cons_succ, List.getElem_cons_zero, Act.put, List.setIfInBounds_toArray, List.set_cons_zero, List.set_cons_succ]
  refine wpAnyH_take (i := 19) (v := .slice va vn vc) rfl (by kernel_rfl) (by kernel_rfl) (by kernel_rfl) (fun _ _ _ h => h) (Or.inl ⟨by rfl, fun w hSw => by obtain ⟨hS0, hS1, hS2, hS3, hS4, hS5, hS6, hS7, hS8⟩ := hSw; go_simp⟩) (by assumption) ?_
  simp only [List.getElem_toArray, List.getElem_cons_succ, List.getElem_cons_zero, Act.put, List.setIfInBounds_toArray, List.set_cons_zero, List.set_cons_succ]
  refine wpAnyH_take (i := 21) (v := .pointer (some ⟨g3, 7, none⟩)) rfl (by kernel_rfl) (by kernel_rfl) (by kernel_rfl) (fun _ _ _ h => h) (Or.inl ⟨by rfl, fun w hSw => by obtain ⟨hS0, hS1, hS2, hS3, hS4, hS5, hS6, hS7, hS8⟩ := hSw; go_simp⟩) (by assumption) ?_
  simp only [List.getElem_toArray, List.getElem_cons_succ, List.getElem_cons_zero, Act.put, List.setIfInBounds_toArray, List.set_cons_zero, List.set_cons_succ]
  refine wpAnyH_take (i := 22) (v := .int .i64 x7) rfl (by kernel_rfl) (by kernel_rfl) (by kernel_rfl) (fun _ _ _ h => h) (Or.inl ⟨by rfl, fun w hSw => by obtain ⟨hS0, hS1, hS2, hS3, hS4, hS5, hS6, hS7, hS8⟩ := hSw; go_simp⟩) (by assumption) ?_
  simp only [List.getElem_toArray, List.getElem_cons_succ, List.getElem_cons_zero, Act.put, List.setIfInBounds_toArray, List.set_cons_zero, List.set_cons_succ]
  refine wpAnyH_take (i := 23) (v := .pointer (some ⟨g3, 8, none⟩)) rfl (by kernel_rfl) (by kernel_rfl) (by kernel_rfl) (fun _ _ _ h => h) (Or.inl ⟨by rfl, fun w hSw => by obtain ⟨hS0, hS1, hS2, hS3, hS4, hS5, hS6, hS7, hS8⟩ := hSw; go_simp⟩) (by assumption) ?_
  simp only [List.getElem_toArray, List.getElem_cons_succ, List.getElem_cons_zero, Act.put, List.setIfInBounds_toArray, List.set_cons_zero, List.set_cons_succ]
  refine wpAnyH_take (i := 24) (v := .int .i64 x8) rfl (by kernel_rfl) (by kernel_rfl) (by kernel_rfl) (fun _ _ _ h => h) (Or.inl ⟨by rfl, fun w hSw => by obtain ⟨hS0, hS1, hS2, hS3, hS4, hS5, hS6, hS7, hS8⟩ := hSw; go_simp⟩) (by assumption) ?_
  simp only [List.getElem_toArray, List.getElem_cons_succ, List.getElem_cons_zero, Act.put, List.setIfInBounds_toArray, List.set_cons_zero, List.set_cons_succ]
  refine wpAnyH_ready (rs := [11]) (by kernel_rfl) (by simp) (AllReadyH.cons rfl (fun K hK => ?_) AllReadyH.nil)
  refine step_call2J (by rfl) 44 keyIn_enter (.tmp 26) _ _ rfl rfl rfl (unhide HK1 _ (unhide HWB _ HBD.out).1) ?_
  rintro e wa ⟨rfl, hbwa⟩
  have HBwa := hide (below_then HBD.out hbwa)
  clear hbwa
  refine ⟨_, rfl, ?_⟩
  refine hK.out _ _ (unhide HS _ HBwa.out) (fun hJwa => ?_)
  clear hK K
  simp only [List.getElem_toArray, List.getElem_cons_succ, List.getElem_cons_zero, Act.put, List.setIfInBounds_toArray, List.set_cons_zero, List.set_cons_succ]
  refine wpAnyH_ready (rs := [13]) (by kernel_rfl) (by simp) (AllReadyH.cons rfl (fun K hK => ?_) AllReadyH.nil)
  refine step_call2J (by rfl) 44 keyIn_enter (.tmp 28) _ _ rfl rfl rfl (unhide HK2 _ (unhide HWB _ HBwa.out).1) ?_
  rintro e wb ⟨rfl, hbwb⟩
  have HBwb := hide (below_then HBwa.out hbwb)
  clear hbwb
  refine ⟨_, rfl, ?_⟩
  refine hK.out _ _ (unhide HS _ HBwb.out) (fun hJwb => ?_)
  clear hK K
  simp only [List.getElem_toArray, List.getElem_cons_succ, List.getElem_cons_zero, Act.put, List.setIfInBounds_toArray, List.set_cons_zero, List.set_cons_succ]
  refine wpAnyH_take (i := 18) (v := .agg jr.toArray) rfl (by kernel_rfl) (by kernel_rfl) (by kernel_rfl) (fun _ _ _ h => h) (yields_bld3J (by rfl) 30 0 1 2 (.tmp 29) (.tmp 31) (.tmp 33) rfl (vx := .agg rh.toArray) (vy := .int .i64 x5) (vz := .int .i64 x6) rfl rfl rfl HBR.out) (by assumption) ?_
  simp only [List.getElem_toArray, List.getElem_cons_succ, List.getElem_cons_zero, Act.put, List.setIfInBounds_toArray, List.set_cons_zero, List.set_cons_succ]
  refine wpAnyH_ready (rs := [20]) (by kernel_rfl) (by simp) (AllReadyH.cons rfl (fun K hK => ?_) AllReadyH.nil)
  refine step_call2J (by rfl) 44 keyIn_enter (.tmp 35) _ _ rfl rfl rfl (unhide HK3 _ (unhide HWB _ HBwb.out).1) ?_
  rintro e wc ⟨rfl, hbwc⟩
  have HBwc := hide (below_then HBwb.out hbwc)
  clear hbwc
  refine ⟨_, rfl, ?_⟩
  refine hK.out _ _ (unhide HS _ HBwc.out) (fun hJwc => ?_)
  clear hK K
  simp only [List.getElem_toArray, List.getElem_cons_succ, List.getElem_cons_zero, Act.put, List.setIfInBounds_toArray, List.set_cons_zero, List.set_cons_succ]
  refine wpAnyH_take (i := 25) (v := .agg jm.toArray) rfl (by kernel_rfl) (by kernel_rfl) (by kernel_rfl) (fun _ _ _ h => h) (yields_bld3J (by rfl) 30 0 1 2 (.tmp 36) (.tmp 38) (.tmp 40) rfl (vx := .agg mh.toArray) (vy := .int .i64 x7) (vz := .int .i64 x8) rfl rfl rfl HBM.out) (by assumption) ?_
  simp only [List.getElem_toArray, List.getElem_cons_succ, List.getElem_cons_zero, Act.put, List.setIfInBounds_toArray, List.set_cons_zero, List.set_cons_succ]
  refine wpAnyH_take (i := 26) (v := .agg cs1.toArray) rfl (by kernel_rfl) (by kernel_rfl) (by kernel_rfl) (fun _ _ _ h => h) (yields_bld8S (by rfl) 32 (.tmp 17) (.tmp 19) (.tmp 21) (.tmp 23) (.tmp 25) (.tmp 27) (.tmp 34) (.tmp 41) rfl (v0 := .int .i64 x0) (v1 := .int .i64 x1) (v2 := .int .i64 x2) (v3 := .int .i64 x3) (v4 := .int .i64 x4) (v5 := .agg kk.toArray) (v6 := .agg jr.toArray) (v7 := .agg jm.toArray) rfl rfl rfl rfl rfl rfl rfl rfl HBS.out) (by assumption) ?_
  simp only [List.getElem_toArray, List.getElem_cons_succ, List.getElem_cons_zero, Act.put, List.setIfInBounds_toArray, List.set_cons_zero, List.set_cons_succ]
  have HX9 : Hid (∀ w9, wc.grownBy w9 (some g2) → (fun W => W.cell? ⟨g3, 0, none⟩ = some (.int .i64 x0) ∧ W.cell? ⟨g3, 1, none⟩ = some (.int .i64 x1) ∧ W.cell? ⟨g3, 2, none⟩ = some (.int .i64 x2) ∧ W.cell? ⟨g3, 3, none⟩ = some (.int .i64 x3) ∧ W.cell? ⟨g3, 4, none⟩ = some (.int .i64 x4) ∧ W.cell? ⟨g3, 5, none⟩ = some (.int .i64 x5) ∧ W.cell? ⟨g3, 6, none⟩ = some (.int .i64 x6) ∧ W.cell? ⟨g3, 7, none⟩ = some (.int .i64 x7) ∧ W.cell? ⟨g3, 8, none⟩ = some (.int .i64 x8)) w9) := hide (fun w9 hg9 => unhide HCL w9 g3 (arr_grown (HA6.out.below HBwc.out) hg9 (by have := HG2.out; have := HG3.out; have := HA0.out.lt; simp; omega)))
  refine wpAnyH_ready (rs := [27]) (by kernel_rfl) (by simp) (AllReadyH.cons rfl (fun K hK => ?_) AllReadyH.nil)
  refine step_storeJ (by rfl) (.tmp 2) (.tmp 42) 32 rfl rfl rfl (unhide HWB _ HBwc.out).2 hinfS hlenS honeS ?_
  intro w9 hA9 hg9
  have HB9 := hide (jbelow_grown (unhide HWB _ HBwc.out).1 hg9 (unhide HWB _ HBwc.out).1.size (by rw [HG2.out]; exact Nat.le_refl _))
  have hS9 := unhide HX9 w9 hg9
  refine hK.out _ _ (hS9) (fun hJ9 => ?_)
  clear hK K
  simp only [List.getElem_toArray, List.getElem_cons_succ, List.getElem_cons_zero, Act.put]
  refine wpAnyH_done (by kernel_rfl) ?_ _
  go_wp2
  refine bodyPost_ret (results_rowJ rfl rfl hA9 Tryd.underlying32 rfl hinfS) rfl ?_
  exact ⟨rfl, HB9.out⟩
end Go.Proofs.YtpeopejnkbmcdaaDoor

namespace Go.Proofs.YtpeopejnkbmcdaaDoor
open Go.RowKit Go.Maps

set_option maxRecDepth 100000 in
set_option maxHeartbeats 2000000 in
theorem sdec_short {w : World} {v : Value} {b : List Int} (h : IsB w v b) (hl : b.length ≠ 512) :
    Calls Tryd.prog 15 #[v] w fun e w' => e = .returned (.tuple #[.agg (slV .nul).toArray, .int .i64 180]) ∧ Below w.heap.size w w' := by
  obtain ⟨_, va, vc, rfl, hlc, hvm, _, _⟩ := id h
  have hne : ((b.length : Int) != 512) = true := by simpa using (by omega : ¬ (b.length : Int) = 512)
  generalize b.length = n at *
  have hlen : z105.length = (slV .nul).length := by rw [slV_len SL.nul_ok]; rfl
  have hinf := infoSof SL.nul_ok
  have hone := slV_one SL.nul
  have HB1 := hide (jalloc_below w (.cells z105.toArray 32))
  clear h hl
  go_enter Tryd.func15, Tryd.ntmps15
  go_wp2_with (first
    | (refine wpList_allocJ rfl 32 rfl infoSlo ?_)
    | (refine wpList_bldJ rfl 32 rfl bldS0 ?_)
    | (refine wpList_storeJ rfl (.tmp 2) (.tmp 10) 32 rfl rfl rfl (Arr.new w z105 32) hinf hlen hone ?_; intro w2 hA2 hg2))
  have HB2 := hide (jbelow_grown HB1.out hg2 HB1.out.size (Nat.le_refl _))
  have hA3 : Arr w2 w.heap.size 32 (slV .nul) := hA2
  refine bodyPost_ret (results_rowJ2 rfl rfl rfl hA3 Tryd.underlying32 rfl hinf) rfl ?_
  exact ⟨rfl, HB2.out⟩
set_option maxRecDepth 100000 in
set_option maxHeartbeats 4000000 in
theorem sdec_long {w : World} {v : Value} {b : List Int} (h : IsB w v b) (hl : b.length = 512) (ht : Tab w) :
    Calls Tryd.prog 15 #[v] w fun e w' => e = .returned (.tuple #[.agg (slV (decSR b)).toArray, .int .i64 (decSE b)]) ∧ Below w.heap.size w w' := by
  have hby : By8 b := h.mem
  have hok := nmS_ok hby hl
  have hb1 := jalloc_below w (.cells z105.toArray 32)
  have hA1 := Arr.new w z105 32
  obtain ⟨w1, hw1⟩ : ∃ w1, w1 = w.alloc (.cells z105.toArray 32) := ⟨_, rfl⟩
  rw [← hw1] at hb1 hA1
  have HNM := hide (snamed_calls (h.below hb1) hl)
  have HIS : Hid (∀ W, Below w.heap.size w W → IsB W v b ∧ Tab W) := hide (fun W hW => ⟨h.below hW, ht.below hW⟩)
  obtain ⟨_, va, vc, rfl, hlc, hvm, _, _⟩ := id h
  have HDY : Hid ((nmS b).May → slL (nmS b) = b → decSR b = nmS b ∧ decSE b = 0) := hide (fun h1 h2 => decSR_some (decS_yes hl h1 h2))
  have HDN : Hid (¬ ((nmS b).May ∧ slL (nmS b) = b) → decSR b = .nul ∧ decSE b = 180) := hide (fun h1 => decSR_none (decS_no fun hc => h1 hc.2))
  rw [hl] at *
  have hlen0 : z105.length = (slV .nul).length := by rw [slV_len SL.nul_ok]; rfl
  have hinf0 := infoSof SL.nul_ok
  have hone0 := slV_one SL.nul
  have hinf := infoSof hok
  have hlen : z105.length = (slV (nmS b)).length := by rw [slV_len hok]; rfl
  have hon := slV_one (nmS b)
  have HOK := hide hok
  have HB1 := hide hb1
  have HA1 := hide hA1
  have HW1 := hide hw1
  obtain ⟨g2, hg2⟩ : ∃ g2, g2 = w.heap.size := ⟨_, rfl⟩
  have HG2 := hide hg2
  rw [← hg2] at HA1
  clear h hby hok hb1 hA1 hw1 hg2
  go_enter Tryd.func15, Tryd.ntmps15
  go_wp2_with (first
    | (refine wpList_allocJ rfl 32 rfl infoSlo ?_; rw [← HW1.out, ← HG2.out])
    | fail)
  refine (unhide HNM).mono ?_
  rintro e w2 ⟨rfl, hb2⟩
  have hA2 := HA1.out.below hb2
  have hbw2 := below_then HB1.out hb2
  have hba := jalloc_below w2 (.cells z105.toArray 32)
  have HX : Hid (∀ w3, (w2.alloc (.cells z105.toArray 32)).grownBy w3 (some w2.heap.size) → Arr w3 g2 32 z105 ∧ Below w.heap.size w w3) := hide (fun w3 hg3 => by
    have hlt := hA2.lt
    exact ⟨arr_grown (hA2.below hba) hg3 (by simp; omega), jbelow_grown (below_then hbw2 hba) hg3 (Nat.le_trans hbw2.size hba.size) hbw2.size⟩)
  clear HNM hb2 hA2 hba hbw2 HA1
  go_wp2_with (first
    | (refine wpList_allocJ rfl 32 rfl infoSlo ?_)
    | (refine wpList_storeJ rfl (.tmp 4) (.tmp 12) 32 rfl rfl rfl (Arr.new w2 z105 32) hinf hlen hon ?_; intro w3 hA3 hg3
       obtain ⟨hA23, hb3⟩ := unhide HX w3 hg3
       have hrng := hA3.rangeJ
       obtain ⟨hi3, ht3⟩ := unhide HIS w3 hb3
       have HEN := hide (senc_calls HOK.out ht3)
       have HA3 := hide hA3
       have HA23 := hide hA23
       have HB3 := hide hb3
       clear hA3 hg3 hA23 hb3 hi3 ht3)
    | (refine wpList_loadJ rfl 32 (.tmp 4) rfl _ 0 rfl (slV (nmS b)) _ hrng Tryd.underlying32 rfl hinf ?_)
    | fail)
  refine (unhide HEN).mono ?_
  rintro e w4 ⟨fv, rfl, ho4, hb4⟩
  have hA4 := HA3.out.below hb4
  have hA24 := HA23.out.below hb4
  have hb4w := below_then HB3.out hb4
  obtain ⟨hi4, _⟩ := unhide HIS w4 hb4w
  obtain ⟨fa, fn, fc, rfl⟩ := ho4.shape
  have hrng4 := hA4.rangeJ
  have HQ : Hid (∀ w5, w4.grownBy w5 (some g2) → Below w.heap.size w w5) := hide (fun w5 hg5 => jbelow_grown hb4w hg5 hb4w.size (by rw [HG2.out]; exact Nat.le_refl _))
  have HA24 := hide hA24
  have HIF := hide ho4.isB
  have HI4 := hide hi4
  clear HEN ho4 hb4 hA4 hA24 hb4w hi4 HA3 HA23 HB3 hrng
  by_cases he : (nmS b).May
  · have HE := hide he
    rw [(encS_yes he).2]
    have HIF2 : Hid (IsB w4 (.slice fa fn fc) (slL (nmS b))) := hide (by have := HIF.out; rw [(encS_yes HE.out).1] at this; exact this)
    clear HIF he
    by_cases heq : slL (nmS b) = b
    · obtain ⟨q1, q2⟩ := unhide HDY HE.out heq
      have HEQ : Hid (Calls Tryd.prog 34 #[.slice fa fn fc, .slice va 512 vc] w4 fun e w' => e = .returned (.bool true) ∧ w' = w4) := hide (by have := sequal_calls HIF2.out HI4.out; rw [decide_eq_true heq] at this; exact this)
      have HQ1 := hide (And.intro q1 q2)
      clear q1 q2 heq HDY HDN HIF2 HI4
      go_wp2_with fail
      refine (unhide HEQ).mono ?_
      rintro e w5 ⟨rfl, hw5⟩
      obtain rfl := hw5.symm
      clear hw5 HEQ
      go_wp2_with (first
        | (refine wpList_loadJ rfl 32 (.tmp 4) rfl _ 0 rfl (slV (nmS b)) _ hrng4 Tryd.underlying32 rfl hinf ?_)
        | (refine wpList_storeJ rfl (.tmp 2) (.tmp 27) 32 rfl rfl rfl HA24.out hinf hlen hon ?_; intro w6 hA6 hg6))
      have hb6 := unhide HQ w6 hg6
      have hA7 : Arr w6 g2 32 (slV (nmS b)) := hA6
      refine bodyPost_ret (results_rowJ2 rfl rfl rfl hA7 Tryd.underlying32 rfl hinf) rfl ?_
      rw [HQ1.out.1, HQ1.out.2]
      exact ⟨rfl, hb6⟩
    · obtain ⟨q1, q2⟩ := unhide HDN (fun hc => heq hc.2)
      have HEQ : Hid (Calls Tryd.prog 34 #[.slice fa fn fc, .slice va 512 vc] w4 fun e w' => e = .returned (.bool false) ∧ w' = w4) := hide (by have := sequal_calls HIF2.out HI4.out; rw [decide_eq_false heq] at this; exact this)
      have HQ1 := hide (And.intro q1 q2)
      clear q1 q2 heq HDY HDN HIF2 HI4
      go_wp2_with fail
      refine (unhide HEQ).mono ?_
      rintro e w5 ⟨rfl, hw5⟩
      obtain rfl := hw5.symm
      clear hw5 HEQ
      go_wp2_with (first
        | (refine wpList_bldJ rfl 32 rfl bldS0 ?_)
        | (refine wpList_storeJ rfl (.tmp 2) (.tmp 26) 32 rfl rfl rfl HA24.out hinf0 hlen0 hone0 ?_; intro w6 hA6 hg6))
      have hb6 := unhide HQ w6 hg6
      have hA7 : Arr w6 g2 32 (slV .nul) := hA6
      refine bodyPost_ret (results_rowJ2 rfl rfl rfl hA7 Tryd.underlying32 rfl hinf0) rfl ?_
      rw [HQ1.out.1, HQ1.out.2]
      exact ⟨rfl, hb6⟩
  · obtain ⟨q1, q2⟩ := unhide HDN (fun hc => he hc.1)
    rw [(encS_no he).2]
    have HQ1 := hide (And.intro q1 q2)
    clear q1 q2 he HDY HDN HI4 HIF
    go_wp2_with (first
      | (refine wpList_bldJ rfl 32 rfl bldS0 ?_)
      | (refine wpList_storeJ rfl (.tmp 2) (.tmp 26) 32 rfl rfl rfl HA24.out hinf0 hlen0 hone0 ?_; intro w6 hA6 hg6))
    have hb6 := unhide HQ w6 hg6
    have hA7 : Arr w6 g2 32 (slV .nul) := hA6
    refine bodyPost_ret (results_rowJ2 rfl rfl rfl hA7 Tryd.underlying32 rfl hinf0) rfl ?_
    rw [HQ1.out.1, HQ1.out.2]
    exact ⟨rfl, hb6⟩
/-- What Decode answers. -/
theorem sdec_calls {w : World} {v : Value} {b : List Int} (h : IsB w v b) (ht : Tab w) :
    Calls Tryd.prog 15 #[v] w fun e w' => e = .returned (.tuple #[.agg (slV (decSR b)).toArray, .int .i64 (decSE b)]) ∧ Below w.heap.size w w' := by
  by_cases hl : b.length = 512
  · exact sdec_long h hl ht
  · obtain ⟨q1, q2⟩ := decSR_none (decS_short hl)
    rw [q1, q2]
    exact sdec_short h hl
end Go.Proofs.YtpeopejnkbmcdaaDoor

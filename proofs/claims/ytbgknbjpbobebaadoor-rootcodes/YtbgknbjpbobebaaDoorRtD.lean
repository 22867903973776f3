/- What readNumbers, keyIn, named and Decode answer. -/
import Derived.Test.YtbgknbjpbobebaaDoorRtE
namespace Go.Proofs.YtbgknbjpbobebaaDoor
open Go.RowKit Go.Maps

theorem jputs_snoc : ∀ (cs xs : List Value) (k : Nat) (c : Value), jputs xs k (cs ++ [c]) = (jputs xs k cs).set (k + cs.length) c
  | [], _, _, _ => rfl
  | d :: cs, xs, k, c => by
    rw [List.cons_append, jputs, jputs, jputs_snoc cs, List.length_cons, show k + (cs.length + 1) = k + 1 + cs.length by omega]
/-- The numbers that lie there. -/
def rdN (b : List Int) (k n m : Nat) : List Int := (List.range m).map (fun j => IntKind.i64.wrap (leN ((b.drop (k + n * j)).take n)))
theorem rdN_len (b : List Int) (k n m : Nat) : (rdN b k n m).length = m := by simp [rdN]
theorem rdN_snoc (b : List Int) (k n m : Nat) : rdN b k n (m + 1) = rdN b k n m ++ [IntKind.i64.wrap (leN ((b.drop (k + n * m)).take n))] := by simp [rdN, List.range_succ]
theorem rdN_step (b : List Int) (k n m o : Nat) (cs : List Value) : (jputs cs o (nV (rdN b k n m))).set (o + m) (.int .i64 (IntKind.i64.wrap (leN ((b.drop (k + n * m)).take n)))) = jputs cs o (nV (rdN b k n (m + 1))) := by
  rw [rdN_snoc, nV, nV, List.map_append, List.map_cons, List.map_nil, jputs_snoc, List.length_map, rdN_len]
theorem sgrown_set (W : World) (g j : Nat) (u : Value) : W.grownBy (W.setCell ⟨g, j, none⟩ u) (some g) := ⟨rfl, rfl, rfl, by simp, fun k _ hk => Below.heap_setCell W ⟨g, j, none⟩ u k (fun e => hk (by rw [e]))⟩
theorem sarr_set {W : World} {g j : Nat} {t : TypeId} {cs : List Value} (h : Arr W g t cs) (u : Value) : Arr (W.setCell ⟨g, j, none⟩ u) g t (cs.set j u) := by
  have := heap_setCell_same W g j cs.toArray t u h
  rw [List.setIfInBounds_toArray] at this
  exact this
theorem slice32s {bk of n c k : Nat} (h : k + 32 ≤ c) (W : World) : (Instr.sliceAt 28 (.slice (some ⟨bk, of, none⟩) n c) (some (.int .i64 (k : Int))) (some (.int .i64 ((k + 32 : Nat) : Int))) none).run Tryd.prog W = .ok (.slice (some ⟨bk, of + k, none⟩) 32 (c - k)) W := by
  rw [slice_lh _ n c k (k + 32) (by omega) h W]
  unfold subA
  rw [if_neg (by omega), Option.map_some, Addr.add_lit, Nat.add_sub_cancel_left]
theorem isB_rangeS {w : World} {bk of n c : Nat} {b : List Int} (h : IsB w (.slice (some ⟨bk, of, none⟩) n c) b) {k m : Nat} (hk : k + m ≤ b.length) (hm : 0 < m) : w.rangeAt bk (of + k) (((b.drop k).take m).map (Value.int .u8)) := by
  obtain ⟨_, a, cap, hv, _, _, _, hc⟩ := h
  injection hv with e1 e2 e3
  obtain ⟨b2, of2, ha, hcell⟩ := hc (by omega)
  rw [ha] at e1
  injection e1 with e1
  injection e1 with e1 e4
  subst e1 e4
  intro j u hu
  rw [List.getElem?_map, Option.map_eq_some_iff] at hu
  obtain ⟨x, hx, rfl⟩ := hu
  have hj : j < m := by have := (List.getElem?_eq_some_iff.1 hx).1; simp at this; omega
  rw [List.getElem?_take_of_lt hj, List.getElem?_drop] at hx
  rw [Nat.add_assoc, hcell (k + j) (by omega), List.getD_eq_getElem?_getD, hx]
  rfl
def z32K : List Value := List.replicate 32 (.int .u8 0)
theorem infoK0 : (Tryd.prog.info? 23).map (fun i => (i.zero, i.size, i.bytes)) = some (some (.agg z32K.toArray), 32, 32) := by kernel_rfl
set_option maxRecDepth 100000 in
set_option maxHeartbeats 1000000 in
theorem readNs_calls {w0 w : World} {v : Value} {b : List Int} {k n g o m c : Nat} {cs : List Value} (h : IsB w0 v b) (hw : Below w0.heap.size w0 w) (hg : w0.heap.size ≤ g) (hA : Arr w g 74 cs) (hl : cs.length = 9) (ho : o + m ≤ 9) (h1 : 1 ≤ n) (h8 : n ≤ 8) (hs : k + n * m ≤ b.length) (_hb : b.length ≤ 1000) (_hc : m ≤ c) :
    Calls Tryd.prog 71 #[v, .int .i64 (k : Int), .int .i64 (n : Int), .slice (some ⟨g, o, none⟩) m c] w fun e w' => e = .returned (.tuple #[]) ∧ Arr w' g 74 (jputs cs o (nV (rdN b k n m))) ∧ Below w0.heap.size w0 w' := by
  have HRF : Hid (∀ W, Below w0.heap.size w0 W → ∀ q, q < m → Calls Tryd.prog 77 #[v, .int .i64 ((k + n * q : Nat) : Int), .int .i64 (n : Int)] W fun e w' => e = .returned (.tuple #[.int .u64 (leN ((b.drop (k + n * q)).take n)), .int .i64 ((k + n * (q + 1) : Nat) : Int), .int .i64 0]) ∧ w' = W) := hide (fun W hW q hq => by
    have hle : n * (q + 1) ≤ n * m := Nat.mul_le_mul_left n (by omega)
    rw [Nat.mul_succ] at hle
    have := rfixed_calls (h.below hW) ((k + n * q : Nat) : Int) (n : Int)
    have e1 : rdF b ((k + n * q : Nat) : Int) (n : Int) = (leN ((b.drop (k + n * q)).take n), ((k + n * (q + 1) : Nat) : Int), 0) := by
      unfold rdF
      rw [if_neg (by omega), if_neg (by omega), if_neg (by omega), Int.toNat_natCast, Int.toNat_natCast, Nat.mul_succ]
      congr 2
      omega
    rw [e1] at this
    exact this)
  obtain ⟨va, vn, vc, rfl⟩ := h.shape
  have HA0 : Hid (Arr w g 74 (jputs cs o (nV (rdN b k n 0)))) := hide hA
  have HB0 := hide hw
  have HG := hide hg
  have HST : Hid (∀ q, (jputs cs o (nV (rdN b k n q))).set (o + q) (.int .i64 (IntKind.i64.wrap (leN ((b.drop (k + n * q)).take n)))) = jputs cs o (nV (rdN b k n (q + 1)))) := hide (fun q => rdN_step b k n q o cs)
  have HLN : Hid (∀ q, (jputs cs o (nV (rdN b k n q))).length = 9) := hide (fun q => by rw [jputs_len, hl])
  have HK0 : Hid (((k + n * 0 : Nat) : Int) = (k : Int)) := hide (by simp)
  clear h hA hw hl hs hg
  go_enter Tryd.func71, Tryd.ntmps71
  go_wp2_with fail
  go_loopw [1, 14] (fun av i W => ∃ q : Nat, q ≤ m ∧ i = .int .i64 q ∧ av = .int .i64 ((k + n * q : Nat) : Int) ∧ Hid (Arr W g 74 (jputs cs o (nV (rdN b k n q)))) ∧ Hid (Below w0.heap.size w0 W)) (fun _ i _ => m - (intOf i).toNat)
  case atStart => exact ⟨0, Nat.zero_le _, rfl, by rw [HK0.out], HA0, HB0⟩
  case round =>
    clear HA0 HB0
    obtain ⟨q, hq, rfl, rfl, HA, HB⟩ := hrel
    by_cases hlt : q < m
    · have HRQ := hide (unhide HRF wr HB.out q hlt)
      have HSQ := hide (unhide HST q)
      have hcl : ∃ u, wr.cell? ⟨g, o + q, none⟩ = some u := by
        have hlen := unhide HLN q
        exact ⟨(jputs cs o (nV (rdN b k n q)))[o + q]'(by omega), by rw [HA.out.cell, List.getElem?_eq_getElem]⟩
      obtain ⟨u0, hcl⟩ := hcl
      have hfr := HA.out.frozen (o + q)
      obtain ⟨kr, hkr⟩ : ∃ kr : Int, kr = ((k + n * (q + 1) : Nat) : Int) := ⟨_, rfl⟩
      rw [← hkr] at HRQ
      have HKR := hide hkr
      clear hkr
      generalize ((k + n * q : Nat) : Int) = kq at *
      generalize leN ((b.drop (k + n * q)).take n) = L at *
      go_wp2_with fail
      refine (unhide HRQ).mono ?_
      rintro e w2 ⟨rfl, hw2⟩
      obtain rfl := hw2.symm
      clear hw2
      go_wp2_with fail
      have HA2 : Hid (Arr (wr.setCell ⟨g, o + q, none⟩ (.int .i64 (wrap64 L))) g 74 (jputs cs o (nV (rdN b k n (q + 1))))) := hide (by have e := sarr_set (j := o + q) HA.out (.int .i64 (IntKind.i64.wrap L)); rw [HSQ.out, IntWalk.i64_left] at e; exact e)
      have HB2 : Hid (Below w0.heap.size w0 (wr.setCell ⟨g, o + q, none⟩ (.int .i64 (wrap64 L)))) := hide (jbelow_grown HB.out (sgrown_set _ _ _ _) HB.out.size HG.out)
      refine ⟨⟨q + 1, by omega, by go_num, by rw [HKR.out], HA2, HB2⟩, ?_⟩
      simp [intOf]
      omega
    · have HQM : Hid (q = m) := hide (by omega)
      have HA9 : Hid (Arr wr g 74 (jputs cs o (nV (rdN b k n m)))) := hide (by have := HA.out; rw [HQM.out] at this; exact this)
      go_wp2
      go_end0
      exact ⟨rfl, HA9.out, HB.out⟩
set_option maxRecDepth 100000 in
set_option maxHeartbeats 1000000 in
theorem keyIn_calls {w : World} {v : Value} {b : List Int} (h : IsB w v b) {k : Nat} (hs : k + 32 ≤ b.length) :
    Calls Tryd.prog 72 #[v, .int .i64 (k : Int)] w fun e w' => e = .returned (.agg (((b.drop k).take 32).map (Value.int .u8)).toArray) ∧ Below w.heap.size w w' := by
  have hbl := h.len
  have hrl : ((b.drop k).take 32).length = 32 := by simp; omega
  obtain ⟨_, va, vc, rfl, hlc, hvm, _, hcell⟩ := id h
  obtain ⟨bk, of, rfl, _⟩ := hcell (by omega)
  have hsl := fun W => slice32s (bk := bk) (of := of) (n := b.length) (c := vc) (k := k) (by omega) W
  have hap := fun W => arr_atK (some ⟨bk, of + k, none⟩) (vc - k) W
  have HS : Hid (∀ W, Below w.heap.size w W → W.rangeAt bk (of + k) (((b.drop k).take 32).map (Value.int .u8))) := hide (fun W hW => isB_rangeS (h.below hW) (by omega) (by decide))
  obtain ⟨k1, hk1⟩ : ∃ k1 : Nat, k1 = k + 32 := ⟨_, rfl⟩
  rw [← hk1] at hsl
  have e1 : (k : Int) + 32 = (k1 : Int) := by omega
  have e1w : IntKind.i64.wrap ((k : Int) + 32) = (k1 : Int) := by rw [e1]; exact IntWalk.i64_in _ (by omega)
  have hinfK := infoKof hrl
  have hone : ∀ u ∈ ((b.drop k).take 32).map (Value.int .u8), u.oneCell' = true := by
    intro u hu
    obtain ⟨x, _, rfl⟩ := List.mem_map.1 hu
    rfl
  have hlen : z32K.length = (((b.drop k).take 32).map (Value.int .u8)).length := by rw [List.length_map, hrl]; rfl
  generalize ((b.drop k).take 32).map (Value.int .u8) = rc at *
  generalize hbn : b.length = bn at *
  have HB1 := hide (jalloc_below w (.cells z32K.toArray 23))
  have hr1 := unhide HS _ HB1.out
  clear h hcell hk1 hbn hrl
  go_enter Tryd.func72, Tryd.ntmps72
  go_wp2_with (first
    | (refine wpList_allocJ rfl 23 rfl infoK0 ?_)
    | (refine wpList_loadJ rfl 23 (.tmp 10) rfl bk (of + k) rfl rc _ hr1 Tryd.underlying23 rfl hinfK ?_)
    | (refine wpList_storeJ rfl (.tmp 4) (.tmp 11) 23 rfl rfl rfl (Arr.new w z32K 23) hinfK hlen hone ?_; intro w2 hA2 hg2)
    | fail)
  have HB3 := hide (jbelow_grown HB1.out hg2 HB1.out.size (Nat.le_refl _))
  refine bodyPost_ret (results_rowJ rfl rfl hA2 Tryd.underlying23 rfl hinfK) rfl ?_
  exact ⟨rfl, HB3.out⟩
end Go.Proofs.YtbgknbjpbobebaaDoor

/- What the document's Encode answers. -/
import Derived.Test.YthhjlopgpmaokabDoorKE
import Derived.Test.YthhjlopgpmaokabDoorJrD
import Derived.Lib.SlBytesConst
namespace Go.Proofs.YthhjlopgpmaokabDoor
open Go.RowKit Go.Maps

def lenSl : Value → Nat
  | .slice _ n _ => n
  | _ => 0
/-- A slice of bytes with no room behind it. -/
def Full (w : World) (v : Value) (xs : List Int) : Prop := (∃ ad, v = .slice (some ad) xs.length xs.length) ∧ IsB w v xs
theorem Full.below {w w' : World} {v : Value} {xs : List Int} (h : Full w v xs) (hb : Below w.heap.size w w') : Full w' v xs := ⟨h.1, h.2.below hb⟩
def Fst (w : World) (B : Nat) (v : Value) (xs : List Int) : Prop := Own8 w B v xs ∨ Full w v xs
theorem Fst.below {w w' : World} {B : Nat} {v : Value} {xs : List Int} (h : Fst w B v xs) (hb : Below w.heap.size w w') : Fst w' B v xs := h.imp (fun h => h.below hb) (fun h => h.below hb)
theorem Fst.shape {w : World} {B : Nat} {v : Value} {xs : List Int} (h : Fst w B v xs) : ∃ a n c, v = .slice a n c := by
  rcases h with h | h
  · exact h.shape
  · exact h.2.shape
section
variable {ops : Array Oper} {rest : List Oper} {o : Oper} {a : Act} {Q : Exit → Act → World → Prop} {w : World} {K : Act → World → Prop} {E : Prop}
theorem wpList_appF (hgd : o.guard = none) (x y : Operand) (ho : o.op = .call { callee := .builtin .append, args := #[x, y], argTypes := #[48, 48] }) {B : Nat} {v u : Value} {xs ys : List Int} (hx : a.eval x = v) (hown : Fst w B v xs) (hy : a.eval y = u) (hys : IsB w u ys) (hy0 : 0 < ys.length)
    (hl : xs.length + ys.length ≤ 1000000) (hB : B ≤ w.heap.size) (hk : ∀ v' w', Own8 w' B v' (xs ++ ys) → Below B w w' → wpList Tryd.prog ops Q rest (a.put o.dst v') w') : wpList Tryd.prog ops Q (o :: rest) a w := by
  rcases hown with hown | ⟨⟨ad, rfl⟩, hi⟩
  · exact wpList_appB (by simp [Region.wanted, hgd]) x y ho hx hown hy hys (by omega) hB (fun v' w' h1 h2 => hk v' w' h1 ((Below.refl _ _).grown h2 hB (fun j hj => (World.ownsRow.lt hown.1 j hj).1)))
  · obtain ⟨i0, hi0, hz0, hz1, hz2⟩ := info_parts info8
    have hys' := hys
    obtain ⟨_, ua, uc, rfl, _, _, _, hc⟩ := hys
    obtain ⟨b2, off2, rfl, _⟩ := hc hy0
    have hr := run_append_grow (P := Tryd.prog) w 48 o.type 5 i0 (.int .u8 0) Tryd.underlying48 hi0 hz0 ad xs.length xs.length (xs.map (Value.int .u8)) (by rw [hz1]; simp) hi.cells ⟨b2, off2, none⟩ ys.length uc (ys.map (Value.int .u8)) (by rw [hz1]; simp) hys'.cells (by omega) (by omega) (growslice_fits_wide (by omega) (by rw [hz2]; omega))
    have hge := grownCap_ge w (xs.length + ys.length) xs.length 5
    have hle := grownCap_le_maxLen w (xs.length + ys.length) xs.length 5 (by unfold maxLen; omega)
    generalize grownCap w (xs.length + ys.length) xs.length 5 = cp at *
    refine wpList_plain hgd fun K hK => ?_
    unfold Oper.wp execOp
    simp only [ho, resolve, invoke, builtin, Sem.run_bind, Sem.run_pure, Result.andThen_ok, List.map_toArray, List.map_cons, List.map_nil, hx, hy, hr]
    refine hK _ _ (hk _ _ ⟨⟨by simp, Or.inr ⟨w.heap.size, cp, _, by rw [List.length_append], hB, heap_alloc_new w.drew _, by rw [List.length_append]; exact hge, hle, ?_, ?_⟩⟩, fun z hz => ?_⟩ ?_)
    · have hzz : (Value.int IntKind.u8 0).cells.size = 1 := rfl
      simp only [Array.size_append, List.size_toArray, size_zeroCells, hzz, List.length_map]
      omega
    · simp only [Array.toList_append, List.append_assoc]
      rw [List.map_append, ← List.append_assoc]
      exact List.take_left' (by simp)
    · rcases List.mem_append.1 hz with hz | hz
      · exact hi.mem z hz
      · exact hys'.mem z hz
    · exact (((Below.refl w.heap.size w).drew).trans (((Below.refl _ _).alloc (Nat.le_refl _) _).mono (Nat.le_refl _))).mono hB
end
/-- The state of fixed. -/
def FxS (w W : World) (B : Nat) (bv : Value) (xs : List Int) (V : Int) (k : Nat) : Prop := (Fst W B bv (xs ++ fB V k) ∧ (k = 0 ∨ Own8 W B bv (xs ++ fB V k))) ∧ B ≤ W.heap.size ∧ Below B w W
set_option maxRecDepth 100000 in
set_option maxHeartbeats 1000000 in
theorem rfixF {w : World} {B n : Nat} {v : Value} {xs : List Int} {V : Int} (h : Fst w B v xs) (hB : B ≤ w.heap.size) (_h0 : 0 ≤ V) (_hV : V ≤ 9223372036854775807) (h1 : 1 ≤ n) (h8 : n ≤ 8) (hl : xs.length ≤ 100000) :
    Calls Tryd.prog 56 #[v, .int .i64 V, .int .i64 (n : Int)] w fun e w' => ∃ v', e = .returned v' ∧ Own8 w' B v' (xs ++ fB V n) ∧ Below B w w' := by
  have HO : Hid (FxS w w B v xs V 0) := hide ⟨⟨by simpa [fB] using h, Or.inl rfl⟩, hB, Below.refl _ _⟩
  obtain ⟨va, vn, vc, rfl⟩ := h.shape
  clear h hB
  go_enter Tryd.func56, Tryd.ntmps56
  go_wp2
  go_loopw [0, 7] (fun bv i W => ∃ (k : Nat) (a : Option Addr) (m c : Nat), k ≤ n ∧ i = .int .i64 k ∧ bv = .slice a m c ∧ Hid (FxS w W B bv xs V k)) (fun _ i _ => n - (intOf i).toNat)
  case atStart => exact ⟨0, _, _, _, Nat.zero_le _, rfl, rfl, HO⟩
  case round =>
    clear HO
    obtain ⟨k, a, m, c, hk, rfl, rfl, HT⟩ := hrel
    by_cases hlt : k < n
    · obtain ⟨⟨ho, _⟩, hs, hb⟩ := HT.out
      have hba := jalloc_below wr (.cells #[.int .u8 (V / 2 ^ (8 * k) % 256)] 5)
      have HO2 := hide (ho.below hba)
      have HI2 := hide (isB_lit wr [V / 2 ^ (8 * k) % 256] (by intro x hx; simp at hx; omega) (by simp))
      have hs2 : B ≤ (wr.alloc (.cells #[.int .u8 (V / 2 ^ (8 * k) % 256)] 5)).heap.size := Nat.le_trans hs hba.size
      have HB2 := hide (hb.trans (hba.mono hs))
      have hll : (xs ++ fB V k).length + [V / 2 ^ (8 * k) % 256].length ≤ 1000000 := by simp [fB_len]; omega
      have hwr : IntKind.u64.wrap (k : Int) = k := by rw [IntKind.wrap_u64]; omega
      have hwr2 : IntKind.u64.wrap (8 * (k : Int)) = 8 * k := by rw [IntKind.wrap_u64]; omega
      clear ho hs hb hba HT
      go_wp2_with (first
        | (at_builtin; refine wpList_appF rfl (.tmp 13) (.tmp 20) rfl rfl HO2.out rfl HI2.out (by simp) hll hs2 ?_; intro v3 w3 ho3 hg3
           have hbb : Below B w w3 := HB2.out.trans hg3
           rw [List.append_assoc, ← fB_snoc] at ho3
           have HT3 : Hid (FxS w w3 B v3 xs V (k + 1)) := hide ⟨⟨Or.inl ho3, Or.inr ho3⟩, Nat.le_trans hs2 hg3.size, hbb⟩
           obtain ⟨a3, m3, c3, rfl⟩ := ho3.shape
           clear ho3 hg3 hbb))
      go_roundw
      case rel => exact ⟨k + 1, _, _, _, by omega, by go_num, rfl, HT3⟩
      case measure => simp [intOf]; omega
    · have HF : Hid (Own8 wr B (.slice a m c) (xs ++ fB V n) ∧ Below B w wr) := hide (by
        obtain rfl : k = n := by omega
        obtain ⟨⟨_, h2⟩, _, h4⟩ := HT.out
        exact ⟨h2.resolve_left (by omega), h4⟩)
      clear HT
      go_wp2
      go_ret
      exact ⟨_, rfl, HF.out⟩
set_option maxRecDepth 100000 in
set_option maxHeartbeats 4000000 in
theorem renc_num {w : World} {r : JR} {v : Value} (hbad : r.n < 0 ∨ 1099511627776 < r.n) :
    Calls Tryd.prog 32 #[.agg (jrV r v).toArray] w fun e w' => e = .returned (.tuple #[.slice none 0 0, .int .i64 171]) ∧ Below w.heap.size w w' := by
  have hc0 : (jrV r v)[0]? = some (.int .i64 r.n) := rfl
  generalize jrV r v = cs at *
  generalize r.n = n at *
  have HC := hide hc0
  clear hc0
  by_cases hneg : n < 0
  · clear hbad
    go_enter Tryd.func32, Tryd.ntmps32
    go_wp2_with (first | (refine wpList_boxJ rfl 52 (.tmp 0) rfl rfl ?_; intro w1 hA hb hs; have c0 := (hA.cell 0).trans HC.out; have HB := hide hb; clear hA hb hs))
    go_ret2
    exact ⟨rfl, HB.out⟩
  · have hd : decide (n < 0) = false := by simp; omega
    have hg : 1099511627776 < n := by omega
    clear hbad
    go_enter Tryd.func32, Tryd.ntmps32
    go_wp2_with (first | (refine wpList_boxJ rfl 52 (.tmp 0) rfl rfl ?_; intro w1 hA hb hs; have c0 := (hA.cell 0).trans HC.out; have HB := hide hb; clear hA hb hs))
    go_ret2
    exact ⟨rfl, HB.out⟩
theorem renc_facts {w w1 : World} {r : JR} {v : Value} (hr : r.Ok) (hv : IsJ w v r.rs) (hA : Arr w1 w.heap.size 52 (jrV r v)) (hb : Below w.heap.size w w1) (hs : w1.heap.size = w.heap.size + 1) :
    ∀ W, Below (w.heap.size + 1) w1 W → W.cell? ⟨w.heap.size, 0, none⟩ = some (.int .i64 r.n) ∧ W.cell? ⟨w.heap.size, 33, none⟩ = some v ∧ (∀ j, j < 32 → W.cell? ⟨w.heap.size, 1 + j, none⟩ = some (.int .u8 (r.p.getD j 0))) ∧ IsJ W v r.rs := fun W hW => by
  have hA2 : Arr W w.heap.size 52 (jrV r v) := hA.keep (hW.block _ (by omega))
  have hwb : Below w1.heap.size w1 W := by rw [hs]; exact hW
  refine ⟨hA2.cell 0, (hA2.cell 33).trans (jrV_v hr.len v), fun j hj => ?_, (hv.below hb).below hwb⟩
  rw [hA2.cell]
  refine jrV_p j _ ?_
  have hl := hr.len
  rw [List.getElem?_map, List.getElem?_eq_getElem (by omega), List.getD_eq_getElem?_getD, List.getElem?_eq_getElem (by omega)]
  rfl
set_option maxRecDepth 100000 in
set_option maxHeartbeats 4000000 in
theorem renc_refs {w : World} {r : JR} {v : Value} (hr : r.Ok) (hv : IsJ w v r.rs) (hn : ¬ (r.n < 0 ∨ 1099511627776 < r.n)) (hm : mayRs r.rs = false) :
    Calls Tryd.prog 32 #[.agg (jrV r v).toArray] w fun e w' => e = .returned (.tuple #[.slice none 0 0, .int .i64 172]) ∧ Below w.heap.size w w' := by
  have HF : Hid (∀ w1, Arr w1 w.heap.size 52 (jrV r v) → Below w.heap.size w w1 → w1.heap.size = w.heap.size + 1 → w1.cell? ⟨w.heap.size, 0, none⟩ = some (.int .i64 r.n) ∧ w1.cell? ⟨w.heap.size, 33, none⟩ = some v ∧ IsJ w1 v r.rs) := hide (fun w1 hA hb hs => by
    obtain ⟨f1, f2, _, f4⟩ := renc_facts hr hv hA hb hs w1 (Below.refl _ _)
    exact ⟨f1, f2, f4⟩)
  obtain ⟨va, vc, hvs⟩ := hv.shape
  have HMY : Hid (∀ W, IsJ W v r.rs → Calls Tryd.prog 55 #[v] W fun e w' => e = .returned (.bool false) ∧ w' = W) := hide (fun W h => by have := rrefs_calls h; rw [hm] at this; exact this)
  subst hvs
  have hd : decide (r.n < 0) = false := by simp; omega
  have hg : decide (1099511627776 < r.n) = false := by simp; omega
  generalize r.rs.length = rn at *
  generalize jrV r (.slice va rn vc) = cs at *
  generalize r.n = n at *
  generalize r.rs = rs at *
  clear hr hv hn hm
  go_enter Tryd.func32, Tryd.ntmps32
  go_wp2_with (first | (refine wpList_boxJ rfl 52 (.tmp 0) rfl rfl ?_; intro w1 hA hb hs; obtain ⟨c0, c33, hj⟩ := unhide HF w1 hA hb hs; have HB := hide hb; have HJ := hide hj; clear hA hb hs hj) | fail)
  refine (unhide HMY _ HJ.out).mono ?_
  rintro e w2 ⟨rfl, hw2⟩
  obtain rfl := hw2.symm
  clear hw2
  go_wp2
  go_ret2
  exact ⟨rfl, HB.out⟩
theorem jconv_lit (W : World) (C : Array Value) (n c : Nat) : (convert 48 48 (.slice (some ⟨W.heap.size, 0, none⟩) n c)).run Tryd.prog (W.alloc (.cells C 5)) = .ok (.slice (some ⟨W.heap.size, 0, none⟩) n c) (W.alloc (.cells C 5 (C.size, C.size + 1))) :=
  Lib.run_convert_bytes_const W 48 5 C n c Tryd.underlying48 Tryd.underlying5
theorem take_next {l : List Int} {k : Nat} (h : k < l.length) : l.take (k + 1) = l.take k ++ [l.getD k 0] := by
  rw [List.take_succ_eq_append_getElem h, List.getD_eq_getElem?_getD, List.getElem?_eq_getElem h]
  rfl
theorem rfixE {w1 W : World} {B n : Nat} {u : Value} {xs : List Int} {V : Int} (h : E8 w1 W B u xs) (h0 : 0 ≤ V) (hV : V ≤ 9223372036854775807) (h1 : 1 ≤ n) (h8 : n ≤ 8) (hl : xs.length ≤ 100000) :
    Calls Tryd.prog 56 #[u, .int .i64 V, .int .i64 (n : Int)] W fun e w' => ∃ v', e = .returned v' ∧ E8 w1 w' B v' (xs ++ fB V n) :=
  (rfixF (Or.inl h.1) h.2.1 h0 hV h1 h8 hl).mono fun _ _ ⟨v', q1, q2, q3⟩ => ⟨v', q1, h.call q2 q3⟩
set_option maxRecDepth 100000 in
set_option maxHeartbeats 8000000 in
theorem renc_good {w : World} {r : JR} {v : Value} (hr : r.Ok) (hv : IsJ w v r.rs) (he : encE r = 0) :
    Calls Tryd.prog 32 #[.agg (jrV r v).toArray] w fun e w' => ∃ u, e = .returned (.tuple #[u, .int .i64 0]) ∧ Own8 w' w.heap.size u (encL r) ∧ Below w.heap.size w w' := by
  obtain ⟨hn0, hn1, hm1, hm8, hrr⟩ := encE_ok he
  have hm : mayRs r.rs = true := by
    unfold encE at he
    rw [if_neg (by omega)] at he
    by_cases h : mayRs r.rs = true
    · exact h
    · rw [if_neg h] at he; cases he
  obtain ⟨va, vc, hvs⟩ := hv.shape
  obtain ⟨_, va', vc', hvs', hlc, hcm, _, hcell⟩ := id hv
  rw [hvs] at hvs'
  injection hvs' with f1 _ f3
  subst f1 f3
  obtain ⟨b, o, hva, hrng⟩ := hcell (by omega)
  have HF : Hid (∀ w1, Arr w1 w.heap.size 52 (jrV r v) → Below w.heap.size w w1 → w1.heap.size = w.heap.size + 1 → ∀ W, Below (w.heap.size + 1) w1 W → W.cell? ⟨w.heap.size, 0, none⟩ = some (.int .i64 r.n) ∧ W.cell? ⟨w.heap.size, 33, none⟩ = some v ∧ (∀ j, j < 32 → W.cell? ⟨w.heap.size, 1 + j, none⟩ = some (.int .u8 (r.p.getD j 0))) ∧ IsJ W v r.rs) := hide (fun w1 hA hb hs => renc_facts hr hv hA hb hs)
  have HRG : Hid (∀ w1, Below w.heap.size w w1 → ∀ W, Below (w.heap.size + 1) w1 W → ∀ j, j < r.rs.length → W.rangeAt b (o + j * 34) (jfV (r.rs.getD j .nul))) := hide (fun w1 hb W hW j hj k u hu => by
    have h1 := hrng j hj k u hu
    have hlt := World.block_lt_of_cell? w _ h1
    have h2 : w1.cell? ⟨b, o + j * 34 + k, none⟩ = some u := (hb.cell (p := ⟨b, o + j * 34 + k, none⟩) hlt).trans h1
    exact (hW.cell (p := ⟨b, o + j * 34 + k, none⟩) (Nat.lt_succ_of_lt hlt)).trans h2)
  have HMY : Hid (∀ W, IsJ W v r.rs → Calls Tryd.prog 55 #[v] W fun e w' => e = .returned (.bool true) ∧ w' = W) := hide (fun W h => by have := rrefs_calls h; rw [hm] at this; exact this)
  have HFIN : Hid (∀ w1 W u xs, Below w.heap.size w w1 → w1.heap.size = w.heap.size + 1 → E8 w1 W (w.heap.size + 1) u xs → Own8 W w.heap.size u xs ∧ Below w.heap.size w W) := hide (fun w1 W u xs hb hs h => ⟨h.1.mono (by omega), hb.trans (h.2.2.mono (by omega))⟩)
  subst hva
  subst hvs
  have HOK := hide hr.refs
  have HRR := hide hrr
  have hlen45 := hd45_len hr.len
  have hlen44 : (hd44 r).length = 44 := by simp [hd44, hd12, fB_len, hr.len]
  have hlen12 : (hd12 r).length = 12 := by simp [hd12, fB_len]
  have HENC : Hid (encL r = hd45 r ++ rfsB r.rs ++ List.replicate (508 - (hd45 r ++ rfsB r.rs).length) 0 ++ fB (sumOf [hd45 r ++ rfsB r.rs ++ List.replicate (508 - (hd45 r ++ rfsB r.rs).length) 0]) 4) := hide rfl
  have HD12 : Hid (hd12 r = [119, 111, 114, 107] ++ fB r.n 8) := hide rfl
  have HD44 : Hid (hd44 r = hd12 r ++ r.p) := hide rfl
  have HD45 : Hid (hd45 r = hd44 r ++ [(r.rs.length : Int)]) := hide rfl
  have HPL := hide hr.len
  have HPB := hide hr.by8
  have HLB := hide (rfsB_len (l := r.rs) (fun x hx => (hr.refs x hx).len))
  have HBY : Hid (By8 (hd45 r ++ rfsB r.rs ++ List.replicate (508 - (hd45 r ++ rfsB r.rs).length) 0)) := hide (encB_by hr hm8)
  have HLE : Hid ((hd45 r ++ rfsB r.rs ++ List.replicate (508 - (hd45 r ++ rfsB r.rs).length) 0).length = 508) := hide (encB_len hr hm8)
  have HST : Hid (∀ k, k < r.rs.length → rfsB (r.rs.take (k + 1)) = rfsB (r.rs.take k) ++ ((r.rs.getD k .nul).h ++ (fB (r.rs.getD k .nul).f 4 ++ fB (r.rs.getD k .nul).l 4))) := hide (fun k hk => rfsB_step hk)
  have HTL : Hid (∀ k, k ≤ r.rs.length → (rfsB (r.rs.take k)).length ≤ 320) := hide (fun k hk => by rw [rfsB_len (fun x hx => (hr.refs x (List.mem_of_mem_take hx)).len), List.length_take]; omega)
  have HALL : Hid (rfsB (r.rs.take r.rs.length) = rfsB r.rs) := hide (by rw [List.take_length])
  generalize encL r = EL at *
  generalize hd45 r = h45 at *
  generalize hd44 r = h44 at *
  generalize hd12 r = h12 at *
  generalize jrV r (.slice (some ⟨b, o, none⟩) r.rs.length vc) = cs at *
  generalize r.n = n at *
  generalize r.p = p at *
  generalize r.rs = rs at *
  obtain ⟨m, hm'⟩ : ∃ m, m = rs.length := ⟨_, rfl⟩
  rw [← hm'] at hm1 hm8 HF HRG HMY HD45 HST HTL HALL hlc
  have HM := hide hm'
  have hw8 : IntKind.u8.wrap (m : Int) = m := by rw [IntKind.wrap_u8]; omega
  have hd0 : decide (n < 0) = false := by simp; omega
  have hd1 : decide (1099511627776 < n) = false := by simp; omega
  have hcv := jconv_lit
  obtain ⟨B, hB⟩ : ∃ B, B = w.heap.size + 1 := ⟨_, rfl⟩
  rw [← hB] at HF HRG HFIN
  have HBB := hide hB
  have HL44 := hide hlen44
  have HL45 := hide hlen45
  have HL12 := hide hlen12
  clear hr hv he hm hrng hrr hm' hcell hB hlen44 hlen45 hlen12
  go_enter Tryd.func32, Tryd.ntmps32
  go_wp2_with (first | (refine wpList_boxJ rfl 52 (.tmp 0) rfl rfl ?_; intro w1 hA hb hs; rw [← HBB.out] at hs; have HK := hide (unhide HF w1 hA hb hs); have HRW := hide (unhide HRG w1 hb); obtain ⟨c0, c33, _, hj⟩ := unhide HK w1 (Below.refl _ _); have HB1 := hide hb; have HS1 := hide hs; have HJ := hide hj; clear hA hb hs hj) | fail)
  refine (unhide HMY _ HJ.out).mono ?_
  rintro e w2 ⟨rfl, hw2⟩
  obtain rfl := hw2.symm
  clear hw2 HMY HJ
  have hb3 : Below w1.heap.size w1 (w1.alloc (.cells #[.int .u8 119, .int .u8 111, .int .u8 114, .int .u8 107] 5 (4, 5))) := (Below.refl _ _).alloc (Nat.le_refl _) _
  have HFU : Hid (Full (w1.alloc (.cells #[.int .u8 119, .int .u8 111, .int .u8 114, .int .u8 107] 5 (4, 5))) (.slice (some ⟨w1.heap.size, 0, none⟩) 4 4) [119, 111, 114, 107]) := hide ⟨⟨_, rfl⟩, isB_litm w1 [119, 111, 114, 107] (4, 5) (by decide) (by decide)⟩
  rw [HS1.out] at hb3
  have hs3 : B ≤ (w1.alloc (.cells #[.int .u8 119, .int .u8 111, .int .u8 114, .int .u8 107] 5 (4, 5))).heap.size := by have := hb3.size; rw [HS1.out] at this; exact this
  obtain ⟨d0, d33, _, _⟩ := unhide HK _ hb3
  have HB3 := hide hb3
  clear hb3
  go_wp2_with fail
  refine (rfixF (n := 8) (B := B) (Or.inr HFU.out) hs3 hn0 (by omega) (by decide) (by decide) (by simp)).mono ?_
  rintro e w5 ⟨v5, rfl, ho5, hb5⟩
  rw [← HD12.out] at ho5
  have hE5 : E8 w1 w5 B v5 h12 := ⟨ho5, Nat.le_trans hs3 hb5.size, HB3.out.trans hb5⟩
  obtain ⟨a5, c5, rfl⟩ := hE5.shapeN HL12.out
  have HE5 : Hid (E8 w1 w5 B (.slice a5 12 c5) (h12 ++ p.take 0)) := hide (by rw [List.take_zero, List.append_nil]; exact hE5)
  clear ho5 hb5 hE5 HFU hs3 HB3 c0 c33 d0 d33
  go_wp2_with fail
  go_loopw [4, 5] (fun bv i W => ∃ (k mm c : Nat) (a : Option Addr), k ≤ 32 ∧ i = .int .i64 k ∧ bv = .slice a mm c ∧ Hid (E8 w1 W B bv (h12 ++ p.take k))) (fun _ i _ => 32 - (intOf i).toNat)
  case atStart => exact ⟨0, _, _, _, Nat.zero_le _, rfl, rfl, HE5⟩
  case round =>
    clear HE5
    obtain ⟨k, mm, c, a, hk, rfl, rfl, HE⟩ := hrel
    by_cases hlt : k < 32
    · obtain ⟨_, _, hpc, _⟩ := unhide HK wr HE.out.2.2
      have hc := hpc k hlt
      have hx : 0 ≤ p.getD k 0 ∧ p.getD k 0 ≤ 255 := by
        rw [List.getD_eq_getElem?_getD, List.getElem?_eq_getElem (by rw [HPL.out]; exact hlt)]
        exact HPB.out _ (List.getElem_mem _)
      have HTN : Hid (h12 ++ p.take k ++ [p.getD k 0] = h12 ++ p.take (k + 1)) := hide (by rw [List.append_assoc, ← take_next (by rw [HPL.out]; exact hlt)])
      have HLK : Hid ((h12 ++ p.take k).length ≤ 44) := hide (by rw [List.length_append, HL12.out, List.length_take]; omega)
      generalize p.getD k 0 = x at *
      have hba := jalloc_below wr (.cells #[.int .u8 x] 5)
      have HE2 := hide (HE.out.below hba)
      have HI2 := hide (isB_lit wr [x] (by intro y hy; simp at hy; omega) (by simp))
      have hll : (h12 ++ p.take k).length + [x].length ≤ 140737488355328 := by have := HLK.out; simp only [List.length_singleton]; omega
      clear hba hpc HE
      go_wp2_with (first
        | (at_builtin; refine wpList_appB rfl (.tmp 30) (.tmp 35) rfl rfl HE2.out.1 rfl HI2.out hll HE2.out.2.1 ?_; intro v3 w3 ho3 hg3
           have hE3 := HE2.out.app ho3 hg3
           rw [HTN.out] at hE3
           obtain ⟨a3, n3, c3, rfl⟩ := ho3.shape
           have HE3 := hide hE3
           clear ho3 hg3 hE3))
      go_roundw
      case rel => exact ⟨k + 1, _, _, _, by omega, by go_num, rfl, HE3⟩
      case measure => simp [intOf]; omega
    · have HE6 : Hid (E8 w1 wr B (.slice a mm c) h44) := hide (by
        obtain rfl : k = 32 := by omega
        have := HE.out
        rw [List.take_of_length_le (by rw [HPL.out]; exact Nat.le_refl _), ← HD44.out] at this
        exact this)
      obtain ⟨_, e33, _, _⟩ := unhide HK wr HE6.out.2.2
      have hba := jalloc_below wr (.cells #[.int .u8 (m : Int)] 5)
      have HE7 := hide (HE6.out.below hba)
      have HI7 := hide (isB_lit wr [(m : Int)] (by intro x hx; simp at hx; omega) (by simp))
      have hl7 : h44.length + [(m : Int)].length ≤ 140737488355328 := by rw [HL44.out]; simp
      clear hba HE HE6
      go_wp2_with (first
        | (at_builtin; refine wpList_appB rfl (.tmp 37) (.tmp 42) rfl rfl HE7.out.1 rfl HI7.out hl7 HE7.out.2.1 ?_; intro v8 w8 ho8 hg8
           have hE8 := HE7.out.app ho8 hg8
           rw [← HD45.out] at hE8
           obtain ⟨a8, c8, rfl⟩ := hE8.shapeN HL45.out
           have HE8 : Hid (E8 w1 w8 B (.slice a8 45 c8) (h45 ++ rfsB (rs.take 0))) := hide (by rw [List.take_zero]; show E8 _ _ _ _ (h45 ++ []); rw [List.append_nil]; exact hE8)
           clear ho8 hg8 hE8)
        | fail)
      clear HE7 HI7 hl7 e33
      go_loopw [4, 6] (fun bv i W => ∃ (q mm c : Nat) (a : Option Addr), q ≤ m ∧ i = .int .i64 q ∧ bv = .slice a mm c ∧ Hid (E8 w1 W B bv (h45 ++ rfsB (rs.take q)))) (fun _ i _ => m - (intOf i).toNat)
      case atStart => exact ⟨0, _, _, _, Nat.zero_le _, rfl, rfl, HE8⟩
      case round =>
        clear HE8
        obtain ⟨q, mm2, c2, a2, hq, rfl, rfl, HQ⟩ := hrel
        obtain ⟨_, q33, _, _⟩ := unhide HK wr HQ.out.2.2
        by_cases hqt : q < m
        · have hkl : q < rs.length := by rw [← HM.out]; exact hqt
          have hrok : (rs.getD q .nul).Ok := jf_get (P := JF.Ok) HOK.out hkl
          have hrge := jf_get (P := fun x => 0 ≤ x.f ∧ x.f < 65536 ∧ 0 ≤ x.l ∧ x.l ≤ 262144) HRR.out hkl
          have HSTK := hide (unhide HST q hqt)
          have HTLK := hide (unhide HTL q (by omega))
          have HRQ : Hid (∀ W, Below B w1 W → W.rangeAt b (o + q * 34) (jfV (rs.getD q .nul))) := hide (fun W hW => unhide HRW W hW q hqt)
          generalize rs.getD q .nul = rk at *
          have HP : Hid (∀ W, Below B w1 W → W.cell? ⟨b, o + q * 34 + 32, none⟩ = some (.int .i64 rk.f) ∧ W.cell? ⟨b, o + q * 34 + 33, none⟩ = some (.int .i64 rk.l) ∧ ∀ j, j < 32 → W.cell? ⟨b, o + q * 34 + j, none⟩ = some (.int .u8 (rk.h.getD j 0))) := hide (fun W hW => by
            have hA := unhide HRQ W hW
            obtain ⟨c32, c33⟩ := jfV_f hrok.len
            refine ⟨hA 32 _ c32, hA 33 _ c33, fun j hj => hA j _ ?_⟩
            have := jfV_h (e := rk) j (.int .u8 (rk.h.getD j 0)) (by rw [List.getElem?_map, List.getElem?_eq_getElem (by rw [hrok.len]; exact hj), List.getD_eq_getElem?_getD, List.getElem?_eq_getElem (by rw [hrok.len]; exact hj)]; rfl)
            rw [Nat.zero_add] at this
            exact this)
          have HHL := hide hrok.len
          have HHB := hide hrok.by8
          obtain ⟨g0, g1, g2, g3⟩ := hrge
          have HNX : Hid (h45 ++ rfsB (rs.take q) ++ rk.h ++ fB rk.f 4 ++ fB rk.l 4 = h45 ++ rfsB (rs.take (q + 1))) := hide (by rw [HSTK.out]; simp [List.append_assoc])
          have HLX : Hid ((h45 ++ rfsB (rs.take q)).length ≤ 365) := hide (by have q1 := HTLK.out; have q2 := HL45.out; rw [List.length_append]; omega)
          have HE0 : Hid (E8 w1 wr B (.slice a2 mm2 c2) (h45 ++ rfsB (rs.take q) ++ rk.h.take 0)) := hide (by rw [List.take_zero, List.append_nil]; exact HQ.out)
          generalize h45 ++ rfsB (rs.take q) = xs at *
          generalize rk.f = ff at *
          generalize rk.l = fl at *
          generalize rk.h = fh at *
          clear hrok HSTK HTLK hkl HQ HRQ
          go_wp2_with fail
          go_loopw [4, 7] (fun bv i W => ∃ (k mm c : Nat) (a : Option Addr), k ≤ 32 ∧ i = .int .i64 k ∧ bv = .slice a mm c ∧ Hid (E8 w1 W B bv (xs ++ fh.take k))) (fun _ i _ => 32 - (intOf i).toNat)
          case atStart => exact ⟨0, _, _, _, Nat.zero_le _, rfl, rfl, HE0⟩
          case round =>
            clear HE0 q33
            obtain ⟨k, mm, c, a, hk, rfl, rfl, HE⟩ := hrel
            obtain ⟨_, r33, _, _⟩ := unhide HK wr HE.out.2.2
            obtain ⟨y1, y2, y3⟩ := unhide HP wr HE.out.2.2
            by_cases hlt : k < 32
            · have hc := y3 k hlt
              have hx : 0 ≤ fh.getD k 0 ∧ fh.getD k 0 ≤ 255 := by
                rw [List.getD_eq_getElem?_getD, List.getElem?_eq_getElem (by rw [HHL.out]; exact hlt)]
                exact HHB.out _ (List.getElem_mem _)
              have HTN : Hid (xs ++ fh.take k ++ [fh.getD k 0] = xs ++ fh.take (k + 1)) := hide (by rw [List.append_assoc, ← take_next (by rw [HHL.out]; exact hlt)])
              generalize fh.getD k 0 = x at *
              have hba := jalloc_below wr (.cells #[.int .u8 x] 5)
              have HE2 := hide (HE.out.below hba)
              have HI2 := hide (isB_lit wr [x] (by intro y hy; simp at hy; omega) (by simp))
              have hll : (xs ++ fh.take k).length + [x].length ≤ 140737488355328 := by have := HLX.out; rw [List.length_append, List.length_take]; simp only [List.length_singleton]; omega
              clear hba y1 y2 y3 HE
              go_wp2_with (first
                | (at_builtin; refine wpList_appB rfl (.tmp 55) (.tmp 64) rfl rfl HE2.out.1 rfl HI2.out hll HE2.out.2.1 ?_; intro v3 w3 ho3 hg3
                   have hE3 := HE2.out.app ho3 hg3
                   rw [HTN.out] at hE3
                   obtain ⟨a3, n3, c3, rfl⟩ := ho3.shape
                   have HE3 := hide hE3
                   clear ho3 hg3 hE3))
              go_roundw
              case rel => exact ⟨k + 1, _, _, _, by omega, by go_num, rfl, HE3⟩
              case measure => simp [intOf]; omega
            · have HE6 : Hid (E8 w1 wr B (.slice a mm c) (xs ++ fh)) := hide (by
                obtain rfl : k = 32 := by omega
                have := HE.out
                rw [List.take_of_length_le (by rw [HHL.out]; exact Nat.le_refl _)] at this
                exact this)
              have HLY : Hid ((xs ++ fh).length ≤ 400 ∧ (xs ++ fh ++ fB ff 4).length ≤ 500) := hide (by have q1 := HLX.out; have q2 := HHL.out; constructor <;> simp only [List.length_append, fB_len] <;> omega)
              clear HE y3
              go_wp2_with fail
              refine (rfixE (n := 4) HE6.out g0 (by omega) (by decide) (by decide) (by have := HLY.out.1; omega)).mono ?_
              rintro e w3 ⟨v3, rfl, hE3⟩
              obtain ⟨_, s33, _, _⟩ := unhide HK w3 hE3.2.2
              obtain ⟨_, z2, _⟩ := unhide HP w3 hE3.2.2
              obtain ⟨a3, n3, c3, rfl⟩ := hE3.1.shape
              have HE3 := hide hE3
              clear hE3 HE6 y1 y2 r33
              go_wp2_with fail
              refine (rfixE (n := 4) HE3.out g2 (by omega) (by decide) (by decide) (by have := HLY.out.2; omega)).mono ?_
              rintro e w4 ⟨v4, rfl, hE4⟩
              rw [HNX.out] at hE4
              obtain ⟨a4, n4, c4, rfl⟩ := hE4.1.shape
              have HE4 := hide hE4
              clear hE4 HE3 s33 z2
              go_wp2
              go_roundw
              case rel => exact ⟨q + 1, _, _, _, by omega, by go_num, rfl, HE4⟩
              case measure => simp [intOf]; omega
        · have HKM : Hid (q = m) := hide (by omega)
          have hE9 : E8 w1 wr B (.slice a2 mm2 c2) (h45 ++ rfsB rs) := by have := HQ.out; rw [HKM.out, HALL.out] at this; exact this
          have hmm := hE9.1.isB.lenEq
          have HMM : Hid (mm2 = 45 + 40 * m) := hide (by have q1 := HL45.out; have q2 := HLB.out; have q3 := HM.out; rw [List.length_append] at hmm; omega)
          have HLN : Hid ((h45 ++ rfsB rs).length = 45 + 40 * m) := hide (by rw [← hmm]; exact HMM.out)
          rw [HLN.out] at HENC HBY HLE
          have hE9' : E8 w1 wr B (.slice a2 mm2 c2) (h45 ++ rfsB rs ++ List.replicate (mm2 - (45 + 40 * m)) 0) := by rw [HMM.out, Nat.sub_self, List.replicate_zero, List.append_nil]; rw [HMM.out] at hE9; exact hE9
          have HE9 := hide hE9'
          have hmlo : 45 + 40 * m ≤ mm2 := by have := HMM.out; omega
          have hmhi : mm2 ≤ 508 := by have := HMM.out; omega
          generalize h45 ++ rfsB rs = xs at *
          clear hmm hE9 hE9' HQ HMM HKM
          go_wp2_with fail
          go_loopw [4] (fun bv W => ∃ (mm c : Nat) (a : Option Addr), 45 + 40 * m ≤ mm ∧ mm ≤ 508 ∧ bv = .slice a mm c ∧ Hid (E8 w1 W B bv (xs ++ List.replicate (mm - (45 + 40 * m)) 0))) (fun bv _ => 508 - lenSl bv)
          case atStart => exact ⟨_, _, _, hmlo, hmhi, rfl, HE9⟩
          case round =>
            clear HE9 hmlo hmhi q33
            obtain ⟨mm, c, a, hlo, hhi, rfl, HE⟩ := hrel
            by_cases hlt : mm < 508
            · have hI : (mm : Int) < 508 := by omega
              have hba := jalloc_below wr (.cells #[.int .u8 0] 5)
              have HE2 := hide (HE.out.below hba)
              have HI2 := hide (isB_lit wr [0] (by decide) (by decide))
              have hll : (xs ++ List.replicate (mm - (45 + 40 * m)) 0).length + [(0 : Int)].length ≤ 140737488355328 := by have := HE.out.1.isB.lenEq; rw [← this]; simp only [List.length_singleton]; omega
              have HTN : Hid (xs ++ List.replicate (mm - (45 + 40 * m)) 0 ++ [0] = xs ++ List.replicate (mm + 1 - (45 + 40 * m)) 0) := hide (by rw [List.append_assoc, ← List.replicate_succ', show mm - (45 + 40 * m) + 1 = mm + 1 - (45 + 40 * m) by omega])
              have HLM : Hid ((xs ++ List.replicate (mm + 1 - (45 + 40 * m)) 0).length = mm + 1) := hide (by have h1 := HE.out.1.isB.lenEq; rw [← HTN.out, List.length_append, ← h1]; rfl)
              clear hba HE
              go_wp2_with (first
                | (at_builtin; refine wpList_appB rfl (.tmp 85) (.tmp 86) rfl rfl HE2.out.1 rfl HI2.out hll HE2.out.2.1 ?_; intro v3 w3 ho3 hg3
                   have hE3 := HE2.out.app ho3 hg3
                   rw [HTN.out] at hE3
                   obtain ⟨a3, c3, rfl⟩ := hE3.shapeN HLM.out
                   have HE3 := hide hE3
                   clear ho3 hg3 hE3))
              go_roundw
              case rel => exact ⟨mm + 1, _, _, by omega, by omega, rfl, HE3⟩
              case measure => simp [lenSl]; omega
            · have hI : ¬ (mm : Int) < 508 := by omega
              have HMM : Hid (mm = 508) := hide (by omega)
              have HE3 : Hid (E8 w1 wr B (.slice a mm c) (xs ++ List.replicate (508 - (45 + 40 * m)) 0)) := hide (by have := HE.out; rw [HMM.out] at this ⊢; exact this)
              have hsm : 0 ≤ sumOf [xs ++ List.replicate (508 - (45 + 40 * m)) 0] ∧ sumOf [xs ++ List.replicate (508 - (45 + 40 * m)) 0] < 4294967296 := by
                have h1 : crcAll 4294967295 [xs ++ List.replicate (508 - (45 + 40 * m)) 0] < 2 ^ 32 := crcAll_lt (by decide) (fun ys hys => by rw [List.mem_singleton.1 hys]; exact HBY.out)
                have h2 := Nat.xor_lt_two_pow (n := 32) (x := 4294967295) (by decide) h1
                unfold sumOf
                generalize 4294967295 ^^^ crcAll 4294967295 [xs ++ List.replicate (508 - (45 + 40 * m)) 0] = z at h2 ⊢
                omega
              have HCR := hide (rcrc_calls HE3.out.1.isB)
              have hws : IntKind.i64.wrap (sumOf [xs ++ List.replicate (508 - (45 + 40 * m)) 0]) = sumOf [xs ++ List.replicate (508 - (45 + 40 * m)) 0] := IntWalk.i64_in _ (by omega)
              generalize sumOf [xs ++ List.replicate (508 - (45 + 40 * m)) 0] = sm at *
              generalize xs ++ List.replicate (508 - (45 + 40 * m)) 0 = ys at *
              obtain ⟨hs0, hs1⟩ := hsm
              clear HE
              go_wp2_with fail
              refine (unhide HCR).mono ?_
              rintro e w4 ⟨rfl, hw4⟩
              obtain rfl := hw4.symm
              clear hw4 HCR
              go_wp2_with fail
              refine (rfixE (n := 4) HE3.out hs0 (by omega) (by decide) (by decide) (by have := HLE.out; omega)).mono ?_
              rintro e w5 ⟨v5, rfl, hE5⟩
              rw [← HENC.out] at hE5
              have HE5 := hide (unhide HFIN _ _ _ _ HB1.out HS1.out hE5)
              obtain ⟨a5, n5, c5, rfl⟩ := hE5.1.shape
              clear hE5 HE3
              go_wp2
              go_ret2
              exact ⟨_, rfl, HE5.out⟩
/-- What the document's Encode answers. -/
theorem renc_calls {w : World} {r : JR} {v : Value} (hr : r.Ok) (hv : IsJ w v r.rs) :
    Calls Tryd.prog 32 #[.agg (jrV r v).toArray] w fun e w' => ∃ u, e = .returned (.tuple #[u, .int .i64 (encE r)]) ∧ Own8 w' w.heap.size u (encR r) ∧ Below w.heap.size w w' := by
  by_cases hn : r.n < 0 ∨ 1099511627776 < r.n
  · have e1 := encE_num hn
    rw [encR_no (by rw [e1]; decide), e1]
    exact (renc_num hn).mono fun _ _ ⟨h1, h2⟩ => ⟨_, h1, Own8.nil _ _, h2⟩
  · cases hm : mayRs r.rs with
    | false =>
      have e1 := encE_refs hn hm
      rw [encR_no (by rw [e1]; decide), e1]
      exact (renc_refs hr hv hn hm).mono fun _ _ ⟨h1, h2⟩ => ⟨_, h1, Own8.nil _ _, h2⟩
    | true =>
      have e1 := encE_zero hn hm
      rw [encR_yes e1, e1]
      exact renc_good hr hv e1
end Go.Proofs.YthhjlopgpmaokabDoor

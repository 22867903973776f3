/- The hash by the words behind the whole blocks; an array within a block is read. What Key answers: the hash of the bytes that have come. -/
import Derived.Test.YtlofoklfggmbiaaDoorRB
import Derived.Deep.RegionWith
namespace Go.Proofs.YtlofoklfggmbiaaDoor
open Go.RowKit

theorem absorb_pre {s : H8} {xs ys : List Int} : ∀ n, (∀ j, j < 64 * n → xs[j]? = ys[j]?) → absorbN s xs n = absorbN s ys n
 | 0, _ => rfl
 | n + 1, h => by
   rw [absorbN, absorbN, absorb_pre n (fun j hj => h j (by omega))]
   congr 1
   apply List.ext_getElem?
   intro j
   by_cases hj : j < 64
   · rw [List.getElem?_take_of_lt hj, List.getElem?_take_of_lt hj, List.getElem?_drop, List.getElem?_drop, h _ (by omega)]
   · rw [List.getElem?_take_eq_none (by omega), List.getElem?_take_eq_none (by omega)]
theorem absorb_app {s : H8} {ys es : List Int} {q : Nat} (hq : ys.length = 64 * q) : ∀ t, absorbN s (ys ++ es) (q + t) = absorbN (absorbN s ys q) es t
 | 0 => by
   rw [Nat.add_zero, absorbN]
   exact absorb_pre q (fun j hj => List.getElem?_append_left (by omega))
 | t + 1 => by
   rw [← Nat.add_assoc, absorbN, absorbN, absorb_app hq t, List.drop_append]
   have e1 : List.drop (64 * (q + t)) ys = [] := List.drop_eq_nil_of_le (by omega)
   have e2 : 64 * (q + t) - ys.length = 64 * t := by omega
   rw [e1, e2, List.nil_append]
theorem end_len (xs : List Int) : (endB xs).length = 64 ∨ (endB xs).length = 128 := by
 have h := laidB_len xs
 rw [laid_end, List.length_append, List.length_take] at h
 have hz : zerosOf xs.length = (119 - xs.length % 64) % 64 := rfl
 omega
/-- The hash, by the words behind the whole blocks. -/
theorem sha_end (xs : List Int) : shaOf xs = keyB (absorbN (absorbN init8 xs (xs.length / 64)) (endB xs) ((endB xs).length / 64)) 32 := by
 have hl : (xs.take (64 * (xs.length / 64))).length = 64 * (xs.length / 64) := by rw [List.length_take]; omega
 have he := end_len xs
 have hn : (laidB xs).length / 64 = xs.length / 64 + (endB xs).length / 64 := by
  rw [laid_end, List.length_append, hl]
  omega
 rw [shaOf, hn, laid_end, absorb_app hl, absorb_pre (xs := xs.take (64 * (xs.length / 64))) (ys := xs) _ (fun j hj => List.getElem?_take_of_lt hj)]
theorem hash_at_word {S : H8} {r : List Int} {n j : Nat} (hj : j < 8) : (hashCells S r n)[j]? = S.vals[j]? := by
 unfold hashCells
 rw [List.append_assoc, List.getElem?_append_left (by simp [H8.vals]; omega)]

section
variable {ops : Array Oper} {rest : List Oper} {o : Oper} {a : Act} {Q : Exit → Act → World → Prop} {w : World}
theorem load_part {g off n : Nat} {t0 t e : TypeId} {cs cs' : List Value} (h : Arr w g t0 cs) (hp : ∀ j v, cs'[j]? = some v → cs[off + j]? = some v) (hu : Tryd.prog.underlying t = some (.array n e)) (hi : (Tryd.prog.info? t).map (·.size) = some cs'.length) :
 (loadVar t ⟨g, off, none⟩).run Tryd.prog w = .ok (.agg cs'.toArray) w := by
 have hl := run_loadCells_list (P := Tryd.prog) w ⟨g, off, none⟩ cs' (fun j v hv => by rw [Addr.add_lit, h.cell]; exact hp j v hv)
 cases hq : Tryd.prog.info? t with
 | none => simp [hq] at hi
 | some i =>
   have hs : i.size = cs'.length := by simpa [hq] using hi
   have hagg : (isAgg t).run Tryd.prog w = .ok true w := by
    unfold isAgg
    rw [Sem.run_bind, run_underlying hu w]
    rfl
   simp [loadVar, Sem.run_bind, hagg, sizeOf, typeInfo, hq, hs, hl]
/-- An array within a block is read. -/
theorem wpList_loadPart (hgd : o.guard = none) (x : Operand) (t : TypeId) (ho : o.op = .load t x) {g off n : Nat} {t0 e : TypeId} {cs : List Value} (cs' : List Value) (hx : a.eval x = .pointer (some ⟨g, off, none⟩)) (h : Arr w g t0 cs) (hp : ∀ j v, cs'[j]? = some v → cs[off + j]? = some v)
 (hu : Tryd.prog.underlying t = some (.array n e)) (hi : (Tryd.prog.info? t).map (·.size) = some cs'.length) (hk : wpList Tryd.prog ops Q rest (a.put o.dst (.agg cs'.toArray)) w) : wpList Tryd.prog ops Q (o :: rest) a w := by
 refine wpList_plain hgd fun K hK => ?_
 have h0 := load_part h hp hu hi
 have h1 : (Instr.loadAt t (.pointer (some ⟨g, off, none⟩))).run Tryd.prog w = .ok (.agg cs'.toArray) w := by
  simp only [Instr.loadAt, Instr.sureAddr, Sem.run_bind, Sem.run_pure, Result.andThen]
  exact h0
 unfold Oper.wp execOp
 simp only [ho, hx, Sem.run_bind, h1, Result.andThen_ok, Sem.run_pure]
 exact hK _ _ hk
end
section
variable {ops : Array Oper} {o : Oper} {a : Act} {w : World} {K : Act → World → Prop} {Q : Exit → Act → World → Prop} {E : Prop}
/-- A whole array is read, as one step of a region that draws. -/
theorem step_loadArr (hgd : o.guard = none) (x : Operand) (t : TypeId) (ho : o.op = .load t x) {g n : Nat} {e : TypeId} {cs : List Value} (hx : a.eval x = .pointer (some ⟨g, 0, none⟩)) (h : Arr w g t cs) (hu : Tryd.prog.underlying t = some (.array n e)) (hi : (Tryd.prog.info? t).map (·.size) = some cs.length)
 (hk : K (a.put o.dst (.agg cs.toArray)) w) : if Region.wanted o (yielded ops a.tmps) = true then Oper.wp Tryd.prog o a w K Q else E := by
 have hw : Region.wanted o (yielded ops a.tmps) = true := by simp [Region.wanted, hgd]
 rw [if_pos hw]
 have h1 := h.loadAt hu hi
 unfold Oper.wp execOp
 simp only [ho, hx, Sem.run_bind, h1, Result.andThen_ok, Sem.run_pure]
 exact hk
theorem step_storeArr (hgd : o.guard = none) (x y : Operand) (t : TypeId) (ho : o.op = .store t x y) {g : Nat} {cs cs' : List Value} (hx : a.eval x = .pointer (some ⟨g, 0, none⟩)) (hy : a.eval y = .agg cs'.toArray) (h : Arr w g t cs) (hi : (Tryd.prog.info? t).map (·.size) = some cs'.length)
 (hl : cs.length = cs'.length) (h1 : ∀ u ∈ cs', u.oneCell' = true) (hk : ∀ w', Arr w' g t cs' → Wrote w w' g → K (a.put o.dst undef) w') : if Region.wanted o (yielded ops a.tmps) = true then Oper.wp Tryd.prog o a w K Q else E := by
 have hw : Region.wanted o (yielded ops a.tmps) = true := by simp [Region.wanted, hgd]
 rw [if_pos hw]
 have h2 := h.storeAt hi hl h1
 unfold Oper.wp execOp
 simp only [ho, hx, hy, Sem.run_bind, h2, Result.andThen_ok, Sem.run_pure]
 exact hk _ (setRow_heap w g _ _ t _ h) ⟨fun k hk => Go.setRow_other w g k _ hk, by simp, fun _ _ hb hB => below_setRow hb hB _⟩
end
end Go.Proofs.YtlofoklfggmbiaaDoor

namespace Go.Proofs.YtlofoklfggmbiaaDoor
open Go.RowKit

set_option maxRecDepth 100000 in
set_option maxHeartbeats 2000000 in
theorem keys_calls {w : World} {g : Nat} {xs : List Int} (h : IsHash w g xs) (hT : TabK w) : Calls Tryd.prog 61 #[.pointer (some ⟨g, 0, none⟩)] w fun e w' => e = .returned (keyV xs) ∧ Below w.heap.size w w' := by
 have HI := hide h
 have HT := hide hT
 have HKV : Hid (keyV xs = .agg ((keyB (absorbN (absorbN init8 xs (xs.length / 64)) (endB xs) ((endB xs).length / 64)) 32).map (Value.int .u8)).toArray) := by
  show _ = _
  rw [keyV, sha_end]
 have hmemE : ∀ x ∈ endB xs, 0 ≤ x ∧ x ≤ 255 := fun x hx => laidB_bytes h.mem x (by rw [laid_end]; exact List.mem_append_right _ hx)
 have HME := hide hmemE
 obtain ⟨_, _, r, hr, _, _, hA⟩ := h
 have hok := absorbN_ok init8_ok xs (xs.length / 64)
 have HE := hide (end_len xs)
 obtain ⟨S, hS⟩ : ∃ S, S = absorbN init8 xs (xs.length / 64) := ⟨_, rfl⟩
 rw [← hS] at hA hok HKV
 clear hS hT hmemE
 have hpart : ∀ j v, S.vals[j]? = some v → (hashCells S r xs.length)[0 + j]? = some v := fun j v hv => by
  have hj : j < 8 := (List.getElem?_eq_some_iff.1 hv).1
  rw [Nat.zero_add, hash_at_word hj, hv]
 have hi8 : (Tryd.prog.info? 154).map (·.size) = some S.vals.length := by kernel_rfl
 have hone8 := H8.vals_one S
 have HP := hide hpart
 clear hpart
 generalize hashCells S r xs.length = HC at *
 have hgl := hA.lt
 go_enter Tryd.func61, Tryd.ntmps61
 have hA1 := hA.alloc (.cells (row32 []).toArray 32)
 have hR1 := Arr.new w (row32 []) 32
 have hB1 := (Below.refl w.heap.size w).alloc (Nat.le_refl _) (.cells (row32 []).toArray 32)
 have hN := Arr.new (w.alloc (.cells (row32 []).toArray 32)) (List.replicate 8 (Value.int .u32 0)) 154
 rw [size_alloc] at hN
 have hl8 : (List.replicate 8 (Value.int .u32 0)).length = S.vals.length := rfl
 go_wp2_with (first
  | refine wpList_loadPart rfl (.tmp 7) 154 rfl S.vals rfl hA1 (unhide HP) Tryd.underlying154 hi8 ?_
  | (refine wpList_storeArr2 (cs' := S.vals) rfl (.tmp 3) (.tmp 8) 154 rfl rfl rfl hN hi8 hl8 hone8 ?_; intro w2 hS2 hw2))
 have hR2 := (hR1.alloc (.cells (List.replicate 8 (Value.int .u32 0)).toArray 154)).wrote hw2 (by omega)
 have hB2 := hw2.below _ _ (hB1.alloc hB1.size (.cells (List.replicate 8 (Value.int .u32 0)).toArray 154)) (by omega)
 clear hA hA1 hR1 hB1 hN hw2
 refine (ending_calls ((unhide HI).below hB2)).mono ?_
 rintro e w3 ⟨gE, n, rfl, hgE, hn, hI3, hb3⟩
 have hS3 := hS2.below hb3
 have hR3 := hR2.below hb3
 have hB3 := below_then hB2 hb3
 have hg2 := hS2.lt
 have HN := hide hn
 clear hS2 hR2 hB2 hb3 hn
 go_wp2_with fail
 go_loopw [4] (fun v wr => ∃ (t o m : Nat), m + 64 * t = n ∧ v = .slice (some ⟨gE, o, none⟩) m m ∧ (0 < m → o = 64 * t) ∧ Arr wr (w.heap.size + 1) 154 (absorbN S (endB xs) t).vals ∧ Arr wr w.heap.size 32 (row32 []) ∧ IsB wr (.slice (some ⟨gE, 0, none⟩) n n) (endB xs) ∧ Below w.heap.size w wr) (fun v _ => sliceLen v)
 case atStart => exact ⟨0, 0, n, by omega, rfl, fun _ => rfl, hS3, hR3, hI3, hB3⟩
 case round =>
  clear hS3 hR3 hI3 hB3
  obtain ⟨t, o, m, hmt, rfl, ho, hS, hR, hI, hnx⟩ := hrel
  have hE := HE.out
  rw [← HN.out] at hE
  rcases (show m = 64 ∨ m = 128 ∨ m = 0 by omega) with rfl | rfl | rfl
  · have HO := hide (ho (by decide))
    clear ho
    obtain ⟨T, hTe⟩ : ∃ T, T = absorbN S (endB xs) t := ⟨_, rfl⟩
    have hTok : T.ok := by rw [hTe]; exact absorbN_ok hok _ _
    rw [← hTe] at hS
    obtain ⟨T', hT'⟩ : ∃ T', T' = blockF T (((endB xs).drop (64 * t)).take 64) := ⟨_, rfl⟩
    have HT' : Hid (absorbN S (endB xs) (t + 1) = T') := by
     show _ = _
     rw [absorbN, hT', hTe]
    have hcall : ∀ W : World, W.heap = wr.heap → Calls Tryd.prog 83 #[.agg T.vals.toArray, .slice (some ⟨gE, o, none⟩) 64 64] W fun e w' => e = .returned (.agg (blockF T (((endB xs).drop (64 * t)).take 64)).vals.toArray) ∧ Below W.heap.size W w' := fun W hW' => by
     have ec : ∀ a, W.cell? a = wr.cell? a := fun a => by unfold World.cell?; rw [hW']
     refine after_in T gE o 64 (((endB xs).drop (64 * t)).take 64) W (by omega) (by decide) (block_bytes (unhide HME) t) (fun j hj => ?_) (fun i hi => by rw [ec]; exact (unhide HT).below hnx i hi) hTok
     obtain ⟨_, a', cp', hv, _, _, _, hc⟩ := hI
     obtain ⟨b', off', ha, hcell⟩ := hc (by rw [← HN.out]; omega)
     injection hv with e1 e2 e3
     rw [ha] at e1
     injection e1 with e1
     injection e1 with e1 e4
     subst e1 e4
     rw [ec, HO.out, block_at hj]
     have := hcell (64 * t + j) (by rw [← HN.out]; omega)
     rw [Nat.zero_add] at this
     exact this
    rw [← hT'] at hcall
    have HCALL := hide hcall
    have hT'ok : T'.ok := by rw [hT']; exact blockF_ok _ _
    clear hcall hT' hTe
    have hi8T : (Tryd.prog.info? 154).map (·.size) = some T.vals.length := by kernel_rfl
    have hi8T' : (Tryd.prog.info? 154).map (·.size) = some T'.vals.length := by kernel_rfl
    have hlTT : T.vals.length = T'.vals.length := rfl
    have honeT := H8.vals_one T'
    have hSd := hS.drew
    go_wp2_with fail
    refine wp_region_any (by kernel_rfl) ?_
    change wpAny _ _ _ _ _ _ _ (World.drew _)
    refine wpAny_take (i := 1) (v := .slice (some ⟨gE, o, none⟩) 64 64) rfl (by kernel_rfl) (by kernel_rfl) (by kernel_rfl) (fun _ _ _ h => h) (Or.inl ⟨by rfl, by intro w; go_simp⟩) ?_
    refine wpAny_take (i := 2) (v := .slice (some ⟨gE, o, none⟩) 64 64) rfl (by kernel_rfl) (by kernel_rfl) (by kernel_rfl) (fun _ _ _ h => h) (Or.inl ⟨by rfl, by intro w; go_simp⟩) ?_
    refine wpAny_ready (rs := [0]) (by kernel_rfl) (by simp) ?_
    refine AllReady.cons rfl (fun K hK => ?_) AllReady.nil
    refine step_loadArr rfl (.tmp 3) 154 rfl rfl hSd Tryd.underlying154 hi8T ?_
    refine hK _ _ ?_
    clear hK K
    refine wpAny_ready (rs := [3]) (by kernel_rfl) (by simp) ?_
    refine AllReady.cons rfl (fun K hK => ?_) AllReady.nil
    go_simp
    refine (unhide HCALL wr.drew rfl).mono ?_
    rintro e w5 ⟨rfl, hb5⟩
    refine hK _ _ ?_
    clear hK K
    have hb5' := below_drew hb5
    have hS5 := hS.below hb5'
    refine wpAny_ready (rs := [4]) (by kernel_rfl) (by simp) ?_
    refine AllReady.cons rfl (fun K hK => ?_) AllReady.nil
    refine step_storeArr (cs' := T'.vals) rfl (.tmp 3) (.tmp 17) 154 rfl rfl rfl hS5 hi8T' hlTT honeT ?_
    intro w6 hS6 hw6
    refine hK _ _ ?_
    clear hK K
    refine wpAny_done (by kernel_rfl) ?_ _
    go_wp2
    exact ⟨⟨t + 1, o, 0, by omega, rfl, by omega, by rw [HT'.out]; exact hS6, (hR.below hb5').wrote hw6 (by omega), (hI.below hb5').wrote hw6 (by omega), hw6.below _ _ (below_then hnx hb5') (by omega)⟩, by simp [sliceLen]⟩
  · have HO := hide (ho (by decide))
    clear ho
    obtain ⟨T, hTe⟩ : ∃ T, T = absorbN S (endB xs) t := ⟨_, rfl⟩
    have hTok : T.ok := by rw [hTe]; exact absorbN_ok hok _ _
    rw [← hTe] at hS
    obtain ⟨T', hT'⟩ : ∃ T', T' = blockF T (((endB xs).drop (64 * t)).take 64) := ⟨_, rfl⟩
    have HT' : Hid (absorbN S (endB xs) (t + 1) = T') := by
     show _ = _
     rw [absorbN, hT', hTe]
    have hcall : ∀ W : World, W.heap = wr.heap → Calls Tryd.prog 83 #[.agg T.vals.toArray, .slice (some ⟨gE, o, none⟩) 64 128] W fun e w' => e = .returned (.agg (blockF T (((endB xs).drop (64 * t)).take 64)).vals.toArray) ∧ Below W.heap.size W w' := fun W hW' => by
     have ec : ∀ a, W.cell? a = wr.cell? a := fun a => by unfold World.cell?; rw [hW']
     refine after_in T gE o 128 (((endB xs).drop (64 * t)).take 64) W (by omega) (by decide) (block_bytes (unhide HME) t) (fun j hj => ?_) (fun i hi => by rw [ec]; exact (unhide HT).below hnx i hi) hTok
     obtain ⟨_, a', cp', hv, _, _, _, hc⟩ := hI
     obtain ⟨b', off', ha, hcell⟩ := hc (by rw [← HN.out]; omega)
     injection hv with e1 e2 e3
     rw [ha] at e1
     injection e1 with e1
     injection e1 with e1 e4
     subst e1 e4
     rw [ec, HO.out, block_at hj]
     have := hcell (64 * t + j) (by rw [← HN.out]; omega)
     rw [Nat.zero_add] at this
     exact this
    rw [← hT'] at hcall
    have HCALL := hide hcall
    have hT'ok : T'.ok := by rw [hT']; exact blockF_ok _ _
    clear hcall hT' hTe
    have hi8T : (Tryd.prog.info? 154).map (·.size) = some T.vals.length := by kernel_rfl
    have hi8T' : (Tryd.prog.info? 154).map (·.size) = some T'.vals.length := by kernel_rfl
    have hlTT : T.vals.length = T'.vals.length := rfl
    have honeT := H8.vals_one T'
    have hSd := hS.drew
    go_wp2_with fail
    refine wp_region_any (by kernel_rfl) ?_
    change wpAny _ _ _ _ _ _ _ (World.drew _)
    refine wpAny_take (i := 1) (v := .slice (some ⟨gE, o, none⟩) 128 128) rfl (by kernel_rfl) (by kernel_rfl) (by kernel_rfl) (fun _ _ _ h => h) (Or.inl ⟨by rfl, by intro w; go_simp⟩) ?_
    refine wpAny_take (i := 2) (v := .slice (some ⟨gE, o, none⟩) 64 128) rfl (by kernel_rfl) (by kernel_rfl) (by kernel_rfl) (fun _ _ _ h => h) (Or.inl ⟨by rfl, by intro w; go_simp⟩) ?_
    refine wpAny_ready (rs := [0]) (by kernel_rfl) (by simp) ?_
    refine AllReady.cons rfl (fun K hK => ?_) AllReady.nil
    refine step_loadArr rfl (.tmp 3) 154 rfl rfl hSd Tryd.underlying154 hi8T ?_
    refine hK _ _ ?_
    clear hK K
    refine wpAny_ready (rs := [3]) (by kernel_rfl) (by simp) ?_
    refine AllReady.cons rfl (fun K hK => ?_) AllReady.nil
    go_simp
    refine (unhide HCALL wr.drew rfl).mono ?_
    rintro e w5 ⟨rfl, hb5⟩
    refine hK _ _ ?_
    clear hK K
    have hb5' := below_drew hb5
    have hS5 := hS.below hb5'
    refine wpAny_ready (rs := [4]) (by kernel_rfl) (by simp) ?_
    refine AllReady.cons rfl (fun K hK => ?_) AllReady.nil
    refine step_storeArr (cs' := T'.vals) rfl (.tmp 3) (.tmp 17) 154 rfl rfl rfl hS5 hi8T' hlTT honeT ?_
    intro w6 hS6 hw6
    refine hK _ _ ?_
    clear hK K
    refine wpAny_done (by kernel_rfl) ?_ _
    go_wp2
    have ho := HO.out
    exact ⟨⟨t + 1, o + 64, 64, by omega, rfl, fun _ => by omega, by rw [HT'.out]; exact hS6, (hR.below hb5').wrote hw6 (by omega), (hI.below hb5').wrote hw6 (by omega), hw6.below _ _ (below_then hnx hb5') (by omega)⟩, by simp [sliceLen]⟩
  · have ht : t = (endB xs).length / 64 := by rw [← HN.out]; omega
    rw [ht] at hS
    have hTok := absorbN_ok hok (endB xs) ((endB xs).length / 64)
    obtain ⟨T, hTe⟩ : ∃ T, T = absorbN S (endB xs) ((endB xs).length / 64) := ⟨_, rfl⟩
    rw [← hTe] at hS hTok HKV
    clear ht hTe ho
    have hi8T : (Tryd.prog.info? 154).map (·.size) = some T.vals.length := by kernel_rfl
    have hi48 : (Tryd.prog.info? 32).map (·.size) = some ((keyB T 32).map (Value.int .u8)).length := by rw [List.length_map, keyB_len]; kernel_rfl
    have hl48 : (row32 []).length = ((keyB T 32).map (Value.int .u8)).length := by rw [List.length_map, keyB_len]; rfl
    have hone48 := u8_one (keyB T 32)
    have HKEY : Hid (∀ W, Calls Tryd.prog 85 #[.agg T.vals.toArray] W fun e w' => e = .returned (.agg ((keyB T 32).map (Value.int .u8)).toArray) ∧ Below W.heap.size W w') := fun W => key_calls T hTok W
    obtain ⟨KV, hKV⟩ : ∃ KV, KV = (keyB T 32).map (Value.int .u8) := ⟨_, rfl⟩
    rw [← hKV] at hi48 hl48 hone48 HKEY HKV
    clear hKV
    go_wp2_with (first
     | refine wpList_loadArr rfl (.tmp 3) 154 rfl rfl hS Tryd.underlying154 hi8T ?_
     | (go_at_call 85; refine (unhide HKEY _).mono ?_; rintro e w7 ⟨rfl, hb7⟩; have hR7 := hR.below hb7)
     | (refine wpList_storeArr2 (cs' := KV) rfl (.tmp 2) (.tmp 21) 32 rfl rfl rfl hR7 hi48 hl48 hone48 ?_; intro w8 hR8 hw8))
    exact bodyPost_ret (v := .agg KV.toArray) (results_arr rfl rfl hR8 Tryd.underlying32 hi48) rfl ⟨by rw [HKV.out], hw8.below _ _ (below_then hnx hb7) (Nat.le_refl _)⟩
end Go.Proofs.YtlofoklfggmbiaaDoor

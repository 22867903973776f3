/- What Key answers: the hash of the bytes that have come. An array within a block is written, and read, as one step of a region that draws; what Write makes of a Hash's cells. A region that draws its order, walked by hand: one operation at a time over a frame that is a letter. -/
import Derived.Test.YtfhfobikbfbajaaGreatDoorTBL
import Derived.Deep.RegionWith
namespace Go.Proofs.YtfhfobikbfbajaaGreatDoor
open Go.RowKit

set_option maxRecDepth 100000 in
set_option maxHeartbeats 2000000 in
theorem keys_calls {w : World} {g : Nat} {xs : List Int} (h : IsHash w g xs) (hT : TabK w) : Calls Tryz.prog 40 #[.pointer (some ⟨g, 0, none⟩)] w fun e w' => e = .returned (keyV xs) ∧ Below w.heap.size w w' := by
  have HI := hide h
  have HT := hide hT
  have HKV : Hid (keyV xs = .agg ((keyB (absorbN (absorbN init8 xs (xs.length / 64)) (endB xs) ((endB xs).length / 64)) 32).map (Value.int .u8)).toArray) := by
    show _ = _
    rw [keyV, sha_end]
  have hmemE : ∀ x ∈ endB xs, 0 ≤ x ∧ x ≤ 255 := fun x hx => laidB_bytes h.mem x (by rw [laid_end]; exact List.mem_append_right _ hx)
  have HME := hide hmemE
  obtain ⟨_, _, r, hr, _, _, hA⟩ := h
  have hok := absorbN_ok init8_ok xs (xs.length / 64)
  have HE := hide (end_len xs)
  obtain ⟨S, hS⟩ : ∃ S, S = absorbN init8 xs (xs.length / 64) := ⟨_, rfl⟩
  rw [← hS] at hA hok HKV
  clear hS hT hmemE
  have hpart : ∀ j v, S.vals[j]? = some v → (hashCells S r xs.length)[0 + j]? = some v := fun j v hv => by
    have hj : j < 8 := (List.getElem?_eq_some_iff.1 hv).1
    rw [Nat.zero_add, hash_at_word hj, hv]
  have hi8 : (Tryz.prog.info? 122).map (·.size) = some S.vals.length := by kernel_rfl
  have hone8 := H8.vals_one S
  have HP := hide hpart
  clear hpart
  generalize hashCells S r xs.length = HC at *
  have hgl := hA.lt
  go_enter Tryz.func40, Tryz.ntmps40
  have hA1 := hA.alloc (.cells (row32 []).toArray 32)
  have hR1 := Arr.new w (row32 []) 32
  have hB1 := (Below.refl w.heap.size w).alloc (Nat.le_refl _) (.cells (row32 []).toArray 32)
  have hN := Arr.new (w.alloc (.cells (row32 []).toArray 32)) (List.replicate 8 (Value.int .u32 0)) 122
  rw [size_alloc] at hN
  have hl8 : (List.replicate 8 (Value.int .u32 0)).length = S.vals.length := rfl
  go_wp2_with (first
    | refine wpList_loadPart rfl (.tmp 7) 122 rfl S.vals rfl hA1 (unhide HP) Tryz.underlying122 hi8 ?_
    | (refine wpList_storeArr2 (cs' := S.vals) rfl (.tmp 3) (.tmp 8) 122 rfl rfl rfl hN hi8 hl8 hone8 ?_; intro w2 hS2 hw2))
  have hR2 := (hR1.alloc (.cells (List.replicate 8 (Value.int .u32 0)).toArray 122)).wrote hw2 (by omega)
  have hB2 := hw2.below _ _ (hB1.alloc hB1.size (.cells (List.replicate 8 (Value.int .u32 0)).toArray 122)) (by omega)
  clear hA hA1 hR1 hB1 hN hw2
  refine (ending_calls ((unhide HI).below hB2)).mono ?_
  rintro e w3 ⟨gE, n, rfl, hgE, hn, hI3, hb3⟩
  have hS3 := hS2.below hb3
  have hR3 := hR2.below hb3
  have hB3 := below_then hB2 hb3
  have hg2 := hS2.lt
  have HN := hide hn
  clear hS2 hR2 hB2 hb3 hn
  go_wp2_with fail
  go_loopw [4] (fun v wr => ∃ (t o m : Nat), m + 64 * t = n ∧ v = .slice (some ⟨gE, o, none⟩) m m ∧ (0 < m → o = 64 * t) ∧ Arr wr (w.heap.size + 1) 122 (absorbN S (endB xs) t).vals ∧ Arr wr w.heap.size 32 (row32 []) ∧ IsB wr (.slice (some ⟨gE, 0, none⟩) n n) (endB xs) ∧ Below w.heap.size w wr) (fun v _ => sliceLen v)
  case atStart => exact ⟨0, 0, n, by omega, rfl, fun _ => rfl, hS3, hR3, hI3, hB3⟩
  case round =>
    clear hS3 hR3 hI3 hB3
    obtain ⟨t, o, m, hmt, rfl, ho, hS, hR, hI, hnx⟩ := hrel
    have hE := HE.out
    rw [← HN.out] at hE
    rcases (show m = 64 ∨ m = 128 ∨ m = 0 by omega) with rfl | rfl | rfl
    · have HO := hide (ho (by decide))
      clear ho
      obtain ⟨T, hTe⟩ : ∃ T, T = absorbN S (endB xs) t := ⟨_, rfl⟩
      have hTok : T.ok := by rw [hTe]; exact absorbN_ok hok _ _
      rw [← hTe] at hS
      obtain ⟨T', hT'⟩ : ∃ T', T' = blockF T (((endB xs).drop (64 * t)).take 64) := ⟨_, rfl⟩
      have HT' : Hid (absorbN S (endB xs) (t + 1) = T') := by
        show _ = _
        rw [absorbN, hT', hTe]
      have hcall : ∀ W : World, W.heap = wr.heap → Calls Tryz.prog 61 #[.agg T.vals.toArray, .slice (some ⟨gE, o, none⟩) 64 64] W fun e w' => e = .returned (.agg (blockF T (((endB xs).drop (64 * t)).take 64)).vals.toArray) ∧ Below W.heap.size W w' := fun W hW' => by
        have ec : ∀ a, W.cell? a = wr.cell? a := fun a => by unfold World.cell?; rw [hW']
        refine after_in T gE o 64 (((endB xs).drop (64 * t)).take 64) W (by omega) (by decide) (block_bytes (unhide HME) t) (fun j hj => ?_) (fun i hi => by rw [ec]; exact (unhide HT).below hnx i hi) hTok
        obtain ⟨_, a', cp', hv, _, _, _, hc⟩ := hI
        obtain ⟨b', off', ha, hcell⟩ := hc (by rw [← HN.out]; omega)
        injection hv with e1 e2 e3
        rw [ha] at e1
        injection e1 with e1
        injection e1 with e1 e4
        subst e1 e4
        rw [ec, HO.out, block_at hj]
        have := hcell (64 * t + j) (by rw [← HN.out]; omega)
        rw [Nat.zero_add] at this
        exact this
      rw [← hT'] at hcall
      have HCALL := hide hcall
      have hT'ok : T'.ok := by rw [hT']; exact blockF_ok _ _
      clear hcall hT' hTe
      have hi8T : (Tryz.prog.info? 122).map (·.size) = some T.vals.length := by kernel_rfl
      have hi8T' : (Tryz.prog.info? 122).map (·.size) = some T'.vals.length := by kernel_rfl
      have hlTT : T.vals.length = T'.vals.length := rfl
      have honeT := H8.vals_one T'
      have hSd := hS.drew
      go_wp2_with fail
      refine wp_region_any (by kernel_rfl) ?_
      change wpAny _ _ _ _ _ _ _ (World.drew _)
      refine wpAny_take (i := 1) (v := .slice (some ⟨gE, o, none⟩) 64 64) rfl (by kernel_rfl) (by kernel_rfl) (by kernel_rfl) (fun _ _ _ h => h) (Or.inl ⟨by rfl, by intro w; go_simp⟩) ?_
      refine wpAny_take (i := 2) (v := .slice (some ⟨gE, o, none⟩) 64 64) rfl (by kernel_rfl) (by kernel_rfl) (by kernel_rfl) (fun _ _ _ h => h) (Or.inl ⟨by rfl, by intro w; go_simp⟩) ?_
      refine wpAny_ready (rs := [0]) (by kernel_rfl) (by simp) ?_
      refine AllReady.cons rfl (fun K hK => ?_) AllReady.nil
      refine step_loadArr rfl (.tmp 3) 122 rfl rfl hSd Tryz.underlying122 hi8T ?_
      refine hK _ _ ?_
      clear hK K
      refine wpAny_ready (rs := [3]) (by kernel_rfl) (by simp) ?_
      refine AllReady.cons rfl (fun K hK => ?_) AllReady.nil
      go_simp
      refine (unhide HCALL wr.drew rfl).mono ?_
      rintro e w5 ⟨rfl, hb5⟩
      refine hK _ _ ?_
      clear hK K
      have hb5' := below_drew hb5
      have hS5 := hS.below hb5'
      refine wpAny_ready (rs := [4]) (by kernel_rfl) (by simp) ?_
      refine AllReady.cons rfl (fun K hK => ?_) AllReady.nil
      refine step_storeArr (cs' := T'.vals) rfl (.tmp 3) (.tmp 17) 122 rfl rfl rfl hS5 hi8T' hlTT honeT ?_
      intro w6 hS6 hw6
      refine hK _ _ ?_
      clear hK K
      refine wpAny_done (by kernel_rfl) ?_ _
      go_wp2
      exact ⟨⟨t + 1, o, 0, by omega, rfl, by omega, by rw [HT'.out]; exact hS6, (hR.below hb5').wrote hw6 (by omega), (hI.below hb5').wrote hw6 (by omega), hw6.below _ _ (below_then hnx hb5') (by omega)⟩, by simp [sliceLen]⟩
    · have HO := hide (ho (by decide))
      clear ho
      obtain ⟨T, hTe⟩ : ∃ T, T = absorbN S (endB xs) t := ⟨_, rfl⟩
      have hTok : T.ok := by rw [hTe]; exact absorbN_ok hok _ _
      rw [← hTe] at hS
      obtain ⟨T', hT'⟩ : ∃ T', T' = blockF T (((endB xs).drop (64 * t)).take 64) := ⟨_, rfl⟩
      have HT' : Hid (absorbN S (endB xs) (t + 1) = T') := by
        show _ = _
        rw [absorbN, hT', hTe]
      have hcall : ∀ W : World, W.heap = wr.heap → Calls Tryz.prog 61 #[.agg T.vals.toArray, .slice (some ⟨gE, o, none⟩) 64 128] W fun e w' => e = .returned (.agg (blockF T (((endB xs).drop (64 * t)).take 64)).vals.toArray) ∧ Below W.heap.size W w' := fun W hW' => by
        have ec : ∀ a, W.cell? a = wr.cell? a := fun a => by unfold World.cell?; rw [hW']
        refine after_in T gE o 128 (((endB xs).drop (64 * t)).take 64) W (by omega) (by decide) (block_bytes (unhide HME) t) (fun j hj => ?_) (fun i hi => by rw [ec]; exact (unhide HT).below hnx i hi) hTok
        obtain ⟨_, a', cp', hv, _, _, _, hc⟩ := hI
        obtain ⟨b', off', ha, hcell⟩ := hc (by rw [← HN.out]; omega)
        injection hv with e1 e2 e3
        rw [ha] at e1
        injection e1 with e1
        injection e1 with e1 e4
        subst e1 e4
        rw [ec, HO.out, block_at hj]
        have := hcell (64 * t + j) (by rw [← HN.out]; omega)
        rw [Nat.zero_add] at this
        exact this
      rw [← hT'] at hcall
      have HCALL := hide hcall
      have hT'ok : T'.ok := by rw [hT']; exact blockF_ok _ _
      clear hcall hT' hTe
      have hi8T : (Tryz.prog.info? 122).map (·.size) = some T.vals.length := by kernel_rfl
      have hi8T' : (Tryz.prog.info? 122).map (·.size) = some T'.vals.length := by kernel_rfl
      have hlTT : T.vals.length = T'.vals.length := rfl
      have honeT := H8.vals_one T'
      have hSd := hS.drew
      go_wp2_with fail
      refine wp_region_any (by kernel_rfl) ?_
      change wpAny _ _ _ _ _ _ _ (World.drew _)
      refine wpAny_take (i := 1) (v := .slice (some ⟨gE, o, none⟩) 128 128) rfl (by kernel_rfl) (by kernel_rfl) (by kernel_rfl) (fun _ _ _ h => h) (Or.inl ⟨by rfl, by intro w; go_simp⟩) ?_
      refine wpAny_take (i := 2) (v := .slice (some ⟨gE, o, none⟩) 64 128) rfl (by kernel_rfl) (by kernel_rfl) (by kernel_rfl) (fun _ _ _ h => h) (Or.inl ⟨by rfl, by intro w; go_simp⟩) ?_
      refine wpAny_ready (rs := [0]) (by kernel_rfl) (by simp) ?_
      refine AllReady.cons rfl (fun K hK => ?_) AllReady.nil
      refine step_loadArr rfl (.tmp 3) 122 rfl rfl hSd Tryz.underlying122 hi8T ?_
      refine hK _ _ ?_
      clear hK K
      refine wpAny_ready (rs := [3]) (by kernel_rfl) (by simp) ?_
      refine AllReady.cons rfl (fun K hK => ?_) AllReady.nil
      go_simp
      refine (unhide HCALL wr.drew rfl).mono ?_
      rintro e w5 ⟨rfl, hb5⟩
      refine hK _ _ ?_
      clear hK K
      have hb5' := below_drew hb5
      have hS5 := hS.below hb5'
      refine wpAny_ready (rs := [4]) (by kernel_rfl) (by simp) ?_
      refine AllReady.cons rfl (fun K hK => ?_) AllReady.nil
      refine step_storeArr (cs' := T'.vals) rfl (.tmp 3) (.tmp 17) 122 rfl rfl rfl hS5 hi8T' hlTT honeT ?_
      intro w6 hS6 hw6
      refine hK _ _ ?_
      clear hK K
      refine wpAny_done (by kernel_rfl) ?_ _
      go_wp2
      have ho := HO.out
      exact ⟨⟨t + 1, o + 64, 64, by omega, rfl, fun _ => by omega, by rw [HT'.out]; exact hS6, (hR.below hb5').wrote hw6 (by omega), (hI.below hb5').wrote hw6 (by omega), hw6.below _ _ (below_then hnx hb5') (by omega)⟩, by simp [sliceLen]⟩
    · have ht : t = (endB xs).length / 64 := by rw [← HN.out]; omega
      rw [ht] at hS
      have hTok := absorbN_ok hok (endB xs) ((endB xs).length / 64)
      obtain ⟨T, hTe⟩ : ∃ T, T = absorbN S (endB xs) ((endB xs).length / 64) := ⟨_, rfl⟩
      rw [← hTe] at hS hTok HKV
      clear ht hTe ho
      have hi8T : (Tryz.prog.info? 122).map (·.size) = some T.vals.length := by kernel_rfl
      have hi48 : (Tryz.prog.info? 32).map (·.size) = some ((keyB T 32).map (Value.int .u8)).length := by rw [List.length_map, keyB_len]; kernel_rfl
      have hl48 : (row32 []).length = ((keyB T 32).map (Value.int .u8)).length := by rw [List.length_map, keyB_len]; rfl
      have hone48 := u8_one (keyB T 32)
      have HKEY : Hid (∀ W, Calls Tryz.prog 63 #[.agg T.vals.toArray] W fun e w' => e = .returned (.agg ((keyB T 32).map (Value.int .u8)).toArray) ∧ Below W.heap.size W w') := fun W => key_calls T hTok W
      obtain ⟨KV, hKV⟩ : ∃ KV, KV = (keyB T 32).map (Value.int .u8) := ⟨_, rfl⟩
      rw [← hKV] at hi48 hl48 hone48 HKEY HKV
      clear hKV
      go_wp2_with (first
        | refine wpList_loadArr rfl (.tmp 3) 122 rfl rfl hS Tryz.underlying122 hi8T ?_
        | (go_at_call 63; refine (unhide HKEY _).mono ?_; rintro e w7 ⟨rfl, hb7⟩; have hR7 := hR.below hb7)
        | (refine wpList_storeArr2 (cs' := KV) rfl (.tmp 2) (.tmp 21) 32 rfl rfl rfl hR7 hi48 hl48 hone48 ?_; intro w8 hR8 hw8))
      exact bodyPost_ret (v := .agg KV.toArray) (results_arr rfl rfl hR8 Tryz.underlying32 hi48) rfl ⟨by rw [HKV.out], hw8.below _ _ (below_then hnx hb7) (Nat.le_refl _)⟩
end Go.Proofs.YtfhfobikbfbajaaGreatDoor

namespace Go.Proofs.YtfhfobikbfbajaaGreatDoor
open Go.RowKit

section
variable {o : Oper} {a : Act} {w : World} {K : Act → World → Prop} {Q : Exit → Act → World → Prop} {E : Prop} {Y : Nat → Option Bool}
theorem store_part {g off : Nat} {t0 t : TypeId} {cs cs' : List Value} (h : Arr w g t0 cs) (hf : off + cs'.length ≤ cs.length) (h1 : ∀ u ∈ cs', u.oneCell' = true) (hi : (Tryz.prog.info? t).map (·.size) = some cs'.length) :
    (Instr.storeAt t (.pointer (some ⟨g, off, none⟩)) (.agg cs'.toArray)).run Tryz.prog w = .ok () (w.setRow g (cs.take off ++ cs' ++ cs.drop (off + cs'.length)).toArray) := by
  have hst := run_storeCells_at Tryz.prog g off t0 cs' 0 cs.toArray w h (by simpa using hf) h1
  simp only [Instr.storeAt, Instr.sureAddr, Sem.run_bind, Sem.run_pure, Result.andThen]
  cases hq : Tryz.prog.info? t with
  | none => simp [hq] at hi
  | some i =>
    have hs : cs'.length = i.size := by simp [hq] at hi; omega
    simp [Go.storeVar, sizeOf, typeInfo, hq, Value.cells, hs, hst]
end
/-- The words of a Hash's cells written anew. -/
theorem hash_words (S T : H8) (r : List Int) (n : Nat) : (hashCells S r n).take 0 ++ T.vals ++ (hashCells S r n).drop (0 + T.vals.length) = hashCells T r n := by
  have e : 0 + T.vals.length = S.vals.length := rfl
  rw [List.take_zero, List.nil_append, e]
  unfold hashCells
  rw [List.append_assoc S.vals, List.drop_left, List.append_assoc]
/-- The room of a Hash's cells written anew, from a place on. -/
theorem hash_rest {S : H8} {r ys : List Int} {n u : Nat} (hu : u + ys.length ≤ r.length) : splice (hashCells S r n) (8 + u) (ys.map (Value.int .u8)) = hashCells S (r.take u ++ ys ++ r.drop (u + ys.length)) n := by
  unfold splice hashCells
  have hl : S.vals.length = 8 := rfl
  have h1 : (S.vals ++ r.map (Value.int .u8) ++ [Value.int .i64 (n : Int)]).take (8 + u) = S.vals ++ (r.take u).map (Value.int .u8) := by
    rw [List.append_assoc, ← hl, List.take_length_add_append, List.take_append_of_le_length (by simp; omega), List.map_take]
  have h2 : (S.vals ++ r.map (Value.int .u8) ++ [Value.int .i64 (n : Int)]).drop (8 + u + (ys.map (Value.int .u8)).length) = (r.drop (u + ys.length)).map (Value.int .u8) ++ [Value.int .i64 (n : Int)] := by
    rw [List.append_assoc, List.length_map, Nat.add_assoc, ← hl, List.drop_length_add_append, List.drop_append_of_le_length (by simp; omega), List.map_drop]
  rw [h1, h2]
  simp
/-- The length of a Hash's cells written anew. -/
theorem hash_set_len {S : H8} {r : List Int} {n m : Nat} (hr : r.length = 64) : (hashCells S r n).set 72 (.int .i64 (m : Int)) = hashCells S r m := by
  unfold hashCells
  have h : (S.vals ++ r.map (Value.int .u8)).length = 72 := by simp [H8.vals, hr]
  rw [List.set_append_right _ _ (by omega), h]
  rfl
end Go.Proofs.YtfhfobikbfbajaaGreatDoor

namespace Go.Proofs.YtfhfobikbfbajaaGreatDoor
open Go.RowKit

/-- From there one goes on. -/
structure Goes (A K : Act → World → Prop) : Prop where
  go : ∀ a w, A a w → K a w
/-- One operation's condition, closed: where a term is asked of it nothing is reckoned. -/
structure OpWp (P : Program) (o : Oper) (a : Act) (w : World) (K : Act → World → Prop) (Q : Exit → Act → World → Prop) : Prop where
  out : Oper.wp P o a w K Q
section
variable {P : Program} {md : Region.Mode} {ops : Array Oper} {Q : Exit → Act → World → Prop} {fuel : Nat} {listed : Array Bool} {a : Act} {w : World}
theorem wpAny_gen (h : ∀ fr, fr = a → wpAny P md ops Q fuel listed fr w) : wpAny P md ops Q fuel listed a w := h a rfl
/-- Just one operation can come. -/
theorem wpAny_one (i : Nat) {o : Oper} (hr : Region.ready md ops listed = [i]) (ho : ops[i]? = some o) (hg : o.guard = none) (h : ∀ K : Act → World → Prop, Goes (wpAny P md ops Q fuel (listed.setIfInBounds i true)) K → OpWp P o a w K Q) : wpAny P md ops Q (fuel + 1) listed a w :=
  wpAny_ready hr (by simp) (AllReady.cons ho (fun K hK => by rw [if_pos (by simp [Region.wanted, hg])]; exact (h K ⟨hK⟩).out) AllReady.nil)
/-- An operation that leaves the world as it is, ahead of the others. -/
theorem wpAny_val (i : Nat) (d : Tmp) (v : Value) {oi : Oper} (hi : ops[i]? = some oi) (hd : oi.dst = some d) (hs : Region.noSelect ops = true) (hf : Region.free md ops listed i = true) (hr : (Region.ready md ops listed).contains i = true)
    (hQ : ∀ c a w, Q (.panic c) (a.put oi.dst v) w → Q (.panic c) a w) (hy : Yields P ops oi v a) (h : wpAny P md ops Q fuel (listed.setIfInBounds i true) (a.put (some d) v) w) : wpAny P md ops Q (fuel + 1) listed a w :=
  wpAny_take hi hs hf hr hQ hy (hd ▸ h)
end
section
variable {o : Oper} {a : Act} {w : World} {K : Act → World → Prop} {Q : Exit → Act → World → Prop}
theorem wp_loadPart (d : Tmp) (x : Operand) (t : TypeId) (hd : o.dst = some d) (ho : o.op = .load t x) {g off n : Nat} {t0 e : TypeId} {cs : List Value} (cs' : List Value) (hx : a.eval x = .pointer (some ⟨g, off, none⟩)) (h : Arr w g t0 cs) (hp : ∀ j v, cs'[j]? = some v → cs[off + j]? = some v)
    (hu : Tryz.prog.underlying t = some (.array n e)) (hi : (Tryz.prog.info? t).map (·.size) = some cs'.length) (hk : K (a.put (some d) (.agg cs'.toArray)) w) : OpWp Tryz.prog o a w K Q := by
  refine ⟨?_⟩
  have h0 := load_part h hp hu hi
  have h1 : (Instr.loadAt t (.pointer (some ⟨g, off, none⟩))).run Tryz.prog w = .ok (.agg cs'.toArray) w := by
    simp only [Instr.loadAt, Instr.sureAddr, Sem.run_bind, Sem.run_pure, Result.andThen]
    exact h0
  unfold Oper.wp execOp
  simp only [ho, hx, Sem.run_bind, h1, Result.andThen_ok, Sem.run_pure]
  rw [← hd] at hk
  exact hk
theorem wp_storePart (x y : Operand) (t : TypeId) (hd : o.dst = none) (ho : o.op = .store t x y) {g off : Nat} {t0 : TypeId} {cs : List Value} (cs' : List Value) (hx : a.eval x = .pointer (some ⟨g, off, none⟩)) (hy : a.eval y = .agg cs'.toArray) (h : Arr w g t0 cs) (hi : (Tryz.prog.info? t).map (·.size) = some cs'.length)
    (hf : off + cs'.length ≤ cs.length) (h1 : ∀ u ∈ cs', u.oneCell' = true) (hk : ∀ w', Arr w' g t0 (cs.take off ++ cs' ++ cs.drop (off + cs'.length)) → Wrote w w' g → K a w') : OpWp Tryz.prog o a w K Q := by
  refine ⟨?_⟩
  have h2 := store_part h hf h1 hi
  unfold Oper.wp execOp
  simp only [ho, hx, hy, Sem.run_bind, h2, Result.andThen_ok, Sem.run_pure]
  have := hk _ (setRow_heap w g _ _ t0 _ h) ⟨fun k hk => Go.setRow_other w g k _ hk, by simp, fun _ _ hb hB => below_setRow hb hB _⟩
  have e : a.put o.dst undef = a := by rw [hd]; rfl
  show K (a.put o.dst undef) _
  rw [e]
  exact this
end
end Go.Proofs.YtfhfobikbfbajaaGreatDoor

/- What Image answers. -/
import Derived.Test.YtfgjhlnaaopdeabDkL
namespace Go.Proofs.Ytfgjhlnaaopdeab
open Go.RowKit Go.Maps

def zcells : List Value := List.replicate 512 (Value.int .u8 0)
theorem zcells_len : zcells.length = 512 := List.length_replicate
section
variable {ops : Array Oper} {rest : List Oper} {o : Oper} {a : Act} {Q : Exit → Act → World → Prop} {w : World}
theorem alloc_run (W : World) : (Instr.alloc 77 true (.tuple #[])).run Try.prog W = .ok (.pointer (some ⟨W.heap.size, 0, none⟩)) (W.alloc (.cells zcells.toArray 77)) := by
  obtain ⟨i0, hi0, hz0, hz1, hz2⟩ := info_parts infoS
  have hzero : (zeroValue 77).run Try.prog W = .ok (.agg zcells.toArray) W := by
    show (zeroValue 77).run Try.prog W = .ok (.agg (List.replicate 512 (Value.int .u8 0)).toArray) W
    generalize (List.replicate 512 (Value.int .u8 0)).toArray = zz at hz0
    simp [zeroValue, typeInfo, hi0, hz0]
  unfold Instr.alloc
  rw [Sem.run_bind, hzero]
  rfl
/-- A new sector of zeros. -/
theorem wpList_allocS (hgd : o.guard = none) (ho : o.op = .alloc 77) (hk : wpList Try.prog ops Q rest (a.put o.dst (.pointer (some ⟨w.heap.size, 0, none⟩))) (w.alloc (.cells zcells.toArray 77))) : wpList Try.prog ops Q (o :: rest) a w := by
  refine wpList_plain hgd fun K hK => ?_
  unfold Oper.wp execOp
  simp only [ho, Sem.run_bind, alloc_run w, Result.andThen_ok, Sem.run_pure]
  exact hK _ _ hk
end
theorem isB_arrS {w : World} {g : Nat} {s : List Int} (h : Arr w g 77 (u8V s)) (hs : IsSec s) : IsB w (.slice (some ⟨g, 0, none⟩) 512 512) s := by
  refine ⟨bytes_mem hs.2, some ⟨g, 0, none⟩, 512, by rw [hs.1], by rw [hs.1]; exact Nat.le_refl _, by decide, (fun h => by cases h), fun _ => ⟨g, 0, rfl, fun j hj => ?_⟩⟩
  rw [h.cell (0 + j), Nat.zero_add]
  unfold u8V
  rw [List.getElem?_map, List.getElem?_eq_getElem hj, List.getD_eq_getElem?_getD, List.getElem?_eq_getElem hj]
  rfl
/-- An image in memory of its own. -/
structure Img (w : World) (B : Nat) (v : Value) (xss : List (List Int)) : Prop where
  val : ∃ gI us, v = .slice (some ⟨gI, 0, none⟩) xss.length xss.length ∧ B ≤ gI ∧ Arr w gI 23 us ∧ us.length = xss.length ∧ ∀ j, j < xss.length → ∃ g, B ≤ g ∧ us[j]? = some (.slice (some ⟨g, 0, none⟩) 512 512) ∧ Arr w g 77 (u8V (xss.getD j zsec))
  sec : ∀ s ∈ xss, IsSec s
theorem Img.isBB {w : World} {B : Nat} {v : Value} {xss : List (List Int)} (h : Img w B v xss) (hl : xss.length ≤ 65536) : IsBB w v xss := by
  obtain ⟨gI, us, rfl, _, hA, _, hj⟩ := h.val
  refine ⟨some ⟨gI, 0, none⟩, xss.length, rfl, Nat.le_refl _, by omega, fun _ => ⟨gI, 0, rfl, fun j hjl => ?_⟩⟩
  obtain ⟨g, _, hu, hg⟩ := hj j hjl
  refine ⟨_, by rw [hA.cell, Nat.zero_add]; exact hu, ?_⟩
  have e : xss.getD j zsec = xss.getD j [] := by rw [List.getD_eq_getElem?_getD, List.getD_eq_getElem?_getD, List.getElem?_eq_getElem hjl]; rfl
  rw [← e]
  exact isB_arrS hg (by rw [List.getD_eq_getElem?_getD, List.getElem?_eq_getElem hjl]; exact h.sec _ (List.getElem_mem hjl))
theorem Img.up {F : Nat → Prop} {w w' : World} {B : Nat} {v : Value} {xss : List (List Int)} (h : Img w B v xss) (hu : Up F w w') (hF : ∀ b, F b → b < B ∨ w.heap.size ≤ b) : Img w' B v xss := by
  obtain ⟨gI, us, rfl, hB, hA, hl, hj⟩ := h.val
  refine ⟨⟨gI, us, rfl, hB, hA.up hu (fun hf => by have := hF gI hf; have := hA.lt; omega), hl, fun j hjl => ?_⟩, h.sec⟩
  obtain ⟨g, hBg, hus, hg⟩ := hj j hjl
  exact ⟨g, hBg, hus, hg.up hu (fun hf => by have := hF g hf; have := hg.lt; omega)⟩
theorem made_one (z : Value) (n : Nat) : madeCells #[z] n = (List.replicate n z).toArray := by
  apply Array.ext_getElem?
  intro j
  by_cases hj : j < n
  · simp [madeCells, hj, Nat.mod_one]
  · simp [madeCells, hj]
theorem infoBy : (Try.prog.info? 23).map (fun i => (i.zero, i.size, i.bytes)) = some (some (.slice none 0 0), 1, 24) := by kernel_rfl
theorem arr_full {w : World} {base g n : Nat} {t : TypeId} {xs : List Value} (h : w.ownsRow base t 1 (.slice (some ⟨g, 0, none⟩) n n) n xs) : Arr w g t xs ∧ base ≤ g := by
  rcases h.2 with ⟨hv, _⟩ | ⟨g', cap, cur, hv, hb, hg, _, _, hs, ht⟩
  · cases hv
  · injection hv with e1 e2 e3
    injection e1 with e1
    injection e1 with e1
    subst e1 e3
    refine ⟨?_, hb⟩
    unfold Arr
    rw [hg, ← ht, List.take_of_length_le (by simp; omega)]
theorem set_at {us : List Value} {k n : Nat} (hl : us.length = n) (hk : k < n) (x : Value) : ∀ j, (us.set k x)[j]? = if j = k then some x else us[j]? := by
  intro j
  by_cases e : j = k
  · subst e; rw [List.getElem?_set_self (by omega), if_pos rfl]
  · rw [List.getElem?_set_ne (by omega), if_neg e]
set_option maxRecDepth 100000 in
set_option maxHeartbeats 2000000 in
theorem image_calls {w : World} {p gl gm : Nat} {V : Nat → Value} {D : AD} (h : Dk w p gl gm V D) :
    Calls Try.prog 13 #[.pointer (some ⟨p, 0, none⟩)] w fun e w' => ∃ v, e = .returned v ∧ Img w' w.heap.size v D.la ∧ Below w.heap.size w w' := by
  have hhi := h.ok.hi
  have hc0 := h.cells.1
  have hp : p < w.heap.size := h.blk.lt
  have hglt : gl < w.heap.size := (h.las.lt gl rfl).2
  have HD := hide h
  have HSEC := hide h.ok.las
  have HR : Hid (∀ W k, Below w.heap.size w W → k < D.la.length → W.rangeAt gl (k * 512) (u8V (D.la.getD k zsec)) ∧ (u8V (D.la.getD k zsec)).length = 512) := fun W k hW hk =>
    ⟨range_of_block (owns_range h.las h.ok.las hk) (hW.block gl hglt), by rw [u8V_len, List.getD_eq_getElem?_getD, List.getElem?_eq_getElem hk]; exact (h.ok.las _ (List.getElem_mem hk)).1⟩
  clear h
  generalize hla : D.la = la at *
  generalize hn : la.length = n at *
  have HN := hide hn
  clear hn
  go_enter Try.func13, Try.ntmps13
  obtain ⟨i1, hi1, hy0, hy1, hy2⟩ := info_parts infoBy
  go_wp2_with (at_make; refine wpList_make_full _ rfl _ _ 33 rfl w.heap.size 23 i1 (.slice none 0 0) 1 Try.underlying33 hi1 hy0 hy1 _ _ _ _ n rfl rfl rfl rfl (by rw [hy2]; omega) (by unfold maxLen; omega) (Nat.le_refl _) ?_; intro w1 hr1 hg1; have hc01 := hg1.cell hc0 (by simp))
  obtain ⟨hA1, _⟩ := arr_full hr1
  have hb1 : Below w.heap.size w w1 := ⟨hg1.os, hg1.tape, hg1.output, hg1.size, fun k hk => hg1.block k hk (by simp)⟩
  have hml : (madeCells (Value.slice none 0 0).cells (n * 1)).toList.length = n := by simp [madeCells]
  generalize (madeCells (Value.slice none 0 0).cells (n * 1)).toList = us0 at hA1 hml
  have HA1 := hide hA1
  have HB1 := hide hb1
  clear hA1 hr1 hg1 hb1 hy0
  go_loopw [17] (fun i wr => ∃ (k : Nat) (us : List Value), k ≤ n ∧ i = .int .i64 (k : Int) ∧ Below w.heap.size w wr ∧ Arr wr w.heap.size 23 us ∧ us.length = n ∧ ∀ j, j < k → ∃ g, w.heap.size ≤ g ∧ us[j]? = some (.slice (some ⟨g, 0, none⟩) 512 512) ∧ Arr wr g 77 (u8V (la.getD j zsec))) (fun i _ => n - (intOf i).toNat)
  case atStart => exact ⟨0, us0, by omega, rfl, HB1.out, HA1.out, hml, fun j hj => by omega⟩
  case round =>
    clear hml HA1 HB1 hc01
    obtain ⟨k, us, hk, rfl, hnx, hA, hul, hall⟩ := hrel
    have hsz := hnx.size
    by_cases hlt : k < n
    · obtain ⟨hr, hcl⟩ := unhide HR wr k hnx hlt
      have hund := Try.underlying77
      have hinf : (Try.prog.info? 77).map (·.size) = some (u8V (la.getD k zsec)).length := by rw [hcl]; kernel_rfl
      have hzl : zcells.length = (u8V (la.getD k zsec)).length := by rw [hcl, zcells_len]
      have hone := u8V_one (la.getD k zsec)
      have hBy := fun W => hide (bytes_calls (w := W) (cs := u8V (la.getD k zsec)))
      have HALL := hide hall
      have HA := hide hA
      have HNX := hide hnx
      have HZ := Arr.new wr zcells 77
      have hgs : w.heap.size < wr.heap.size := hA.lt
      obtain ⟨ux, hux⟩ : ∃ ux, us[k]? = some ux := ⟨_, List.getElem?_eq_getElem (by omega)⟩
      clear hall hA hnx hcl
      generalize hcs : u8V (la.getD k zsec) = cs at *
      have HCS := hide hcs
      clear hcs
      go_wp2_with (first
        | (refine wpList_load_mid rfl 77 (.tmp 20) rfl gl (k * 512) rfl cs (.array 512 5) hr hund rfl hinf ?_)
        | (refine wpList_allocS rfl rfl ?_)
        | (refine wpList_storeArr2 (cs' := cs) rfl (.tmp 5) (.tmp 21) 77 rfl rfl rfl HZ hinf hzl hone ?_; intro w3 hZ3 hW3)
        | (refine wpList_loadArr rfl (.tmp 5) 77 rfl rfl hZ3 hund hinf ?_)
        | (go_at_call 35; refine (unhide (hBy _)).mono ?_; rintro e w4 ⟨rfl, rfl⟩; have hsz3 : w3.heap.size = wr.heap.size + 1 := (by rw [hW3.size]; simp); have hA3 : Arr w3 w.heap.size 23 us := (HA.out.alloc _).wrote hW3 (by omega); have hc3 := hA3.cell_of hux; have hf3 := hA3.frozen k; have hlt3 := hA3.lt))
      have hbz : Below wr.heap.size wr (wr.alloc (.cells zcells.toArray 77)) := (Below.refl _ _).alloc (Nat.le_refl _) _
      have hb3 : Below wr.heap.size wr w3 := hW3.below _ _ hbz (Nat.le_refl _)
      have hb5 : Below wr.heap.size wr w3 := hb3
      have hset := hA3.set k (.slice (some ⟨wr.heap.size + 1, 0, none⟩) 512 512)
      have hnew := Arr.new (w3.setCell ⟨w.heap.size, k, none⟩ (.slice (some ⟨wr.heap.size + 1, 0, none⟩) 512 512)) cs 77
      have hs5 : (w3.setCell ⟨w.heap.size, k, none⟩ (.slice (some ⟨wr.heap.size + 1, 0, none⟩) 512 512)).heap.size = wr.heap.size + 1 := by simp; exact hsz3
      rw [hs5] at hnew
      have hsa := set_at hul hlt (.slice (some ⟨wr.heap.size + 1, 0, none⟩) 512 512)
      go_roundw
      case rel =>
        refine ⟨k + 1, us.set k (.slice (some ⟨wr.heap.size + 1, 0, none⟩) 512 512), by omega, by go_num, ?_, hset.alloc _, by rw [List.length_set]; exact hul, fun j hj => ?_⟩
        · exact ((HNX.out.trans (hb3.mono hsz)).setCell (Nat.le_refl _) _).alloc (by rw [hs5]; omega) _
        · by_cases e : j = k
          · subst e
            exact ⟨wr.heap.size + 1, by omega, by rw [hsa, if_pos rfl], by rw [HCS.out]; exact hnew⟩
          · obtain ⟨g, hg1, hg2, hg3⟩ := unhide HALL j (by omega)
            have hne : g ≠ w.heap.size := fun e2 => by
              subst e2
              have h1 := HA.out
              unfold Arr at h1 hg3
              rw [h1] at hg3
              simp only [Option.some.injEq, Obj.cells.injEq] at hg3
              exact absurd hg3.2.1 (by decide)
            exact ⟨g, hg1, by rw [hsa, if_neg e]; exact hg2, ((hg3.below hb3).other ⟨w.heap.size, k, none⟩ _ hne).alloc _⟩
      case measure => simp [intOf]; omega
    · have hkn : k = n := by omega
      have HK := hide hkn
      clear hkn
      go_wp2
      go_ret
      refine ⟨_, rfl, ⟨⟨w.heap.size, us, (by rw [HN.out]; rfl), Nat.le_refl _, hA, by rw [HN.out]; exact hul, fun j hj => hall j (by have := HK.out; have := HN.out; omega)⟩, HSEC.out⟩, hnx⟩
end Go.Proofs.Ytfgjhlnaaopdeab

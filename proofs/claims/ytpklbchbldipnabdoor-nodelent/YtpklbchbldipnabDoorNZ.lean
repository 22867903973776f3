/- reader.key. reader.name. -/
import Derived.Test.YtpklbchbldipnabDoorNY
namespace Go.Proofs.YtpklbchbldipnabDoor
open Go.RowKit Go.Maps

theorem infoS8 : (Tryd.prog.info? 5).map (·.size) = some 1 := by kernel_rfl
set_option maxRecDepth 100000 in
set_option maxHeartbeats 4000000 in
theorem key_walk {w W : World} {g n c p : Nat} {a : Option Addr} {xs : List Int} (hr : Rdr w W g (.slice a n c) p) (hb : IsB w (.slice a n c) xs) (hp : p ≤ n) (CS : List Value) (hCS : CS = ((xs.drop p).take 32).map (Value.int .u8)) :
    Calls Tryd.prog 74 #[.pointer (some ⟨g, 0, none⟩)] W fun e w' => W.grownBy w' (some g) ∧ (CS.length = 32 → e = .returned (.agg CS.toArray) ∧ Rdr w w' g (.slice a n c) (p + 32)) ∧ (CS.length ≠ 32 → e = gaveUp 80) := by
  have hn := hb.lenEq
  have hR1 := Arr.new W z32 32
  have hb1 := lit_blw W (.cells z32.toArray 32)
  have hR2 := Arr.new (W.alloc (.cells z32.toArray 32)) z32 32
  have hb2 := lit_blw (W.alloc (.cells z32.toArray 32)) (.cells z32.toArray 32)
  have hR1' := hR1.below hb2
  have hbb := below_then hb1 hb2
  rw [size_alloc] at hR2
  have hr2 := hr.below hbb
  have hIS : IsB ((W.alloc (.cells z32.toArray 32)).alloc (.cells z32.toArray 32)) (.slice (subA a c p) (n - p) (c - p)) ((xs.drop p).take (n - p)) := (hb.below hr2.old).sub (by omega) (Nat.le_refl _)
  have hgl := hr.blk.lt
  have hnl : n ≤ 9223372036854775807 := by have := hb.len; omega
  have hlen : ((xs.drop p).take (n - p)) = xs.drop p := List.take_of_length_le (by rw [List.length_drop]; omega)
  rw [hlen] at hIS
  have hxl : (xs.drop p).length = n - p := by rw [List.length_drop]; omega
  have F1 : Hid (CS.length = Nat.min (n - p) 32) := by
    show _ = _
    rw [hCS, List.length_map, List.length_take, hxl]
    exact Nat.min_comm _ _
  have F2 : Hid (0 < CS.length → ∃ ad, subA a c p = some ad ∧ ∀ j v, CS[j]? = some v → ((W.alloc (.cells z32.toArray 32)).alloc (.cells z32.toArray 32)).drew.cell? (ad.add j) = some v) := fun hpos => by
    have hp2 : 0 < (xs.drop p).length := by rw [hCS, List.length_map, List.length_take] at hpos; omega
    obtain ⟨_, a', c', hv, _, _, _, hc⟩ := id hIS
    obtain ⟨b', o', ha, _⟩ := hc hp2
    injection hv with e1 e2 e3
    refine ⟨⟨b', o', none⟩, by rw [e1, ha], fun j v hv => ?_⟩
    have hI2 : IsB ((W.alloc (.cells z32.toArray 32)).alloc (.cells z32.toArray 32)) (.slice (some ⟨b', o', none⟩) (xs.drop p).length (c - p)) (xs.drop p) := by
      rw [hxl, ← ha, ← e1]; exact hIS
    refine IsB.cells (w := (World.drew _)) (hI2.below (Below.refl _ _).drew) j v ?_
    rw [hCS, List.map_take] at hv
    have hj : j < 32 := by
      have := (List.getElem?_eq_some_iff.1 hv).1
      rw [List.length_take] at this
      omega
    rwa [List.getElem?_take_of_lt hj] at hv
  have F3 : Hid (0 + CS.length ≤ z32.length) := by
    show _ ≤ _
    rw [z32_len, hCS, List.length_map, List.length_take]
    omega
  have F4 : Hid (∀ v ∈ CS, v.oneCell' = true) := by rw [hCS]; exact u8_one _
  have HSP : Hid (CS.length = 32 → splice z32 0 CS = CS) := fun h => by
    unfold splice
    rw [h, List.drop_eq_nil_of_le (by rw [z32_len]; decide)]
    simp
  have HIC : Hid (CS.length = 32 → (Tryd.prog.info? 32).map (·.size) = some CS.length) := fun h => by rw [h]; exact infoKz
  have hsl := slice_l a n c p hp
  have HHR := hide hr2
  have HA1 := hide hR1'
  have HA2 := hide hR2
  have HBB := hide hbb
  have HGL := hide hgl
  clear hCS hr hb hn hR1 hb1 hR2 hb2 hR1' hbb hr2 hIS hgl hlen hxl
  have hal : ∀ W', (Instr.alloc 32 true (.tuple #[])).run Tryd.prog W' = .ok (.pointer (some ⟨W'.heap.size, 0, none⟩)) (W'.alloc (.cells z32.toArray 32)) := alloc_zero infoK
  go_enter Tryd.func74, Tryd.ntmps74
  go_wp2_with (refine wpList_allocZ rfl 32 rfl infoK ?_)
  generalize hw2 : (W.alloc (.cells z32.toArray 32)).alloc (.cells z32.toArray 32) = w2 at *
  have HS : Hid (∀ W', Below (W.heap.size + 1) w2 W' → W'.cell? ⟨g, 0, none⟩ = some (.slice a n c) ∧ W'.cell? ⟨g, 1, none⟩ = some (.int .i64 (p : Int))) := fun W' hW => ⟨(hW.cell (p := ⟨g, 0, none⟩) (Nat.lt_succ_of_lt HGL.out)).trans HHR.out.c0, (hW.cell (p := ⟨g, 1, none⟩) (Nat.lt_succ_of_lt HGL.out)).trans HHR.out.c1⟩
  clear hw2
  refine wp_region_held_drew (S := fun W' => W'.cell? ⟨g, 0, none⟩ = some (.slice a n c) ∧ W'.cell? ⟨g, 1, none⟩ = some (.int .i64 (p : Int))) (by kernel_rfl) (unhide HS _ (Below.refl _ _).drew) (fun hHeld => ?_)
  refine wpAnyH_take (i := 0) (v := .slice (some ⟨W.heap.size + 1, 0, none⟩) 32 32) rfl (by kernel_rfl) (by kernel_rfl) (by kernel_rfl) (fun _ _ _ h => h) (Or.inl ⟨by rfl, fun w hSw => by obtain ⟨hS1, hS2⟩ := hSw; go_simp⟩) (by assumption) ?_
  simp only [List.getElem_toArray, List.getElem_cons_zero, Act.put, List.setIfInBounds_toArray, List.set_cons_zero, List.set_cons_succ]
  refine wpAnyH_take (i := 1) (v := .pointer (some ⟨g, 0, none⟩)) rfl (by kernel_rfl) (by kernel_rfl) (by kernel_rfl) (fun _ _ _ h => h) (Or.inl ⟨by rfl, fun w hSw => by obtain ⟨hS1, hS2⟩ := hSw; go_simp⟩) (by assumption) ?_
  simp only [List.getElem_toArray, List.getElem_cons_succ, List.getElem_cons_zero, Act.put, List.setIfInBounds_toArray, List.set_cons_zero, List.set_cons_succ]
  refine wpAnyH_take (i := 2) (v := .pointer (some ⟨g, 0, none⟩)) rfl (by kernel_rfl) (by kernel_rfl) (by kernel_rfl) (fun _ _ _ h => h) (Or.inl ⟨by rfl, fun w hSw => by obtain ⟨hS1, hS2⟩ := hSw; go_simp⟩) (by assumption) ?_
  simp only [List.getElem_toArray, List.getElem_cons_succ, List.getElem_cons_zero, Act.put, List.setIfInBounds_toArray, List.set_cons_zero, List.set_cons_succ]
  refine wpAnyH_take (i := 3) (v := .pointer (some ⟨g, 0, none⟩)) rfl (by kernel_rfl) (by kernel_rfl) (by kernel_rfl) (fun _ _ _ h => h) (Or.inl ⟨by rfl, fun w hSw => by obtain ⟨hS1, hS2⟩ := hSw; go_simp⟩) (by assumption) ?_
  simp only [List.getElem_toArray, List.getElem_cons_succ, List.getElem_cons_zero, Act.put, List.setIfInBounds_toArray, List.set_cons_zero, List.set_cons_succ]
  refine wpAnyH_take (i := 4) (v := .slice a n c) rfl (by kernel_rfl) (by kernel_rfl) (by kernel_rfl) (fun _ _ _ h => h) (Or.inl ⟨by rfl, fun w hSw => by obtain ⟨hS1, hS2⟩ := hSw; go_simp⟩) (by assumption) ?_
  simp only [List.getElem_toArray, List.getElem_cons_succ, List.getElem_cons_zero, Act.put, List.setIfInBounds_toArray, List.set_cons_zero, List.set_cons_succ]
  refine wpAnyH_take (i := 5) (v := .pointer (some ⟨g, 0, none⟩)) rfl (by kernel_rfl) (by kernel_rfl) (by kernel_rfl) (fun _ _ _ h => h) (Or.inl ⟨by rfl, fun w hSw => by obtain ⟨hS1, hS2⟩ := hSw; go_simp⟩) (by assumption) ?_
  simp only [List.getElem_toArray, List.getElem_cons_succ, List.getElem_cons_zero, Act.put, List.setIfInBounds_toArray, List.set_cons_zero, List.set_cons_succ]
  refine wpAnyH_take (i := 6) (v := .pointer (some ⟨g, 0, none⟩)) rfl (by kernel_rfl) (by kernel_rfl) (by kernel_rfl) (fun _ _ _ h => h) (Or.inl ⟨by rfl, fun w hSw => by obtain ⟨hS1, hS2⟩ := hSw; go_simp⟩) (by assumption) ?_
  simp only [List.getElem_toArray, List.getElem_cons_succ, List.getElem_cons_zero, Act.put, List.setIfInBounds_toArray, List.set_cons_zero, List.set_cons_succ]
  refine wpAnyH_take (i := 7) (v := .pointer (some ⟨g, 1, none⟩)) rfl (by kernel_rfl) (by kernel_rfl) (by kernel_rfl) (fun _ _ _ h => h) (Or.inl ⟨by rfl, fun w hSw => by obtain ⟨hS1, hS2⟩ := hSw; go_simp⟩) (by assumption) ?_
  simp only [List.getElem_toArray, List.getElem_cons_succ, List.getElem_cons_zero, Act.put, List.setIfInBounds_toArray, List.set_cons_zero, List.set_cons_succ]
  refine wpAnyH_take (i := 8) (v := .int .i64 (p : Int)) rfl (by kernel_rfl) (by kernel_rfl) (by kernel_rfl) (fun _ _ _ h => h) (Or.inl ⟨by rfl, fun w hSw => by obtain ⟨hS1, hS2⟩ := hSw; go_simp⟩) (by assumption) ?_
  simp only [List.getElem_toArray, List.getElem_cons_succ, List.getElem_cons_zero, Act.put, List.setIfInBounds_toArray, List.set_cons_zero, List.set_cons_succ]
  refine wpAnyH_take (i := 9) (v := .slice (subA a c p) (n - p) (c - p)) rfl (by kernel_rfl) (by kernel_rfl) (by kernel_rfl) (fun _ _ _ h => h) (Or.inl ⟨by rfl, fun w hSw => by obtain ⟨hS1, hS2⟩ := hSw; go_simp⟩) (by assumption) ?_
  simp only [List.getElem_toArray, List.getElem_cons_succ, List.getElem_cons_zero, Act.put, List.setIfInBounds_toArray, List.set_cons_zero, List.set_cons_succ]
  refine wpAnyH_ready (rs := [10]) (by kernel_rfl) (by simp) (AllReadyH.cons rfl (fun K hK => ?_) AllReadyH.nil)
  refine step_copy_splice (by rfl) (.tmp 5) (.tmp 14) 25 25 rfl 5 Tryd.underlying25 infoS8 (some ⟨W.heap.size + 1, 0, none⟩) (subA a c p) 32 32 (n - p) (c - p) rfl rfl (W.heap.size + 1) 0 z32 32 HA2.out CS F1.out (fun hp => ⟨rfl, F2.out hp⟩) F3.out F4.out (W.heap.size + 1) w2 (Below.refl _ _).drew (Nat.le_refl _) ?_
  intro w5 hA5 hb5
  refine hK.out _ _ (unhide HS _ hb5) (fun hH2 => ?_)
  clear hK K
  simp only [List.getElem_toArray, List.getElem_cons_succ, List.getElem_cons_zero, Act.put, List.setIfInBounds_toArray, List.set_cons_zero, List.set_cons_succ]
  refine wpAnyH_take (i := 11) (v := goInt CS.length) rfl (by kernel_rfl) (by kernel_rfl) (by kernel_rfl) (fun _ _ _ h => h) (Or.inl ⟨by rfl, fun w hSw => by obtain ⟨hS1, hS2⟩ := hSw; go_simp⟩) (by assumption) ?_
  simp only [List.getElem_toArray, List.getElem_cons_succ, List.getElem_cons_zero, Act.put, List.setIfInBounds_toArray, List.set_cons_zero, List.set_cons_succ]
  refine wpAnyH_done (by kernel_rfl) ?_ _
  obtain ⟨hc0, hc1⟩ := unhide HS w5 hb5
  have HA5 : Hid (Arr w5 (W.heap.size + 1) 32 (splice z32 0 CS)) := hA5
  have HA51 : Hid (Arr w5 W.heap.size 32 z32) := HA1.out.keep (hb5.block _ (Nat.lt_succ_self _))
  have HBW : Hid (Below W.heap.size W w5) := HBB.out.trans (hb5.mono (Nat.le_succ _))
  have HR5 : Hid (Rdr w w5 g (.slice a n c) p) := ⟨HHR.out.blk.keep (hb5.block _ (Nat.lt_succ_of_lt HGL.out)), HHR.out.old.trans (hb5.mono (Nat.le_trans HHR.out.new (Nat.le_of_lt (Nat.lt_succ_of_lt HGL.out)))), HHR.out.new⟩
  clear hA5 hb5 hHeld hH2
  simp only [size_alloc]
  by_cases h32 : CS.length = 32
  · have HSP2 := hide (unhide HSP h32)
    have hp32 : p + 32 ≤ n := by have h1 := F1.out; rw [h32] at h1; have h2 : Nat.min (n - p) 32 ≤ n - p := Nat.min_le_left _ _; rw [← h1] at h2; omega
    have hp32I : (p : Int) + 32 ≤ 9223372036854775807 := by omega
    rw [HSP2.out] at HA5
    have HI2 := hide (unhide HIC h32)
    have h1 := HR5.out.c1
    have hf1 := HR5.out.blk.frozen 1
    have HZL : Hid (z32.length = CS.length) := h32.symm ▸ z32_len
    have hgi : goInt CS.length = .int .i64 32 := by rw [h32]; rfl
    have hA6 : Arr (w5.setCell ⟨g, 1, none⟩ (.int .i64 ((p : Int) + 32))) (W.heap.size + 1) 32 CS := HA5.out.other _ _ (by have := HGL.out; show W.heap.size + 1 ≠ g; omega)
    have hA61 : Arr (w5.setCell ⟨g, 1, none⟩ (.int .i64 ((p : Int) + 32))) W.heap.size 32 z32 := HA51.out.other _ _ (by have := HGL.out; show W.heap.size ≠ g; omega)
    have HA6 := hide hA6
    have HA61 := hide hA61
    have HL32 := hide h32
    rw [hgi]
    clear hA6 hA61 h32 hgi
    go_wp2_with fail
    refine (demand_ok 80 w5).mono ?_
    rintro e w10 ⟨rfl, hw10⟩
    obtain rfl := hw10.symm
    clear hw10
    go_wp2_with (first
      | (refine wpList_load_mid rfl 32 (.tmp 3) rfl (W.heap.size + 1) 0 rfl CS _ HA6.out.range Tryd.underlying32 rfl HI2.out ?_)
      | (refine wpList_storeArr2 (cs' := CS) rfl (.tmp 2) (.tmp 27) 32 rfl rfl rfl HA61.out HI2.out HZL.out F4.out ?_; intro w8 hR8 hw8))
    refine bodyPost_ret (v := .agg CS.toArray) (results_arr rfl rfl hR8 Tryd.underlying32 HI2.out) rfl ⟨?_, fun _ => ⟨rfl, ?_⟩, fun h => absurd HL32.out h⟩
    · have hz := hw8.below 0 _ (Below.refl 0 _) (Nat.zero_le _)
      have hg := grown_put w5 g 1 (.int .i64 ((p : Int) + 32))
      exact ⟨hz.os.trans (hg.os.trans HBW.out.os), hz.tape.trans (hg.tape.trans HBW.out.tape), hz.output.trans (hg.output.trans HBW.out.output), Nat.le_trans HBW.out.size (Nat.le_trans hg.size hz.size), fun k hk hne => (hw8.other k (Nat.ne_of_lt hk)).trans ((hg.block k (Nat.lt_of_lt_of_le hk HBW.out.size) hne).trans (HBW.out.block k hk))⟩
    · have hP := HR5.out.put (p + 32)
      have hcast : ((p + 32 : Nat) : Int) = (p : Int) + 32 := by omega
      rw [hcast] at hP
      exact ⟨hP.blk.wrote hw8 (by have := HGL.out; omega), hw8.below _ _ hP.old (Nat.le_trans hP.new (Nat.le_of_lt HGL.out)), hP.new⟩
  · have HIN := hide h32
    have hgi : goInt (CS.length : Int) = .int .i64 (CS.length : Int) := rfl
    have hd : ((CS.length : Int) == 32) = false := by simp; omega
    rw [hgi]
    clear h32 hgi
    go_wp2_with fail
    refine (demand_no 80 w5).mono ?_
    rintro e w10 ⟨rfl, hw10⟩
    obtain rfl := hw10.symm
    clear hw10
    exact ⟨rfl, grown_belowS g HBW.out, fun h => absurd h HIN.out, fun _ => rfl⟩
end Go.Proofs.YtpklbchbldipnabDoor

namespace Go.Proofs.YtpklbchbldipnabDoor
open Go.RowKit Go.Maps

theorem rU_err : ∀ (l : List Int) (i : Nat) (acc : Int), (rU i acc l).2.2 ≠ 13
  | [], _, _ => by simp [rU]
  | c :: t, i, acc => by
    rw [rU]
    split
    · simp
    · split
      · simp
      · split
        · simp
        · exact rU_err t _ _
/-- Why there is no name. -/
def nmE (nb : List Int → Bool) (ah : Option (List Int)) (b : List Int) : Int :=
  if (rU 0 0 b).2.2 ≠ 0 then 80 else if 64 < (rU 0 0 b).1 then 81 else if ((b.drop (rU 0 0 b).2.1).length : Int) < (rU 0 0 b).1 then 80
  else chkN nb ah ((b.drop (rU 0 0 b).2.1).take (rU 0 0 b).1.toNat)
def nmB (b : List Int) : List Int := (b.drop (rU 0 0 b).2.1).take (rU 0 0 b).1.toNat
/-- How many bytes a name takes. -/
def nmK (b : List Int) : Nat := (rU 0 0 b).2.1 + (rU 0 0 b).1.toNat
/-- What ReadBytes tells of a name, in cases. -/
def NmC (xs : List Int) (n p : Nat) : Prop :=
  (∃ e : Int, e ≠ 0 ∧ e ≠ 13 ∧ rdB xs (p : Int) 64 = ([], 0, e) ∧ ∀ nb ah, nmE nb ah (xs.drop p) = 80) ∨ (rdB xs (p : Int) 64 = ([], 0, 13) ∧ ∀ nb ah, nmE nb ah (xs.drop p) = 81)
    ∨ (rdB xs (p : Int) 64 = (nmB (xs.drop p), ((p + nmK (xs.drop p) : Nat) : Int), 0) ∧ (∀ nb ah, nmE nb ah (xs.drop p) = chkN nb ah (nmB (xs.drop p))) ∧ p + nmK (xs.drop p) ≤ n ∧ (nmB (xs.drop p)).length ≤ 64)
theorem nmC {xs : List Int} (hb : Byt xs) {n p : Nat} (hn : n = xs.length) (hp : p ≤ n) : NmC xs n p := by
  have hne := rdU_of (xs := xs) (at_ := p) (by omega) rfl
  have hdl : (xs.drop p).length = n - p := by rw [List.length_drop, hn]
  by_cases h0 : (rU 0 0 (xs.drop p)).2.2 = 0
  · rw [if_pos h0, h0] at hne
    have hok := rU_ok (l := xs.drop p) (i := 0) (acc := 0) (fun x hx => hb x (List.mem_of_mem_drop hx)) (Int.le_refl 0) h0
    rw [hdl] at hok
    by_cases h1 : 64 < (rU 0 0 (xs.drop p)).1
    · refine Or.inr (Or.inl ⟨?_, fun nb ah => ?_⟩)
      · unfold rdB
        rw [hne, if_neg (by omega), if_neg (by omega), if_neg (by simp), if_pos h1]
      · unfold nmE
        rw [if_neg (by simpa using h0), if_pos h1]
    · have hd2 : ((xs.drop p).drop (rU 0 0 (xs.drop p)).2.1).length = n - p - (rU 0 0 (xs.drop p)).2.1 := by rw [List.length_drop, hdl]
      by_cases h2 : (((xs.drop p).drop (rU 0 0 (xs.drop p)).2.1).length : Int) < (rU 0 0 (xs.drop p)).1
      · refine Or.inl ⟨10, by decide, by decide, ?_, fun nb ah => ?_⟩
        · unfold rdB
          rw [hne, if_neg (by omega), if_neg (by omega), if_neg (by simp), if_neg h1, if_pos (by simp only; omega)]
        · unfold nmE
          rw [if_neg (by simpa using h0), if_neg h1, if_pos h2]
      · refine Or.inr (Or.inr ⟨?_, fun nb ah => ?_, by unfold nmK; omega, by unfold nmB; rw [List.length_take]; omega⟩)
        · unfold rdB
          rw [hne, if_neg (by omega), if_neg (by omega), if_neg (by simp), if_neg h1, if_neg (by simp only; omega)]
          simp only
          have e1 : ((p : Int) + ((rU 0 0 (xs.drop p)).2.1 : Int)).toNat = p + (rU 0 0 (xs.drop p)).2.1 := by omega
          rw [e1, ← List.drop_drop]
          unfold nmB nmK
          congr 2
          omega
        · unfold nmE nmB
          rw [if_neg (by simpa using h0), if_neg h1, if_neg h2]
  · refine Or.inl ⟨_, h0, rU_err _ _ _, ?_, fun nb ah => ?_⟩
    · unfold rdB
      rw [hne, if_neg (by omega), if_neg (by omega), if_pos (by simpa using h0)]
    · unfold nmE
      rw [if_pos (by simpa using h0)]
set_option maxRecDepth 100000 in
set_option maxHeartbeats 4000000 in
theorem rname_walk {w W : World} {g n c p na ca : Nat} {a aa : Option Addr} {xs : List Int} {la : List Ent} (hr : Rdr w W g (.slice a n c) p) (hb : IsB w (.slice a n c) xs) (hp : p ≤ n) (hnl : n ≤ 1048576) (hEn : ∀ W', W.grownBy W' (some g) → IsEn W' (.slice aa na ca) la) :
    Calls Tryd.prog 73 #[.pointer (some ⟨g, 0, none⟩), .slice aa na ca] W fun e w' => W.grownBy w' (some g) ∧ (nmE nbL (ahN la na) (xs.drop p) = 0 → e = .returned (.string (mkS (nmB (xs.drop p)))) ∧ Rdr w w' g (.slice a n c) (p + nmK (xs.drop p))) ∧ (nmE nbL (ahN la na) (xs.drop p) ≠ 0 → e = gaveUp (nmE nbL (ahN la na) (xs.drop p))) := by
  have hn := hb.lenEq
  have hbt : Byt xs := hb.mem
  have hgl := hr.blk.lt
  have hC := nmC hbt hn hp
  have HRB : Hid (∀ W', Below W.heap.size W W' → Calls Tryd.prog 83 #[.slice a n c, .int .i64 (p : Int), .int .i64 64] W' fun e w' => ∃ u, e = .returned (.tuple #[u, .int .i64 (rdB xs (p : Int) 64).2.1, .int .i64 (rdB xs (p : Int) 64).2.2]) ∧ w'.ownsRow W'.heap.size 5 1 u (rdB xs (p : Int) 64).1.length ((rdB xs (p : Int) 64).1.map (Value.int .u8)) ∧ Below W'.heap.size W' w') := fun W' hW =>
    rbytes_calls (hb.below (hr.below hW).old) (by omega) (p : Int) 64 (by decide)
  have HR := hide hr
  have HS : Hid (∀ W', Below W.heap.size W W' → W'.cell? ⟨g, 0, none⟩ = some (.slice a n c) ∧ W'.cell? ⟨g, 1, none⟩ = some (.int .i64 (p : Int))) := fun W' hW => ⟨(HR.out.below hW).c0, (HR.out.below hW).c1⟩
  have HFR : Hid (∀ W', Below W.heap.size W W' → W'.frozen? ⟨g, 1, none⟩ = false) := fun W' hW => (HR.out.below hW).blk.frozen 1
  have HEN := hide hEn
  have HGL := hide hgl
  have HBN : Hid (Byt (nmB (xs.drop p))) := fun x hx => hbt x (List.mem_of_mem_drop (List.mem_of_mem_drop (List.mem_of_mem_take hx)))
  clear hr hb hn hbt hgl hEn
  rcases hC with ⟨er, h0, h13, he, hq⟩ | ⟨he, hq⟩ | ⟨he, hq, hk, hl⟩
  · rw [he] at HRB
    rw [hq]
    have hd1 : (er != 13) = true := by simpa using h13
    have hd2 : (er == 0) = false := by simpa using h0
    clear he hq h0 h13
    go_enter Tryd.func73, Tryd.ntmps73
    go_wp2_with fail
    focus (go_region_held3 (fun W' => W'.cell? ⟨g, 0, none⟩ = some (.slice a n c) ∧ W'.cell? ⟨g, 1, none⟩ = some (.int .i64 (p : Int)))
      ((refine unhide HS _ ?_; (repeat (first | assumption | exact below_drew hb9 | exact Below.refl _ _ | refine Below.drew ?_))))
      (first
        | (go_at_call 83; refine (unhide HRB _ (by repeat (first | assumption | exact Below.refl _ _ | refine Below.drew ?_))).mono ?_; rintro e w9 ⟨u9, rfl, ho9, hb9⟩)))
    have hbd := below_drew hb9
    clear hb9 ho9
    go_wp2_with fail
    refine (demand_ok 81 w9).mono ?_
    rintro e w10 ⟨rfl, hw10⟩
    obtain rfl := hw10.symm
    clear hw10
    go_wp2_with fail
    refine (demand_no 80 w9).mono ?_
    rintro e w10 ⟨rfl, hw10⟩
    obtain rfl := hw10.symm
    clear hw10
    exact ⟨rfl, grown_belowS g hbd, fun h => (by cases h), fun _ => rfl⟩
  · rw [he] at HRB
    rw [hq]
    clear he hq
    go_enter Tryd.func73, Tryd.ntmps73
    go_wp2_with fail
    focus (go_region_held3 (fun W' => W'.cell? ⟨g, 0, none⟩ = some (.slice a n c) ∧ W'.cell? ⟨g, 1, none⟩ = some (.int .i64 (p : Int)))
      ((refine unhide HS _ ?_; (repeat (first | assumption | exact below_drew hb9 | exact Below.refl _ _ | refine Below.drew ?_))))
      (first
        | (go_at_call 83; refine (unhide HRB _ (by repeat (first | assumption | exact Below.refl _ _ | refine Below.drew ?_))).mono ?_; rintro e w9 ⟨u9, rfl, ho9, hb9⟩)))
    have hbd := below_drew hb9
    clear hb9 ho9
    go_wp2_with fail
    refine (demand_no 81 w9).mono ?_
    rintro e w10 ⟨rfl, hw10⟩
    obtain rfl := hw10.symm
    clear hw10
    exact ⟨rfl, grown_belowS g hbd, fun h => (by cases h), fun _ => rfl⟩
  · rw [he] at HRB
    rw [hq]
    have HK := hide hk
    have HL := hide hl
    generalize nmB (xs.drop p) = nm at *
    generalize p + nmK (xs.drop p) = p2 at *
    obtain ⟨cn, hcne⟩ : ∃ cn, chkN nbL (ahN la na) nm = cn := ⟨_, rfl⟩
    rw [hcne]
    have HCE := hide hcne
    clear hcne
    clear he hq hk hl
    go_enter Tryd.func73, Tryd.ntmps73
    go_wp2_with fail
    focus (go_region_held3 (fun W' => W'.cell? ⟨g, 0, none⟩ = some (.slice a n c) ∧ W'.cell? ⟨g, 1, none⟩ = some (.int .i64 (p : Int)))
      ((refine unhide HS _ ?_; (repeat (first | assumption | exact below_drew hb9 | exact Below.refl _ _ | refine Below.drew ?_))))
      (first
        | (go_at_call 83; refine (unhide HRB _ (by repeat (first | assumption | exact Below.refl _ _ | refine Below.drew ?_))).mono ?_; rintro e w9 ⟨u9, rfl, ho9, hb9⟩)))
    have hbd := below_drew hb9
    have hc1 := (unhide HS _ hbd).2
    have hf1 := unhide HFR _ hbd
    have hO9 : Own8 w9 W.heap.size u9 nm := ⟨ho9, HBN.out⟩
    have hg10 := grown_put w9 g 1 (.int .i64 (p2 : Int))
    have hI10 : IsB (w9.setCell ⟨g, 1, none⟩ (.int .i64 (p2 : Int))) u9 nm := (hO9.kept hg10 (by
      cases hu : u9.ownBlock with
      | none => exact Or.inl rfl
      | some b =>
        have := (hO9.1.lt b hu).1
        have := HGL.out
        exact Or.inr (fun e => by injection e with e; omega))).isB
    have hcv := conv_isB hI10
    have HG10 := hide (grown_then (grown_belowS g hbd) hg10)
    have HRD := hide ((HR.out.below hbd).put p2)
    have HCK := hide (checkName_calls (unhide HEN _ HG10.out) HBN.out (by have := HL.out; omega))
    rw [HCE.out] at HCK
    clear hb9 ho9 hO9 hI10 hg10
    go_wp2_with fail
    refine (demand_ok 81 w9).mono ?_
    rintro e w10 ⟨rfl, hw10⟩
    obtain rfl := hw10.symm
    clear hw10
    go_wp2_with fail
    refine (demand_ok 80 w9).mono ?_
    rintro e w10 ⟨rfl, hw10⟩
    obtain rfl := hw10.symm
    clear hw10
    go_wp2_with fail
    refine (unhide HCK).mono ?_
    rintro e w11 ⟨rfl, hb11⟩
    have HRF := hide (HRD.out.below hb11)
    have HGF := hide (grown_then HG10.out (grown_belowS g hb11))
    clear hb11 HCK
    by_cases hcn : cn = 0
    · have hd : (cn == 0) = true := by rw [hcn]; rfl
      have HCN := hide hcn
      clear hcn
      go_wp2_with fail
      refine (demand_ok cn w11).mono ?_
      rintro e w12 ⟨rfl, hw12⟩
      obtain rfl := hw12.symm
      clear hw12
      go_wp2
      go_ret
      exact ⟨HGF.out, fun _ => ⟨rfl, HRF.out⟩, fun h => absurd HCN.out h⟩
    · have hd : (cn == 0) = false := by simpa using hcn
      have HCN := hide hcn
      clear hcn
      go_wp2_with fail
      refine (demand_no cn w11).mono ?_
      rintro e w12 ⟨rfl, hw12⟩
      obtain rfl := hw12.symm
      clear hw12
      exact ⟨rfl, HGF.out, fun h => absurd h HCN.out, fun _ => rfl⟩
end Go.Proofs.YtpklbchbldipnabDoor

/- The program's text of tasks. Words of 32 bits, turned: both sides. A block's sixteen words, and those that follow from them. -/
import Derived.Test.YtfhfobikbfbajaaGreatDoorTBD
import Derived.Test.YtfhfobikbfbajaaGreatDoorTBG
import Derived.Test.YtfhfobikbfbajaaGreatDoorTAA
import Derived.Test.YtfhfobikbfbajaaGreatDoorProg
import Derived.WalkKit
import Derived.WalkSpells
import Derived.Test.YtfhfobikbfbajaaGreatDoorTAB
import Derived.BigRegion
import Derived.Deep.RegionHeld3
namespace Go.Proofs.YtfhfobikbfbajaaGreatDoor
open Go.RowKit Go.Maps

theorem outsO_fit {nm pt : ByteArray → Bool} {cl : List ByteArray → ByteArray → Bool} : ∀ {l : List (ByteArray × Tm)} {md : List ByteArray}, outsO nm pt cl md l = true → ∀ o ∈ l, fitT nm pt 64 o.2 = true
  | [], _, _, o, ho => by simp at ho
  | x :: l, md, h, o, ho => by
    simp only [outsO, Bool.and_eq_true] at h
    rcases List.mem_cons.1 ho with rfl | ho
    · exact h.2.2.1
    · exact outsO_fit h.2.2.2 o ho
theorem tsO_ok {nm pt : ByteArray → Bool} {cl : List ByteArray → ByteArray → Bool} : ∀ {l : List Tsk} {nms md : List ByteArray}, tsO nm pt cl nms md l = true → ∀ t ∈ l, (1 ≤ t.budget ∧ t.budget ≤ 1048576 ∧ t.ins.length ≤ 64 ∧ 1 ≤ t.outs.length ∧ t.outs.length ≤ 8) ∧ ∀ o ∈ t.outs, fitT nm pt 64 o.2 = true
  | [], _, _, _, t, ht => by simp at ht
  | x :: l, nms, md, h, t, ht => by
    simp only [tsO, Bool.and_eq_true] at h
    rcases List.mem_cons.1 ht with rfl | ht
    · have h2 := h.2.1
      simp only [tskO, Bool.and_eq_true, decide_eq_true_eq] at h2
      exact ⟨h2.2.1, outsO_fit h2.2.2.2⟩
    · exact tsO_ok h.2.2 t ht
theorem outsBy_len : ∀ (os : List (ByteArray × Tm)), (∀ o ∈ os, fitT nameB ptW 64 o.2 = true) → (os.flatMap outBy).length ≤ ousW os
  | [], _ => by simp [ousW]
  | o :: os, h => by
    have ih := outsBy_len os (fun x hx => h x (List.mem_cons_of_mem _ hx))
    have h1 := tmB_len 64 o.2 (h o (by simp))
    unfold ousW at ih ⊢
    rw [List.flatMap_cons, List.length_append, List.map_cons, List.sum_cons]
    have : (outBy o).length ≤ 20 + o.1.size + tmW o.2 := by
      unfold outBy
      simp only [List.length_append, List.length_cons, List.length_nil, byL_len]
      have : wOut.size = 3 := rfl
      omega
    omega
theorem skBy_len {t : Tsk} (h0 : 0 ≤ t.budget) (h1 : t.budget ≤ 2147483647) (hf : ∀ o ∈ t.outs, fitT nameB ptW 64 o.2 = true) : (skBy t).length ≤ tskW t := by
  rw [skBy_parts]
  have h2 := insBy_len t.ins
  have h3 := outsBy_len t.outs hf
  have h4 := decW_len h0 h1
  unfold hdB tskW
  simp only [List.length_append, List.length_cons, List.length_nil, byL_len] at h2 h3 h4 ⊢
  have e1 : wTask.size = 4 := rfl
  have e2 : wEnd.size = 3 := rfl
  omega
theorem skBy_ne (t : Tsk) : skBy t ≠ [] := by
  rw [skBy_parts]
  unfold hdB
  simp
def zWr : List Value := [.pointer none, .slice none 0 0]
theorem infoWr : (Tryz.prog.info? 83).map (fun i => (i.zero, i.size, i.bytes)) = some (some (.agg zWr.toArray), 2, 32) := by kernel_rfl
theorem wt_new (w : World) : Wt w (w.alloc (.cells zWr.toArray 83)) (w.alloc (.cells zWr.toArray 83)) w.heap.size [] :=
  ⟨⟨_, _, Arr.new w zWr 83, Or.inl rfl, ⟨⟨rfl, Or.inl ⟨rfl, rfl⟩⟩, by simp [iL]⟩⟩, Ch.refl _ _ _, jalloc_below w _, Nat.le_refl _, Stw.refl _ _⟩
theorem smK_tkS {t : Tsk} (h : smK t) : tkS t := h
set_option maxRecDepth 100000 in
set_option maxHeartbeats 4000000 in
theorem text_calls {w : World} {ts : List Tsk} {D : Nat} {v : Value} (hT : IsTas w D v ts) (hs : ∀ t ∈ ts, smK t) (hl : manW ts ≤ 5000000000) (hP : Pg w) :
    Calls Tryz.prog 15 #[v] w fun e w' => e = .returned (.tuple #[.string (if manO nameB ptW clB ts = true then bs (ts.flatMap skBy) else ByteArray.empty), .int .i64 (if manO nameB ptW clB ts = true then 0 else 127)]) ∧ Below w.heap.size w w' := by
  have HSY := hide (sayable_calls hT (fun t ht => smK_tkS (hs t ht)) hP)
  obtain ⟨a, c, rfl, hlc, hmc⟩ := hT.shape
  have HT := hide hT
  have HS := hide hs
  have HP := hide hP
  have hli : (ts.length : Int) ≤ 9223372036854775807 := by omega
  have HOK : Hid (manO nameB ptW clB ts = true → ∀ t ∈ ts, (1 ≤ t.budget ∧ t.budget ≤ 1048576 ∧ t.ins.length ≤ 64 ∧ 1 ≤ t.outs.length ∧ t.outs.length ≤ 8) ∧ ∀ o ∈ t.outs, fitT nameB ptW 64 o.2 = true) := hide (fun e => by
    simp only [manO, Bool.and_eq_true] at e
    exact tsO_ok e.2)
  obtain ⟨r, hr⟩ : ∃ r, r = manO nameB ptW clB ts := ⟨_, rfl⟩
  rw [← hr] at HSY HOK ⊢
  have HL := hide hl
  clear hr hT hs hP hl hlc hmc
  cases r with
  | false =>
    go_enter Tryz.func15, Tryz.ntmps15
    go_wp2_with fail
    refine (unhide HSY).mono ?_
    rintro e w1 ⟨rfl, hb1⟩
    have HB1 := hide hb1
    clear hb1
    go_wp2
    refine bodyPost_ret (pwres2 (p := 2) (q := 3) rfl) rfl ?_
    exact ⟨rfl, HB1.out⟩
  | true =>
    have HOK2 : Hid (∀ t ∈ ts, (1 ≤ t.budget ∧ t.budget ≤ 1048576 ∧ t.ins.length ≤ 64 ∧ 1 ≤ t.outs.length ∧ t.outs.length ≤ 8) ∧ ∀ o ∈ t.outs, fitT nameB ptW 64 o.2 = true) := hide (HOK.out rfl)
    have HLN : Hid (∀ j, j ≤ ts.length → ((ts.take j).flatMap skBy).length ≤ 5000000000 ∧ (j < ts.length → ((ts.take j).flatMap skBy).length + (skBy (ts.getD j .nul)).length ≤ 5000000000)) := hide (by
      have key : ∀ j, j ≤ ts.length → ((ts.take j).flatMap skBy).length ≤ manW (ts.take j) := fun j => by
        induction j with
        | zero => intro _; simp
        | succ j ih =>
          intro hj
          have hj2 : j < ts.length := by omega
          have h1 := ih (by omega)
          rw [manW_take hj2]
          have hm : ts.getD j .nul ∈ ts := by rw [List.getD_eq_getElem?_getD, List.getElem?_eq_getElem hj2]; exact List.getElem_mem hj2
          have h2 := HOK2.out _ hm
          have h3 := skBy_len (t := ts.getD j .nul) (by omega) (by omega) h2.2
          have e : (ts.take (j + 1)).flatMap skBy = (ts.take j).flatMap skBy ++ skBy (ts.getD j .nul) := by
            rw [List.take_succ_eq_append_getElem hj2, List.flatMap_append, List.getD_eq_getElem?_getD, List.getElem?_eq_getElem hj2]; simp
          rw [e, List.length_append]
          omega
      have mono : ∀ j, manW (ts.take j) ≤ manW ts := fun j => by
        have : manW ts = manW (ts.take j) + manW (ts.drop j) := by unfold manW; rw [← List.sum_append, ← List.map_append, List.take_append_drop]
        omega
      intro j hj
      refine ⟨by have := key j hj; have := mono j; have := HL.out; omega, fun hj2 => ?_⟩
      have h1 := key (j + 1) hj2
      have h2 := mono (j + 1)
      have e : (ts.take (j + 1)).flatMap skBy = (ts.take j).flatMap skBy ++ skBy (ts.getD j .nul) := by
        rw [List.take_succ_eq_append_getElem hj2, List.flatMap_append, List.getD_eq_getElem?_getD, List.getElem?_eq_getElem hj2]; simp
      rw [e, List.length_append] at h1
      have := HL.out
      omega)
    go_enter Tryz.func15, Tryz.ntmps15
    go_wp2_with fail
    refine (unhide HSY).mono ?_
    rintro e w1 ⟨rfl, hb1⟩
    have HB1 := hide hb1
    have HW1 := hide (wt_new w1)
    clear hb1
    go_wp2_with (first
      | (refine wpList_allocJ rfl 83 rfl infoWr ?_)
      | fail)
    go_loopw [12] (fun iv wr => ∃ j : Nat, iv = .int .i64 (j : Int) ∧ j ≤ ts.length ∧ Hid (Wt w1 (w1.alloc (.cells zWr.toArray 83)) wr w1.heap.size ((ts.take j).flatMap skBy) ∧ (j = 0 → Arr wr w1.heap.size 83 zWr))) (fun iv _ => ts.length - (intOf iv).toNat)
    case atStart => exact ⟨0, rfl, Nat.zero_le _, hide ⟨HW1.out, fun _ => Arr.new w1 zWr 83⟩⟩
    case round =>
      obtain ⟨j, rfl, hjq, HJ⟩ := hrel
      by_cases hlt : j < ts.length
      · have hlti : (j : Int) < (ts.length : Int) := by omega
        have HFM : Hid ((ts.take (j + 1)).flatMap skBy = (ts.take j).flatMap skBy ++ skBy (ts.getD j .nul)) := hide (by rw [List.take_succ_eq_append_getElem hlt, List.flatMap_append, List.getD_eq_getElem?_getD, List.getElem?_eq_getElem hlt]; simp)
        have HLJ := hide ((HLN.out j hjq).2 hlt)
        obtain ⟨b, o, c', vi, vo, hv, hrg, hta⟩ := HT.out.at hlt
        cases hv
        have hrr := rangeAt_below hrg (HB1.out.trans (HJ.out.1.base.mono HB1.out.size))
        have hmem : ts.getD j .nul ∈ ts := by rw [List.getD_eq_getElem?_getD, List.getElem?_eq_getElem hlt]; exact List.getElem_mem hlt
        have HSJ := hide (HS.out _ hmem)
        have HOJ := hide (HOK2.out _ hmem)
        have HTA := hide (hta.below HB1.out)
        have hone : ∀ x ∈ tsC (ts.getD j .nul).name (ts.getD j .nul).budget vi vo, x.oneCell' = true := by
          obtain ⟨vi', vo', hva, hvi, hvo⟩ := hta
          have := congrArg (fun x => match x with | .agg a => a.toList | _ => []) hva
          have this : tsC (ts.getD j .nul).name (ts.getD j .nul).budget vi vo = tsC (ts.getD j .nul).name (ts.getD j .nul).budget vi' vo' := by simpa using this
          rw [this]
          exact tsC_one (by obtain ⟨a1, c1, q, _⟩ := hvi; rw [q]; rfl) (by obtain ⟨a1, c1, q, _⟩ := hvo; rw [q]; rfl)
        obtain ⟨T, hTe⟩ : ∃ x, x = ts.getD j .nul := ⟨_, rfl⟩
        rw [← hTe] at hrr HFM HLJ HSJ HOJ HTA hone
        have hwj : IntKind.i64.wrap ((j : Int) + 1) = ((j + 1 : Nat) : Int) := by rw [IntKind.wrap_i64]; omega
        clear hrg hmem hta hTe
        go_wp2_with (first
          | (refine wpList_loadJ rfl 25 (.tmp 14) rfl b (o + j * 4) rfl (tsC T.name T.budget vi vo) _ hrr Tryz.underlying25 rfl (infoTss _ _ _ _) ?_)
          | (refine wpList_loadJ rfl 25 (.tmp 6) rfl wr.heap.size 0 rfl (tsC T.name T.budget vi vo) _ hr9 Tryz.underlying25 rfl (infoTss _ _ _ _) ?_)
          | (refine wpList_allocJ rfl 25 rfl infoTsz ?_)
          | (refine wpList_storeJ rfl (.tmp 6) (.tmp 15) 25 rfl rfl rfl (Arr.new wr zTs 25) (infoTss _ _ _ _) rfl hone ?_; intro w9 hA9 hg9; have HX9 := hide (jbelow_grown (jalloc_below wr (.cells zTs.toArray 25)) hg9 (by simp) (Nat.le_refl _)); have hr9 := hA9.rangeJ; clear hA9 hg9 hrr)
          | fail)
        have HJ9 := hide (HJ.out.1.below HX9.out)
        have HTC := hide (wtask_calls HJ9.out.rebase HTA.out (fun o ho => (HSJ.out.2.2 o ho).2) HOJ.out.2 (by have := HOJ.out.1; omega) (by have := HOJ.out.1; omega) (HP.out.below HB1.out) (by have := HLJ.out; omega))
        refine (unhide HTC).mono ?_
        rintro e w10 ⟨rfl, HX⟩
        have HJ10 := hide (HJ9.out.join HX.out)
        clear hr9 hone
        go_wp2
        go_roundw
        case rel => exact ⟨j + 1, by go_num, by omega, hide ⟨by rw [HFM.out]; exact HJ10.out, fun e => by omega⟩⟩
        case measure => simp [intOf]; omega
      · have hlti : ¬ (j : Int) < (ts.length : Int) := by omega
        have hltd : decide ((j : Int) < (ts.length : Int)) = false := decide_eq_false hlti
        have HE : Hid (Wt w1 (w1.alloc (.cells zWr.toArray 83)) wr w1.heap.size (ts.flatMap skBy)) := hide (by have := HJ.out.1; rw [show j = ts.length by omega, List.take_length] at this; exact this)
        have HST : Hid (Calls Tryz.prog 35 #[.pointer (some ⟨w1.heap.size, 0, none⟩)] wr fun e W' => e = .returned (.string (bs (ts.flatMap skBy))) ∧ Below w1.heap.size w1 W') := hide (by
          by_cases h0 : ts = []
          · subst h0
            have hj : j = 0 := by simpa using hjq
            exact (wstring_nil (HJ.out.2 hj)).mono fun e W' ⟨e1, e2⟩ => ⟨e1, HE.out.base.trans (e2.mono HE.out.base.size)⟩
          · refine wstring_calls HE.out (fun e => h0 ?_)
            cases ts with
            | nil => rfl
            | cons t ts => rw [List.flatMap_cons] at e; exact absurd (List.append_eq_nil_iff.1 e).1 (skBy_ne t))
        obtain ⟨R, hR⟩ : ∃ R, R = bs (ts.flatMap skBy) := ⟨_, rfl⟩
        rw [← hR] at HST
        have HRE := hide hR
        clear hR
        go_wp2_with fail
        refine (unhide HST).mono ?_
        rintro e w11 ⟨rfl, hb11⟩
        have HB := hide (HB1.out.trans (hb11.mono HB1.out.size))
        clear hb11
        go_wp2
        refine bodyPost_ret (pwres2 (p := 2) (q := 3) rfl) rfl ?_
        exact ⟨by rw [← HRE.out]; rfl, HB.out⟩
end Go.Proofs.YtfhfobikbfbajaaGreatDoor

namespace Go.Proofs.YtfhfobikbfbajaaGreatDoor
open Go.RowKit

/-- x turned to the right by n bits. -/
def rot (x : Int) (n : Nat) : Int := bits .or .u32 (x / 2 ^ n) (x * 2 ^ (32 - n) % 4294967296)
def sig0 (x : Int) : Int := bits .xor .u32 (bits .xor .u32 (rot x 7) (rot x 18)) (x / 8)
def sig1 (x : Int) : Int := bits .xor .u32 (bits .xor .u32 (rot x 17) (rot x 19)) (x / 1024)
def Sig0 (x : Int) : Int := bits .xor .u32 (bits .xor .u32 (rot x 2) (rot x 13)) (rot x 22)
def Sig1 (x : Int) : Int := bits .xor .u32 (bits .xor .u32 (rot x 6) (rot x 11)) (rot x 25)
theorem bits_u32 (op : BinOp) (x y : Int) : 0 ≤ bits op .u32 x y ∧ bits op .u32 x y < 4294967296 := by
  unfold bits
  rw [IntKind.wrap_u32']
  omega
theorem or_swap {x y : Int} (hx : 0 ≤ x) (hx1 : x < 4294967296) (hy : 0 ≤ y) (hy1 : y < 4294967296) : bits .or .u32 x y = bits .or .u32 y x := by
  rw [u32_or x y hx hx1 hy hy1, u32_or y x hy hy1 hx hx1, Nat.or_comm]
theorem shift_of {n : Nat} (hn : 1 ≤ n) (hn1 : n ≤ 31) : bits .and .u64 (IntKind.u64.wrap (-(n : Int))) 31 = ((32 - n : Nat) : Int) := by
  have e : IntKind.u64.wrap (-(n : Int)) = ((18446744073709551616 - n : Nat) : Int) := by rw [IntKind.wrap_u64]; omega
  rw [e, show (31 : Int) = ((31 : Nat) : Int) from rfl, u64_and_nat _ 31 (by omega) (by decide), nat_mask5]
  omega
theorem div_u32 {x : Int} {n : Nat} (h0 : 0 ≤ x) (h1 : x < 4294967296) : 0 ≤ x / 2 ^ n ∧ x / 2 ^ n < 4294967296 := by
  have hp : (0 : Int) < 2 ^ n := Int.pow_pos (by decide)
  exact ⟨Int.ediv_nonneg h0 (by omega), Int.lt_of_le_of_lt (Int.ediv_le_self _ h0) h1⟩

theorem rotl_calls (x : Int) (n : Nat) (h0 : 0 ≤ x) (h1 : x < 4294967296) (hn : 1 ≤ n) (hn1 : n ≤ 31) (w : World) : Calls Tryz.prog 156 #[.int .u32 x, .int .i64 (-(n : Int))] w fun e w' => e = .returned (.int .u32 (rot x n)) ∧ w' = w := by
  have hs := shift_of hn hn1
  obtain ⟨m, hm⟩ : ∃ m, m = 32 - n := ⟨_, rfl⟩
  rw [← hm] at hs
  have hm1 : 1 ≤ m := by omega
  have hm2 : m ≤ 31 := by omega
  have HM := hide hm
  clear hm hn hn1
  go_enter Tryz.func156, Tryz.ntmps156
  go_wp2
  go_ret
  refine ⟨?_, rfl⟩
  have h2 := div_u32 (n := 32 - m) h0 h1
  have e := HM.out
  have e2 : 32 - m = n := by omega
  show Ending.returned (.int .u32 (bits .or .u32 (x * 2 ^ m % 4294967296) (x / 2 ^ (32 - m)))) = _
  rw [or_swap (by omega) (by omega) h2.1 h2.2, rot, e2, ← e]
theorem rrotr_calls (x : Int) (n : Nat) (hn : 1 ≤ n) (hn1 : n ≤ 31) (w : World) : Calls Tryz.prog 71 #[.int .u32 x, .int .u64 (n : Int)] w fun e w' => e = .returned (.int .u32 (rot x n)) ∧ w' = w := by
  go_enter Tryz.func71, Tryz.ntmps71
  go_wp2
  go_ret
  exact ⟨rfl, rfl⟩
theorem right_calls (x : Int) (n : Nat) (h0 : 0 ≤ x) (h1 : x < 4294967296) (hn : 1 ≤ n) (hn1 : n ≤ 31) (w : World) : Calls Tryz.prog 136 #[.int .u32 x, .int .i64 (n : Int)] w fun e w' => e = .returned (.int .u32 (rot x n)) ∧ w' = w := by
  go_enter Tryz.func136, Tryz.ntmps136
  go_wp2_with (go_at_call 156; refine (rotl_calls x n h0 h1 hn hn1 _).mono ?_; rintro e w1 ⟨rfl, hw1⟩; obtain rfl := hw1.symm)
  go_ret
  exact ⟨rfl, rfl⟩
theorem turnedE_calls (x : Int) (h0 : 0 ≤ x) (h1 : x < 4294967296) (w : World) : Calls Tryz.prog 103 #[.int .u32 x] w fun e w' => e = .returned (.int .u32 (Sig1 x)) ∧ w' = w := by
  have r6 : ∀ w', Calls Tryz.prog 136 #[.int .u32 x, .int .i64 6] w' fun e w2 => e = .returned (.int .u32 (rot x 6)) ∧ w2 = w' := fun w' => right_calls x 6 h0 h1 (by decide) (by decide) w'
  have r11 : ∀ w', Calls Tryz.prog 136 #[.int .u32 x, .int .i64 11] w' fun e w2 => e = .returned (.int .u32 (rot x 11)) ∧ w2 = w' := fun w' => right_calls x 11 h0 h1 (by decide) (by decide) w'
  have r25 : ∀ w', Calls Tryz.prog 136 #[.int .u32 x, .int .i64 25] w' fun e w2 => e = .returned (.int .u32 (rot x 25)) ∧ w2 = w' := fun w' => right_calls x 25 h0 h1 (by decide) (by decide) w'
  go_enter Tryz.func103, Tryz.ntmps103
  go_wp2_with (go_at_call 136; (first | with_reducible refine (r6 _).mono ?_ | with_reducible refine (r11 _).mono ?_ | with_reducible refine (r25 _).mono ?_); rintro e w1 ⟨rfl, hw1⟩; obtain rfl := hw1.symm)
  go_ret
  exact ⟨rfl, rfl⟩
theorem turnedA_calls (x : Int) (h0 : 0 ≤ x) (h1 : x < 4294967296) (w : World) : Calls Tryz.prog 104 #[.int .u32 x] w fun e w' => e = .returned (.int .u32 (Sig0 x)) ∧ w' = w := by
  have r2 : ∀ w', Calls Tryz.prog 136 #[.int .u32 x, .int .i64 2] w' fun e w2 => e = .returned (.int .u32 (rot x 2)) ∧ w2 = w' := fun w' => right_calls x 2 h0 h1 (by decide) (by decide) w'
  have r13 : ∀ w', Calls Tryz.prog 136 #[.int .u32 x, .int .i64 13] w' fun e w2 => e = .returned (.int .u32 (rot x 13)) ∧ w2 = w' := fun w' => right_calls x 13 h0 h1 (by decide) (by decide) w'
  have r22 : ∀ w', Calls Tryz.prog 136 #[.int .u32 x, .int .i64 22] w' fun e w2 => e = .returned (.int .u32 (rot x 22)) ∧ w2 = w' := fun w' => right_calls x 22 h0 h1 (by decide) (by decide) w'
  go_enter Tryz.func104, Tryz.ntmps104
  go_wp2_with (go_at_call 136; (first | with_reducible refine (r2 _).mono ?_ | with_reducible refine (r13 _).mono ?_ | with_reducible refine (r22 _).mono ?_); rintro e w1 ⟨rfl, hw1⟩; obtain rfl := hw1.symm)
  go_ret
  exact ⟨rfl, rfl⟩
theorem mixedOld_calls (x : Int) (h0 : 0 ≤ x) (h1 : x < 4294967296) (w : World) : Calls Tryz.prog 135 #[.int .u32 x] w fun e w' => e = .returned (.int .u32 (sig0 x)) ∧ w' = w := by
  have r7 : ∀ w', Calls Tryz.prog 136 #[.int .u32 x, .int .i64 7] w' fun e w2 => e = .returned (.int .u32 (rot x 7)) ∧ w2 = w' := fun w' => right_calls x 7 h0 h1 (by decide) (by decide) w'
  have r18 : ∀ w', Calls Tryz.prog 136 #[.int .u32 x, .int .i64 18] w' fun e w2 => e = .returned (.int .u32 (rot x 18)) ∧ w2 = w' := fun w' => right_calls x 18 h0 h1 (by decide) (by decide) w'
  go_enter Tryz.func135, Tryz.ntmps135
  go_wp2_with (go_at_call 136; (first | with_reducible refine (r7 _).mono ?_ | with_reducible refine (r18 _).mono ?_); rintro e w1 ⟨rfl, hw1⟩; obtain rfl := hw1.symm)
  go_ret
  exact ⟨rfl, rfl⟩
theorem mixedNew_calls (x : Int) (h0 : 0 ≤ x) (h1 : x < 4294967296) (w : World) : Calls Tryz.prog 134 #[.int .u32 x] w fun e w' => e = .returned (.int .u32 (sig1 x)) ∧ w' = w := by
  have r17 : ∀ w', Calls Tryz.prog 136 #[.int .u32 x, .int .i64 17] w' fun e w2 => e = .returned (.int .u32 (rot x 17)) ∧ w2 = w' := fun w' => right_calls x 17 h0 h1 (by decide) (by decide) w'
  have r19 : ∀ w', Calls Tryz.prog 136 #[.int .u32 x, .int .i64 19] w' fun e w2 => e = .returned (.int .u32 (rot x 19)) ∧ w2 = w' := fun w' => right_calls x 19 h0 h1 (by decide) (by decide) w'
  go_enter Tryz.func134, Tryz.ntmps134
  go_wp2_with (go_at_call 136; (first | with_reducible refine (r17 _).mono ?_ | with_reducible refine (r19 _).mono ?_); rintro e w1 ⟨rfl, hw1⟩; obtain rfl := hw1.symm)
  go_ret
  exact ⟨rfl, rfl⟩
end Go.Proofs.YtfhfobikbfbajaaGreatDoor

namespace Go.Proofs.YtfhfobikbfbajaaGreatDoor
open Go.RowKit

def word4 (bs : List Int) (t : Nat) : Int := bits .or .u32 (bits .or .u32 (bits .or .u32 (bs.getD (4 * t) 0 * 16777216) (bs.getD (4 * t + 1) 0 * 65536)) (bs.getD (4 * t + 2) 0 * 256)) (bs.getD (4 * t + 3) 0)
def nextW (bs l : List Int) (t : Nat) : Int := if t < 16 then word4 bs t else (((sig1 (l.getD (t - 2) 0) + l.getD (t - 7) 0) % 4294967296 + sig0 (l.getD (t - 15) 0)) % 4294967296 + l.getD (t - 16) 0) % 4294967296
def sched (bs : List Int) : Nat → List Int
  | 0 => []
  | n + 1 => sched bs n ++ [nextW bs (sched bs n) n]
theorem nextW_bd (bs l : List Int) (t : Nat) : 0 ≤ nextW bs l t ∧ nextW bs l t < 4294967296 := by
  unfold nextW
  split
  · exact bits_u32 _ _ _
  · omega
theorem sched_bd (bs : List Int) (n j : Nat) : 0 ≤ (sched bs n).getD j 0 ∧ (sched bs n).getD j 0 < 4294967296 := by
  induction n with
  | zero => simp [sched]
  | succ n ih =>
    simp only [sched, List.getD_eq_getElem?_getD] at *
    by_cases hj : j < (sched bs n).length
    · rw [List.getElem?_append_left hj]; exact ih
    · rw [List.getElem?_append_right (by omega)]
      by_cases h0 : j - (sched bs n).length = 0
      · rw [h0]; simpa using nextW_bd bs (sched bs n) n
      · rw [List.getElem?_eq_none (by simp; omega)]; simp
def row64 (l : List Int) : List Value := (l ++ List.replicate (64 - l.length) 0).map (Value.int .u32)
theorem sched_len (bs : List Int) (n : Nat) : (sched bs n).length = n := by
  induction n with
  | zero => rfl
  | succ n ih => simp [sched, ih]
theorem row64_set {l : List Int} {x : Int} (h : l.length < 64) : (row64 l).set l.length (.int .u32 x) = row64 (l ++ [x]) := by
  unfold row64
  have e : 64 - l.length = (64 - (l ++ [x]).length) + 1 := by simp; omega
  rw [e, List.replicate_succ, List.map_append, List.map_append, List.map_append, List.set_append_right _ _ (by simp)]
  simp
theorem row64_at {l : List Int} {j : Nat} (h : j < l.length) : (row64 l)[j]? = some (.int .u32 (l.getD j 0)) := by
  unfold row64
  rw [List.getElem?_map, List.getElem?_append_left h, List.getElem?_eq_getElem h, List.getD_eq_getElem?_getD, List.getElem?_eq_getElem h]
  rfl
theorem row64_len {l : List Int} (h : l.length ≤ 64) : (row64 l).length = 64 := by
  simp [row64]; omega

set_option maxRecDepth 100000 in
set_option maxHeartbeats 1000000 in
theorem spread_in (b off cap : Nat) (bs : List Int) (w : World) (hc : 64 ≤ cap) (hm : cap ≤ 9223372036854775807) (hby : ∀ j : Nat, 0 ≤ bs.getD j 0 ∧ bs.getD j 0 ≤ 255)
    (hcell : ∀ j, j < 64 → w.cell? ⟨b, off + j, none⟩ = some (.int .u8 (bs.getD j 0))) :
    Calls Tryz.prog 102 #[.slice (some ⟨b, off, none⟩) 64 cap] w fun e w' => e = .returned (.agg ((sched bs 64).map (Value.int .u32)).toArray) ∧ Below w.heap.size w w' := by
  have HC := hide hcell
  have HBY := hide hby
  clear hcell hby
  go_enter Tryz.func102, Tryz.ntmps102
  go_wp2_with fail
  have hA0 := Arr.new w (row64 []) 99
  have hb0 : Below w.heap.size w (w.alloc (.cells (row64 []).toArray 99)) := (Below.refl _ _).alloc (Nat.le_refl _) _
  have hA1 := Arr.new (w.alloc (.cells (row64 []).toArray 99)) (row64 []) 99
  have hA0' := hA0.alloc (.cells (row64 []).toArray 99)
  have hb1 := hb0.alloc hb0.size (.cells (row64 []).toArray 99)
  have hsz : (w.alloc (.cells (row64 []).toArray 99)).heap.size = w.heap.size + 1 := by simp
  rw [hsz] at hA1
  clear hsz
  go_loopw [7] (fun i wr => ∃ k : Nat, k ≤ 16 ∧ i = .int .i64 (k : Int) ∧ Arr wr w.heap.size 99 (row64 []) ∧ Arr wr (w.heap.size + 1) 99 (row64 (sched bs k)) ∧ Below w.heap.size w wr) (fun i _ => 16 - (intOf i).toNat)
  case atStart => exact ⟨0, by omega, rfl, hA0', hA1, hb1⟩
  case round =>
    clear hA0 hA0' hA1 hb0 hb1
    obtain ⟨k, hk, rfl, hR, hW, hnx⟩ := hrel
    by_cases hk16 : k < 16
    · have hcs : ∀ j, j < 4 → wr.cell? ⟨b, off + (4 * k + j), none⟩ = some (.int .u8 (bs.getD (4 * k + j) 0)) := fun j hj => by
        have h := unhide HC (4 * k + j) (by omega)
        exact (hnx.cell (World.block_lt_of_cell? _ _ h)).trans h
      have h0 := hcs 0 (by omega)
      have h1 := hcs 1 (by omega)
      have h2 := hcs 2 (by omega)
      have h3 := hcs 3 (by omega)
      have b0 := unhide HBY (4 * k)
      have b1 := unhide HBY (4 * k + 1)
      have b2 := unhide HBY (4 * k + 2)
      have b3 := unhide HBY (4 * k + 3)
      simp only [Nat.add_zero, ← Nat.add_assoc] at h0 h1 h2 h3
      have HNX : Hid (sched bs (k + 1) = sched bs k ++ [bits .or .u32 (bits .or .u32 (bits .or .u32 (bs.getD (4 * k) 0 * 16777216) (bs.getD (4 * k + 1) 0 * 65536)) (bs.getD (4 * k + 2) 0 * 256)) (bs.getD (4 * k + 3) 0)]) := by
        show _ = _
        rw [sched, nextW, if_pos hk16]
        rfl
      generalize bs.getD (4 * k) 0 = x0 at *
      generalize bs.getD (4 * k + 1) 0 = x1 at *
      generalize bs.getD (4 * k + 2) 0 = x2 at *
      generalize bs.getD (4 * k + 3) 0 = x3 at *
      clear hcs
      have hfr := hW.frozen k
      have hce := hW.cell k
      have hln := sched_len bs k
      rw [List.getElem?_eq_getElem (by rw [row64_len (by omega)]; omega)] at hce
      generalize (row64 (sched bs k))[k]'(by rw [row64_len (by omega)]; omega) = old at hce
      have HLN := hide hln
      clear hln
      go_wp2_with fail
      go_region
      go_wp2
      go_roundw
      case rel =>
        have hln := HLN.out
        refine ⟨k + 1, by omega, by go_num, (hR.other _ _ (by simp)).drew, ?_, (hnx.setCell (by simp) _).drew⟩
        rw [HNX.out, ← row64_set (by omega), hln]
        exact (hW.set k _).drew
      case measure => simp [intOf]; omega
    · have hke : k = 16 := by omega
      have HKE := hide hke
      clear hke
      go_wp2_with fail
      go_loopw [6] (fun i wr => ∃ k : Nat, 16 ≤ k ∧ k ≤ 64 ∧ i = .int .i64 (k : Int) ∧ Arr wr w.heap.size 99 (row64 []) ∧ Arr wr (w.heap.size + 1) 99 (row64 (sched bs k)) ∧ Below w.heap.size w wr) (fun i _ => 64 - (intOf i).toNat)
      case atStart => exact ⟨16, by omega, by omega, rfl, hR, by rw [← HKE.out]; exact hW, hnx⟩
      case round =>
        clear hR hW hnx hk hk16
        obtain ⟨k, hk16, hk, rfl, hR, hW, hnx⟩ := hrel
        by_cases hk64 : k < 64
        · have hln := sched_len bs k
          have h2 := hW.cell (k - 2)
          have h7 := hW.cell (k - 7)
          have h15 := hW.cell (k - 15)
          have h16 := hW.cell (k - 16)
          rw [row64_at (by omega)] at h2 h7 h15 h16
          have b2 := sched_bd bs k (k - 2)
          have b7 := sched_bd bs k (k - 7)
          have b15 := sched_bd bs k (k - 15)
          have b16 := sched_bd bs k (k - 16)
          have HNX : Hid (sched bs (k + 1) = sched bs k ++ [(((sig1 ((sched bs k).getD (k - 2) 0) + (sched bs k).getD (k - 7) 0) % 4294967296 + sig0 ((sched bs k).getD (k - 15) 0)) % 4294967296 + (sched bs k).getD (k - 16) 0) % 4294967296]) := by
            show _ = _
            rw [sched, nextW, if_neg (by omega)]
          generalize (sched bs k).getD (k - 2) 0 = x2 at *
          generalize (sched bs k).getD (k - 7) 0 = x7 at *
          generalize (sched bs k).getD (k - 15) 0 = x15 at *
          generalize (sched bs k).getD (k - 16) 0 = x16 at *
          have hfr := hW.frozen k
          have hce := hW.cell k
          rw [List.getElem?_eq_getElem (by rw [row64_len (by omega)]; omega)] at hce
          generalize (row64 (sched bs k))[k]'(by rw [row64_len (by omega)]; omega) = old at hce
          have HLN := hide hln
          clear hln
          obtain ⟨m2, hm2⟩ : ∃ m, m = k - 2 := ⟨_, rfl⟩
          rw [← hm2] at h2
          have e2 : (k : Int) - 2 = (m2 : Int) := by omega
          have q2 : IntKind.i64.wrap (m2 : Int) = (m2 : Int) := IntWalk.i64_in _ (by omega)
          have f2 : (m2 : Int) < 64 := by omega
          have g2 : (0 : Int) ≤ (m2 : Int) := by omega
          obtain ⟨m7, hm7⟩ : ∃ m, m = k - 7 := ⟨_, rfl⟩
          rw [← hm7] at h7
          have e7 : (k : Int) - 7 = (m7 : Int) := by omega
          have q7 : IntKind.i64.wrap (m7 : Int) = (m7 : Int) := IntWalk.i64_in _ (by omega)
          have f7 : (m7 : Int) < 64 := by omega
          have g7 : (0 : Int) ≤ (m7 : Int) := by omega
          obtain ⟨m15, hm15⟩ : ∃ m, m = k - 15 := ⟨_, rfl⟩
          rw [← hm15] at h15
          have e15 : (k : Int) - 15 = (m15 : Int) := by omega
          have q15 : IntKind.i64.wrap (m15 : Int) = (m15 : Int) := IntWalk.i64_in _ (by omega)
          have f15 : (m15 : Int) < 64 := by omega
          have g15 : (0 : Int) ≤ (m15 : Int) := by omega
          obtain ⟨m16, hm16⟩ : ∃ m, m = k - 16 := ⟨_, rfl⟩
          rw [← hm16] at h16
          have e16 : (k : Int) - 16 = (m16 : Int) := by omega
          have q16 : IntKind.i64.wrap (m16 : Int) = (m16 : Int) := IntWalk.i64_in _ (by omega)
          have f16 : (m16 : Int) < 64 := by omega
          have g16 : (0 : Int) ≤ (m16 : Int) := by omega
          have HK : Hid (m2 < k ∧ m7 < k ∧ m15 < k ∧ m16 < k) := by
            show _ ∧ _ ∧ _ ∧ _
            omega
          have fk : (k : Int) < 64 := by omega
          have gk : (0 : Int) ≤ (k : Int) := by omega
          clear hm2 hm7 hm15 hm16
          go_wp2_with fail
          have hS : ∀ W : World, W.heap = wr.heap → (W.cell? ⟨w.heap.size + 1, m2, none⟩ = some (.int .u32 x2) ∧ W.cell? ⟨w.heap.size + 1, m7, none⟩ = some (.int .u32 x7) ∧ W.cell? ⟨w.heap.size + 1, m15, none⟩ = some (.int .u32 x15) ∧ W.cell? ⟨w.heap.size + 1, m16, none⟩ = some (.int .u32 x16)) := fun W hW' => by
            have e : ∀ a, W.cell? a = wr.cell? a := fun a => by unfold World.cell?; rw [hW']
            rw [e, e, e, e]
            exact ⟨h2, h7, h15, h16⟩
          have hS2 : ∀ (W : World) (u : Value), W.heap = wr.heap → ((W.setCell ⟨w.heap.size + 1, k, none⟩ u).cell? ⟨w.heap.size + 1, m2, none⟩ = some (.int .u32 x2) ∧ (W.setCell ⟨w.heap.size + 1, k, none⟩ u).cell? ⟨w.heap.size + 1, m7, none⟩ = some (.int .u32 x7) ∧ (W.setCell ⟨w.heap.size + 1, k, none⟩ u).cell? ⟨w.heap.size + 1, m15, none⟩ = some (.int .u32 x15) ∧ (W.setCell ⟨w.heap.size + 1, k, none⟩ u).cell? ⟨w.heap.size + 1, m16, none⟩ = some (.int .u32 x16)) := fun W u hW' => by
            have hA : Arr W (w.heap.size + 1) 99 (row64 (sched bs k)) := hW.keep (by rw [hW'])
            have hA2 := hA.set k u
            have hK := HK.out
            rw [hW.cell] at h2 h7 h15 h16
            rw [hA2.cell, hA2.cell, hA2.cell, hA2.cell, List.getElem?_set_ne (by omega), List.getElem?_set_ne (by omega), List.getElem?_set_ne (by omega), List.getElem?_set_ne (by omega)]
            exact ⟨h2, h7, h15, h16⟩
          have HS := hide hS
          have HS2 := hide hS2
          clear hS hS2
          go_region_held3 (fun W => W.cell? ⟨w.heap.size + 1, m2, none⟩ = some (.int .u32 x2) ∧ W.cell? ⟨w.heap.size + 1, m7, none⟩ = some (.int .u32 x7) ∧ W.cell? ⟨w.heap.size + 1, m15, none⟩ = some (.int .u32 x15) ∧ W.cell? ⟨w.heap.size + 1, m16, none⟩ = some (.int .u32 x16))
            (first | exact unhide HS _ rfl | exact unhide HS2 _ _ rfl)
            (first
            | (go_at_call 134; refine (mixedNew_calls x2 b2.1 b2.2 _).mono ?_; rintro e w1 ⟨rfl, hw1⟩; obtain rfl := hw1.symm)
            | (go_at_call 135; refine (mixedOld_calls x15 b15.1 b15.2 _).mono ?_; rintro e w1 ⟨rfl, hw1⟩; obtain rfl := hw1.symm))
          go_wp2
          go_roundw
          case rel =>
            have hln := HLN.out
            refine ⟨k + 1, by omega, by omega, by go_num, (hR.other _ _ (by simp)).drew, ?_, (hnx.setCell (by simp) _).drew⟩
            rw [HNX.out, ← row64_set (by omega), hln]
            exact (hW.set k _).drew
          case measure => simp [intOf]; omega
        · have hke : k = 64 := by omega
          rw [hke] at hW
          have hlen : (row64 (sched bs 64)).length = 64 := row64_len (by rw [sched_len]; omega)
          have hi79 : (Tryz.prog.info? 99).map (·.size) = some (row64 (sched bs 64)).length := by rw [hlen]; kernel_rfl
          have hlen0 : (row64 []).length = (row64 (sched bs 64)).length := by rw [hlen]; rfl
          have hone : ∀ u ∈ row64 (sched bs 64), u.oneCell' = true := fun u hu => by
            obtain ⟨x, _, rfl⟩ := List.mem_map.1 hu
            rfl
          have hR2 := hR.setRow (row64 (sched bs 64))
          have hnx2 := below_setRow hnx (Nat.le_refl _) (row64 (sched bs 64)).toArray
          have HF : Hid (row64 (sched bs 64) = (sched bs 64).map (Value.int .u32)) := by
            show _ = _
            simp [row64, sched_len]
          generalize row64 (sched bs 64) = C at *
          clear hlen
          go_wp2_with (first
            | refine wpList_loadArr rfl (.tmp 3) 99 rfl rfl hW Tryz.underlying99 hi79 ?_
            | refine wpList_storeArr rfl (.tmp 2) (.tmp 69) 99 rfl rfl rfl hR hi79 hlen0 hone ?_)
          refine bodyPost_ret (v := .agg C.toArray) (results_arr rfl rfl hR2 Tryz.underlying99 hi79) rfl ⟨by rw [HF.out], hnx2⟩
end Go.Proofs.YtfhfobikbfbajaaGreatDoor

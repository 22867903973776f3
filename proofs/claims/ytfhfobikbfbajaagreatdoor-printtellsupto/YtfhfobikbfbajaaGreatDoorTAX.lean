/- The document's Text. The program's reader: word, sign, stands, more, name, begin. The program's reader: stands, more, name, path, begin. strings.Clone, by the library's own contract: the numbering is ours. strings.Split, by the library's own contract. The program's reader: name, path, begin. -/
import Derived.Test.YtfhfobikbfbajaaGreatDoorTAW
import Derived.Test.YtfhfobikbfbajaaGreatDoorTAR
import Derived.Test.YtfhfobikbfbajaaGreatDoorTAJ
import Derived.Deep.QuietTactic
import Derived.BigQuiet
import Derived.Test.YtfhfobikbfbajaaGreatDoorTAF
import Derived.Shelf.Pu.Clone
import Derived.Shelf.Strings.Split
namespace Go.Proofs.YtfhfobikbfbajaaGreatDoor
open Go.RowKit Go.Maps

def manW (ts : List Tsk) : Nat := (ts.map tskW).sum
theorem manW_take {l : List Tsk} {i : Nat} (h : i < l.length) : manW (l.take (i + 1)) = manW (l.take i) + tskW (l.getD i .nul) := by
  rw [List.take_succ_eq_append_getElem h, List.getD_eq_getElem?_getD, List.getElem?_eq_getElem h]
  unfold manW
  rw [List.map_append, List.sum_append]
  rfl
theorem manW_le (l : List Tsk) (i : Nat) : manW (l.take i) ≤ manW l := by
  have : manW (l.take i ++ l.drop i) = manW (l.take i) + manW (l.drop i) := by unfold manW; rw [List.map_append, List.sum_append]
  rw [List.take_append_drop] at this
  omega
theorem skB_step {l : List Tsk} {i : Nat} (h : i < l.length) : (l.take (i + 1)).flatMap skBy = (l.take i).flatMap skBy ++ skBy (l.getD i .nul) := by
  rw [List.take_succ_eq_append_getElem h, List.flatMap_append, List.getD_eq_getElem?_getD, List.getElem?_eq_getElem h]
  simp
theorem osf_step {l : List Tsk} {i : Nat} (h : i < l.length) : (l.take (i + 1)).flatMap outsOf = (l.take i).flatMap outsOf ++ outsOf (l.getD i .nul) := by
  rw [List.take_succ_eq_append_getElem h, List.flatMap_append, List.getD_eq_getElem?_getD, List.getElem?_eq_getElem h]
  simp
theorem nms_step {l : List Tsk} {i : Nat} (h : i < l.length) : (l.take (i + 1)).map (·.name) = (l.take i).map (·.name) ++ [(l.getD i .nul).name] := by
  rw [List.take_succ_eq_append_getElem h, List.map_append, List.getD_eq_getElem?_getD, List.getElem?_eq_getElem h]
  rfl
/-- The bytes, the outputs' paths, the names. -/
structure Bn (w W : World) (vb vo vn : Value) (l : List UInt8) (md nms : List ByteArray) : Prop where
  bo : Bo w W W vb vo l md vo
  rn : Row W w.heap.size 9 vn (sV nms)
  ap : vn.ownBlock = none ∨ vn.ownBlock ≠ vo.ownBlock
section
variable {w W W' : World} {vb vo vn vb' vo' vn' : Value} {l l' : List UInt8} {md md' nms : List ByteArray}
theorem Bn.below (h : Bn w W vb vo vn l md nms) (hb : Below W.heap.size W W') : Bn w W' vb vo vn l md nms := ⟨(h.bo.below hb).rebase, owns_below h.rn hb, h.ap⟩
theorem Bn.task (h : Bn w W vb vo vn l md nms) (k : Bo w W W' vb' vo' l' md' vo) : Bn w W' vb' vo' vn l' md' nms := ⟨k.rebase, (k.other h.rn h.ap).1, (k.other h.rn h.ap).2⟩
theorem Bn.name (h : Bn w W vb vo vn l md nms) {s : ByteArray} (hr : Row W' w.heap.size 9 vn' (sV (nms ++ [s]))) (hg : W.grownBy W' vn.ownBlock) (hv : vn'.ownBlock = vn.ownBlock ∨ vn'.ownBlock = some W.heap.size) : Bn w W' vb vo vn' l md (nms ++ [s]) := by
  have hc : Ch w.heap.size (fun t => t = 9) W W' := Ch.of_owns h.rn (Nat.le_refl _) hg rfl
  have hs : vo.ownBlock = none ∨ vo.ownBlock ≠ vn.ownBlock := by
    cases e : vo.ownBlock with
    | none => exact Or.inl rfl
    | some b =>
      rcases h.ap with q | q
      · exact Or.inr (by rw [q]; intro x; cases x)
      · exact Or.inr (fun x => q (by rw [← x, e]))
  refine ⟨Bo.start (belowCh h.bo.old hc h.bo.old.size) ⟨hc.owns h.bo.own.1 (by decide), h.bo.own.2⟩ (World.ownsRow.kept h.bo.row hg hs), hr, ?_⟩
  rcases hv with hv | hv
  · rw [hv]; exact h.ap
  · refine Or.inr fun e => ?_
    rw [hv] at e
    have := (World.ownsRow.lt h.bo.row _ e.symm).2
    omega
end
section
variable {ops : Array Oper} {rest : List Oper} {o : Oper} {a : Act} {Q : Exit → Act → World → Prop} {w W : World} {vb vo vn : Value} {l : List UInt8} {md nms : List ByteArray}
theorem wpList_bnN (hgd : o.guard = none) (x y : Operand) (ho : o.op = .call { callee := .builtin .append, args := #[x, y], argTypes := #[22, 22] }) {s : ByteArray} (hx : a.eval x = vn) (h : Bn w W vb vo vn l md nms) (hy : a.eval y = .slice (some ⟨W.heap.size, 0, none⟩) 1 1)
    (hl : nms.length ≤ 100000000) (hk : ∀ v' W', Bn w W' vb vo v' l md (nms ++ [s]) → wpList Tryz.prog ops Q rest (a.put o.dst v') W') : wpList Tryz.prog ops Q (o :: rest) a (W.alloc (.cells #[.string s] 9)) := by
  have h2 := h.below (jalloc_below W (.cells #[.string s] 9))
  refine wpList_appRow (t := 9) (s := 1) Tryz.underlying22 infoTxt (by simp [Value.cells]) (by decide) (by decide) hgd x y ho hx h2.rn hy (m := 1) rfl (ds := [.string s]) (by simp) (fun j u hu => ?_) (fun u hu => ?_) (by rw [sV_len]; omega) h2.bo.base.size (fun v' W' q1 q2 q3 => hk v' W' (h2.name (by unfold Row; rw [sV_len, List.length_append, sV_app]; rw [sV_len] at q1; exact q1) q2 q3))
  · exact (cells_lit W [.string s] 9 j u hu)
  · rw [List.mem_singleton.1 hu]; rfl
end
theorem IsTas.at {W : World} {d : Nat} {ts : List Tsk} {v : Value} (h : IsTas W d v ts) {j : Nat} (hj : j < ts.length) : ∃ b o c vi vo, v = .slice (some ⟨b, o, none⟩) ts.length c ∧ W.rangeAt b (o + j * 4) (tsC (ts.getD j .nul).name (ts.getD j .nul).budget vi vo) ∧ IsTa W d (.agg (tsC (ts.getD j .nul).name (ts.getD j .nul).budget vi vo).toArray) (ts.getD j .nul) := by
  obtain ⟨a, c, rfl, _, _, _, h4⟩ := h
  obtain ⟨b, o, rfl, he⟩ := h4 (by omega)
  obtain ⟨vi, vo, h5, h6, h7⟩ := he j hj
  exact ⟨b, o, c, vi, vo, rfl, h5, vi, vo, rfl, h6, h7⟩
set_option maxRecDepth 100000 in
set_option maxHeartbeats 4000000 in
theorem dText_calls {w : World} {ts : List Tsk} {D : Nat} {v : Value} (hT : IsTas w D v ts) (hs : ∀ t ∈ ts, smK t) (hl : manW ts ≤ 5000000000) :
    Calls Tryz.prog 27 #[v] w fun e w' => e = .returned (.tuple #[.string (if manO nameB ptW clB ts = true then bs (ts.flatMap skBy) else ByteArray.empty), .bool (manO nameB ptW clB ts)]) ∧ Below w.heap.size w w' := by
  obtain ⟨a, c, rfl, h1, h2⟩ := hT.shape
  have HT := hide hT
  have HS := hide hs
  have HL := hide hl
  obtain ⟨r, hr⟩ : ∃ r, r = manO nameB ptW clB ts := ⟨_, rfl⟩
  have HR : Hid (r = (decide (ts.length ≤ 256) && tsO nameB ptW clB [] [] ts)) := hide hr
  rw [← hr]
  obtain ⟨S, hS⟩ : ∃ S, S = if r = true then bs (ts.flatMap skBy) else ByteArray.empty := ⟨_, rfl⟩
  rw [← hS]
  have HSF : Hid (r = false → S = ByteArray.empty) := hide (fun e => by rw [hS, e]; rfl)
  have HST0 : Hid (r = true → S = bs (ts.flatMap skBy)) := hide (fun e => by rw [hS, e]; rfl)
  clear hS
  have hli : (ts.length : Int) ≤ 9223372036854775807 := by omega
  clear hr hT hs hl h1 h2
  by_cases h256 : 256 < ts.length
  · have hx : (256 : Int) < (ts.length : Int) := by omega
    have HV : Hid (r = false) := hide (by rw [HR.out, decide_eq_false (by omega)]; rfl)
    clear h256
    go_enter Tryz.func27, Tryz.ntmps27
    go_wp2
    refine bodyPost_ret (pwres2 (p := 2) (q := 3) rfl) rfl ?_
    exact ⟨by rw [HSF.out HV.out, HV.out]; rfl, Below.refl _ _⟩
  · have hx : ¬ (256 : Int) < (ts.length : Int) := by omega
    have hxd : decide ((256 : Int) < (ts.length : Int)) = false := decide_eq_false hx
    have HN : Hid (ts.length ≤ 256) := hide (by omega)
    clear h256
    go_enter Tryz.func27, Tryz.ntmps27
    go_wp2_with fail
    go_loopw [4, 5, 6, 7, 8] (fun bv nv ov iv _ wr => ∃ j : Nat, iv = .int .i64 (j : Int) ∧ j ≤ ts.length ∧ Hid (Bn w wr bv ov nv ((ts.take j).flatMap skBy) ((ts.take j).flatMap outsOf) ((ts.take j).map (·.name)) ∧ tsO nameB ptW clB [] [] (ts.take j) = true ∧ ((ts.take j).flatMap skBy).length ≤ manW (ts.take j) ∧ ShS ((ts.take j).flatMap outsOf) ∧ ((ts.take j).flatMap outsOf).length ≤ 8 * j)) (fun _ _ _ iv _ _ => ts.length - (intOf iv).toNat)
    case atStart => exact ⟨0, rfl, Nat.zero_le _, ⟨Bo.start (Below.refl _ _) (Own8.nil _ _) (Row.nil _ _ _), Row.nil _ _ _, Or.inl rfl⟩, rfl, Nat.zero_le _, (fun x hx => by simp at hx), Nat.zero_le _⟩
    case round =>
      obtain ⟨j, rfl, hjq, HJ⟩ := hrel
      by_cases hlt : j < ts.length
      · have hlti : (j : Int) < (ts.length : Int) := by omega
        have HTK := hide (manW_take hlt)
        have HLE := hide (manW_le ts (j + 1))
        have HST := hide (skB_step hlt)
        have HOS := hide (osf_step hlt)
        have HNS := hide (nms_step hlt)
        have HIT := hide (tsO_take (nm := nameB) (pt := ptW) (cl := clB) (nms := []) (md := []) (z := Tsk.nul) hlt)
        have HIF := hide (tsO_false (nm := nameB) (pt := ptW) (cl := clB) (nms := []) (md := []) (l := ts) (i := j + 1))
        obtain ⟨b, o, c', vi, vq, hv, hrg, hta⟩ := HT.out.at hlt
        cases hv
        have HXR : Hid (∀ W2, Below w.heap.size w W2 → W2.rangeAt b (o + j * 4) (tsC (ts.getD j .nul).name (ts.getD j .nul).budget vi vq)) := hide (fun W2 h => rangeAt_below hrg h)
        have HTA := hide hta
        have HSJ := hide (HS.out _ (getTk (z := Tsk.nul) hlt))
        obtain ⟨T, hTe⟩ : ∃ x, x = ts.getD j .nul := ⟨_, rfl⟩
        rw [← hTe] at HTK HST HOS HNS HIT HXR HTA HSJ
        have hwj : IntKind.i64.wrap ((j : Int) + 1) = ((j + 1 : Nat) : Int) := by rw [IntKind.wrap_i64]; omega
        obtain ⟨lj, hlj⟩ : ∃ x, x = (ts.take j).flatMap skBy := ⟨_, rfl⟩
        obtain ⟨mj, hmj⟩ : ∃ x, x = (ts.take j).flatMap outsOf := ⟨_, rfl⟩
        obtain ⟨nj, hnj⟩ : ∃ x, x = (ts.take j).map (·.name) := ⟨_, rfl⟩
        rw [← hlj, ← hmj, ← hnj] at HJ
        rw [← hlj] at HST
        rw [← hmj] at HOS HIT
        rw [← hnj] at HNS HIT
        rw [List.nil_append, List.nil_append] at HIT
        have HNJ : Hid (nj.length = j) := hide (by rw [hnj, List.length_map, List.length_take]; omega)
        have hx : wr.cell? ⟨b, o + j * 4, none⟩ = some (.string T.name) := by have := HXR.out _ HJ.out.1.bo.base 0 (.string T.name) rfl; rw [Nat.add_zero] at this; exact this
        have HHS := hide (dhas_calls (HJ.out.1.rn.isS) T.name)
        have HLT : Hid (lj.length + tskW T ≤ 10000000000) := hide (by have h1 := HJ.out.2.2.1; have h2 := HTK.out; have h3 := HLE.out; have h4 := HL.out; omega)
        have HML : Hid (mj.length ≤ 10000000) := hide (by have h1 := HJ.out.2.2.2.2; have h2 := HN.out; omega)
        have HNL : Hid (nj.length ≤ 100000000) := hide (by have h1 := HNJ.out; have h2 := HN.out; omega)
        clear hrg hta hTe hlj hmj hnj
        obtain ⟨hb, hhb⟩ : ∃ x, x = hasB nj T.name := ⟨_, rfl⟩
        rw [← hhb] at HHS HIT
        clear hhb
        go_wp2_with fail
        refine (unhide HHS).mono ?_
        rintro e w5 ⟨rfl, hb5⟩
        have HB5 := hide (HJ.out.1.below hb5)
        have hx := (hb5.cell (p := ⟨b, o + j * 4, none⟩) (World.block_lt_of_cell? _ _ hx)).trans hx
        clear hb5 HHS
        cases hb with
        | true =>
          have HV : Hid (r = false) := hide (by rw [HR.out, HIF.out (by rw [HIT.out]; simp), Bool.and_false])
          go_wp2
          refine bodyPost_ret (pwres2 (p := 2) (q := 3) rfl) rfl ?_
          exact ⟨by rw [HSF.out HV.out, HV.out]; rfl, HB5.out.bo.base⟩
        | false =>
          go_wp2_with (first
            | (at_builtin; refine wpList_bnN rfl (.tmp 25) (.tmp 31) rfl rfl HB5.out rfl HNL.out ?_; intro v6 w6 hB6; have hrr := HXR.out _ hB6.bo.base; have HB6 := hide hB6; clear hB6)
            | (refine wpList_loadJ rfl 25 (.tmp 37) rfl b (o + j * 4) rfl (tsC T.name T.budget vi vq) _ hrr Tryz.underlying25 rfl (infoTss _ _ _ _) ?_)
            | fail)
          refine (dtask_calls HTA.out HSJ.out HB6.out.bo.base HB6.out.bo.own HB6.out.bo.row HJ.out.2.2.2.1 HML.out HLT.out).mono ?_
          rintro e w7 ⟨v7, o7, l7, m7, rfl, HX⟩
          have HB7 := hide (HB6.out.task HX.out.1)
          obtain ⟨kb, hkb⟩ : ∃ x, x = tskO nameB ptW clB mj T := ⟨_, rfl⟩
          rw [← hkb] at HX HIT
          rw [← hkb]
          clear hkb
          cases kb with
          | false =>
            have HV : Hid (r = false) := hide (by rw [HR.out, HIF.out (by rw [HIT.out]; simp), Bool.and_false])
            go_wp2
            refine bodyPost_ret (pwres2 (p := 2) (q := 3) rfl) rfl ?_
            exact ⟨by rw [HSF.out HV.out, HV.out]; rfl, HB7.out.bo.base⟩
          | true =>
            obtain ⟨hl7, hm7⟩ := HX.out.2.1 rfl
            have HL7 := hide hl7
            have HM7 := hide hm7
            clear hl7 hm7
            go_wp2
            go_roundw
            case rel => exact ⟨j + 1, by go_num, by omega, by rw [HST.out, HOS.out, HNS.out, ← HL7.out, ← HM7.out]; exact HB7.out, by rw [HIT.out, HJ.out.2.1]; rfl, by rw [HST.out, ← HL7.out, HTK.out]; have h1 := HX.out.2.2.1; have h2 := HJ.out.2.2.1; omega, by rw [HOS.out, ← HM7.out]; exact HX.out.2.2.2.1, by rw [HOS.out, ← HM7.out]; have h1 := HX.out.2.2.2.2; have h2 := HJ.out.2.2.2.2; omega⟩
            case measure => simp [intOf]; omega
      · have HTO : Hid (tsO nameB ptW clB [] [] ts = true) := hide (by have := HJ.out.2.1; rw [show j = ts.length by omega, List.take_length] at this; exact this)
        have HBE : Hid (Own8 wr w.heap.size u4 (iL (ts.flatMap skBy))) := hide (by have := HJ.out.1.bo.own; rw [show j = ts.length by omega, List.take_length] at this; exact this)
        have HV : Hid (r = true) := hide (by rw [HR.out, HTO.out, decide_eq_true HN.out]; rfl)
        have hcv := conv_isB HBE.out.isB
        rw [mkS_iL] at hcv
        have hlti : ¬ (j : Int) < (ts.length : Int) := by omega
        have hltd : decide ((j : Int) < (ts.length : Int)) = false := decide_eq_false hlti
        go_wp2
        refine bodyPost_ret (pwres2 (p := 2) (q := 3) rfl) rfl ?_
        exact ⟨by rw [HST0.out HV.out, HV.out]; rfl, HJ.out.1.bo.base⟩
end Go.Proofs.YtfhfobikbfbajaaGreatDoor

namespace Go.Proofs.YtfhfobikbfbajaaGreatDoor
open Go.RowKit Go.Maps

end Go.Proofs.YtfhfobikbfbajaaGreatDoor

namespace Go.Proofs.YtfhfobikbfbajaaGreatDoor
open Go.RowKit Go.Maps

end Go.Proofs.YtfhfobikbfbajaaGreatDoor

namespace Go.Proofs.YtfhfobikbfbajaaGreatDoor
open Go.RowKit Go.Shelf

def renC : Ren := ⟨fun n => if n = 25 then 138 else 0, fun n => if n = 3 then 3 else if n = 4 then 4 else if n = 5 then 5 else if n = 9 then 9 else if n = 37 then 65 else if n = 47 then 121 else 0, fun n => n⟩
theorem laysC : LaysPu.n25 Tryz.prog renC := by
  constructor
  all_goals first | kernel_rfl | (intro w; kernel_rfl)
theorem clone1_calls (s : ByteArray) (hs : s.size ≤ 2000000) (w : World) : Calls Tryz.prog 138 #[.string s] w fun e w' => e = .returned (.string s) ∧ Below w.heap.size w w' := AnyPu.stringslite_Clone laysC s w (by omega)
set_option maxHeartbeats 1000000 in
theorem clone_calls (s : ByteArray) (hs : s.size ≤ 2000000) (w : World) : Calls Tryz.prog 113 #[.string s] w fun e w' => e = .returned (.string s) ∧ Below w.heap.size w w' := by
  have H := hide (clone1_calls s hs w)
  go_enter Tryz.func113, Tryz.ntmps113
  go_wp2_with fail
  refine (unhide H).mono ?_
  rintro e w1 ⟨rfl, hb1⟩
  go_wp2
  go_ret
  exact ⟨rfl, hb1⟩
end Go.Proofs.YtfhfobikbfbajaaGreatDoor

namespace Go.Proofs.YtfhfobikbfbajaaGreatDoor
open Go.RowKit Go.Shelf

def renS : Ren := ⟨fun n => if n = 138 then 181 else if n = 143 then 122 else if n = 146 then 146 else if n = 195 then 187 else if n = 197 then 188 else if n = 217 then 163 else if n = 218 then 189 else if n = 219 then 145 else if n = 221 then 167 else if n = 224 then 165 else if n = 225 then 164 else if n = 260 then 190 else if n = 266 then 178 else if n = 267 then 166 else if n = 268 then 180 else if n = 314 then 179 else 0,
  fun n => if n = 3 then 3 else if n = 4 then 4 else if n = 5 then 5 else if n = 9 then 9 else if n = 21 then 21 else if n = 31 then 22 else if n = 46 then 102 else if n = 51 then 97 else if n = 105 then 220 else if n = 119 then 222 else if n = 138 then 224 else if n = 139 then 225 else if n = 146 then 210 else 0,
  fun n => if n = 1 then 3 else if n = 3 then 9 else if n = 4 then 10 else n⟩
theorem laysS : Lays.n146 Tryz.prog renS := by
  constructor
  all_goals first | kernel_rfl | (intro w; kernel_rfl)
def slash : ByteArray := ⟨#[47]⟩
/-- The library's variable that strings.Index reads: it holds a number. -/
def Mx (w : World) : Prop := ∃ m, w.cell? ⟨3, 0, none⟩ = some (.int .i64 m)
theorem Mx.below {w w' : World} (h : Mx w) (hb : Below w.heap.size w w') : Mx w' := by
  obtain ⟨m, hm⟩ := h
  exact ⟨m, (hb.cell (p := ⟨3, 0, none⟩) (World.block_lt_of_cell? _ _ hm)).trans hm⟩
/-- The parts of a text, as the library splits them. -/
def parts (s : ByteArray) : List ByteArray := Lib.splitB slash 0 (Lib.countB s slash) s
theorem split_calls (s : ByteArray) (hs : s.size ≤ 2000000) (w : World) (hM : Mx w) : Calls Tryz.prog 146 #[.string s, .string ⟨#[47]⟩] w fun e w' => e = .returned (.slice (some ⟨w.heap.size, 0, none⟩) (Lib.countB s slash + 1) (Lib.countB s slash + 1)) ∧ w' = w.alloc (.cells ((parts s).map Value.string).toArray 9) := by
  obtain ⟨m, hm⟩ := hM
  exact Any.strings_Split laysS infoStr s slash m w (by omega) hm (by decide)
set_option maxRecDepth 100000 in
set_option maxHeartbeats 1000000 in
theorem parse_calls (s : ByteArray) (hs : s.size ≤ 2000000) (w : World) (hM : Mx w) : Calls Tryz.prog 124 #[.string s] w fun e w' => (wrongB s = true ∧ e = .returned (.tuple #[.slice none 0 0, .int .i64 50, .int .i64 (((lvS s).1 : Nat) : Int)]) ∧ Below w.heap.size w w') ∨
    (wrongB s = false ∧ ∃ g, e = .returned (.tuple #[.slice (some ⟨g, 0, none⟩) (Lib.countB s slash + 1) (Lib.countB s slash + 1), .int .i64 0, .int .i64 0]) ∧ w.heap.size ≤ g ∧ w'.heap[g]? = some (.cells ((parts s).map Value.string).toArray 9 (0, 0)) ∧ Below w.heap.size w w') := by
  have H1 : Hid (Calls Tryz.prog 89 #[.string s] w fun e w' => e = .returned (.tuple #[.int .i64 (((lvS s).1 : Nat) : Int), .bool (wrongB s)]) ∧ Below w.heap.size w w') := leave_calls s (Nat.le_trans hs (by decide)) w
  have H2 : Hid (∀ W, Calls Tryz.prog 113 #[.string s] W fun e w' => e = .returned (.string s) ∧ Below W.heap.size W w') := fun W => clone_calls s hs W
  have H3 : Hid (∀ W, Mx W → Calls Tryz.prog 146 #[.string s, .string ⟨#[47]⟩] W fun e w' => e = .returned (.slice (some ⟨W.heap.size, 0, none⟩) (Lib.countB s slash + 1) (Lib.countB s slash + 1)) ∧ Hid (w'.heap[W.heap.size]? = some (.cells ((parts s).map Value.string).toArray 9 (0, 0)) ∧ Below W.heap.size W w')) := fun W hW => (split_calls s hs W hW).mono fun e w' ⟨e1, e2⟩ => ⟨e1, by rw [e2]; exact heap_alloc_new W _, by rw [e2]; exact (Below.refl _ _).alloc (Nat.le_refl _) _⟩
  have HM := hide hM
  clear hM
  generalize Lib.countB s slash + 1 = c at *
  generalize (lvS s).1 = p at *
  cases hw : wrongB s with
  | true =>
    rw [hw] at H1
    go_enter Tryz.func124, Tryz.ntmps124
    go_wp2_with fail
    refine (unhide H1).mono ?_
    rintro e w1 ⟨rfl, hb1⟩
    go_wp2
    go_ret3
    exact Or.inl ⟨by first | trivial | rfl, rfl, hb1⟩
  | false =>
    rw [hw] at H1
    go_enter Tryz.func124, Tryz.ntmps124
    go_wp2_with fail
    refine (unhide H1).mono ?_
    rintro e w1 ⟨rfl, hb1⟩
    go_wp2_with fail
    refine (unhide H2 w1).mono ?_
    rintro e w2 ⟨rfl, hb2⟩
    have hb12 := hb1.trans (hb2.mono hb1.size)
    have H3' := hide (unhide H3 w2 (((HM.out).below hb1).below hb2))
    go_wp2_with fail
    refine (unhide H3').mono ?_
    rintro e w3 ⟨rfl, HX⟩
    go_wp2
    go_ret3
    obtain ⟨x1, x2⟩ := HX.out
    exact Or.inr ⟨by first | trivial | rfl, _, rfl, hb12.size, x1, hb12.trans (x2.mono hb12.size)⟩
end Go.Proofs.YtfhfobikbfbajaaGreatDoor

namespace Go.Proofs.YtfhfobikbfbajaaGreatDoor
open Go.RowKit Go.Maps

set_option maxRecDepth 100000 in
set_option maxHeartbeats 1000000 in
theorem isPath_calls (s : ByteArray) (hs : s.size ≤ 2000000) (w : World) (hM : Mx w) : Calls Tryz.prog 93 #[.string s] w fun e w' => e = .returned (.bool (!(wrongB s))) ∧ Below w.heap.size w w' := by
  have H1 := hide (parse_calls s hs w hM)
  cases hb : wrongB s with
  | true =>
    rw [hb] at H1
    clear hb hM
    go_enter Tryz.func93, Tryz.ntmps93
    go_wp2_with fail
    refine (unhide H1).mono ?_
    rintro e w1 (⟨_, rfl, hb1⟩ | ⟨h, _⟩)
    · go_wp2
      go_ret
      exact ⟨rfl, hb1⟩
    · cases h
  | false =>
    rw [hb] at H1
    clear hb hM
    go_enter Tryz.func93, Tryz.ntmps93
    go_wp2_with fail
    refine (unhide H1).mono ?_
    rintro e w1 (⟨h, _⟩ | ⟨_, g, rfl, _, _, hb1⟩)
    · cases h
    · go_wp2
      go_ret
      exact ⟨rfl, hb1⟩
end Go.Proofs.YtfhfobikbfbajaaGreatDoor

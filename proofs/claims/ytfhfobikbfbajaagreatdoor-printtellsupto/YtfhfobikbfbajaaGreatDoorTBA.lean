/- The program's named, inputsFit. Where a path would stand among those that rise. A path put among those that rise: slices.Insert at one text. -/
import Derived.Test.YtfhfobikbfbajaaGreatDoorTAX
import Derived.Test.YtfhfobikbfbajaaGreatDoorTAZ
import Derived.Test.YtfhfobikbfbajaaGreatDoorTAP
import Derived.Test.YtfhfobikbfbajaaGreatDoorTAY
import Derived.Test.YtfhfobikbfbajaaGreatDoorTAR
import Derived.Test.YtfhfobikbfbajaaGreatDoorTAE
import Derived.Test.YtfhfobikbfbajaaGreatDoorTAV
import Derived.Test.YtfhfobikbfbajaaGreatDoorTAD
import Derived.Shelf.Spec.SlicesInsertGrow
import Derived.Lib.Overlaps
namespace Go.Proofs.YtfhfobikbfbajaaGreatDoor
open Go.RowKit Go.Maps

theorem hasB_map {ts : List Tsk} {s : ByteArray} {j : Nat} (hj : j < ts.length) (e : (ts.getD j .nul).name = s) : hasB (ts.map (·.name)) s = true := by
  refine hasB_yes (j := j) (by rw [List.length_map]; exact hj) ?_
  rw [List.getD_eq_getElem?_getD, List.getElem?_map, ← e, List.getD_eq_getElem?_getD, List.getElem?_eq_getElem hj]
  rfl
theorem hasB_map_no {ts : List Tsk} {s : ByteArray} (h : ∀ k, k < ts.length → (ts.getD k .nul).name ≠ s) : hasB (ts.map (·.name)) s = false := by
  refine hasB_no fun k hk => ?_
  rw [List.length_map] at hk
  have := h k hk
  rw [List.getD_eq_getElem?_getD, List.getElem?_map, List.getElem?_eq_getElem hk]
  rw [List.getD_eq_getElem?_getD, List.getElem?_eq_getElem hk] at this
  exact this
theorem IsTas.pre {w : World} {d : Nat} {a : Option Addr} {n c : Nat} {ts : List Tsk} (h : IsTas w d (.slice a n c) ts) {j : Nat} (hj : j ≤ n) : IsTas w d (.slice a j c) (ts.take j) := by
  obtain ⟨a', c', hv, h1, h2, h3, h4⟩ := h
  cases hv
  refine ⟨a, c, by rw [List.length_take]; congr 1; omega, by rw [List.length_take]; omega, h2, h3, fun hp => ?_⟩
  rw [List.length_take] at hp
  obtain ⟨b, o, ha, hc⟩ := h4 (by omega)
  refine ⟨b, o, ha, fun i hi => ?_⟩
  rw [List.length_take] at hi
  have := hc i (by omega)
  rw [List.getD_eq_getElem?_getD, List.getElem?_take_of_lt (by omega), ← List.getD_eq_getElem?_getD]
  exact this
set_option maxRecDepth 100000 in
set_option maxHeartbeats 4000000 in
theorem named1_calls {W : World} {nm s : ByteArray} {bd : Int} {vi vo : Value} {bx : Nat} (hb : W.cell? ⟨bx, 0, none⟩ = some (.string s)) : Calls Tryz.prog 92 #[.agg (tsC nm bd vi vo).toArray, .pointer (some ⟨bx, 0, none⟩)] W fun e w' => e = .returned (.bool (decide (nm = s))) ∧ Below W.heap.size W w' := by
  have hq := strI_eq nm s
  go_enter Tryz.func92, Tryz.ntmps92
  go_wp2_with (first
    | (refine wpList_boxJ rfl 25 (.tmp 0) rfl (cs := tsC nm bd vi vo) rfl ?_; intro w2 hA2 hb2 hs2; have c0 := (tsC_arr hA2).1; have hbx := (hb2.cell (p := ⟨bx, 0, none⟩) (World.block_lt_of_cell? _ _ hb)).trans hb; have HB2 := hide hb2; clear hA2 hb2 hs2 hb)
    | fail)
  go_ret
  exact ⟨by first | rfl | (rw [← hq]; rfl), HB2.out⟩
set_option maxRecDepth 100000 in
set_option maxHeartbeats 4000000 in
theorem indexN_calls {w W : World} {d : Nat} {v : Value} {ts : List Tsk} {s : ByteArray} {bx : Nat} (hT : IsTas w d v ts) (hw : Below w.heap.size w W) (hb : W.cell? ⟨bx, 0, none⟩ = some (.string s)) : Calls Tryz.prog 123 #[v, .func (.func 92) #[] #[.pointer (some ⟨bx, 0, none⟩)]] W fun e w' => ∃ x : Int, e = .returned (.int .i64 x) ∧ decide (0 ≤ x) = hasB (ts.map (·.name)) s ∧ Below W.heap.size W w' := by
  obtain ⟨a, c, rfl, h1, h2⟩ := hT.shape
  have HT := hide hT
  have HW := hide hw
  have HBX := hide hb
  have HNC := hide (fun (W2 : World) (h : Below W.heap.size W W2) (nm : ByteArray) (bd : Int) (vi vo : Value) => named1_calls (nm := nm) (bd := bd) (vi := vi) (vo := vo) ((h.cell (p := ⟨bx, 0, none⟩) (World.block_lt_of_cell? _ _ hb)).trans hb))
  have hli : (ts.length : Int) ≤ 9223372036854775807 := by omega
  obtain ⟨hb0, hhb⟩ : ∃ x, x = hasB (ts.map (·.name)) s := ⟨_, rfl⟩
  rw [← hhb]
  have HHB := hide hhb
  clear hT hw hb h1 h2 hhb
  go_enter Tryz.func123, Tryz.ntmps123
  go_wp2_with fail
  go_loopw [8] (fun iv wr => ∃ j : Nat, iv = .int .i64 (j : Int) ∧ j ≤ ts.length ∧ Hid (Below W.heap.size W wr ∧ ∀ k, k < j → (ts.getD k .nul).name ≠ s)) (fun iv _ => ts.length - (intOf iv).toNat)
  case atStart => exact ⟨0, rfl, Nat.zero_le _, Below.refl _ _, fun k hk => absurd hk (by omega)⟩
  case round =>
    obtain ⟨j, rfl, hjq, HJ⟩ := hrel
    by_cases hlt : j < ts.length
    · have hlti : (j : Int) < (ts.length : Int) := by omega
      obtain ⟨b, o, c', vi, vq, hv, hrg, _⟩ := HT.out.at hlt
      cases hv
      have hrr : wr.rangeAt b (o + j * 4) (tsC (ts.getD j .nul).name (ts.getD j .nul).budget vi vq) := rangeAt_below hrg (HW.out.trans (HJ.out.1.mono HW.out.size))
      have hwj : IntKind.i64.wrap ((j : Int) + 1) = ((j + 1 : Nat) : Int) := by rw [IntKind.wrap_i64]; omega
      obtain ⟨T, hTe⟩ : ∃ x, x = ts.getD j .nul := ⟨_, rfl⟩
      rw [← hTe] at hrr
      have HTE := hide hTe
      have HNJ := hide (HNC.out wr HJ.out.1 T.name T.budget vi vq)
      clear hrg hTe
      by_cases hq : T.name = s
      · rw [decide_eq_true hq] at HNJ
        have HV : Hid (hb0 = true) := hide (by rw [HHB.out]; exact hasB_map hlt (by rw [← HTE.out]; exact hq))
        clear hq
        go_wp2_with (first
          | (refine wpList_loadJ rfl 25 (.tmp 14) rfl b (o + j * 4) rfl (tsC T.name T.budget vi vq) _ hrr Tryz.underlying25 rfl (infoTss _ _ _ _) ?_)
          | fail)
        refine (unhide HNJ).mono ?_
        rintro e w5 ⟨rfl, hb5⟩
        have HB5 := hide (HJ.out.1.trans (hb5.mono HJ.out.1.size))
        clear hb5 hrr
        go_wp2
        go_ret
        exact ⟨(j : Int), rfl, by rw [HV.out]; exact decide_eq_true (by omega), HB5.out⟩
      · rw [decide_eq_false hq] at HNJ
        have HQ := hide hq
        clear hq
        go_wp2_with (first
          | (refine wpList_loadJ rfl 25 (.tmp 14) rfl b (o + j * 4) rfl (tsC T.name T.budget vi vq) _ hrr Tryz.underlying25 rfl (infoTss _ _ _ _) ?_)
          | fail)
        refine (unhide HNJ).mono ?_
        rintro e w5 ⟨rfl, hb5⟩
        have HB5 := hide (HJ.out.1.trans (hb5.mono HJ.out.1.size))
        clear hb5 hrr
        go_wp2
        go_roundw
        case rel => exact ⟨j + 1, by go_num, by omega, HB5.out, fun k hk => by
          by_cases e : k = j
          · rw [e, ← HTE.out]; exact HQ.out
          · exact HJ.out.2 k (by omega)⟩
        case measure => simp [intOf]; omega
    · have HV : Hid (hb0 = false) := hide (by rw [HHB.out]; exact hasB_map_no fun k hk => HJ.out.2 k (by omega))
      have hlti : ¬ (j : Int) < (ts.length : Int) := by omega
      have hltd : decide ((j : Int) < (ts.length : Int)) = false := decide_eq_false hlti
      go_wp2
      go_ret
      exact ⟨-1, rfl, by rw [HV.out]; rfl, HJ.out.1⟩
set_option maxRecDepth 100000 in
set_option maxHeartbeats 4000000 in
theorem named_calls {w W : World} {d : Nat} {v : Value} {ts : List Tsk} (s : ByteArray) (hT : IsTas w d v ts) (hw : Below w.heap.size w W) : Calls Tryz.prog 52 #[v, .string s] W fun e w' => e = .returned (.bool (hasB (ts.map (·.name)) s)) ∧ Below W.heap.size W w' := by
  have hmf : ∀ (fn : Fn) (first cap : Array Value) (w : World), (Instr.makeFunc fn first cap).run Tryz.prog w = .ok (.func fn first cap) w := fun _ _ _ _ => rfl
  have HIX := hide (fun (W2 : World) (bx : Nat) (h : Below w.heap.size w W2) (hb : W2.cell? ⟨bx, 0, none⟩ = some (.string s)) => indexN_calls hT h hb)
  obtain ⟨a, c, rfl, _, _⟩ := hT.shape
  have HW := hide hw
  obtain ⟨hb0, hhb⟩ : ∃ x, x = hasB (ts.map (·.name)) s := ⟨_, rfl⟩
  rw [← hhb]
  rw [← hhb] at HIX
  have HCT : Hid (∀ (W2 : World) (bx : Nat), Below w.heap.size w W2 → W2.cell? ⟨bx, 0, none⟩ = some (.string s) → Calls Tryz.prog 91 #[.slice a ts.length c, .func (.func 92) #[] #[.pointer (some ⟨bx, 0, none⟩)]] W2 fun e w' => e = .returned (.bool hb0) ∧ Below W2.heap.size W2 w') := hide (fun W2 bx h hb => by
    have HI := hide (HIX.out W2 bx h hb)
    clear hT hw HIX hhb h hb hmf HW
    go_enter Tryz.func91, Tryz.ntmps91
    go_wp2_with fail
    refine (unhide HI).mono ?_
    rintro e w5 ⟨x, rfl, hx, hb5⟩
    have HX := hide hx
    have HB5 := hide hb5
    clear hx hb5
    go_wp2
    go_ret
    exact ⟨by rw [← HX.out]; rfl, HB5.out⟩)
  clear hT hw HIX hhb
  go_enter Tryz.func52, Tryz.ntmps52
  go_wp2_with fail
  have HB1 := hide (jalloc_below W (.cells #[.string s] 9))
  refine (HCT.out _ W.heap.size (HW.out.trans (HB1.out.mono HW.out.size)) ((Arr.new W [.string s] 9).cell 0)).mono ?_
  rintro e w5 ⟨rfl, hb5⟩
  have HB5 := hide (below_then HB1.out hb5)
  clear hb5
  go_wp2
  go_ret
  exact ⟨rfl, HB5.out⟩
end Go.Proofs.YtfhfobikbfbajaaGreatDoor

namespace Go.Proofs.YtfhfobikbfbajaaGreatDoor
open Go.RowKit Go.Maps

theorem Apt.le {sl : List ByteArray} (h : Apt sl) {i j : Nat} (hij : i ≤ j) (hj : j < sl.length) : ordS (sl.getD i default) (sl.getD j default) ≤ 0 := by
  rcases Nat.lt_or_ge i j with q | q
  · have := h.up i j q hj; omega
  · have e : i = j := by omega
    rw [e, qord_self]; omega
theorem Apt.low {sl : List ByteArray} (h : Apt sl) {p : ByteArray} {k m : Nat} (hk : k ≤ m) (hm : m < sl.length) (ho : ordS (sl.getD m default) p < 0) : ordS (sl.getD k default) p < 0 := by
  have h1 := h.le hk hm
  have h2 := qord_trans _ _ _ h1 (show ordS (sl.getD m default) p ≤ 0 by omega)
  have h3 := qord_bd (sl.getD k default) p
  rcases Classical.em (ordS (sl.getD k default) p = 0) with e | e
  · have := (h2.2 e).2; omega
  · omega
theorem Apt.high {sl : List ByteArray} (h : Apt sl) {p : ByteArray} {k m : Nat} (hk : m ≤ k) (hm : k < sl.length) (ho : 0 ≤ ordS (sl.getD m default) p) : 0 ≤ ordS (sl.getD k default) p := by
  rcases Classical.em (ordS (sl.getD k default) p < 0) with q | q
  · have := h.low hk hm q; omega
  · omega
theorem pwres2' {fn : Func} {p q : Tmp} {tmps : Array Value} {w : World} (h : fn.results = #[.tmp p, .tmp q]) : (results fn tmps).run Tryz.prog w = .ok (.tuple #[tmps.getD p undef, tmps.getD q undef]) w := by
  simp [results, h]
set_option maxRecDepth 100000 in
set_option maxHeartbeats 4000000 in
theorem search_calls {w : World} {v : Value} {sl : List ByteArray} (hS : IsS w v sl) (hA : Apt sl) (hz : ∀ x ∈ sl, x.size ≤ 1000000) (hl : sl.length ≤ 1000000000) (p : ByteArray) (hp : p.size ≤ 1000000) :
    Calls Tryz.prog 126 #[v, .string p, .func (.func 127) #[] #[]] w fun e w' => ∃ (i : Nat) (f : Bool), e = .returned (.tuple #[.int .i64 (i : Int), .bool f]) ∧ Spl sl p i ∧ Below w.heap.size w w' := by
  have HS := hide hS
  have HA := hide hA
  have HZ := hide hz
  obtain ⟨a, c, rfl, hlc, hmc, _, hcc⟩ := hS
  have HC := hide hcc
  clear hz hA hcc
  go_enter Tryz.func126, Tryz.ntmps126
  go_wp2_with fail
  go_loopw [9, 10, 11] (fun iv jv _ wr => ∃ i j : Nat, iv = .int .i64 (i : Int) ∧ jv = .int .i64 (j : Int) ∧ i ≤ j ∧ j ≤ sl.length ∧ Hid (Below w.heap.size w wr ∧ (∀ k, k < i → ordS (sl.getD k default) p < 0) ∧ (∀ k, j ≤ k → k < sl.length → 0 ≤ ordS (sl.getD k default) p))) (fun iv jv _ _ => (intOf jv).toNat - (intOf iv).toNat)
  case atStart => exact ⟨0, sl.length, rfl, rfl, Nat.zero_le _, Nat.le_refl _, Below.refl _ _, fun k hk => absurd hk (by omega), fun k h1 h2 => absurd h1 (by omega)⟩
  case round =>
    obtain ⟨i, j, rfl, rfl, hij, hjn, HJ⟩ := hrel
    by_cases hlt : i < j
    · have hlti : (i : Int) < (j : Int) := by omega
      obtain ⟨m, hm⟩ : ∃ m : Nat, m = (i + j) / 2 := ⟨_, rfl⟩
      have hdv : ((i : Int) + (j : Int)) / 2 = (m : Int) := by omega
      have him : i ≤ m := by omega
      have hmj : m < j := by omega
      have hml : (m : Int) < (sl.length : Int) := by omega
      have hwm : IntKind.i64.wrap ((m : Int) + 1) = ((m + 1 : Nat) : Int) := by rw [IntKind.wrap_i64]; omega
      obtain ⟨b, o, rfl, hcl⟩ := HC.out (by omega)
      have hx := (HJ.out.1.cell (p := ⟨b, o + m, none⟩) (World.block_lt_of_cell? w _ (hcl m (by omega)))).trans (hcl m (by omega))
      have HORD := hide (fun W => order_calls (sl.getD m default) p (HZ.out _ (getS (by omega))) hp W)
      have HLO := hide (fun k (hk : k ≤ m) (ho : ordS (sl.getD m default) p < 0) => HA.out.low hk (by omega) ho)
      have HHI := hide (fun k (hk : m ≤ k) (h2 : k < sl.length) (ho : 0 ≤ ordS (sl.getD m default) p) => HA.out.high hk h2 ho)
      obtain ⟨r, hr⟩ : ∃ r, r = ordS (sl.getD m default) p := ⟨_, rfl⟩
      rw [← hr] at HORD HLO HHI
      obtain ⟨s, hs⟩ : ∃ s, s = sl.getD m default := ⟨_, rfl⟩
      rw [← hs] at hx HORD
      clear hm hcl hr hs
      by_cases hr0 : r < 0
      · go_wp2_with fail
        refine (unhide HORD _).mono ?_
        rintro e w5 ⟨rfl, hb5⟩
        have HB5 := hide (HJ.out.1.trans (hb5.mono HJ.out.1.size))
        clear hb5 hx
        go_wp2
        go_roundw
        case rel => exact ⟨m + 1, j, by go_num, rfl, by omega, hjn, HB5.out, fun k hk => HLO.out k (by omega) hr0, HJ.out.2.2⟩
        case measure => simp [intOf]; omega
      · have hr1 : decide (r < 0) = false := decide_eq_false hr0
        go_wp2_with fail
        refine (unhide HORD _).mono ?_
        rintro e w5 ⟨rfl, hb5⟩
        have HB5 := hide (HJ.out.1.trans (hb5.mono HJ.out.1.size))
        clear hb5 hx
        go_wp2
        go_roundw
        case rel => exact ⟨i, m, rfl, rfl, him, by omega, HB5.out, HJ.out.2.1, fun k h1 h2 => HHI.out k h1 h2 (by omega)⟩
        case measure => simp [intOf]; omega
    · have hlti : ¬ (i : Int) < (j : Int) := by omega
      have hltd : decide ((i : Int) < (j : Int)) = false := decide_eq_false hlti
      have HSP : Hid (Spl sl p i) := hide ⟨by omega, HJ.out.2.1, fun k h1 h2 => HJ.out.2.2 k (by omega) h2⟩
      by_cases hin : i < sl.length
      · have hini : (i : Int) < (sl.length : Int) := by omega
        obtain ⟨b, o, rfl, hcl⟩ := HC.out (by omega)
        have hx := (HJ.out.1.cell (p := ⟨b, o + i, none⟩) (World.block_lt_of_cell? w _ (hcl i (by omega)))).trans (hcl i (by omega))
        have HORD := hide (fun W => order_calls (sl.getD i default) p (HZ.out _ (getS (by omega))) hp W)
        obtain ⟨r, hr⟩ : ∃ r, r = ordS (sl.getD i default) p := ⟨_, rfl⟩
        rw [← hr] at HORD
        obtain ⟨s, hs⟩ : ∃ s, s = sl.getD i default := ⟨_, rfl⟩
        rw [← hs] at hx HORD
        clear hcl hr hs
        go_wp2_with fail
        refine (unhide HORD _).mono ?_
        rintro e w5 ⟨rfl, hb5⟩
        have HB5 := hide (HJ.out.1.trans (hb5.mono HJ.out.1.size))
        clear hb5 hx
        go_wp2
        refine bodyPost_ret (pwres2' (p := 6) (q := 7) rfl) rfl ?_
        exact ⟨i, _, rfl, HSP.out, HB5.out⟩
      · have hini : ¬ (i : Int) < (sl.length : Int) := by omega
        have hind : decide ((i : Int) < (sl.length : Int)) = false := decide_eq_false hini
        go_wp2
        refine bodyPost_ret (pwres2' (p := 6) (q := 7) rfl) rfl ?_
        first | exact ⟨i, ⟨_, rfl⟩, HSP.out, HJ.out.1⟩ | exact ⟨i, ⟨rfl, rfl⟩, HSP.out, HJ.out.1⟩ | exact ⟨i, rfl, HSP.out, HJ.out.1⟩ | exact ⟨i, by simp, HSP.out, HJ.out.1⟩
end Go.Proofs.YtfhfobikbfbajaaGreatDoor

namespace Go.Proofs.YtfhfobikbfbajaaGreatDoor
open Go.RowKit Go.Maps

theorem sh_mid {A M R : List Value} {y p : Value} : jputs (jputs (A ++ ((M ++ [y]) ++ R)) (A.length + 1) M) (A.length + 0) [p] = A ++ ((p :: M) ++ R) := by
  have e1 : jputs (M ++ [y]) 1 M = (match M with | [] => y | h :: _ => h) :: M := by
    cases M with
    | nil => rfl
    | cons h M =>
      have := jputs_app (h :: M) [h] (M ++ [y]) [] 0 (by simp)
      rw [List.append_nil, List.append_nil, jputs_all (h :: M) (M ++ [y]) (by simp)] at this
      exact this
  rw [jputs_app M A (M ++ [y]) R 1 (by simp; omega), e1, jputs_app [p] A _ R 0 (by simp)]
  rfl
theorem gr_mid {A M Z R : List Value} {p : Value} (h : Z.length = M.length + 1) : jputs (jputs (A ++ (Z ++ R)) (A.length + 0) [p]) (A.length + 1) M = A ++ ((p :: M) ++ R) := by
  cases Z with
  | nil => simp at h
  | cons z Z =>
    have hz : M.length = Z.length := by simpa using h.symm
    rw [jputs_app [p] A (z :: Z) R 0 (by simp)]
    show jputs (A ++ ((p :: Z) ++ R)) (A.length + 1) M = _
    rw [jputs_app M A (p :: Z) R 1 (by simp; omega)]
    have := jputs_app M [p] Z [] 0 (by omega)
    rw [List.append_nil, List.append_nil, jputs_all M Z hz] at this
    have e : jputs (p :: Z) 1 M = p :: M := this
    rw [e]
theorem sV_insL (sl : List ByteArray) (p : ByteArray) (i : Nat) : sV (insL sl p i) = (sV sl).take i ++ (.string p :: (sV sl).drop i) := by
  unfold insL sV
  rw [List.map_append, List.map_cons, List.map_take, List.map_drop]
theorem Row.whole {w : World} {B g n c : Nat} {t : TypeId} {xs : List Value} (h : Row w B t (.slice (some ⟨g, 0, none⟩) n c) xs) : ∃ R, Arr w g t (xs ++ R) ∧ xs.length = n ∧ n + R.length = c ∧ c ≤ 9223372036854775807 ∧ B ≤ g := by
  obtain ⟨hl, hh⟩ := h
  rcases hh with ⟨e, _⟩ | ⟨g', cap, cur, e, hB, hg, h1, h2, h3, h4⟩
  · cases e
  · cases e
    rw [Nat.mul_one] at h3 h4
    refine ⟨cur.toList.drop xs.length, ?_, rfl, ?_, by simpa [maxLen] using h2, hB⟩
    · have e : xs ++ cur.toList.drop xs.length = cur.toList := by
        conv => lhs; lhs; rw [← h4]
        exact List.take_append_drop _ _
      rw [e]
      unfold Arr
      exact hg
    · have : (cur.toList.drop xs.length).length = cur.size - xs.length := by simp
      omega
theorem Arr.row {w : World} {B g c : Nat} {t : TypeId} {xs R : List Value} (h : Arr w g t (xs ++ R)) (hc : xs.length + R.length = c) (hm : c ≤ 9223372036854775807) (hB : B ≤ g) : Row w B t (.slice (some ⟨g, 0, none⟩) xs.length c) xs := by
  refine ⟨by simp, Or.inr ⟨g, c, (xs ++ R).toArray, rfl, hB, h, by omega, by simpa [maxLen] using hm, by simp; omega, by simp⟩⟩
theorem infoStz : (Tryz.prog.info? 9).map (fun i => (i.zero, i.size, i.bytes)) = some (some (.string ByteArray.empty), 1, 16) := by kernel_rfl
theorem infoStx : (Tryz.prog.info? 9).map (·.size) = some 1 := by kernel_rfl
theorem undAp : Tryz.prog.underlying 74 = some (.slice 9) := by kernel_rfl
theorem undSt : Tryz.prog.underlying 22 = some (.slice 9) := by kernel_rfl
theorem szStr (w : World) : (Go.sizeOf 9).run Tryz.prog w = .ok 1 w := by kernel_rfl
section
variable {w : World} {B g n c i vb : Nat} {xs : List Value} {p : ByteArray}
set_option maxRecDepth 100000 in
set_option maxHeartbeats 4000000 in
theorem insert_shift (hr : Row w B 9 (.slice (some ⟨g, 0, none⟩) n c) xs) (h1 : ∀ u ∈ xs, u.oneCell' = true) (hi : i < n) (hroom : n + 1 ≤ c) (hv : Arr w vb 9 [.string p]) (hne : vb ≠ g) :
    Calls Tryz.prog 129 #[.slice (some ⟨g, 0, none⟩) n c, .int .i64 (i : Int), .slice (some ⟨vb, 0, none⟩) 1 1] w fun e w' => e = .returned (.slice (some ⟨g, 0, none⟩) (n + 1) c) ∧ Hid (Row w' B 9 (.slice (some ⟨g, 0, none⟩) (n + 1) c) (xs.take i ++ (.string p :: xs.drop i)) ∧ w.grownBy w' (some g)) := by
  obtain ⟨R, ha, hxn, hRc, hc63, hBg⟩ := hr.whole
  obtain ⟨y, R, rfl⟩ : ∃ y R', R = y :: R' := by
    cases R with
    | nil => simp at hRc; omega
    | cons y R => exact ⟨y, R, rfl⟩
  obtain ⟨A, hA⟩ : ∃ A, A = xs.take i := ⟨_, rfl⟩
  obtain ⟨M, hM⟩ : ∃ M, M = xs.drop i := ⟨_, rfl⟩
  have hxs : xs = A ++ M := by rw [hA, hM, List.take_append_drop]
  have hAl : A.length = i := by rw [hA, List.length_take]; omega
  have hMl : M.length = n - i := by rw [hM, List.length_drop, hxn]
  rw [← hA, ← hM]
  have ha0 : Arr w.drew g 9 (A ++ ((M ++ [y]) ++ R)) := by
    have : xs ++ y :: R = A ++ ((M ++ [y]) ++ R) := by rw [hxs]; simp
    rw [← this]; exact ha
  have hv0 : Arr w.drew vb 9 [.string p] := hv
  obtain ⟨hW1, hg1⟩ := jarr_puts M _ (i + 1) w.drew ha0
  obtain ⟨W1, hW1e⟩ : ∃ W1, W1 = w.drew.setCells g (i + 1) M := ⟨_, rfl⟩
  rw [← hW1e] at hW1 hg1
  have hv1 : Arr W1 vb 9 [.string p] := hv0.keep (hg1.block vb hv0.lt (fun e => hne (by injection e)))
  have hcell0 : ∀ j, w.drew.cell? ⟨g, j, none⟩ = (A ++ ((M ++ [y]) ++ R))[j]? := fun j => ha0.cell j
  have hall : (A ++ ((M ++ [y]) ++ R)).length = c := by simp only [List.length_append, List.length_cons, List.length_nil] at hRc ⊢; omega
  have hcp1 : ∀ ty dc sc, (Builtin.copy_ #[74, 74] ty #[.slice (some ⟨g, i + 1, none⟩) (n + 1 - (i + 1)) dc, .slice (some ⟨g, i, none⟩) (n + 1 - i) sc]).run Tryz.prog w.drew = .ok (goInt M.length) W1 := fun ty dc sc => by
    rw [hW1e]
    refine run_copy_cells w.drew _ _ ty 9 g (i + 1) (n + 1 - (i + 1)) dc ⟨g, i, none⟩ (n + 1 - i) sc M undAp infoStx (by rw [hMl]; simp only [Nat.min_def]; split <;> omega) (fun j v hj => ?_) (fun j hj => ?_) (fun j _ => ha0.frozen _) (fun v hv => h1 v (by rw [hM] at hv; exact List.mem_of_mem_drop hv))
    · rw [Addr.add_lit, hcell0, List.getElem?_append_right (by omega), hAl, show i + j - i = j by omega, List.append_assoc, List.getElem?_append_left (List.getElem?_eq_some_iff.1 hj).1]
      exact hj
    · rw [hcell0, List.getElem?_eq_getElem (by omega)]; rfl
  have hlen1 : (jputs (A ++ ((M ++ [y]) ++ R)) (i + 1) M).length = c := by rw [jputs_len]; exact hall
  obtain ⟨hW2, hg2⟩ := jarr_puts [.string p] _ (i + 0) W1 hW1
  have hcp2 : ∀ (W : World), (∀ x, W.cell? x = W1.cell? x) → (∀ x, W.frozen? x = W1.frozen? x) → ∀ ty dc, (Builtin.copy_ #[74, 22] ty #[.slice (some ⟨g, i, none⟩) (n + 1 - i) dc, .slice (some ⟨vb, 0, none⟩) 1 1]).run Tryz.prog W = .ok (goInt 1) (W.setCells g i [.string p]) := fun W hWc hWf ty dc => by
    refine run_copy_cells W _ _ ty 9 g i (n + 1 - i) dc ⟨vb, 0, none⟩ 1 1 [.string p] undAp infoStx (by simp only [Nat.min_def, List.length_singleton]; split <;> omega) (fun j v hj => ?_) (fun j hj => ?_) (fun j _ => ?_) (fun v hv => by rw [List.mem_singleton.1 hv]; rfl)
    · rw [Addr.add_lit, hWc, Nat.zero_add]
      exact (hv1.cell j).trans hj
    · rw [hWc, hW1.cell, List.getElem?_eq_getElem (by rw [hlen1]; simp at hj; omega)]; rfl
    · rw [hWf]; exact hW1.frozen _
  have hszc : xs.length + ((y :: R).length) = c := by rw [hxn]; exact hRc
  have hov : ∀ lb cb, (callFunc 149 #[.slice (some ⟨vb, 0, none⟩) 1 1, .slice (some ⟨g, i + 1, none⟩) lb cb]).run Tryz.prog w = .ok (.value (.bool false)) w := fun lb cb => by
    rw [run_callFunc_extern Tryz.func149 (by kernel_rfl) (by kernel_rfl) (by kernel_rfl) (e := Extern.SlicesOverlaps.overlaps #[22, 22] #[4]) (by kernel_rfl),
      Lib.run_overlaps_apart w 22 4 9 undSt 1 szStr ⟨vb, 0, none⟩ ⟨g, i + 1, none⟩ 1 1 lb cb hne 9 9 1 c (by unfold World.shape?; rw [show w.heap[vb]? = _ from hv]; rfl) (by unfold World.shape?; rw [show w.heap[g]? = _ from ha]; simpa using hszc) (by omega) (hv.frozen _) (hv.frozen _)]
    rfl
  have hz2 : ¬ ((i : Int) = (n : Int)) := by omega
  have hz3 : ¬ (c : Int) < (n : Int) + 1 := by omega
  have hw1 : IntKind.i64.wrap ((i : Int) + 1) = (i : Int) + 1 := by rw [IntKind.wrap_i64]; omega
  have hw2 : IntKind.i64.wrap ((n : Int) + 1) = (n : Int) + 1 := by rw [IntKind.wrap_i64]; omega
  have hb1 : (0 : Int) ≤ (i : Int) + 1 := by omega
  have hin : i ≤ n := by omega
  have htn : ((i : Int) + 1).toNat = i + 1 := by omega
  have htn2 : ((n : Int) + 1).toNat = n + 1 := by omega
  have hb2 : ¬ (c = i + 1) := by omega
  have hb3 : (i : Int) ≤ (n : Int) + 1 := by omega
  have hb4 : ¬ (c = i) := by omega
  have HFIN : Hid (Row (W1.setCells g (i + 0) [.string p]) B 9 (.slice (some ⟨g, 0, none⟩) (n + 1) c) (A ++ (.string p :: M)) ∧ w.grownBy (W1.setCells g (i + 0) [.string p]) (some g)) := hide (by
    rw [← hAl] at hW2
    rw [sh_mid] at hW2
    have e : (A ++ (Value.string p :: M)).length = n + 1 := by simp; omega
    have hW3 : Arr (W1.setCells g (A.length + 0) [.string p]) g 9 ((A ++ (.string p :: M)) ++ R) := by rw [List.append_assoc]; exact hW2
    rw [hAl] at hW3
    have := hW3.row (B := B) (c := c) (by rw [e]; simp at hRc; omega) hc63 hBg
    rw [e] at this
    exact ⟨this, hg2.os.trans hg1.os, hg2.tape.trans hg1.tape, hg2.output.trans hg1.output, Nat.le_trans hg1.size hg2.size, fun k hk hn => (hg2.block k (Nat.lt_of_lt_of_le hk hg1.size) hn).trans (hg1.block k hk hn)⟩)
  have HW1 := hide hW1e
  have HNC : Hid (n + 1 ≤ c ∧ c ≤ 9223372036854775807) := hide ⟨hroom, hc63⟩
  clear hszc hW2 hg2 hW1 hg1 hv1 hv0 ha0 hcell0 hall hlen1 hA hM hxs hAl hMl hr ha hv h1 hxn hRc hBg
  go_enter Tryz.func129, Tryz.ntmps129
  go_wp2_with (simp only [hov])
  refine wp_region_held_drew (S := fun _ => True) (by kernel_rfl) (trivial) (fun hHeld => ?_)
  refine wpAnyH_take (i := 0) (v := .slice (some ⟨g, 0, none⟩) (n + 1) c) rfl (by kernel_rfl) (by kernel_rfl) (by kernel_rfl) (fun _ _ _ h => h) (Or.inl ⟨by rfl, fun w hSw => by go_simp⟩) (by assumption) ?_
  simp only [List.getElem_toArray, List.getElem_cons_zero, Act.put, List.setIfInBounds_toArray, List.set_cons_zero, List.set_cons_succ]
  refine wpAnyH_take (i := 1) (v := .int .i64 (i : Int)) rfl (by kernel_rfl) (by kernel_rfl) (by kernel_rfl) (fun _ _ _ h => h) (Or.inl ⟨by rfl, fun w hSw => by go_simp⟩) (by assumption) ?_
  simp only [List.getElem_toArray, List.getElem_cons_succ, List.getElem_cons_zero, Act.put, List.setIfInBounds_toArray, List.set_cons_zero, List.set_cons_succ]
  refine wpAnyH_take (i := 2) (v := .int .i64 1) rfl (by kernel_rfl) (by kernel_rfl) (by kernel_rfl) (fun _ _ _ h => h) (Or.inl ⟨by rfl, fun w hSw => by go_simp⟩) (by assumption) ?_
  simp only [List.getElem_toArray, List.getElem_cons_succ, List.getElem_cons_zero, Act.put, List.setIfInBounds_toArray, List.set_cons_zero, List.set_cons_succ]
  refine wpAnyH_take (i := 3) (v := .int .i64 ((i : Int) + 1)) rfl (by kernel_rfl) (by kernel_rfl) (by kernel_rfl) (fun _ _ _ h => h) (Or.inl ⟨by rfl, fun w hSw => by go_simp⟩) (by assumption) ?_
  simp only [List.getElem_toArray, List.getElem_cons_succ, List.getElem_cons_zero, Act.put, List.setIfInBounds_toArray, List.set_cons_zero, List.set_cons_succ]
  refine wpAnyH_take (i := 4) (v := .slice (some ⟨g, i + 1, none⟩) (n + 1 - (i + 1)) (c - (i + 1))) rfl (by kernel_rfl) (by kernel_rfl) (by kernel_rfl) (fun _ _ _ h => h) (Or.inl ⟨by rfl, fun w hSw => by go_simp⟩) (by assumption) ?_
  simp only [List.getElem_toArray, List.getElem_cons_succ, List.getElem_cons_zero, Act.put, List.setIfInBounds_toArray, List.set_cons_zero, List.set_cons_succ]
  refine wpAnyH_take (i := 5) (v := .slice (some ⟨g, 0, none⟩) (n + 1) c) rfl (by kernel_rfl) (by kernel_rfl) (by kernel_rfl) (fun _ _ _ h => h) (Or.inl ⟨by rfl, fun w hSw => by go_simp⟩) (by assumption) ?_
  simp only [List.getElem_toArray, List.getElem_cons_succ, List.getElem_cons_zero, Act.put, List.setIfInBounds_toArray, List.set_cons_zero, List.set_cons_succ]
  refine wpAnyH_take (i := 6) (v := .int .i64 (i : Int)) rfl (by kernel_rfl) (by kernel_rfl) (by kernel_rfl) (fun _ _ _ h => h) (Or.inl ⟨by rfl, fun w hSw => by go_simp⟩) (by assumption) ?_
  simp only [List.getElem_toArray, List.getElem_cons_succ, List.getElem_cons_zero, Act.put, List.setIfInBounds_toArray, List.set_cons_zero, List.set_cons_succ]
  refine wpAnyH_take (i := 7) (v := .slice (some ⟨g, i, none⟩) (n + 1 - i) (c - i)) rfl (by kernel_rfl) (by kernel_rfl) (by kernel_rfl) (fun _ _ _ h => h) (Or.inl ⟨by rfl, fun w hSw => by go_simp⟩) (by assumption) ?_
  simp only [List.getElem_toArray, List.getElem_cons_succ, List.getElem_cons_zero, Act.put, List.setIfInBounds_toArray, List.set_cons_zero, List.set_cons_succ]
  refine wpAnyH_ready (rs := [8]) (by kernel_rfl) (by simp) (AllReadyH.cons rfl (fun K hK => ?_) AllReadyH.nil)
  refine step_copy_runI (by rfl) (.tmp 73) (.tmp 76) 74 74 rfl _ _ rfl rfl (hcp1 _ _ _) ?_
  refine hK.out _ _ (trivial) (fun h9 => ?_)
  clear hK K
  simp only [List.getElem_toArray, List.getElem_cons_succ, List.getElem_cons_zero, Act.put, List.setIfInBounds_toArray, List.set_cons_zero, List.set_cons_succ]
  refine wpAnyH_done (by kernel_rfl) ?_ _
  go_wp2_with (at_builtin; refine wpList_copy_runI _ rfl _ _ 74 22 rfl _ _ rfl rfl (hcp2 _ (fun _ => rfl) (fun _ => rfl) _ _) ?_)
  go_ret
  exact ⟨rfl, hide (by rw [← HW1.out]; exact HFIN.out)⟩
set_option maxRecDepth 100000 in
set_option maxHeartbeats 4000000 in
theorem insert_grow (hr : Row w B 9 (.slice (some ⟨g, 0, none⟩) n c) xs) (h1 : ∀ u ∈ xs, u.oneCell' = true) (hi : i < n) (hroom : c < n + 1) (hbig : n ≤ 1000000000) (hv : Arr w vb 9 [.string p]) (hB : B ≤ w.heap.size) :
    Calls Tryz.prog 129 #[.slice (some ⟨g, 0, none⟩) n c, .int .i64 (i : Int), .slice (some ⟨vb, 0, none⟩) 1 1] w fun e w' => ∃ G : Nat, e = .returned (.slice (some ⟨w.heap.size, 0, none⟩) (n + 1) G) ∧ Hid (Row w' B 9 (.slice (some ⟨w.heap.size, 0, none⟩) (n + 1) G) (xs.take i ++ (.string p :: xs.drop i)) ∧ Below w.heap.size w w') := by
  obtain ⟨R, ha, hxn, hRc, hc63, hBg⟩ := hr.whole
  obtain ⟨A, hA⟩ : ∃ A, A = xs.take i := ⟨_, rfl⟩
  obtain ⟨M, hM⟩ : ∃ M, M = xs.drop i := ⟨_, rfl⟩
  have hxs : xs = A ++ M := by rw [hA, hM, List.take_append_drop]
  have hAl : A.length = i := by rw [hA, List.length_take]; omega
  have hMl : M.length = n - i := by rw [hM, List.length_drop, hxn]
  rw [← hA, ← hM]
  have hgl := ha.lt
  have hvl := hv.lt
  obtain ⟨i0, hi0, hz0, hzs, hzb⟩ := info_parts infoStz
  have hkk : (n : Int) + 1 - (i : Int) = ((n + 1 - i : Nat) : Int) := by omega
  have hik : i + (n + 1 - i) = n + 1 := by omega
  have hold : (Builtin.firstCells i0.size i (.slice (some ⟨g, 0, none⟩) i c)).run Tryz.prog w.drew = .ok A.toArray w.drew := by
    rw [hzs]
    exact run_firstCells_some w.drew 1 i ⟨g, 0, none⟩ i c A (by omega) (fun j v hj => by
      rw [Addr.add_lit, Nat.zero_add]
      have := ha.cell j
      rw [hxs, List.append_assoc, List.getElem?_append_left (List.getElem?_eq_some_iff.1 hj).1, hj] at this
      exact this)
  obtain ⟨G, hG⟩ : ∃ G, G = grownCap w (n + 1) c 9 := ⟨_, rfl⟩
  obtain ⟨Z, hZ⟩ : ∃ Z : List Value, Z = (Builtin.zeroCells (Value.string ByteArray.empty).cells (n + 1 - i)).toList := ⟨_, rfl⟩
  obtain ⟨Y, hY⟩ : ∃ Y : List Value, Y = (Builtin.zeroCells (Value.string ByteArray.empty).cells (G - (n + 1))).toList := ⟨_, rfl⟩
  have hZl : Z.length = M.length + 1 := by rw [hZ, hMl]; simp [Builtin.zeroCells, Value.cells]; omega
  have hYl : Y.length = G - (n + 1) := by rw [hY]; simp [Builtin.zeroCells, Value.cells]
  have hGn : n + 1 ≤ G := by rw [hG]; exact grownCap_ge w _ _ _
  have hG63 : G ≤ 9223372036854775807 := by
    have := grownCap_le_maxLen w (n + 1) c 9 (by unfold maxLen; omega)
    rw [← hG] at this
    unfold maxLen at this
    omega
  obtain ⟨W1, hW1e⟩ : ∃ W1, W1 = w.drew.alloc (.cells (A ++ (Z ++ Y)).toArray 9) := ⟨_, rfl⟩
  have hrz : ∀ ty, (Builtin.append_ #[74, 3] ty #[.slice (some ⟨g, 0, none⟩) i c, .int .i64 ((n : Int) + 1 - (i : Int))]).run Tryz.prog w = .ok (.slice (some ⟨w.heap.size, 0, none⟩) (n + 1) G) W1 := fun ty => by
    have h := Lib.run_append_grow_zeros w 74 3 ty 9 i0 _ .i64 .i64 undAp Tryz.underlying3 hi0 hz0 (some ⟨g, 0, none⟩) i c A hold (n + 1 - i) (by omega) (by omega) (by omega) (by omega) (by rw [hzb]; omega) (by rw [hzb, hik]; exact growslice_fits hroom (by omega))
    rw [hik, ← hG] at h
    have e : A.toArray ++ Builtin.zeroCells (Value.string ByteArray.empty).cells (n + 1 - i) ++ Builtin.zeroCells (Value.string ByteArray.empty).cells (G - (n + 1)) = (A ++ (Z ++ Y)).toArray := by
      rw [hZ, hY]
      apply Array.ext'
      simp
    rw [hkk, h, hW1e, e]
  have hW1 : Arr W1 w.heap.size 9 (A ++ (Z ++ Y)) := by rw [hW1e]; exact Arr.new w.drew _ _
  have hb1 : Below w.heap.size w W1 := by rw [hW1e]; exact below_drew (jalloc_below w.drew _)
  have hall : (A ++ (Z ++ Y)).length = G := by simp only [List.length_append]; omega
  obtain ⟨hW2, hg2⟩ := jarr_puts [.string p] _ (i + 0) W1 hW1
  have hv1 : Arr W1 vb 9 [.string p] := hv.keep (hb1.block vb hvl)
  have ha1 : Arr W1 g 9 (xs ++ R) := ha.keep (hb1.block g hgl)
  have hlen2 : (jputs (A ++ (Z ++ Y)) (i + 0) [.string p]).length = G := by rw [jputs_len]; exact hall
  obtain ⟨W2, hW2e⟩ : ∃ W2, W2 = W1.setCells w.heap.size (i + 0) [.string p] := ⟨_, rfl⟩
  rw [← hW2e] at hW2 hg2
  have ha2 : Arr W2 g 9 (xs ++ R) := ha1.keep (hg2.block g ha1.lt (fun e => by injection e with e; omega))
  have hcp1 : ∀ (W : World), (∀ x, W.cell? x = W1.cell? x) → (∀ x, W.frozen? x = W1.frozen? x) → ∀ ty dc, (Builtin.copy_ #[74, 22] ty #[.slice (some ⟨w.heap.size, i, none⟩) (n + 1 - i) dc, .slice (some ⟨vb, 0, none⟩) 1 1]).run Tryz.prog W = .ok (goInt 1) (W.setCells w.heap.size i [.string p]) := fun W hWc hWf ty dc => by
    refine run_copy_cells W _ _ ty 9 w.heap.size i (n + 1 - i) dc ⟨vb, 0, none⟩ 1 1 [.string p] undAp infoStx (by simp only [Nat.min_def, List.length_singleton]; split <;> omega) (fun j v hj => ?_) (fun j hj => ?_) (fun j _ => ?_) (fun v hv => by rw [List.mem_singleton.1 hv]; rfl)
    · rw [Addr.add_lit, hWc, Nat.zero_add]
      exact (hv1.cell j).trans hj
    · rw [hWc, hW1.cell, List.getElem?_eq_getElem (by rw [hall]; simp at hj; omega)]; rfl
    · rw [hWf]; exact hW1.frozen _
  have hcp2 : ∀ (W : World), (∀ x, W.cell? x = W2.cell? x) → (∀ x, W.frozen? x = W2.frozen? x) → ∀ ty dc sc, (Builtin.copy_ #[74, 74] ty #[.slice (some ⟨w.heap.size, i + 1, none⟩) (n + 1 - (i + 1)) dc, .slice (some ⟨g, i, none⟩) (n - i) sc]).run Tryz.prog W = .ok (goInt M.length) (W.setCells w.heap.size (i + 1) M) := fun W hWc hWf ty dc sc => by
    refine run_copy_cells W _ _ ty 9 w.heap.size (i + 1) (n + 1 - (i + 1)) dc ⟨g, i, none⟩ (n - i) sc M undAp infoStx (by rw [hMl]; simp only [Nat.min_def]; split <;> omega) (fun j v hj => ?_) (fun j hj => ?_) (fun j _ => ?_) (fun v hv => h1 v (by rw [hM] at hv; exact List.mem_of_mem_drop hv))
    · rw [Addr.add_lit, hWc, ha2.cell, hxs, List.append_assoc, List.getElem?_append_right (by omega), hAl, show i + j - i = j by omega, List.getElem?_append_left (List.getElem?_eq_some_iff.1 hj).1]
      exact hj
    · rw [hWc, hW2.cell, List.getElem?_eq_getElem (by rw [hlen2]; omega)]; rfl
    · rw [hWf]; exact hW2.frozen _
  obtain ⟨hW3, hg3⟩ := jarr_puts M _ (i + 1) W2.drew hW2
  have HFIN : Hid (Row (W2.drew.setCells w.heap.size (i + 1) M) B 9 (.slice (some ⟨w.heap.size, 0, none⟩) (n + 1) G) (A ++ (.string p :: M)) ∧ Below w.heap.size w (W2.drew.setCells w.heap.size (i + 1) M)) := hide (by
    have e0 : jputs (jputs (A ++ (Z ++ Y)) (A.length + 0) [.string p]) (A.length + 1) M = A ++ ((.string p :: M) ++ Y) := gr_mid hZl
    rw [hAl] at e0
    rw [e0] at hW3
    have e : (A ++ (Value.string p :: M)).length = n + 1 := by simp; omega
    have hW4 : Arr (W2.drew.setCells w.heap.size (i + 1) M) w.heap.size 9 ((A ++ (.string p :: M)) ++ Y) := by rw [List.append_assoc]; exact hW3
    have := hW4.row (B := B) (c := G) (by rw [e]; omega) hG63 hB
    rw [e] at this
    exact ⟨this, jbelow_grown (jbelow_grown hb1 hg2 hb1.size (Nat.le_refl _)).drew hg3 (Nat.le_trans hb1.size hg2.size) (Nat.le_refl _)⟩)
  have hz2 : ¬ ((i : Int) = (n : Int)) := by omega
  have hz3 : (c : Int) < (n : Int) + 1 := by omega
  have hz4 : ((i : Int) == (n : Int)) = false := by simp; omega
  have hic : i ≤ c := by omega
  have hici : (i : Int) ≤ (c : Int) := by omega
  have hw1 : IntKind.i64.wrap ((i : Int) + 1) = (i : Int) + 1 := by rw [IntKind.wrap_i64]; omega
  have hw2 : IntKind.i64.wrap ((n : Int) + 1) = (n : Int) + 1 := by rw [IntKind.wrap_i64]; omega
  have hw3 : IntKind.i64.wrap ((n : Int) + 1 - (i : Int)) = (n : Int) + 1 - (i : Int) := by rw [IntKind.wrap_i64]; omega
  have hb2 : (0 : Int) ≤ (i : Int) + 1 := by omega
  have hin : i ≤ n := by omega
  have htn : ((i : Int) + 1).toNat = i + 1 := by omega
  have hGi : ¬ (G = i) := by omega
  have hGim : ¬ (G = i + 1) := by omega
  have hci : ¬ (c = i) := by omega
  have hb3 : (i : Int) ≤ (n : Int) + 1 := by omega
  have hb4 : (i : Int) ≤ (n : Int) := by omega
  have HW1 := hide hW1e
  have HW2 := hide hW2e
  clear hW3 hg3 hW2 hg2 hW1 hv1 ha1 ha2 hall hlen2 hA hM hxs hAl hMl hr ha hv h1 hxn hRc hBg hold hkk hik hG hZ hY hZl hYl hgl hvl hb1 hi0 hz0 hzs hzb hW1e hW2e
  go_enter Tryz.func129, Tryz.ntmps129
  go_wp2_with (first
    | (at_builtin; refine Lib.wpList_append_run _ rfl _ _ _ _ rfl _ _ rfl rfl _ _ (hrz _) ?_)
    | (at_builtin; refine wpList_copy_runI _ rfl _ _ 74 22 rfl _ _ rfl rfl (hcp1 _ (fun _ => rfl) (fun _ => rfl) _ _) ?_)
    | fail)
  refine wp_region_held_drew (S := fun _ => True) (by kernel_rfl) (trivial) (fun hHeld => ?_)
  refine wpAnyH_take (i := 0) (v := .slice (some ⟨w.heap.size, 0, none⟩) (n + 1) G) rfl (by kernel_rfl) (by kernel_rfl) (by kernel_rfl) (fun _ _ _ h => h) (Or.inl ⟨by rfl, fun w hSw => by go_simp⟩) (by assumption) ?_
  simp only [List.getElem_toArray, List.getElem_cons_zero, Act.put, List.setIfInBounds_toArray, List.set_cons_zero, List.set_cons_succ]
  refine wpAnyH_take (i := 1) (v := .int .i64 (i : Int)) rfl (by kernel_rfl) (by kernel_rfl) (by kernel_rfl) (fun _ _ _ h => h) (Or.inl ⟨by rfl, fun w hSw => by go_simp⟩) (by assumption) ?_
  simp only [List.getElem_toArray, List.getElem_cons_succ, List.getElem_cons_zero, Act.put, List.setIfInBounds_toArray, List.set_cons_zero, List.set_cons_succ]
  refine wpAnyH_take (i := 2) (v := .int .i64 1) rfl (by kernel_rfl) (by kernel_rfl) (by kernel_rfl) (fun _ _ _ h => h) (Or.inl ⟨by rfl, fun w hSw => by go_simp⟩) (by assumption) ?_
  simp only [List.getElem_toArray, List.getElem_cons_succ, List.getElem_cons_zero, Act.put, List.setIfInBounds_toArray, List.set_cons_zero, List.set_cons_succ]
  refine wpAnyH_take (i := 3) (v := .int .i64 ((i : Int) + 1)) rfl (by kernel_rfl) (by kernel_rfl) (by kernel_rfl) (fun _ _ _ h => h) (Or.inl ⟨by rfl, fun w hSw => by go_simp⟩) (by assumption) ?_
  simp only [List.getElem_toArray, List.getElem_cons_succ, List.getElem_cons_zero, Act.put, List.setIfInBounds_toArray, List.set_cons_zero, List.set_cons_succ]
  refine wpAnyH_take (i := 4) (v := .slice (some ⟨w.heap.size, i + 1, none⟩) (n + 1 - (i + 1)) (G - (i + 1))) rfl (by kernel_rfl) (by kernel_rfl) (by kernel_rfl) (fun _ _ _ h => h) (Or.inl ⟨by rfl, fun w hSw => by go_simp⟩) (by assumption) ?_
  simp only [List.getElem_toArray, List.getElem_cons_succ, List.getElem_cons_zero, Act.put, List.setIfInBounds_toArray, List.set_cons_zero, List.set_cons_succ]
  refine wpAnyH_take (i := 5) (v := .slice (some ⟨g, 0, none⟩) n c) rfl (by kernel_rfl) (by kernel_rfl) (by kernel_rfl) (fun _ _ _ h => h) (Or.inl ⟨by rfl, fun w hSw => by go_simp⟩) (by assumption) ?_
  simp only [List.getElem_toArray, List.getElem_cons_succ, List.getElem_cons_zero, Act.put, List.setIfInBounds_toArray, List.set_cons_zero, List.set_cons_succ]
  refine wpAnyH_take (i := 6) (v := .int .i64 (i : Int)) rfl (by kernel_rfl) (by kernel_rfl) (by kernel_rfl) (fun _ _ _ h => h) (Or.inl ⟨by rfl, fun w hSw => by go_simp⟩) (by assumption) ?_
  simp only [List.getElem_toArray, List.getElem_cons_succ, List.getElem_cons_zero, Act.put, List.setIfInBounds_toArray, List.set_cons_zero, List.set_cons_succ]
  refine wpAnyH_take (i := 7) (v := .slice (some ⟨g, i, none⟩) (n - i) (c - i)) rfl (by kernel_rfl) (by kernel_rfl) (by kernel_rfl) (fun _ _ _ h => h) (Or.inl ⟨by rfl, fun w hSw => by go_simp⟩) (by assumption) ?_
  simp only [List.getElem_toArray, List.getElem_cons_succ, List.getElem_cons_zero, Act.put, List.setIfInBounds_toArray, List.set_cons_zero, List.set_cons_succ]
  refine wpAnyH_ready (rs := [8]) (by kernel_rfl) (by simp) (AllReadyH.cons rfl (fun K hK => ?_) AllReadyH.nil)
  refine step_copy_runI (by rfl) (.tmp 50) (.tmp 53) 74 74 rfl _ _ rfl rfl (hcp2 _ (fun x => by rw [HW2.out, HW1.out]; rfl) (fun x => by rw [HW2.out, HW1.out]; rfl) _ _ _) ?_
  refine hK.out _ _ (trivial) (fun h9 => ?_)
  clear hK K
  simp only [List.getElem_toArray, List.getElem_cons_succ, List.getElem_cons_zero, Act.put, List.setIfInBounds_toArray, List.set_cons_zero, List.set_cons_succ]
  refine wpAnyH_done (by kernel_rfl) ?_ _
  go_wp2
  go_ret
  exact ⟨G, rfl, hide (by have h := HFIN.out; rw [HW2.out] at h; exact h)⟩
end
end Go.Proofs.YtfhfobikbfbajaaGreatDoor

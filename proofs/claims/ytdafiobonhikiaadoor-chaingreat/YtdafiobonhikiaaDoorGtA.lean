/- ChainGreat: long. -/
import Derived.Test.YtdafiobonhikiaaDoorLyA
namespace Go.Proofs.YtdafiobonhikiaaDoor
open Go.RowKit Go.Maps

theorem Own8.row6 {w : World} {B : Nat} {v : Value} {xs : List Int} (h : Own8 w B v xs) : Row w B 5 v (xs.map (Value.int .u8)) := by
  have := h.1
  unfold Row
  rw [List.length_map]
  exact this
theorem Row.own86 {w : World} {B : Nat} {v : Value} {xs : List Int} (h : Row w B 5 v (xs.map (Value.int .u8))) (hb : ∀ x ∈ xs, 0 ≤ x ∧ x ≤ 255) : Own8 w B v xs := by
  unfold Row at h
  rw [List.length_map] at h
  exact ⟨h, hb⟩
theorem Own8.len6 {w : World} {B g R c : Nat} {xs : List Int} (h : Own8 w B (.slice (some ⟨g, 0, none⟩) R c) xs) : R = xs.length ∧ R ≤ c ∧ c ≤ 9223372036854775807 ∧ g < w.heap.size ∧ Ty w g 5 := by
  rcases h.1.2 with ⟨hv, _⟩ | ⟨g', cap, cur, hv, hB, hg, q1, q2, _⟩
  · cases hv
  · injection hv with e1 e2 e3
    injection e1 with e1
    injection e1 with e1
    subst e1 e3
    exact ⟨e2, by omega, by unfold maxLen at q2; omega, (Array.getElem?_eq_some_iff.1 hg).1, ⟨_, _, hg⟩⟩
theorem xor_bytes6 (x y : Int) (hx : 0 ≤ x ∧ x ≤ 255) (hy : 0 ≤ y ∧ y ≤ 255) : ∃ z : Int, bits .xor .u8 x y = z ∧ 0 ≤ z ∧ z ≤ 255 := by
  refine ⟨_, u8_xor x y hx.1 (by omega) hy.1 (by omega), by omega, ?_⟩
  have : x.toNat ^^^ y.toNat < 2 ^ 8 := Nat.xor_lt_two_pow (by omega) (by omega)
  omega
theorem wpList_make6 {ops : Array Oper} {rest : List Oper} {o : Oper} {a : Act} {Q : Exit → Act → World → Prop} {w : World} (hgd : o.guard = none) (l c : Operand) (ho : o.op = .makeSlice 22 l c) {n : Nat} (hn : n ≤ 10000000) (hl : a.eval l = .int .i64 (n : Int)) (hc : a.eval c = .int .i64 (n : Int))
    (hk : ∀ w', Own8 w' w.heap.size (.slice (some ⟨w.heap.size, 0, none⟩) n n) (List.replicate n 0) → Below w.heap.size w w' → wpList Tryd.prog ops Q rest (a.put o.dst (.slice (some ⟨w.heap.size, 0, none⟩) n n)) w') : wpList Tryd.prog ops Q (o :: rest) a w := by
  refine wpList_plain hgd fun K hK => ?_
  obtain ⟨i0, hi, hz0, hz1, hz2⟩ := info_parts info8
  obtain ⟨w', hrun, r1, r2⟩ := run_make_full (P := Tryd.prog) w w.heap.size 22 5 i0 (.int .u8 0) 1 Tryd.underlying22 hi hz0 hz1 .i64 .i64 n (by rw [hz2]; omega) (by unfold maxLen; omega) (Nat.le_refl _)
  unfold Oper.wp execOp
  simp only [ho, hl, hc, Sem.run_bind, hrun, Result.andThen_ok, Sem.run_pure]
  rw [made8] at r1
  refine hK _ _ (hk w' ⟨?_, fun x hx => by rw [List.eq_of_mem_replicate hx]; omega⟩ ((Below.refl _ _).grown r2 (Nat.le_refl _) (fun b hb => by cases hb)))
  rw [List.length_replicate, List.map_replicate]
  exact r1
set_option maxRecDepth 100000 in
set_option maxHeartbeats 4000000 in
theorem long_calls {w : World} {a : Option Addr} {m c n : Nat} {b : List Int} (hb : IsB w (.slice a m c) b) (hn : n ≤ 1048576) :
    Calls Tryd.prog 18 #[.slice a m c, .int .i64 (n : Int)] w fun e w' => ∃ g TX, e = .returned (.slice (some ⟨g, 0, none⟩) n n) ∧ w.heap.size ≤ g ∧ IsB w' (.slice (some ⟨g, 0, none⟩) n n) TX ∧ Ty w' g 5 ∧ Below w.heap.size w w' := by
  obtain ⟨S, hS⟩ : ∃ S, w.heap.size = S := ⟨_, rfl⟩
  have hbn := hb.lenEq
  have HBB : Hid (0 < m → ∃ ab ao, a = some ⟨ab, ao, none⟩ ∧ m ≤ c ∧ c ≤ 9223372036854775807 ∧ ∀ W, Below S w W → ∀ j, j < m → ∃ x, W.cell? ⟨ab, ao + j, none⟩ = some (.int .u8 x) ∧ 0 ≤ x ∧ x ≤ 255) := hide (fun h0 => by
    have hm := hb.mem
    obtain ⟨_, a2, c2, hv, h1, h2, _, h3⟩ := hb
    injection hv with e1 e2 e3
    subst e1 e3
    obtain ⟨ab, ao, e4, h4⟩ := h3 (by omega)
    refine ⟨ab, ao, e4, by omega, h2, fun W hW j hj => ?_⟩
    have hjl : j < b.length := by omega
    have hx := hm b[j] (List.getElem_mem hjl)
    refine ⟨b[j], ?_, hx⟩
    rw [← hS] at hW
    refine bkeptC hW ?_
    have h5 := h4 j hjl
    rw [List.getD_eq_getElem?_getD, List.getElem?_eq_getElem hjl] at h5
    exact h5)
  have HS := hide hS
  rw [hS]
  clear hb hbn hS
  go_enter Tryd.func18, Tryd.ntmps18
  go_wp2_with (refine wpList_make6 rfl (.tmp 7) (.tmp 7) rfl (n := n) (by omega) rfl rfl ?_; rw [HS.out]; intro w1 ho1 hb1; have HO1 := hide ho1; have HB1 := hide hb1; clear ho1 hb1)
  go_loopw [6] (fun iv W => ∃ (i : Nat), i ≤ n ∧ iv = .int .i64 (i : Int) ∧ Hid (∃ ys, Own8 W S (.slice (some ⟨S, 0, none⟩) n n) ys ∧ Below S w W)) (fun iv _ => n - (intOf iv).toNat)
  case atStart => exact ⟨0, by omega, rfl, hide ⟨_, HO1.out, HB1.out⟩⟩
  case round =>
    clear HO1 HB1
    obtain ⟨i, hi, rfl, HI⟩ := hrel
    by_cases hlt : i < n
    · obtain ⟨ys, ho, hbw⟩ := HI.out
      have hyl := ho.len6
      obtain ⟨z, hz⟩ : ∃ z, IntKind.u8.wrap ((i : Int) / 480 + (i : Int) / 123000) = z := ⟨_, rfl⟩
      obtain ⟨hyl, _, _, _, _⟩ := hyl
      have hzb : 0 ≤ z ∧ z ≤ 255 := by rw [← hz, IntKind.wrap_u8]; omega
      obtain ⟨x, hx⟩ : ∃ x, ys[i]? = some x := ⟨_, List.getElem?_eq_getElem (by omega)⟩
      have hci : wr.cell? ⟨S, i, none⟩ = some (.int .u8 x) := by
        rw [ho.row6.cellAt (by rw [List.length_map]; omega), List.getElem?_map, hx]; rfl
      have hfi := ho.row6.frozenAt i
      obtain ⟨hr2, hg2⟩ := ho.row6.set i (.int .u8 z)
      rw [← List.map_set] at hr2
      obtain ⟨w2, hw2⟩ : ∃ w2, wr.setCell ⟨S, i, none⟩ (.int .u8 z) = w2 := ⟨_, rfl⟩
      rw [hw2] at hr2 hg2
      have ho2 : Own8 w2 S (.slice (some ⟨S, 0, none⟩) n n) (ys.set i z) := hr2.own86 (fun y hy => by
        rcases List.mem_or_eq_of_mem_set hy with hy | rfl
        · exact ho.2 y hy
        · exact hzb)
      have hsz := ho.1.lt S rfl
      have hbw2 : Below S w w2 := hbw.grown hg2 (by omega) (fun q hq => by injection hq with hq; omega)
      have HII : Hid (∃ ys, Own8 w2 S (.slice (some ⟨S, 0, none⟩) n n) ys ∧ Below S w w2) := hide ⟨_, ho2, hbw2⟩
      have hltI : (i : Int) < (n : Int) := by omega
      by_cases hm : 0 < m
      · obtain ⟨ab, ao, ha, hmc, hcm, hcel⟩ := unhide HBB hm
        subst ha
        obtain ⟨r, hr⟩ : ∃ r : Nat, i % m = r := ⟨_, rfl⟩
        have hrm : r < m := by rw [← hr]; exact Nat.mod_lt _ hm
        obtain ⟨u, hcu, hub⟩ := hcel w2 hbw2 r hrm
        obtain ⟨v, hxor, hvb⟩ := xor_bytes6 z u hzb hub
        have hc2 : w2.cell? ⟨S, i, none⟩ = some (.int .u8 z) := by
          rw [ho2.row6.cellAt (by rw [List.length_map, List.length_set]; omega), List.getElem?_map, List.getElem?_set_self (by omega)]; rfl
        have hf2 := ho2.row6.frozenAt i
        obtain ⟨hr3, hg3⟩ := ho2.row6.set i (.int .u8 v)
        rw [← List.map_set] at hr3
        have HI3 : Hid (∃ ys, Own8 (w2.setCell ⟨S, i, none⟩ (.int .u8 v)).drew S (.slice (some ⟨S, 0, none⟩) n n) ys ∧ Below S w (w2.setCell ⟨S, i, none⟩ (.int .u8 v)).drew) := hide (by
          have ho3 : Own8 (w2.setCell ⟨S, i, none⟩ (.int .u8 v)) S (.slice (some ⟨S, 0, none⟩) n n) ((ys.set i z).set i v) := hr3.own86 (fun y hy => by
            rcases List.mem_or_eq_of_mem_set hy with hy | rfl
            · exact ho2.2 y hy
            · exact hvb)
          exact ⟨_, ho3.below (Below.refl _ _).drew, (hbw2.grown hg3 (by have := hg2.size; omega) (fun q hq => by injection hq with hq; omega)).drew⟩)
        have hrI : (i : Int).tmod (m : Int) = (r : Int) := by rw [← hr]; exact Int.ofNat_tmod i m ▸ rfl
        have hmI : (0 : Int) < (m : Int) := by omega
        have hm0 : ¬ (m : Int) = 0 := by omega
        have hm00 : ¬ m = 0 := by omega
        have hrmI : (r : Int) < (m : Int) := by omega
        have HW2 := hide hw2
        clear hx hr2 hg2 hw2 ho2 hbw2 ho hbw hyl HI HII hcel hr3 hg3 HBB hr
        go_wp2_with fail
        rw [HW2.out]
        go_region
        go_wp2
        go_roundw
        case rel => exact ⟨i + 1, by omega, by go_num, HI3⟩
        case measure => simp [intOf]; omega
      · have hm0 : m = 0 := by omega
        subst hm0
        have HW2 := hide hw2
        clear hx hr2 hg2 hw2 ho2 hbw2 ho hbw hyl HI
        go_wp2
        rw [HW2.out]
        go_roundw
        case rel => exact ⟨i + 1, by omega, by go_num, HII⟩
        case measure => simp [intOf]; omega
    · clear HBB
      obtain ⟨ys, ho, hbw⟩ := HI.out
      obtain rfl : i = n := by omega
      obtain ⟨_, _, _, _, hty⟩ := ho.len6
      have HF := hide (And.intro ho (And.intro hbw hty))
      clear ho hbw hty HI
      go_wp2
      go_ret
      exact ⟨S, ys, rfl, Nat.le_refl _, HF.out.1.isB, HF.out.2.2, HF.out.2.1⟩
end Go.Proofs.YtdafiobonhikiaaDoor

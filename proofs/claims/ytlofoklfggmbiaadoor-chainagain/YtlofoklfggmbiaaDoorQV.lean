/- Copy; From, To. slices.Repeat of one word. New. New's refusal; From, To. -/
import Derived.Test.YtlofoklfggmbiaaDoorQT
import Derived.Laws.Cover3
import Derived.Laws.MathBits
import Derived.Laws.CopyOwn
import Derived.Deep.RegionLaw
import Derived.Deep.OwnRows
namespace Go.Proofs.YtlofoklfggmbiaaDoor
open Go.RowKit

theorem infoU : (Tryd.prog.info? 110).map (fun i => (i.zero, i.size, i.bytes)) = some (some (.int .u64 0), 1, 8) := by kernel_rfl
theorem w64_one (ws : List Nat) : ∀ u ∈ w64 ws, u.oneCell' = true := by
 intro u hu
 obtain ⟨n, _, rfl⟩ := List.mem_map.1 hu
 rfl
theorem w64_len (ws : List Nat) : (w64 ws).length = ws.length := by simp [w64]
theorem eql_nil (a : Addr) (n c : Nat) (W : World) : (binOp .eql 107 (.slice (some a) n c) (.slice none 0 0)).run Tryd.prog W = .ok (.bool false) W := by
 simp only [binOp]
 simp [run_equal_slice_nil W 107 110 (some a) n c Tryd.underlying107]
set_option maxHeartbeats 1000000 in
theorem clone_calls {w : World} {B gw c : Nat} {ws : List Nat} (h : Row w B 110 (.slice (some ⟨gw, 0, none⟩) ws.length c) (w64 ws)) (hl : ws.length ≤ 1024) (h0 : 0 < ws.length) :
 Calls Tryd.prog 87 #[.slice (some ⟨gw, 0, none⟩) ws.length c] w fun e w' => ∃ g2 c2, e = .returned (.slice (some ⟨g2, 0, none⟩) ws.length c2) ∧ Row w' w.heap.size 110 (.slice (some ⟨g2, 0, none⟩) ws.length c2) (w64 ws) ∧ Below w.heap.size w w' := by
 obtain ⟨i0, hi, hz0, hz1, hz2⟩ := info_part infoU
 have hgw := (h.lt gw rfl).2
 have HN : Hid (∀ j u, (w64 ws)[j]? = some u → (w.alloc (.cells #[] 110)).cell? ((⟨gw, 0, none⟩ : Addr).add j) = some u) := fun j u hj => by
  have hjl := (List.getElem?_eq_some_iff.1 hj).1
  have := h.cellAt hjl
  rw [Addr.add_lit, Nat.zero_add]
  exact ((World.grownBy_alloc w (.cells #[] 110) none).cell (this.trans hj) (by simp))
 have HW := hide (w64_len ws)
 have HO := hide (w64_one ws)
 have HNIL : Hid ((w.alloc (.cells #[] 110)).ownsRow w.heap.size 110 1 (.slice (some ⟨w.heap.size, 0, none⟩) 0 0) 0 []) := World.ownsRow_made w #[] 0 (Nat.le_refl _) (by decide) rfl
 obtain ⟨L, hL⟩ : ∃ L, L = ws.length := ⟨_, rfl⟩
 rw [← hL] at hl h0 HW ⊢
 have hnil := eql_nil ⟨gw, 0, none⟩ L c w
 clear h hL
 go_enter Tryd.func87, Tryd.ntmps87
 go_wp2_with (at_builtin; refine wpList_append_own _ rfl _ _ 107 rfl w.heap.size 110 i0 (.int .u64 0) 1 8 Tryd.underlying107 hi hz0 hz1 hz2 rfl (by decide) _ _ _ rfl (unhide HNIL) ⟨gw, 0, none⟩ L c (w64 ws) rfl (by rw [HW.out]; omega) (unhide HN) (unhide HO) (by unfold maxLen; omega) (by omega) (by simp) ?_; intro v3 w3 hr3 hg3 _)
 go_ret
 have hr4 : Row w3 w.heap.size 110 v3 (w64 ws) := by
  unfold Row
  rw [HW.out]
  simpa using hr3
 obtain ⟨g2, c2, hv, _⟩ := hr4.head (by rw [HW.out]; exact h0)
 rw [HW.out] at hv
 subst hv
 exact ⟨g2, c2, rfl, hr4, ((Below.refl _ _).alloc (Nat.le_refl _) _).grown hg3 (by simp) fun b hb => by
  cases hb
  exact Nat.le_refl _⟩
theorem below_al {w W : World} {o : Obj} (h : Below w.heap.size w W) : Below w.heap.size w (W.alloc o) := h.alloc h.size o
set_option maxRecDepth 100000 in
set_option maxHeartbeats 4000000 in
theorem spCopy_calls {w : World} {B g gw fr to_ : Nat} {ws : List Nat} (h : Sp w B g gw fr to_ ws) :
 Calls Tryd.prog 63 #[.pointer (some ⟨g, 0, none⟩)] w fun e w' => ∃ g2 gw2, e = .returned (.pointer (some ⟨g2, 0, none⟩)) ∧ Sp w' w.heap.size g2 gw2 fr to_ ws ∧ w.heap.size ≤ g2 ∧ Below w.heap.size w w' := by
 obtain ⟨c, c0, c1, c2, hLc, hcm, _, hrow, _, _⟩ := h.view
 have hlen := h.len
 have hrng := h.rng
 have h0 : 0 < ws.length := by omega
 have hl : ws.length ≤ 1024 := by omega
 have HSS : Hid (∀ W, Below w.heap.size w W → Below w.heap.size w W ∧ W.cell? ⟨g, 0, none⟩ = some (.int .i64 (fr : Int)) ∧ W.cell? ⟨g, 1, none⟩ = some (.int .i64 (to_ : Int)) ∧ W.cell? ⟨g, 2, none⟩ = some (.slice (some ⟨gw, 0, none⟩) ws.length c)) := fun W hW =>
  ⟨hW, (hW.cell (p := ⟨g, 0, none⟩) (World.block_lt_of_cell? _ _ c0)).trans c0, (hW.cell (p := ⟨g, 1, none⟩) (World.block_lt_of_cell? _ _ c1)).trans c1, (hW.cell (p := ⟨g, 2, none⟩) (World.block_lt_of_cell? _ _ c2)).trans c2⟩
 have HCL : Hid (∀ W, Below w.heap.size w W → Calls Tryd.prog 87 #[.slice (some ⟨gw, 0, none⟩) ws.length c] W fun e w' => ∃ g2 c2, e = .returned (.slice (some ⟨g2, 0, none⟩) ws.length c2) ∧ Row w' W.heap.size 110 (.slice (some ⟨g2, 0, none⟩) ws.length c2) (w64 ws) ∧ Below W.heap.size W w') := fun W hW => clone_calls (hrow.out (Out.of_below (B := 0) (S := 0) hW) fun _ _ => Or.inr (Nat.zero_le _)) hl h0
 have HEND : Hid (∀ (W : World) (c3 g3 : Nat), w.heap.size ≤ W.heap.size → Row W w.heap.size 110 (.slice (some ⟨g3, 0, none⟩) ws.length c3) (w64 ws) → Sp (W.alloc (.cells #[.int .i64 (fr : Int), .int .i64 (to_ : Int), .slice (some ⟨g3, 0, none⟩) ws.length c3] 109)) w.heap.size W.heap.size g3 fr to_ ws) := fun W c3 g3 hs hr =>
  ⟨⟨c3, heap_alloc_new W _, hr.kept (World.grownBy_alloc W _ none) (by simp [Value.ownBlock])⟩, h.rng, h.len, h.wd, h.top⟩
 obtain ⟨L, hL⟩ : ∃ L, L = ws.length := ⟨_, rfl⟩
 rw [← hL] at HSS HCL HEND c2
 clear h hrow hlen hL
 go_enter Tryd.func63, Tryd.ntmps63
 go_wp2_with fail
 focus (go_region_held3 (fun W => Below w.heap.size w W ∧ W.cell? ⟨g, 0, none⟩ = some (.int .i64 (fr : Int)) ∧ W.cell? ⟨g, 1, none⟩ = some (.int .i64 (to_ : Int)) ∧ W.cell? ⟨g, 2, none⟩ = some (.slice (some ⟨gw, 0, none⟩) L c))
  ((refine unhide HSS _ ?_; repeat (first | assumption | exact Below.refl _ _ | refine Below.drew ?_ | refine below_al ?_)))
  (first
    | (go_at_call 87; refine (unhide HCL _ (Below.drew (Below.refl _ _))).mono ?_; rintro e w2 ⟨g2, c3, rfl, hr2, hb2'⟩; have hb2 : Below w.heap.size w w2 := ⟨hb2'.os, hb2'.tape, hb2'.output, hb2'.size, hb2'.block⟩)))
 go_wp2
 go_ret
 exact ⟨w2.heap.size, g2, rfl, unhide HEND w2 c3 g2 hb2.size hr2, hb2.size, below_al hb2⟩
end Go.Proofs.YtlofoklfggmbiaaDoor

namespace Go.Proofs.YtlofoklfggmbiaaDoor
open Go.RowKit

set_option maxRecDepth 100000 in
set_option maxHeartbeats 2000000 in
theorem mul_one_calls (n : Nat) (hn : n ≤ 1024) (w : World) : Calls Tryd.prog 86 #[.int .u64 1, .int .u64 (n : Int)] w fun e w' => e = .returned (.tuple #[.int .u64 0, .int .u64 (n : Int)]) ∧ w' = w := by
 have h1 : bits .and .u64 (n : Int) 4294967295 = (n : Int) := by
  rw [and_low32 _ (by omega) (by omega)]; omega
 have h2 : bits .and .u64 1 4294967295 = 1 := by decide +kernel
 have hq : (n : Int) / 4294967296 = 0 := by omega
 have h3 : bits .and .u64 0 4294967295 = 0 := by decide +kernel
 go_enter Tryd.func86, Tryd.ntmps86
 go_wp2
 go_ret2
 exact ⟨rfl, rfl⟩
theorem elemU : Tryd.prog.underlying 107 = some (.slice (Tryd.prog.elem 107)) := by kernel_rfl
theorem sizeU (W : World) : (sizeOf (Tryd.prog.elem 107)).run Tryd.prog W = .ok 1 W := by kernel_rfl
theorem sliceU_h (g n t : Nat) (ht : t ≤ n) (W : World) : (Instr.sliceAt 107 (.slice (some ⟨g, 0, none⟩) n n) none (some (.int .i64 (t : Int))) none).run Tryd.prog W = .ok (.slice (some ⟨g, 0, none⟩) t n) W := by
 rw [run_sliceAt_slice W _ _ _ _ _ elemU, run_slice_h W _ (some ⟨g, 0, none⟩) n n elemU .i64 t (by omega) (by omega), sizeU]
 simp [Result.andThen, sliced, Addr.add]
theorem sliceU_l (g n q : Nat) (hq : q < n) (W : World) : (Instr.sliceAt 107 (.slice (some ⟨g, 0, none⟩) n n) (some (.int .i64 (q : Int))) none none).run Tryd.prog W = .ok (.slice (some ⟨g, q, none⟩) (n - q) (n - q)) W := by
 rw [run_sliceAt_slice W _ _ _ _ _ elemU, run_slice_l W _ (some ⟨g, 0, none⟩) n n elemU .i64 q (by omega) (by omega), sizeU]
 have : ¬ n = q := by omega
 simp [Result.andThen, sliced, Addr.add, this]
 omega
theorem rep_splice {v : Value} {L n : Nat} {z : Value} : splice (List.replicate n v ++ List.replicate (L - n) z) n (List.replicate (min n (L - n)) v) = List.replicate (n + min n (L - n)) v ++ List.replicate (L - (n + min n (L - n))) z := by
 unfold splice
 rw [List.take_append_of_le_length (by simp), List.take_of_length_le (by simp), ← List.append_assoc, List.replicate_append_replicate]
 congr 1
 rw [List.length_replicate, List.drop_append, List.drop_of_length_le (by simp), List.nil_append, List.drop_replicate]
 congr 1
 simp
 omega
theorem step_copyS {P : Program} {ops : Array Oper} {o : Oper} {a : Act} {w : World} {K : Act → World → Prop} {Q : Exit → Act → World → Prop} {E : Prop} (hgd : o.guard = none) (dd : Tmp) (hdd : o.dst = some dd) (d s : Operand) (dT sT : TypeId)
 (ho : o.op = .call { callee := .builtin .copy, args := #[d, s], argTypes := #[dT, sT] }) (elem : TypeId) (hu : P.underlying dT = some (.slice elem)) (hsz : (P.info? elem).map (·.size) = some 1)
 (dp sp : Option Addr) (dLen dCap sLen sCap : Nat) (hd : a.eval d = .slice dp dLen dCap) (hs : a.eval s = .slice sp sLen sCap)
 (g off : Nat) (cur : List Value) (t : TypeId) (hg : w.heap[g]? = some (.cells cur.toArray t (0, 0))) (cs : List Value) (hn : cs.length = Nat.min sLen dLen)
 (hpos : 0 < cs.length → dp = some ⟨g, off, none⟩ ∧ ∃ ad, sp = some ad ∧ ∀ j v, cs[j]? = some v → w.cell? (ad.add j) = some v)
 (hfit : off + cs.length ≤ cur.length) (h1 : ∀ v ∈ cs, v.oneCell' = true) (B : Nat) (w0 : World) (hb : RowKit.Below B w0 w) (hBg : B ≤ g) (k : Nat) (hk : cs.length = k)
 (h : ∀ w', RowKit.Hid (w'.heap[g]? = some (.cells (splice cur off cs).toArray t (0, 0))) → RowKit.Below B w0 w' → K (a.put (some dd) (.int .i64 (k : Int))) w') :
 if Region.wanted o (yielded ops a.tmps) = true then Oper.wp P o a w K Q else E :=
 step_copy_splice hgd d s dT sT ho elem hu hsz dp sp dLen dCap sLen sCap hd hs g off cur t hg cs hn hpos hfit h1 B w0 hb hBg (fun w' h2 h3 => by
  have := h w' h2 h3
  rw [hdd, hk]
  exact this)
set_option maxRecDepth 100000 in
set_option maxHeartbeats 4000000 in
theorem repeat_calls {w : World} (n : Nat) (hn0 : 0 < n) (hn : n ≤ 1024) (x : Int) :
 Calls Tryd.prog 62 #[.slice (some ⟨w.heap.size, 0, none⟩) 1 1, .int .i64 (n : Int)] (w.alloc (.cells #[.int .u64 x] 110)) fun e w' => ∃ g, e = .returned (.slice (some ⟨g, 0, none⟩) n n) ∧ w.heap.size ≤ g ∧ w'.heap[g]? = some (.cells (List.replicate n (.int .u64 x)).toArray 110 (0, 0)) ∧ Below w.heap.size w w' := by
 obtain ⟨i0, hi, hz0, hz1, hz2⟩ := info_part infoU
 have HM := hide (mul_one_calls n hn)
 have hu8 : (Tryd.prog.info? 110).map (·.size) = some 1 := by rw [hi]; simp [hz1]
 have hb0 : Below w.heap.size w (w.alloc (.cells #[.int .u64 x] 110)) := (Below.refl _ _).alloc (Nat.le_refl _) _
 have hc0 : (w.alloc (.cells #[.int .u64 x] 110)).cell? ⟨w.heap.size, 0, none⟩ = some (.int .u64 x) := by
  have := cell_one_new w (.int .u64 x) 110 0 _ rfl
  rwa [Addr.add_lit] at this
 have hs0 : (w.alloc (.cells #[.int .u64 x] 110)).heap.size = w.heap.size + 1 := by simp
 generalize (w.alloc (.cells #[.int .u64 x] 110)) = wa at *
 go_enter Tryd.func62, Tryd.ntmps62
 go_wp2_with fail
 refine (unhide HM wa).mono ?_
 rintro e w1 ⟨rfl, hw1⟩
 obtain rfl := hw1.symm
 clear hw1
 have hA : (wa.alloc (.cells (madeCells #[.int .u64 0] n) 110)).heap[wa.heap.size]? = some (.cells (List.replicate n (.int .u64 0)).toArray 110 (0, 0)) := by
  have e : madeCells #[.int .u64 0] n = (List.replicate n (Value.int .u64 0)).toArray := by
   have := toList_madeCells_one (.int .u64 0) n
   rw [← this]
  rw [← e]
  exact heap_alloc_new wa _
 have hbA : Below w.heap.size w (wa.alloc (.cells (madeCells #[.int .u64 0] n) 110)) := hb0.alloc (by omega) _
 have hsrc : ∀ j v, [Value.int .u64 x][j]? = some v → (wa.alloc (.cells (madeCells #[.int .u64 0] n) 110)).cell? ((⟨w.heap.size, 0, none⟩ : Addr).add j) = some v := fun j v hj => by
  match j, hj with
  | 0, hj =>
    simp only [List.getElem?_cons_zero, Option.some.injEq] at hj
    subst hj
    rw [Addr.add_lit]
    exact (World.grownBy_alloc wa _ none).cell hc0 (by simp)
 have hle : w.heap.size ≤ wa.heap.size := by omega
 clear hs0
 have HA := hide hA
 have HBA := hide hbA
 have HSRC := hide hsrc
 clear hA hbA hsrc
 go_wp2_with (first
  | (at_make; refine wpList_make_row wa rfl (.tmp 29) (.tmp 29) 107 rfl 110 i0 (.int .u64 0) Tryd.underlying107 hi hz0 hz1 rfl .i64 .i64 n rfl rfl (by rw [hz2]; omega) (by omega) ?_)
  | (refine wpList_copy_splice rfl (.tmp 31) (.tmp 32) 107 107 rfl 110 Tryd.underlying107 hu8 (some ⟨wa.heap.size, 0, none⟩) (some ⟨w.heap.size, 0, none⟩) n n 1 1 rfl rfl wa.heap.size 0 (List.replicate n (.int .u64 0)) 110 (unhide HA) [.int .u64 x] (by simp [Nat.min_def]; omega) (fun _ => ⟨rfl, _, rfl, unhide HSRC⟩) (by simp; omega) (by intro v hv; simp at hv; subst hv; rfl) w.heap.size w (unhide HBA) hle ?_; intro w2 hA2 hb2))
 obtain ⟨ga, hga⟩ : ∃ ga, ga = wa.heap.size := ⟨_, rfl⟩
 have HS2 : Hid (w2.heap[ga]? = some (.cells (List.replicate 1 (Value.int .u64 x) ++ List.replicate (n - 1) (Value.int .u64 0)).toArray 110 (0, 0))) := by
  show _ = _
  rw [hga, hA2.out]
  congr 3
  unfold splice
  simp [List.drop_replicate]
 rw [← hga]
 have hgal : w.heap.size ≤ ga := by omega
 clear hA2 hga hc0 hb0 HA HBA HSRC hle
 go_loopw [8] (fun mv W => ∃ (m : Nat), 1 ≤ m ∧ m ≤ n ∧ mv = .int .i64 (m : Int) ∧ Hid (W.heap[ga]? = some (.cells (List.replicate m (Value.int .u64 x) ++ List.replicate (n - m) (Value.int .u64 0)).toArray 110 (0, 0))) ∧ Below w.heap.size w W) (fun m _ => n - (intOf m).toNat)
 case atStart => exact ⟨1, by omega, by omega, rfl, HS2, hb2⟩
 case round =>
  clear HS2 hb2
  obtain ⟨m, hm1, hmn, rfl, HH, hb⟩ := hrel
  by_cases hlt : m < n
  · have hmi : (m : Int) ≤ (n : Int) := by omega
    have hne : ¬ n = m := by omega
    have hne2 : ¬ m = n := by omega
    obtain ⟨d, hd⟩ : ∃ d, d = min m (n - m) := ⟨_, rfl⟩
    have hd1 : 1 ≤ d := by omega
    have hd2 : m + d ≤ n := by omega
    have HSP : Hid (splice (List.replicate m (Value.int .u64 x) ++ List.replicate (n - m) (Value.int .u64 0)) m (List.replicate d (Value.int .u64 x)) = List.replicate (m + d) (Value.int .u64 x) ++ List.replicate (n - (m + d)) (Value.int .u64 0)) := by
     show _ = _
     rw [hd]
     exact rep_splice
    have HSRC : Hid (∀ j v, (List.replicate d (Value.int .u64 x))[j]? = some v → wr.drew.cell? ((⟨ga, 0, none⟩ : Addr).add j) = some v) := fun j v hj => by
     have hjd : j < d := by simpa using (List.getElem?_eq_some_iff.1 hj).1
     have hv : v = .int .u64 x := by
      rw [List.getElem?_replicate, if_pos hjd] at hj
      exact (Option.some.inj hj).symm
     rw [Addr.add_lit, Nat.zero_add]
     show wr.cell? ⟨ga, j, none⟩ = _
     rw [cell_of_row wr ga j _ _ _ HH.out, hv, List.getElem?_toArray, List.getElem?_append_left (by simp; omega), List.getElem?_replicate, if_pos (by omega)]
    have HD : Hid ((List.replicate d (Value.int .u64 x)).length = Nat.min m (n - m)) := by
     show _ = _
     rw [List.length_replicate, hd]
    have HFT : Hid (m + (List.replicate d (Value.int .u64 x)).length ≤ (List.replicate m (Value.int .u64 x) ++ List.replicate (n - m) (Value.int .u64 0)).length) := by
     show _ ≤ _
     simp only [List.length_replicate, List.length_append]
     omega
    have HON : Hid (∀ v ∈ List.replicate d (Value.int .u64 x), v.oneCell' = true) := fun v hv => by rw [List.eq_of_mem_replicate hv]; rfl
    have HHD : Hid (wr.drew.heap[ga]? = some (.cells (List.replicate m (Value.int .u64 x) ++ List.replicate (n - m) (Value.int .u64 0)).toArray 110 (0, 0))) := HH
    have HBD := hide (Below.drew hb)
    clear hd
    have hsl1 := sliceU_l ga n m hlt
    have hsl2 := sliceU_h ga n m hmn
    clear hne hne2
    go_wp2_with fail
    focus (go_region_law (refine step_copyS rfl 45 rfl (.tmp 41) (.tmp 44) 107 107 rfl 110 Tryd.underlying107 hu8 (some ⟨ga, m, none⟩) (some ⟨ga, 0, none⟩) (n - m) (n - m) m n (by simp [Act.eval, Act.put]) (by simp [Act.eval, Act.put]) ga m (List.replicate m (Value.int .u64 x) ++ List.replicate (n - m) (Value.int .u64 0)) 110 (unhide HHD) (List.replicate d (Value.int .u64 x)) (unhide HD) (fun _ => ⟨rfl, _, rfl, unhide HSRC⟩) (unhide HFT) (unhide HON) w.heap.size w (unhide HBD) hgal d (List.length_replicate ..) ?_; intro w3 hA3 hb3))
    have ewr : IntKind.i64.wrap ((m : Int) + (d : Int)) = ((m + d : Nat) : Int) := by rw [IntKind.wrap_i64]; omega
    simp only [ewr, fGa, fGs, fGz, Act.put, fSa, fSs, fSz]
    go_wp2
    go_roundw
    case rel =>
     refine ⟨m + d, by omega, hd2, rfl, ?_, hb3⟩
     show _ = _
     rw [← HSP.out]
     exact hA3.out
    case measure => simp [intOf]; omega
  · have hme : m = n := by omega
    have HE : Hid (wr.heap[ga]? = some (.cells (List.replicate n (Value.int .u64 x)).toArray 110 (0, 0))) := by
     show _ = _
     rw [HH.out, hme]
     simp
    clear hme
    go_wp2
    go_ret
    exact ⟨ga, rfl, hgal, HE.out, hb⟩
end Go.Proofs.YtlofoklfggmbiaaDoor

namespace Go.Proofs.YtlofoklfggmbiaaDoor
open Go.RowKit

theorem grown_sets (w : World) (g j : Nat) (u : Value) : w.grownBy (w.setCell ⟨g, j, none⟩ u) (some g) :=
 ⟨rfl, rfl, rfl, by simp, fun k _ hk => heap_setCell_other w ⟨g, j, none⟩ k u (fun e => hk (by simp [e]))⟩
/-- The words of a space of which all are free. -/
def newW (size : Nat) : List Nat := List.replicate ((size + 63) / 64 - 1) 18446744073709551615 ++ [18446744073709551615 / 2 ^ (64 * ((size + 63) / 64) - size)]
theorem newW_len {size : Nat} (h : 0 < size) : (newW size).length = (size + 63) / 64 := by simp [newW]; omega
theorem max_bit (j : Nat) : (18446744073709551615 : Nat).testBit j = decide (j < 64) := by
 have := Nat.testBit_two_pow_sub_one 64 j
 exact this
theorem newW_bit {size : Nat} (h : 0 < size) (i : Nat) : bitAt (newW size) i = decide (i < size) := by
 unfold bitAt newW
 obtain ⟨L, hL⟩ : ∃ L, L = (size + 63) / 64 := ⟨_, rfl⟩
 rw [← hL, List.getD_eq_getElem?_getD]
 by_cases h1 : i / 64 < L - 1
 · rw [List.getElem?_append_left (by simpa using h1), List.getElem?_replicate, if_pos h1, Option.getD_some, max_bit, decide_eq_true (by omega), decide_eq_true (by omega)]
 · rw [List.getElem?_append_right (by simp; omega), List.length_replicate]
   by_cases h2 : i / 64 = L - 1
   · rw [h2, Nat.sub_self, List.getElem?_cons_zero, Option.getD_some, Nat.testBit_div_two_pow, max_bit]
     congr 1
     simp only [eq_iff_iff]
     omega
   · rw [List.getElem?_eq_none (by simp; omega)]
     simp
     omega
theorem newW_lt {size : Nat} : ∀ x ∈ newW size, x < 18446744073709551616 := by
 intro x hx
 rcases List.mem_append.1 hx with hx | hx
 · rw [List.eq_of_mem_replicate hx]; decide
 · rw [List.mem_singleton.1 hx]
   have := Nat.div_le_self 18446744073709551615 (2 ^ (64 * ((size + 63) / 64) - size))
   omega
set_option maxRecDepth 100000 in
set_option maxHeartbeats 4000000 in
theorem spNew_calls {w : World} (fr to_ : Nat) (h1 : fr < to_) (h2 : to_ ≤ 65536) :
 Calls Tryd.prog 29 #[.int .i64 (fr : Int), .int .i64 (to_ : Int)] w fun e w' => ∃ g gw, e = .returned (.tuple #[.pointer (some ⟨g, 0, none⟩), .int .i64 0]) ∧ Sp w' w.heap.size g gw fr to_ (newW (to_ - fr)) ∧ w.heap.size ≤ g ∧ Below w.heap.size w w' := by
 obtain ⟨L, hL⟩ : ∃ L, L = (to_ - fr + 63) / 64 := ⟨_, rfl⟩
 have hL1 : 0 < L := by omega
 have hL2 : L ≤ 1024 := by omega
 have HR := hide (repeat_calls (w := w) L hL1 hL2 18446744073709551615)
 have e1 : ((to_ : Int) - (fr : Int) + 64 - 1) / 64 = (L : Int) := by omega
 have HL := hide hL
 clear hL
 go_enter Tryd.func29, Tryd.ntmps29
 go_wp2_with fail
 refine (unhide HR).mono ?_
 rintro e w1 ⟨gw, rfl, hgw, hblk, hb1⟩
 have hc1 : w1.cell? ⟨gw, L - 1, none⟩ = some (.int .u64 18446744073709551615) := by
  rw [cell_of_row w1 gw (L - 1) _ _ _ hblk, List.getElem?_toArray, List.getElem?_replicate, if_pos (by omega)]
 have hf1 := frozen_of_row w1 gw (L - 1) _ _ hblk
 have HBK := hide hblk
 have hLs : to_ - fr ≤ L * 64 := by have := HL.out; omega
 have hLs2 : L * 64 < to_ - fr + 64 := by have := HL.out; omega
 have e2 : ((L : Int) - 1).toNat = L - 1 := by omega
 clear hblk
 go_wp2
 have hp : 18446744073709551615 / (2 : Int) ^ (L * 64 - (to_ - fr)) = ((18446744073709551615 / 2 ^ (L * 64 - (to_ - fr)) : Nat) : Int) := by simp
 rw [hp]
 obtain ⟨y, hy⟩ : ∃ y, y = 18446744073709551615 / 2 ^ (L * 64 - (to_ - fr)) := ⟨_, rfl⟩
 rw [← hy]
 have hnw : newW (to_ - fr) = List.replicate (L - 1) 18446744073709551615 ++ [y] := by
  unfold newW
  rw [← HL.out, hy, Nat.mul_comm 64 L]
 have hlen : (newW (to_ - fr)).length = L := by rw [newW_len (by omega), HL.out]
 have hs := heap_setCell_same w1 gw (L - 1) _ _ (.int .u64 (y : Int)) HBK.out
 have hcur : (List.replicate L (Value.int .u64 18446744073709551615)).toArray.setIfInBounds (L - 1) (.int .u64 (y : Int)) = (w64 (newW (to_ - fr))).toArray := by
  rw [List.setIfInBounds_toArray, hnw]
  congr 1
  unfold w64
  obtain ⟨j, rfl⟩ : ∃ j, L = j + 1 := ⟨L - 1, by omega⟩
  rw [Nat.add_sub_cancel, List.replicate_succ', List.set_append_right _ _ (by simp), List.length_replicate, Nat.sub_self, List.map_append, List.map_replicate]
  rfl
 rw [hcur] at hs
 have hg := grown_sets w1 gw (L - 1) (.int .u64 (y : Int))
 have hb2 : Below w.heap.size w (w1.setCell ⟨gw, L - 1, none⟩ (.int .u64 (y : Int))) := hb1.grown hg hb1.size (fun b hb => by injection hb with hb; omega)
 have hrow : Row (w1.setCell ⟨gw, L - 1, none⟩ (.int .u64 (y : Int))) w.heap.size 110 (.slice (some ⟨gw, 0, none⟩) L L) (w64 (newW (to_ - fr))) := by
  refine ⟨by simp, .inr ⟨gw, L, _, by rw [w64_len, hlen], hgw, hs, by rw [w64_len, hlen]; exact Nat.le_refl _, by unfold maxLen; omega, by simp [w64_len, hlen], ?_⟩⟩
  simp
 have hsz : w1.heap.size = (w1.setCell ⟨gw, L - 1, none⟩ (.int .u64 (y : Int))).heap.size := by simp
 generalize (w1.setCell ⟨gw, L - 1, none⟩ (.int .u64 (y : Int))) = w2 at *
 go_ret2
 refine ⟨_, gw, rfl, ⟨⟨L, ?_, ?_⟩, ⟨h1, h2⟩, newW_len (by omega), newW_lt, fun i hi => ?_⟩, ?_, hb2.alloc hb2.size _⟩
 · rw [hlen, hsz]
   exact heap_alloc_new w2 _
 · rw [hlen]
   exact hrow.kept (World.grownBy_alloc w2 _ none) (by simp [Value.ownBlock])
 · rw [newW_bit (by omega), decide_eq_false (by omega)]
 · exact hb1.size
end Go.Proofs.YtlofoklfggmbiaaDoor

namespace Go.Proofs.YtlofoklfggmbiaaDoor
open Go.RowKit

set_option maxRecDepth 100000 in
set_option maxHeartbeats 2000000 in
theorem new_no {w : World} (fr to_ : Int) (h : fr < 0 ∨ to_ ≤ fr ∨ 65536 < to_) :
 Calls Tryd.prog 29 #[.int .i64 fr, .int .i64 to_] w fun e w' => e = .returned (.tuple #[.pointer none, .int .i64 40]) ∧ Below w.heap.size w w' := by
 obtain ⟨b1, e1⟩ : ∃ b, decide (fr < 0) = b := ⟨_, rfl⟩
 obtain ⟨b2, e2⟩ : ∃ b, decide (fr ≥ to_) = b := ⟨_, rfl⟩
 obtain ⟨b3, e3⟩ : ∃ b, decide (to_ > 65536) = b := ⟨_, rfl⟩
 have hb : (b1 || (b2 || b3)) = true := by
  rw [← e1, ← e2, ← e3]
  simp only [Bool.or_eq_true, decide_eq_true_eq]
  omega
 clear h
 go_enter Tryd.func29, Tryd.ntmps29
 cases b1 <;> cases b2 <;> cases b3 <;> first | (exact absurd hb (by decide)) | skip
 all_goals (go_wp2; go_ret2; exact ⟨rfl, Below.refl _ _⟩)
end Go.Proofs.YtlofoklfggmbiaaDoor

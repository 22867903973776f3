/- DiskLent, walked. -/
import Derived.Test.YtfgjhlnaaopdeabLtB
import Derived.Test.YtfgjhlnaaopdeabDkO
import Derived.Test.YtfgjhlnaaopdeabStG
import Derived.Deep.QuietTactic
import Derived.BigQuiet
namespace Go.Proofs.Ytfgjhlnaaopdeab
open Go.RowKit Go.Maps

theorem upd_id {α : Type} (f : Nat → α) (i : Nat) : upd f i (f i) = f := by
  funext k
  by_cases e : k = i
  · rw [e, upd_same]
  · rw [upd_other _ _ e]
def Rf (xss : List (List Int)) (k : Nat) : List Value := (rowL (xss.getD k []) 91 92 93).map (Value.int .u8)
/-- Behind i rows. -/
def L1 (w wr : World) (xss : List (List Int)) (i : Nat) (vv : Value) : Prop := Below w.heap.size w wr ∧ ∃ g cp us, us.length = i ∧ Lt w wr i g cp (Rf xss) vv us
theorem rowL_len (xs : List Int) (hs : IsSec (secOf xs)) (a b c : Int) : (rowL xs a b c).length = 515 := by
  unfold rowL
  rw [List.length_append, hs.1]
  rfl
theorem rowL_take (xs : List Int) (hs : IsSec (secOf xs)) (a b c : Int) : (rowL xs a b c).take 512 = secOf xs := by
  unfold rowL
  rw [List.take_append_of_le_length (by rw [hs.1]; exact Nat.le_refl _), List.take_of_length_le (by rw [hs.1]; exact Nat.le_refl _)]
theorem rowL_mem (xs : List Int) (hs : IsSec (secOf xs)) {a b c : Int} (ha : 0 ≤ a ∧ a ≤ 255) (hb : 0 ≤ b ∧ b ≤ 255) (hc : 0 ≤ c ∧ c ≤ 255) : ∀ x ∈ rowL xs a b c, 0 ≤ x ∧ x ≤ 255 := fun x hx => by
  rcases List.mem_append.1 hx with hx | hx
  · exact hs.2 x hx
  · simp only [List.mem_cons, List.not_mem_nil, or_false] at hx
    rcases hx with rfl | rfl | rfl
    · exact ha
    · exact hb
    · exact hc
theorem rowL_at (xs : List Int) (hs : IsSec (secOf xs)) (a b c : Int) : ((rowL xs a b c).map (Value.int .u8))[512]? = some (.int .u8 a) ∧ ((rowL xs a b c).map (Value.int .u8))[513]? = some (.int .u8 b) ∧ ((rowL xs a b c).map (Value.int .u8))[514]? = some (.int .u8 c) := by
  unfold rowL
  refine ⟨?_, ?_, ?_⟩ <;> rw [List.getElem?_map, List.getElem?_append_right (by rw [hs.1]; decide), hs.1] <;> rfl
theorem isB_bytes {w : World} {v : Value} {xs : List Int} (h : IsB w v xs) : IsSec (secOf xs) ∧ xs.length ≤ 9223372036854775807 := by
  obtain ⟨a, cap, _, h1, h2, _⟩ := h.val
  exact ⟨secOf_is h.mem, by omega⟩
theorem row515 {wr w1 W w2 : World} {g1 : Nat} {xs : List Int} {a b c : Int} {v2 : Value} (hs : IsSec (secOf xs)) (hu1 : Own8 w1 wr.heap.size (.slice (some ⟨g1, 0, none⟩) 512 512) (secOf xs)) (hb1 : Below wr.heap.size wr w1) (hb2 : Below w1.heap.size w1 W) (ho : Own8 w2 wr.heap.size v2 (secOf xs ++ [a, b, c]))
    (hg : W.grownBy w2 (Value.slice (some ⟨g1, 0, none⟩) 512 512).ownBlock) : ∃ g2 c2, v2 = .slice (some ⟨g2, 0, none⟩) 515 c2 ∧ 515 ≤ c2 ∧ Below wr.heap.size wr w2 ∧ Row w2 wr.heap.size 5 (.slice (some ⟨g2, 0, none⟩) 515 c2) ((rowL xs a b c).map (Value.int .u8)) := by
  have hlen := rowL_len xs hs a b c
  obtain ⟨g2, c2, e, _⟩ := ho.head (by show 0 < (rowL xs a b c).length; rw [hlen]; decide)
  have e2 : (secOf xs ++ [a, b, c]).length = 515 := hlen
  rw [e2] at e
  subst e
  have hr := own8_row ho
  have hg1 := (hu1.1.lt g1 rfl).1
  exact ⟨g2, c2, rfl, hr.cap.2.1, (hb1.trans (hb2.mono hb1.size)).grown hg (Nat.le_trans hb1.size hb2.size) (fun k hk => by simp only [Value.ownBlock, Option.some.injEq] at hk; omega), hr⟩
theorem isI_lit2 (w : World) (x y : Int) (hx : -9223372036854775808 ≤ x ∧ x ≤ 9223372036854775807) (hy : -9223372036854775808 ≤ y ∧ y ≤ 9223372036854775807) : IsI (w.alloc (.cells #[.int .i64 x, .int .i64 y] 3)) (.slice (some ⟨w.heap.size, 0, none⟩) 2 2) [x, y] := by
  have hA := Arr.new w [.int .i64 x, .int .i64 y] 3
  refine ⟨fun c hc => ?_, some ⟨w.heap.size, 0, none⟩, 2, rfl, Nat.le_refl _, by omega, fun _ => ⟨w.heap.size, 0, rfl, fun j hj => ?_⟩⟩
  · simp only [List.mem_cons, List.not_mem_nil, or_false] at hc
    rcases hc with rfl | rfl
    · exact hx
    · exact hy
  · rw [Nat.zero_add]
    have hj2 : j < 2 := hj
    refine (hA.cell j).trans ?_
    rcases (by omega : j = 0 ∨ j = 1) with rfl | rfl <;> rfl
theorem rowZ {W : World} {B m : Nat} {v : Value} {fs : List Int} (h : Row W B 3 v (fs.map (Value.int .i64) ++ [(777 : Int), 778].map (Value.int .i64))) (hm : fs.length = m) :
    ∃ gz cz, v = .slice (some ⟨gz, 0, none⟩) (m + 2) cz ∧ m + 2 ≤ cz ∧ Row W B 3 (.slice (some ⟨gz, 0, none⟩) (m + 2) cz) ((fs ++ [777, 778]).map (Value.int .i64)) := by
  rw [← List.map_append] at h
  have hlen : ((fs ++ [777, 778]).map (Value.int .i64)).length = m + 2 := by rw [List.length_map, List.length_append, hm]; rfl
  obtain ⟨gz, cz, e, h1, h2, _⟩ := h.head (by rw [hlen]; omega)
  rw [hlen] at e h1
  subst e
  exact ⟨gz, cz, rfl, h1, h⟩
theorem drewn_bL (w : World) (n : Nat) : Below w.heap.size w (w.drewN n) := ⟨rfl, rfl, rfl, Nat.le_refl _, fun _ _ => rfl⟩
/-- With what two readings told. -/
def Lx (w wr : World) (B p n : Nat) (D : AD) (g cp : Nat → Nat) (R : Nat → List Value) (vim : Value) (us : List Value) (gf cf : Nat) (RF : List Value) (vfs : Value) (fs : List Value) (gw g0 : Nat) (s1 s0 : List Int) : Prop :=
  Lw w wr B p n D g cp R vim us gf cf RF vfs fs ∧ Arr wr gw 77 (u8V s1) ∧ Arr wr g0 77 (u8V s0)
theorem Lx.below {w wr w' : World} {B p n : Nat} {D : AD} {g cp : Nat → Nat} {R : Nat → List Value} {vim : Value} {us : List Value} {gf cf : Nat} {RF : List Value} {vfs : Value} {fs : List Value} {gw g0 : Nat} {s1 s0 : List Int} (h : Lx w wr B p n D g cp R vim us gf cf RF vfs fs gw g0 s1 s0) (hb : Below wr.heap.size wr w') : Lx w w' B p n D g cp R vim us gf cf RF vfs fs gw g0 s1 s0 := ⟨h.1.below hb, h.2.1.below hb, h.2.2.below hb⟩
theorem sec_keep {w : World} {B g n c j gw : Nat} {xs cs : List Value} {u : Value} (hr : Row w B 5 (.slice (some ⟨g, 0, none⟩) n c) xs) (h : Arr w gw 77 cs) : Arr (w.setCell ⟨g, j, none⟩ u) gw 77 cs := by
  obtain ⟨cur, hc, _⟩ := hr.blk2 rfl
  refine h.other _ _ (fun e => ?_)
  have e2 : gw = g := e
  subst e2
  unfold Arr at h
  rw [hc] at h
  simp only [Option.some.injEq, Obj.cells.injEq] at h
  exact absurd h.2.1 (by decide)
theorem sector_enterL (v : Value) (W : World) : (callFunc 17 #[v]).run Try.prog W = .ok (.enter 17 #[v]) W := by kernel_rfl
theorem nil_neq (W : World) : (binOp BinOp.neq 23 (.slice none 0 0) (.slice none 0 0)).run Try.prog W = .ok (.bool false) W := by kernel_rfl
/-- The rows of the list, as Load reads them. -/
theorem Lt.isBB {w wr : World} {n gi ci : Nat} {g cp : Nat → Nat} {xss : List (List Int)} {us : List Value} (h : Lt w wr n g cp (Rf xss) (.slice (some ⟨gi, 0, none⟩) (n + 1) ci) us) (hx : ∀ k, k < n → IsSec (secOf (xss.getD k []))) (hc : n + 1 ≤ ci) (hc2 : ci ≤ 9223372036854775807) :
    IsBB wr (.slice (some ⟨gi, 0, none⟩) n ci) ((List.range n).map fun k => secOf (xss.getD k [])) := by
  have hl : ((List.range n).map fun k => secOf (xss.getD k [])).length = n := by simp
  refine ⟨some ⟨gi, 0, none⟩, ci, by rw [hl], by omega, by omega, fun _ => ⟨gi, 0, rfl, fun j hj => ?_⟩⟩
  rw [hl] at hj
  have h1 := h.each j hj
  obtain ⟨hlt, _⟩ := List.getElem?_eq_some_iff.1 h1
  refine ⟨_, by rw [Nat.zero_add, h.im.cellAt hlt]; exact h1, ?_⟩
  have e : ((List.range n).map fun k => secOf (xss.getD k [])).getD j [] = secOf (xss.getD j []) := by rw [List.getD_eq_getElem?_getD, List.getElem?_map, List.getElem?_range hj]; rfl
  rw [e]
  have h2 := row_own8 (m := 512) (xs := rowL (xss.getD j []) 91 92 93) (h.rows j hj) (by rw [rowL_len _ (hx j hj)]; decide) (rowL_mem _ (hx j hj) (by decide) (by decide) (by decide))
  rw [rowL_take _ (hx j hj)] at h2
  exact h2.isB
set_option maxRecDepth 100000 in
set_option maxHeartbeats 8000000 in
theorem lent_walk {w : World} {vi vb vf : Value} {xss : List (List Int)} {bs fs : List Int} (hI : IsBB w vi xss) (hB : IsB w vb bs) (hF : IsI w vf fs) (hz : ∀ n c, vf = .slice none n c → c = 0) (hl : fs.length * 8 ≤ 140737488351232) :
    Calls Try.prog 6 #[vi, vb, vf] w fun e w' => e = .returned (.bool true) ∧ Below w.heap.size w w' := by
  obtain ⟨⟨ia, ic, rfl, hic, hic2, hcell⟩⟩ := hI
  obtain ⟨ba, bn, bc, rfl⟩ := hB.shape
  have hF0 := hF
  obtain ⟨hfb, fa, fc, rfl, hfc, hfc2, hfcell⟩ := hF
  generalize hn : xss.length = n at *
  generalize hm : fs.length = m at *
  by_cases hlo : n < 2
  · clear hcell hfcell hF0 hB hz hfb
    go_enter Try.func6, Try.ntmps6
    go_wp2
    go_ret
    exact ⟨rfl, Below.refl _ _⟩
  by_cases hhi : 20 < n
  · clear hcell hfcell hF0 hB hz hfb
    go_enter Try.func6, Try.ntmps6
    go_wp2
    go_ret
    exact ⟨rfl, Below.refl _ _⟩
  obtain ⟨ib, io, rfl, hcl⟩ := hcell (by omega)
  have HN := hide hn
  have HM := hide hm
  clear hn hm
  have HSE : Hid (∀ k, k < n → ∀ W, Below w.heap.size w W → ∃ ua un uc, W.cell? ⟨ib, io + k, none⟩ = some (.slice ua un uc) ∧ IsB W (.slice ua un uc) (xss.getD k [])) := fun k hk W hW => by
    obtain ⟨u, h1, h2⟩ := hcl k hk
    obtain ⟨ua, un, uc, rfl⟩ := h2.shape
    have hlt := World.block_lt_of_cell? w _ h1
    exact ⟨ua, un, uc, (hW.cell (p := ⟨ib, io + k, none⟩) hlt).trans h1, h2.below hW⟩
  have HXS : Hid (∀ k, k < n → IsSec (secOf (xss.getD k []))) := fun k hk => by
    obtain ⟨ua, un, uc, _, h2⟩ := unhide HSE k hk w (Below.refl _ _)
    exact (isB_bytes h2).1
  have HBB : Hid (IsB w (.slice ba bn bc) bs) := hB
  have HFF : Hid (IsI w (.slice fa m fc) fs) := hF0
  have HFZ : Hid (∀ n c, Value.slice fa m fc = .slice none n c → c = 0) := hz
  have HFC : Hid (∀ k, k < m → ∃ gb go, fa = some ⟨gb, go, none⟩ ∧ w.cell? ⟨gb, go + k, none⟩ = some (.int .i64 (fs.getD k 0))) := fun k hk => by
    obtain ⟨gb, go, e, h⟩ := hfcell (by omega)
    exact ⟨gb, go, e, h k hk⟩
  clear hcell hcl hB hF0 hz hfcell hfb
  go_enter Try.func6, Try.ntmps6
  go_wp2
  go_loopw [7, 8] (fun vv iv wr => ∃ i : Nat, i ≤ n ∧ iv = .int .i64 (i : Int) ∧ Hid (L1 w wr xss i vv)) (fun _ iv _ => n - (intOf iv).toNat)
  case atStart => exact ⟨0, by omega, rfl, Below.refl _ _, fun _ => 0, fun _ => 0, [], rfl, Lt.nil _ _ _ _ _⟩
  case round =>
    obtain ⟨i, hin, rfl, HL⟩ := hrel
    by_cases hil : i < n
    · obtain ⟨hbw, g, cp, us, hus, hLt⟩ := HL.out
      obtain ⟨ua, un, uc, huc, hub⟩ := unhide HSE i hil wr hbw
      have HUB := hide hub
      have HBW := hide hbw
      have HLT := hide hLt
      have HUS := hide hus
      clear hbw hLt hub HL hus
      go_wp2_with fail
      refine (sector_calls HUB.out (isB_bytes HUB.out).2).mono ?_
      rintro e w1 ⟨g1, rfl, hu1, hb1⟩
      have hlit : IsB (w1.alloc (.cells #[.int .u8 91, .int .u8 92, .int .u8 93] 5)) (.slice (some ⟨w1.heap.size, 0, none⟩) 3 3) [91, 92, 93] := isB_lit w1 [91, 92, 93] (by decide) (by decide)
      have hb2 := (Below.refl w1.heap.size w1).alloc (Nat.le_refl _) (.cells #[.int .u8 91, .int .u8 92, .int .u8 93] 5)
      have HO1 := hide (hu1.below hb2)
      have hsz1 : wr.heap.size ≤ (w1.alloc (.cells #[.int .u8 91, .int .u8 92, .int .u8 93] 5)).heap.size := Nat.le_trans hb1.size hb2.size
      have hl5 : (secOf (xss.getD i [])).length + [(91 : Int), 92, 93].length ≤ 140737488355328 := by rw [(unhide HXS i hil).1]; decide
      have HNX : Hid (∀ v2 w2, Own8 w2 wr.heap.size v2 (secOf (xss.getD i []) ++ [91, 92, 93]) → (w1.alloc (.cells #[.int .u8 91, .int .u8 92, .int .u8 93] 5)).grownBy w2 (Value.slice (some ⟨g1, 0, none⟩) 512 512).ownBlock → ∃ g2 c2, v2 = .slice (some ⟨g2, 0, none⟩) 515 c2 ∧ 515 ≤ c2 ∧ Below wr.heap.size wr w2 ∧ Row w2 wr.heap.size 5 (.slice (some ⟨g2, 0, none⟩) 515 c2) ((rowL (xss.getD i []) 91 92 93).map (Value.int .u8))) := fun v2 w2 ho hg => by
        have hlen := rowL_len (xss.getD i []) (unhide HXS i hil) 91 92 93
        obtain ⟨g2, c2, e, _⟩ := ho.head (by show 0 < (rowL (xss.getD i []) 91 92 93).length; rw [hlen]; decide)
        have e2 : (secOf (xss.getD i []) ++ [91, 92, 93]).length = 515 := hlen
        rw [e2] at e
        subst e
        have hr := own8_row ho
        have hg1 := (hu1.1.lt g1 rfl).1
        exact ⟨g2, c2, rfl, hr.cap.2.1, (hb1.trans (hb2.mono hb1.size)).grown hg (Nat.le_trans hb1.size hb2.size) (fun k hk => by simp only [Value.ownBlock, Option.some.injEq] at hk; omega), hr⟩
      clear hu1 hb1 hb2
      go_wp2_with (first
        | (at_builtin; refine wpList_appB (by rfl) (.tmp 45) (.tmp 46) rfl rfl HO1.out rfl hlit hl5 hsz1 ?_; intro v2 w2 hr2 hg2
           obtain ⟨g2, c2, rfl, hc2, hb2, hR2⟩ := unhide HNX v2 w2 hr2 hg2
           have hcut : ∀ W, (Instr.sliceAt 23 (.slice (some ⟨g2, 0, none⟩) 515 c2) none (some (.int .i64 512)) none).run Try.prog W = .ok (.slice (some ⟨g2, 0, none⟩) 512 c2) W := fun W => cutB (m := 512) (by omega) (by omega) W
           have hb3 := (Below.refl w2.heap.size w2).alloc (Nat.le_refl _) (.cells #[.slice (some ⟨g2, 0, none⟩) 512 c2] 23)
           have HIM := hide ((HLT.out.im.below hb2).below hb3)
           have hcn : (w2.alloc (.cells #[.slice (some ⟨g2, 0, none⟩) 512 c2] 23)).cell? ⟨w2.heap.size, 0, none⟩ = some (.slice (some ⟨g2, 0, none⟩) 512 c2) := by simp
           have hsz3 : w.heap.size ≤ (w2.alloc (.cells #[.slice (some ⟨g2, 0, none⟩) 512 c2] 23)).heap.size := Nat.le_trans HBW.out.size (Nat.le_trans hb2.size hb3.size)
           have hl3 : us.length ≤ 1000000 := by rw [HUS.out]; omega
           have HFI : Hid (∀ v4 w4, Row w4 w.heap.size 23 v4 (us ++ [.slice (some ⟨g2, 0, none⟩) 512 c2]) → (w2.alloc (.cells #[.slice (some ⟨g2, 0, none⟩) 512 c2] 23)).grownBy w4 u7.ownBlock → L1 w w4 xss (i + 1) v4) := fun v4 w4 ho hg => by
             have h1 := HLT.out.snoc HUS.out HBW.out.size hb2 hR2 hb3 hg ho
             have e9 : upd (Rf xss) i ((rowL (xss.getD i []) 91 92 93).map (Value.int .u8)) = Rf xss := upd_id (Rf xss) i
             rw [e9] at h1
             refine ⟨?_, _, _, _, by rw [List.length_append, HUS.out]; rfl, h1⟩
             exact ((HBW.out.trans (hb2.mono HBW.out.size)).trans (hb3.mono (Nat.le_trans HBW.out.size hb2.size))).grown hg hsz3 (fun k hk => (HLT.out.im.lt k hk).1)
           clear hr2 hg2 HNX HO1 hlit hl5 hsz1 hb2 hR2 hb3)
        | (at_builtin; refine wpList_appR1 rfl (.tmp 48) (.tmp 51) rfl rfl HIM.out rfl hcn rfl hl3 hsz3 ?_; intro v4 w4 hr4 hg4
           have HL4 := hide (unhide HFI v4 w4 hr4 hg4)
           clear hr4 hg4 HFI HIM hcn hl3 hsz3 hcut))
      go_roundw
      case rel => exact ⟨i + 1, by omega, by go_num, HL4⟩
      case measure => simp [intOf]; omega
    · have hie : i = n := by omega
      have HL2 : Hid (L1 w wr xss n u7) := by have := HL.out; rw [hie] at this; exact this
      clear HL hie
      obtain ⟨hbw, g, cp, us, hus, hLt⟩ := HL2.out
      have hb3 := (Below.refl wr.heap.size wr).alloc (Nat.le_refl _) (.cells #[.slice none 0 0] 23)
      have HIM := hide (hLt.im.below hb3)
      have hcn : (wr.alloc (.cells #[.slice none 0 0] 23)).cell? ⟨wr.heap.size, 0, none⟩ = some (.slice none 0 0) := by simp
      have hsz3 : w.heap.size ≤ (wr.alloc (.cells #[.slice none 0 0] 23)).heap.size := Nat.le_trans hbw.size hb3.size
      have hl3 : us.length ≤ 1000000 := by omega
      have HF9 : Hid (∀ v4 w4, Row w4 w.heap.size 23 v4 (us ++ [.slice none 0 0]) → (wr.alloc (.cells #[.slice none 0 0] 23)).grownBy w4 u7.ownBlock → ∃ gi ci, v4 = .slice (some ⟨gi, 0, none⟩) (n + 1) ci ∧ n + 1 ≤ ci ∧ ci ≤ 9223372036854775807 ∧ Below w.heap.size w w4 ∧ Lt w w4 n g cp (Rf xss) (.slice (some ⟨gi, 0, none⟩) (n + 1) ci) (us ++ [.slice none 0 0])) := fun v4 w4 ho hg => by
        have hlen : (us ++ [Value.slice none 0 0]).length = n + 1 := by rw [List.length_append, hus]; rfl
        obtain ⟨gi, ci, e, h1, h2, _⟩ := ho.head (by rw [hlen]; omega)
        rw [hlen] at e h1
        subst e
        exact ⟨gi, ci, rfl, h1, h2, (hbw.trans (hb3.mono hbw.size)).grown hg hsz3 (fun k hk => (hLt.im.lt k hk).1), (hLt.below hb3).app hg ho⟩
      have HUS : Hid ((us ++ [Value.slice none 0 0]).length = n + 1 ∧ (us ++ [Value.slice none 0 0])[n]? = some (.slice none 0 0)) := by
        refine ⟨by rw [List.length_append, hus]; rfl, ?_⟩
        rw [List.getElem?_append_right (by omega), hus, Nat.sub_self]
        rfl
      have HBS := hide (isB_bytes HBB.out)
      clear hbw hus hLt hb3 HL2
      go_wp2_with (first
        | (at_builtin; refine wpList_appR1 rfl (.tmp 53) (.tmp 54) rfl rfl HIM.out rfl hcn rfl hl3 hsz3 ?_; intro v4 w4 hr4 hg4
           obtain ⟨gi, ci, rfl, hci, hci2, hb4, hLt4⟩ := unhide HF9 v4 w4 hr4 hg4
           have HB4 := hide hb4
           have HLT4 := hide hLt4
           clear hr4 hg4 HF9 HIM hcn hl3 hsz3 hb4 hLt4))
      generalize us ++ [Value.slice none 0 0] = us1 at *
      refine (sector_calls (HBB.out.below HB4.out) HBS.out.2).mono ?_
      rintro e w5 ⟨g5, rfl, hu5, hb5⟩
      have hlit : IsB (w5.alloc (.cells #[.int .u8 94, .int .u8 95, .int .u8 96] 5)) (.slice (some ⟨w5.heap.size, 0, none⟩) 3 3) [94, 95, 96] := isB_lit w5 [94, 95, 96] (by decide) (by decide)
      have hb6 := (Below.refl w5.heap.size w5).alloc (Nat.le_refl _) (.cells #[.int .u8 94, .int .u8 95, .int .u8 96] 5)
      have HO5 := hide (hu5.below hb6)
      have hsz5 : w4.heap.size ≤ (w5.alloc (.cells #[.int .u8 94, .int .u8 95, .int .u8 96] 5)).heap.size := Nat.le_trans hb5.size hb6.size
      have hl5 : (secOf bs).length + [(94 : Int), 95, 96].length ≤ 140737488355328 := by rw [HBS.out.1.1]; decide
      have HNX : Hid (∀ v2 w2, Own8 w2 w4.heap.size v2 (secOf bs ++ [94, 95, 96]) → (w5.alloc (.cells #[.int .u8 94, .int .u8 95, .int .u8 96] 5)).grownBy w2 (Value.slice (some ⟨g5, 0, none⟩) 512 512).ownBlock → ∃ g2 c2, v2 = .slice (some ⟨g2, 0, none⟩) 515 c2 ∧ 515 ≤ c2 ∧ Below w4.heap.size w4 w2 ∧ Row w2 w4.heap.size 5 (.slice (some ⟨g2, 0, none⟩) 515 c2) ((rowL bs 94 95 96).map (Value.int .u8))) := fun v2 w2 ho hg => row515 HBS.out.1 hu5 hb5 hb6 ho hg
      have hcutS : ∀ W, (Instr.sliceAt 33 (.slice (some ⟨gi, 0, none⟩) (n + 1) ci) none (some (.int .i64 (n : Int))) none).run Try.prog W = .ok (.slice (some ⟨gi, 0, none⟩) n ci) W := fun W => cutS (m := n) (by omega) (by omega) W
      clear hu5 hb5 hb6
      go_wp2_with (first
        | (at_builtin; refine wpList_appB (by rfl) (.tmp 57) (.tmp 58) rfl rfl HO5.out rfl hlit hl5 hsz5 ?_; intro v6 w6 hr6 hg6
           obtain ⟨gf, cf, rfl, hcf, hb6, hR6⟩ := unhide HNX v6 w6 hr6 hg6
           have hb7 := (Below.refl w6.heap.size w6).alloc (Nat.le_refl _) (.cells #[] 3)
           have HR7 : Hid (Row (w6.alloc (.cells #[] 3)) w6.heap.size 3 (.slice (some ⟨w6.heap.size, 0, none⟩) 0 0) []) := ⟨by simp, .inr ⟨w6.heap.size, 0, #[], rfl, Nat.le_refl _, Arr.new w6 [] 3, Nat.le_refl _, by unfold maxLen; omega, rfl, rfl⟩⟩
           have HB6 := hide hb6
           have HI7 := hide ((HFF.out.below (HB4.out.trans (hb6.mono HB4.out.size))).below hb7)
           have hl7 : (([] : List Value).length + fs.length) * 8 ≤ 140737488355328 := by rw [HM.out]; simp; omega
           have hsz7 : w6.heap.size ≤ (w6.alloc (.cells #[] 3)).heap.size := hb7.size
           have HR6 := hide hR6
           have HB7 := hide hb7
           clear hr6 hg6 HNX HO5 hlit hl5 hsz5 hb6 hR6 hb7)
        | (at_builtin; refine wpList_appN rfl (.tmp 60) (.tmp 61) rfl rfl HR7.out rfl HI7.out HFZ.out hl7 hsz7 ?_; intro v7 w7 hr7 hg7
           have HB77 := hide (HB7.out.grown hg7 hsz7 (fun k hk => (Row.lt HR7.out k hk).1))
           have hb8 := (Below.refl w7.heap.size w7).alloc (Nat.le_refl _) (.cells #[.int .i64 777, .int .i64 778] 3)
           have hsz8 : w6.heap.size ≤ (w7.alloc (.cells #[.int .i64 777, .int .i64 778] 3)).heap.size := Nat.le_trans HB77.out.size hb8.size
           have HR8 : Hid (Row (w7.alloc (.cells #[.int .i64 777, .int .i64 778] 3)) w6.heap.size 3 v7 (fs.map (Value.int .i64))) := Row.below hr7 hb8
           have HI8 : Hid (IsI (w7.alloc (.cells #[.int .i64 777, .int .i64 778] 3)) (.slice (some ⟨w7.heap.size, 0, none⟩) 2 2) [777, 778]) := isI_lit2 w7 777 778 (by decide) (by decide)
           have HB8 := hide ((HB77.out.trans (hb8.mono HB77.out.size)))
           have HOW7 : Hid (∀ k, v7.ownBlock = some k → w6.heap.size ≤ k) := fun k hk => (Row.lt hr7 k hk).1
           clear hr7 hg7 HR7 HI7 hl7 hsz7 HB7 hb8 HB77)
        | (at_builtin; refine wpList_appN rfl (.tmp 62) (.tmp 63) rfl rfl HR8.out rfl HI8.out (fun n c h => by cases h) (by rw [List.length_map, HM.out]; simp only [List.length_cons, List.length_nil]; omega) hsz8 ?_; intro v8 w8 hr8 hg8
           have hb88 := HB8.out.grown hg8 hsz8 HOW7.out
           have HZ8 : Hid (∃ gz cz, v8 = .slice (some ⟨gz, 0, none⟩) (m + 2) cz ∧ m + 2 ≤ cz ∧ Row w8 w6.heap.size 3 (.slice (some ⟨gz, 0, none⟩) (m + 2) cz) ((fs ++ [777, 778]).map (Value.int .i64))) := rowZ hr8 HM.out
           have HBW8 := hide ((HB4.out.trans (HB6.out.mono HB4.out.size)).trans (hb88.mono (Nat.le_trans HB4.out.size HB6.out.size)))
           have HLT8 := hide ((HLT4.out.below HB6.out).below hb88)
           have HR68 := hide (Row.below HR6.out hb88)
           have HSZ6 := hide HB6.out.size
           have HSZ4 := hide HB4.out.size
           obtain ⟨gz, cz, rfl, hcz, hRz⟩ := HZ8.out
           have HRZ := hide hRz
           have HFR : Hid (∀ k, k < n → g k ≠ gf) := fun k hk e => by
             have h1 := (HLT4.out.rows k hk).cap.2.2.2.2
             have h2 := HR6.out.cap.2.2.2.1
             omega
           clear hr8 hg8 HR8 HI8 hsz8 HB8 HOW7 hb88 HZ8 hRz HB6 HB4 HLT4 HR6))
      have HLB := hide (HLT8.out.isBB HXS.out hci hci2)
      have HSC : Hid (∀ s ∈ (List.range n).map fun k => secOf (xss.getD k []), IsSec s) := fun s hs => by
        obtain ⟨k, hk, rfl⟩ := List.mem_map.1 hs
        exact unhide HXS k (List.mem_range.1 hk)
      have HS0 : Hid (((List.range n).map fun k => secOf (xss.getD k [])).length = n ∧ ((List.range n).map fun k => secOf (xss.getD k [])).getD 0 zsec = secOf (xss.getD 0 [])) := by
        refine ⟨by simp, ?_⟩
        rw [List.getD_eq_getElem?_getD, List.getElem?_map, List.getElem?_range (by omega)]
        rfl
      generalize ((List.range n).map fun k => secOf (xss.getD k [])) = ss at *
      refine (loadE_calls (A := fun b => b < w.heap.size) (fun _ h => h) (Up.of_below HBW8.out) HLB.out HSC.out (by rw [HS0.out.1]; omega) (by rw [HS0.out.1]; omega)).mono ?_
      rintro e w9 ⟨p, rfl, hdk9, hb9⟩
      have HLW : Hid (Lw w w9 0 p n (loadE ss) g cp (Rf xss) (.slice (some ⟨gi, 0, none⟩) (n + 1) ci) us1 gf cf ((rowL bs 94 95 96).map (Value.int .u8)) (.slice (some ⟨gz, 0, none⟩) (m + 2) cz) ((fs ++ [777, 778]).map (Value.int .i64))) :=
        ⟨HLT8.out.below hb9, (HR68.out.below hb9).mono HSZ4.out, HFR.out, (HRZ.out.below hb9).mono (Nat.le_trans HSZ4.out HSZ6.out), hdk9⟩
      clear HLB HSC HBW8 hdk9 hb9 HLT8 HR68 HRZ HFR HSZ4 HSZ6 hcutS
      obtain ⟨m1, hm1⟩ : ∃ m1 : Nat, (m : Int) + 1 = (m1 : Int) := ⟨m + 1, by omega⟩
      have hm1b : m1 ≤ 100000000000000 := by omega
      have hwm : IntKind.i64.wrap (m1 : Int) = (m1 : Int) := IntWalk.i64_in _ (by omega)
      have hnil : ∀ W : World, (binOp BinOp.neq 23 (.slice none 0 0) (.slice none 0 0)).run Try.prog W = .ok (.bool false) W := fun W => nil_neq W
      have HM1 : Hid (m1 = m + 1) := by show m1 = m + 1; omega
      have hmz0 : m < m + 2 := by omega
      have hmz1 : m1 < m + 2 := by omega
      have HMZ : Hid (m + 2 = m + 2) := rfl
      have hnz0 : n < n + 1 := by omega
      have hczm : m ≤ cz := by omega
      have hcz0 : 0 < cz := by omega
      have HCU := hide hci
      have hD1 : Hid (((loadE ss).write 1 (secOf bs)).la.length = n) := HS0.out.1
      have HWR : Hid (Calls Try.prog 10 #[.pointer (some ⟨p, 0, none⟩), .int .i64 1, .slice (some ⟨gf, 0, none⟩) 512 cf] w9 fun e w' => e = .returned (.int .i64 0) ∧ Lw w w' 1 p n ((loadE ss).write 1 (secOf bs)) g cp (Rf xss) (.slice (some ⟨gi, 0, none⟩) (n + 1) ci) us1 gf cf ((rowL bs 94 95 96).map (Value.int .u8)) (.slice (some ⟨gz, 0, none⟩) (m + 2) cz) ((fs ++ [777, 778]).map (Value.int .i64))) := by
        have h2 := row_own8 (m := 512) HLW.out.fl (by rw [rowL_len _ HBS.out.1]; decide) (rowL_mem _ HBS.out.1 (by decide) (by decide) (by decide))
        rw [rowL_take _ HBS.out.1] at h2
        exact HLW.out.write (i := 1) (by show 1 < ss.length; rw [HS0.out.1]; omega) (by decide) (h2.mono (Nat.zero_le _)) HBS.out.1
      have HFB : Hid (∀ x ∈ fs, -9223372036854775808 ≤ x ∧ x ≤ 9223372036854775807) := HFF.out.bd
      have HCR : Hid (∀ W, Lw w W 1 p n ((loadE ss).write 1 (secOf bs)) g cp (Rf xss) (.slice (some ⟨gi, 0, none⟩) (n + 1) ci) us1 gf cf ((rowL bs 94 95 96).map (Value.int .u8)) (.slice (some ⟨gz, 0, none⟩) (m + 2) cz) ((fs ++ [777, 778]).map (Value.int .i64)) →
          Calls Try.prog 19 #[.pointer (some ⟨p, 0, none⟩), .slice (some ⟨gz, 0, none⟩) m cz] W fun e w' => e = .returned (.tuple #[]) ∧ Lw w w' 1 p n (((loadE ss).write 1 (secOf bs)).settle fun k => fs.getD k 0) g cp (Rf xss) (.slice (some ⟨gi, 0, none⟩) (n + 1) ci) us1 gf cf ((rowL bs 94 95 96).map (Value.int .u8)) (.slice (some ⟨gz, 0, none⟩) (m + 2) cz) ((fs ++ [777, 778]).map (Value.int .i64))) := fun W hL => by
        have e1 : (fs ++ [777, 778]).take m = fs := by rw [List.take_append_of_le_length (by rw [HM.out]; exact Nat.le_refl _), List.take_of_length_le (by rw [HM.out]; exact Nat.le_refl _)]
        have hi := row_isI (m := m) hL.fz (by rw [List.length_append, HM.out]; omega) (by rw [e1]; exact HFB.out)
        rw [e1] at hi
        refine hL.crash (by decide) hi (fun b hb => ?_)
        obtain ⟨off, nn, c, e, _⟩ := hb
        injection e with e2
        injection e2 with e2
        injection e2 with e2
        subst e2
        obtain ⟨cur, hcur, _⟩ := hL.fz.blk2 rfl
        exact ⟨cur, hcur⟩
      have HD2 : Hid ((((loadE ss).write 1 (secOf bs)).settle fun k => fs.getD k 0).la.length = n ∧ (((loadE ss).write 1 (secOf bs)).settle fun k => fs.getD k 0).now 0 = secOf (xss.getD 0 [])) := by
        refine ⟨(AD.laAfter_len _ _ _).trans hD1.out, ?_⟩
        have h1 := AD.settle_at ((loadE ss).write 1 (secOf bs)) (fun k => fs.getD k 0) (i := 0) (by rw [hD1.out]; omega)
        have h2 : ((loadE ss).write 1 (secOf bs)).wr 0 = [] := rfl
        rw [h2, List.length_nil, if_neg (by omega)] at h1
        have h3 : ((loadE ss).write 1 (secOf bs)).la.getD 0 zsec = secOf (xss.getD 0 []) := HS0.out.2
        rw [h3] at h1
        exact h1
      have hcutF : ∀ W, (Instr.sliceAt 23 (.slice (some ⟨gf, 0, none⟩) 515 cf) none (some (.int .i64 512)) none).run Try.prog W = .ok (.slice (some ⟨gf, 0, none⟩) 512 cf) W := fun W => cutB (m := 512) (by omega) (by omega) W
      have hcutZ : ∀ W, (Instr.sliceAt 40 (.slice (some ⟨gz, 0, none⟩) (m + 2) cz) none (some (.int .i64 (m : Int))) none).run Try.prog W = .ok (.slice (some ⟨gz, 0, none⟩) m cz) W := fun W => cutI (m := m) hczm hcz0 W
      clear HLW hD1
      generalize (((loadE ss).write 1 (secOf bs)).settle fun k => fs.getD k 0) = D at *
      generalize ((loadE ss).write 1 (secOf bs)) = D0 at *
      have HFZ2 : Hid (∀ k, k < m → ((fs ++ [777, 778]).map (Value.int .i64))[k]? = some (.int .i64 (fs.getD k 0))) := fun k hk => by
        rw [List.getElem?_map, List.getElem?_append_left (by rw [HM.out]; exact hk), List.getElem?_eq_getElem (by rw [HM.out]; exact hk), List.getD_eq_getElem?_getD, List.getElem?_eq_getElem (by rw [HM.out]; exact hk)]
        rfl
      have HFZ3 : Hid (((fs ++ [777, 778]).map (Value.int .i64)).length = m + 2 ∧ ((fs ++ [777, 778]).map (Value.int .i64))[m]? = some (.int .i64 777) ∧ ((fs ++ [777, 778]).map (Value.int .i64))[m1]? = some (.int .i64 778)) := by
        refine ⟨by rw [List.length_map, List.length_append, HM.out]; rfl, ?_, ?_⟩
        · rw [List.getElem?_map, List.getElem?_append_right (by rw [HM.out]; exact Nat.le_refl _), HM.out, Nat.sub_self]; rfl
        · rw [HM1.out, List.getElem?_map, List.getElem?_append_right (by rw [HM.out]; omega), HM.out, show m + 1 - m = 1 by omega]; rfl
      generalize ((fs ++ [777, 778]).map (Value.int .i64)) = fz at *
      generalize hmz : m + 2 = mz at *
      generalize hnz : n + 1 = nz at *
      have HMZ2 := hide hmz
      have HNZ := hide hnz
      clear hmz hnz HMZ
      go_wp2_with fail
      refine (unhide HWR).mono ?_
      rintro e w10 ⟨rfl, hL10⟩
      have HC10 := hide (unhide HCR w10 hL10)
      clear HWR HCR hL10
      go_wp2_with fail
      refine (unhide HC10).mono ?_
      rintro e w11 ⟨rfl, hL11⟩
      have HR11 := hide (hL11.read (i := 1) (by rw [HD2.out.1]; omega) (by decide))
      clear HC10 hL11
      go_wp2_with fail
      refine (unhide HR11).mono ?_
      rintro e w12 ⟨gw, rfl, hA12, hs12, hL12, _⟩
      have HR12 := hide (hL12.read (i := 0) (by show 0 < D.la.length; rw [HD2.out.1]; omega) (by decide))
      have HA12 := hide hA12
      have HS12 := hide hs12
      clear HR11 hA12 hs12 hL12
      go_wp2_with fail
      refine (unhide HR12).mono ?_
      rintro e w13 ⟨g0, rfl, hA13, hs13, hL13, hK13⟩
      have HLX : Hid (Lx w w13 3 p n ((D.reads 1).reads 1) g cp (Rf xss) (.slice (some ⟨gi, 0, none⟩) nz ci) us1 gf cf ((rowL bs 94 95 96).map (Value.int .u8)) (.slice (some ⟨gz, 0, none⟩) mz cz) fz gw g0 (D.now 1) (D.now 0)) := ⟨hL13, hK13 _ _ HA12.out, hA13⟩
      have HS13 : Hid (IsSec (D.now 0)) := hs13
      clear hA13 hs13 hL13 hK13 HA12 HR12
      have HSS : Hid (∀ W, Below w13.heap.size w13 W → W.cell? ⟨gf, 512, none⟩ = some (.int .u8 94) ∧ W.cell? ⟨gf, 513, none⟩ = some (.int .u8 95) ∧ W.cell? ⟨gf, 514, none⟩ = some (.int .u8 96) ∧ (convert 23 9 (.slice (some ⟨gf, 0, none⟩) 512 cf)).run Try.prog W = .ok (.string (mkS (secOf bs))) W ∧ W.cell? ⟨gz, m, none⟩ = some (.int .i64 777) ∧ W.cell? ⟨gz, m1, none⟩ = some (.int .i64 778) ∧ W.cell? ⟨gi, n, none⟩ = some (.slice none 0 0)) := fun W hW => by
        have hL := HLX.out.1.below hW
        have hl := rowL_at bs HBS.out.1 94 95 96
        have hlen : ((rowL bs 94 95 96).map (Value.int .u8)).length = 515 := by rw [List.length_map, rowL_len _ HBS.out.1]
        have h2 := row_own8 (m := 512) hL.fl (by rw [rowL_len _ HBS.out.1]; decide) (rowL_mem _ HBS.out.1 (by decide) (by decide) (by decide))
        rw [rowL_take _ HBS.out.1] at h2
        exact ⟨(hL.fl.cellAt (by rw [hlen]; decide)).trans hl.1, (hL.fl.cellAt (by rw [hlen]; decide)).trans hl.2.1, (hL.fl.cellAt (by rw [hlen]; decide)).trans hl.2.2, conv_isB h2.isB, (hL.fz.cellAt (by rw [HFZ3.out.1]; exact hmz0)).trans HFZ3.out.2.1, (hL.fz.cellAt (by rw [HFZ3.out.1]; exact hmz1)).trans HFZ3.out.2.2, (hL.lt.im.cellAt (by rw [HUS.out.1]; exact hnz0)).trans HUS.out.2⟩
      have HSEC : Hid (∀ W, Below w13.heap.size w13 W → Calls Try.prog 17 #[.slice ba bn bc] W fun e w' => ∃ a8 n8 c8, e = .returned (.slice a8 n8 c8) ∧ (convert 23 9 (.slice a8 n8 c8)).run Try.prog w' = .ok (.string (mkS (secOf bs))) w' ∧ Below w13.heap.size w13 w') := fun W hW => by
        refine (sector_calls (HBB.out.below (HLX.out.1.old.trans (hW.mono HLX.out.1.old.size))) HBS.out.2).mono ?_
        rintro e w' ⟨g9, rfl, hu, hb⟩
        exact ⟨_, _, _, rfl, conv_isB hu.isB, hW.trans (hb.mono hW.size)⟩
      have HLXB : Hid (∀ W, Below w13.heap.size w13 W → Lx w W 3 p n ((D.reads 1).reads 1) g cp (Rf xss) (.slice (some ⟨gi, 0, none⟩) nz ci) us1 gf cf ((rowL bs 94 95 96).map (Value.int .u8)) (.slice (some ⟨gz, 0, none⟩) mz cz) fz gw g0 (D.now 1) (D.now 0)) := fun W hW => HLX.out.below hW
      clear HLX
      generalize mkS (secOf bs) = st at *
      go_wp2_with fail
      refine wp_region_held_drew (S := fun W => W.cell? ⟨gf, 512, none⟩ = some (.int .u8 94) ∧ W.cell? ⟨gf, 513, none⟩ = some (.int .u8 95) ∧ W.cell? ⟨gf, 514, none⟩ = some (.int .u8 96) ∧ (convert 23 9 (.slice (some ⟨gf, 0, none⟩) 512 cf)).run Try.prog W = .ok (.string st) W ∧ W.cell? ⟨gz, m, none⟩ = some (.int .i64 777) ∧ W.cell? ⟨gz, m1, none⟩ = some (.int .i64 778) ∧ W.cell? ⟨gi, n, none⟩ = some (.slice none 0 0)) (by kernel_rfl) (unhide HSS _ (Below.refl _ _).drew) (fun hHeld => ?_)
      refine wpAnyH_take (i := 0) (v := .slice (some ⟨gf, 0, none⟩) 515 cf) rfl (by kernel_rfl) (by kernel_rfl) (by kernel_rfl) (fun _ _ _ h => h) (Or.inl ⟨by rfl, fun w hSw => by obtain ⟨hS1, hS2, hS3, hS4, hS5, hS6, hS7⟩ := hSw; go_simp⟩) (by assumption) ?_
      simp only [List.getElem_toArray, List.getElem_cons_zero, Act.put, List.setIfInBounds_toArray, List.set_cons_zero, List.set_cons_succ]
      refine wpAnyH_take (i := 1) (v := .pointer (some ⟨gf, 512, none⟩)) rfl (by kernel_rfl) (by kernel_rfl) (by kernel_rfl) (fun _ _ _ h => h) (Or.inl ⟨by rfl, fun w hSw => by obtain ⟨hS1, hS2, hS3, hS4, hS5, hS6, hS7⟩ := hSw; go_simp⟩) (by assumption) ?_
      simp only [List.getElem_toArray, List.getElem_cons_succ, List.getElem_cons_zero, Act.put, List.setIfInBounds_toArray, List.set_cons_zero, List.set_cons_succ]
      refine wpAnyH_take (i := 2) (v := .int .u8 94) rfl (by kernel_rfl) (by kernel_rfl) (by kernel_rfl) (fun _ _ _ h => h) (Or.inl ⟨by rfl, fun w hSw => by obtain ⟨hS1, hS2, hS3, hS4, hS5, hS6, hS7⟩ := hSw; go_simp⟩) (by assumption) ?_
      simp only [List.getElem_toArray, List.getElem_cons_succ, List.getElem_cons_zero, Act.put, List.setIfInBounds_toArray, List.set_cons_zero, List.set_cons_succ]
      refine wpAnyH_take (i := 3) (v := .bool false) rfl (by kernel_rfl) (by kernel_rfl) (by kernel_rfl) (fun _ _ _ h => h) (Or.inl ⟨by rfl, fun w hSw => by obtain ⟨hS1, hS2, hS3, hS4, hS5, hS6, hS7⟩ := hSw; go_simp⟩) (by assumption) ?_
      simp only [List.getElem_toArray, List.getElem_cons_succ, List.getElem_cons_zero, Act.put, List.setIfInBounds_toArray, List.set_cons_zero, List.set_cons_succ]
      refine wpAnyH_take (i := 4) (v := .bool false) rfl (by kernel_rfl) (by kernel_rfl) (by kernel_rfl) (fun _ _ _ h => h) (Or.inl ⟨by rfl, fun w hSw => by obtain ⟨hS1, hS2, hS3, hS4, hS5, hS6, hS7⟩ := hSw; go_simp⟩) (by assumption) ?_
      simp only [List.getElem_toArray, List.getElem_cons_succ, List.getElem_cons_zero, Act.put, List.setIfInBounds_toArray, List.set_cons_zero, List.set_cons_succ]
      refine wpAnyH_take (i := 5) (v := .slice (some ⟨gf, 0, none⟩) 515 cf) rfl (by kernel_rfl) (by kernel_rfl) (by kernel_rfl) (fun _ _ _ h => h) (Or.inl ⟨by rfl, fun w hSw => by obtain ⟨hS1, hS2, hS3, hS4, hS5, hS6, hS7⟩ := hSw; go_simp⟩) (by assumption) ?_
      simp only [List.getElem_toArray, List.getElem_cons_succ, List.getElem_cons_zero, Act.put, List.setIfInBounds_toArray, List.set_cons_zero, List.set_cons_succ]
      refine wpAnyH_take (i := 6) (v := .pointer (some ⟨gf, 513, none⟩)) rfl (by kernel_rfl) (by kernel_rfl) (by kernel_rfl) (fun _ _ _ h => h) (Or.inl ⟨by rfl, fun w hSw => by obtain ⟨hS1, hS2, hS3, hS4, hS5, hS6, hS7⟩ := hSw; go_simp⟩) (by assumption) ?_
      simp only [List.getElem_toArray, List.getElem_cons_succ, List.getElem_cons_zero, Act.put, List.setIfInBounds_toArray, List.set_cons_zero, List.set_cons_succ]
      refine wpAnyH_take (i := 7) (v := .int .u8 95) rfl (by kernel_rfl) (by kernel_rfl) (by kernel_rfl) (fun _ _ _ h => h) (Or.inl ⟨by rfl, fun w hSw => by obtain ⟨hS1, hS2, hS3, hS4, hS5, hS6, hS7⟩ := hSw; go_simp⟩) (by assumption) ?_
      simp only [List.getElem_toArray, List.getElem_cons_succ, List.getElem_cons_zero, Act.put, List.setIfInBounds_toArray, List.set_cons_zero, List.set_cons_succ]
      refine wpAnyH_take (i := 8) (v := .bool false) rfl (by kernel_rfl) (by kernel_rfl) (by kernel_rfl) (fun _ _ _ h => h) (Or.inl ⟨by rfl, fun w hSw => by obtain ⟨hS1, hS2, hS3, hS4, hS5, hS6, hS7⟩ := hSw; go_simp⟩) (by assumption) ?_
      simp only [List.getElem_toArray, List.getElem_cons_succ, List.getElem_cons_zero, Act.put, List.setIfInBounds_toArray, List.set_cons_zero, List.set_cons_succ]
      refine wpAnyH_take (i := 9) (v := .bool false) rfl (by kernel_rfl) (by kernel_rfl) (by kernel_rfl) (fun _ _ _ h => h) (Or.inl ⟨by rfl, fun w hSw => by obtain ⟨hS1, hS2, hS3, hS4, hS5, hS6, hS7⟩ := hSw; go_simp⟩) (by assumption) ?_
      simp only [List.getElem_toArray, List.getElem_cons_succ, List.getElem_cons_zero, Act.put, List.setIfInBounds_toArray, List.set_cons_zero, List.set_cons_succ]
      refine wpAnyH_take (i := 10) (v := .bool false) rfl (by kernel_rfl) (by kernel_rfl) (by kernel_rfl) (fun _ _ _ h => h) (Or.inl ⟨by rfl, fun w hSw => by obtain ⟨hS1, hS2, hS3, hS4, hS5, hS6, hS7⟩ := hSw; go_simp⟩) (by assumption) ?_
      simp only [List.getElem_toArray, List.getElem_cons_succ, List.getElem_cons_zero, Act.put, List.setIfInBounds_toArray, List.set_cons_zero, List.set_cons_succ]
      refine wpAnyH_take (i := 11) (v := .slice (some ⟨gf, 0, none⟩) 515 cf) rfl (by kernel_rfl) (by kernel_rfl) (by kernel_rfl) (fun _ _ _ h => h) (Or.inl ⟨by rfl, fun w hSw => by obtain ⟨hS1, hS2, hS3, hS4, hS5, hS6, hS7⟩ := hSw; go_simp⟩) (by assumption) ?_
      simp only [List.getElem_toArray, List.getElem_cons_succ, List.getElem_cons_zero, Act.put, List.setIfInBounds_toArray, List.set_cons_zero, List.set_cons_succ]
      refine wpAnyH_take (i := 12) (v := .pointer (some ⟨gf, 514, none⟩)) rfl (by kernel_rfl) (by kernel_rfl) (by kernel_rfl) (fun _ _ _ h => h) (Or.inl ⟨by rfl, fun w hSw => by obtain ⟨hS1, hS2, hS3, hS4, hS5, hS6, hS7⟩ := hSw; go_simp⟩) (by assumption) ?_
      simp only [List.getElem_toArray, List.getElem_cons_succ, List.getElem_cons_zero, Act.put, List.setIfInBounds_toArray, List.set_cons_zero, List.set_cons_succ]
      refine wpAnyH_take (i := 13) (v := .int .u8 96) rfl (by kernel_rfl) (by kernel_rfl) (by kernel_rfl) (fun _ _ _ h => h) (Or.inl ⟨by rfl, fun w hSw => by obtain ⟨hS1, hS2, hS3, hS4, hS5, hS6, hS7⟩ := hSw; go_simp⟩) (by assumption) ?_
      simp only [List.getElem_toArray, List.getElem_cons_succ, List.getElem_cons_zero, Act.put, List.setIfInBounds_toArray, List.set_cons_zero, List.set_cons_succ]
      refine wpAnyH_take (i := 14) (v := .bool false) rfl (by kernel_rfl) (by kernel_rfl) (by kernel_rfl) (fun _ _ _ h => h) (Or.inl ⟨by rfl, fun w hSw => by obtain ⟨hS1, hS2, hS3, hS4, hS5, hS6, hS7⟩ := hSw; go_simp⟩) (by assumption) ?_
      simp only [List.getElem_toArray, List.getElem_cons_succ, List.getElem_cons_zero, Act.put, List.setIfInBounds_toArray, List.set_cons_zero, List.set_cons_succ]
      refine wpAnyH_take (i := 15) (v := .bool false) rfl (by kernel_rfl) (by kernel_rfl) (by kernel_rfl) (fun _ _ _ h => h) (Or.inl ⟨by rfl, fun w hSw => by obtain ⟨hS1, hS2, hS3, hS4, hS5, hS6, hS7⟩ := hSw; go_simp⟩) (by assumption) ?_
      simp only [List.getElem_toArray, List.getElem_cons_succ, List.getElem_cons_zero, Act.put, List.setIfInBounds_toArray, List.set_cons_zero, List.set_cons_succ]
      refine wpAnyH_take (i := 16) (v := .bool false) rfl (by kernel_rfl) (by kernel_rfl) (by kernel_rfl) (fun _ _ _ h => h) (Or.inl ⟨by rfl, fun w hSw => by obtain ⟨hS1, hS2, hS3, hS4, hS5, hS6, hS7⟩ := hSw; go_simp⟩) (by assumption) ?_
      simp only [List.getElem_toArray, List.getElem_cons_succ, List.getElem_cons_zero, Act.put, List.setIfInBounds_toArray, List.set_cons_zero, List.set_cons_succ]
      refine wpAnyH_take (i := 17) (v := .slice (some ⟨gf, 0, none⟩) 515 cf) rfl (by kernel_rfl) (by kernel_rfl) (by kernel_rfl) (fun _ _ _ h => h) (Or.inl ⟨by rfl, fun w hSw => by obtain ⟨hS1, hS2, hS3, hS4, hS5, hS6, hS7⟩ := hSw; go_simp⟩) (by assumption) ?_
      simp only [List.getElem_toArray, List.getElem_cons_succ, List.getElem_cons_zero, Act.put, List.setIfInBounds_toArray, List.set_cons_zero, List.set_cons_succ]
      refine wpAnyH_take (i := 18) (v := .slice (some ⟨gf, 0, none⟩) 512 cf) rfl (by kernel_rfl) (by kernel_rfl) (by kernel_rfl) (fun _ _ _ h => h) (Or.inl ⟨by rfl, fun w hSw => by obtain ⟨hS1, hS2, hS3, hS4, hS5, hS6, hS7⟩ := hSw; go_simp⟩) (by assumption) ?_
      simp only [List.getElem_toArray, List.getElem_cons_succ, List.getElem_cons_zero, Act.put, List.setIfInBounds_toArray, List.set_cons_zero, List.set_cons_succ]
      refine wpAnyH_take (i := 19) (v := .string st) rfl (by kernel_rfl) (by kernel_rfl) (by kernel_rfl) (fun _ _ _ h => h) (Or.inl ⟨by rfl, fun w hSw => by obtain ⟨hS1, hS2, hS3, hS4, hS5, hS6, hS7⟩ := hSw; go_simp⟩) (by assumption) ?_
      simp only [List.getElem_toArray, List.getElem_cons_succ, List.getElem_cons_zero, Act.put, List.setIfInBounds_toArray, List.set_cons_zero, List.set_cons_succ]
      refine wpAnyH_take (i := 20) (v := .slice ba bn bc) rfl (by kernel_rfl) (by kernel_rfl) (by kernel_rfl) (fun _ _ _ h => h) (Or.inl ⟨by rfl, fun w hSw => by obtain ⟨hS1, hS2, hS3, hS4, hS5, hS6, hS7⟩ := hSw; go_simp⟩) (by assumption) ?_
      simp only [List.getElem_toArray, List.getElem_cons_succ, List.getElem_cons_zero, Act.put, List.setIfInBounds_toArray, List.set_cons_zero, List.set_cons_succ]
      refine wpAnyH_ready (rs := [21]) (by kernel_rfl) (by simp) (AllReadyH.cons rfl (fun K hK => ?_) AllReadyH.nil)
      refine step_call1Gd (by rfl) 17 sector_enterL (.tmp 122) _ rfl rfl (unhide HSEC _ (Below.refl _ _).drew) ?_
      rintro e w14 ⟨a8, n8, c8, rfl, hcv14, hb14⟩
      refine ⟨_, rfl, ?_⟩
      refine hK.out _ _ (unhide HSS _ hb14) (fun hHeld2 => ?_)
      clear hK K
      simp only [List.getElem_toArray, List.getElem_cons_succ, List.getElem_cons_zero, Act.put, List.setIfInBounds_toArray, List.set_cons_zero, List.set_cons_succ]
      refine wpAnyH_ready (rs := [22]) (by kernel_rfl) (by simp) (AllReadyH.cons rfl (fun K hK => ?_) AllReadyH.nil)
      refine step_conv (by rfl) (.tmp 123) rfl rfl hcv14 ?_
      refine hK.out _ _ (hHeld2) (fun hHeld3 => ?_)
      clear hK K
      simp only [List.getElem_toArray, List.getElem_cons_succ, List.getElem_cons_zero, Act.put, List.setIfInBounds_toArray, List.set_cons_zero, List.set_cons_succ]
      refine wpAnyH_take (i := 23) (v := .bool false) rfl (by kernel_rfl) (by kernel_rfl) (by kernel_rfl) (fun _ _ _ h => h) (Or.inl ⟨by rfl, fun w hSw => by obtain ⟨hS1, hS2, hS3, hS4, hS5, hS6, hS7⟩ := hSw; go_simp⟩) (by assumption) ?_
      simp only [List.getElem_toArray, List.getElem_cons_succ, List.getElem_cons_zero, Act.put, List.setIfInBounds_toArray, List.set_cons_zero, List.set_cons_succ]
      refine wpAnyH_take (i := 24) (v := .bool false) rfl (by kernel_rfl) (by kernel_rfl) (by kernel_rfl) (fun _ _ _ h => h) (Or.inl ⟨by rfl, fun w hSw => by obtain ⟨hS1, hS2, hS3, hS4, hS5, hS6, hS7⟩ := hSw; go_simp⟩) (by assumption) ?_
      simp only [List.getElem_toArray, List.getElem_cons_succ, List.getElem_cons_zero, Act.put, List.setIfInBounds_toArray, List.set_cons_zero, List.set_cons_succ]
      refine wpAnyH_take (i := 25) (v := .bool false) rfl (by kernel_rfl) (by kernel_rfl) (by kernel_rfl) (fun _ _ _ h => h) (Or.inl ⟨by rfl, fun w hSw => by obtain ⟨hS1, hS2, hS3, hS4, hS5, hS6, hS7⟩ := hSw; go_simp⟩) (by assumption) ?_
      simp only [List.getElem_toArray, List.getElem_cons_succ, List.getElem_cons_zero, Act.put, List.setIfInBounds_toArray, List.set_cons_zero, List.set_cons_succ]
      refine wpAnyH_take (i := 26) (v := .slice (some ⟨gz, 0, none⟩) mz cz) rfl (by kernel_rfl) (by kernel_rfl) (by kernel_rfl) (fun _ _ _ h => h) (Or.inl ⟨by rfl, fun w hSw => by obtain ⟨hS1, hS2, hS3, hS4, hS5, hS6, hS7⟩ := hSw; go_simp⟩) (by assumption) ?_
      simp only [List.getElem_toArray, List.getElem_cons_succ, List.getElem_cons_zero, Act.put, List.setIfInBounds_toArray, List.set_cons_zero, List.set_cons_succ]
      refine wpAnyH_take (i := 27) (v := .slice fa m fc) rfl (by kernel_rfl) (by kernel_rfl) (by kernel_rfl) (fun _ _ _ h => h) (Or.inl ⟨by rfl, fun w hSw => by obtain ⟨hS1, hS2, hS3, hS4, hS5, hS6, hS7⟩ := hSw; go_simp⟩) (by assumption) ?_
      simp only [List.getElem_toArray, List.getElem_cons_succ, List.getElem_cons_zero, Act.put, List.setIfInBounds_toArray, List.set_cons_zero, List.set_cons_succ]
      refine wpAnyH_take (i := 28) (v := .int .i64 (m : Int)) rfl (by kernel_rfl) (by kernel_rfl) (by kernel_rfl) (fun _ _ _ h => h) (Or.inl ⟨by rfl, fun w hSw => by obtain ⟨hS1, hS2, hS3, hS4, hS5, hS6, hS7⟩ := hSw; go_simp⟩) (by assumption) ?_
      simp only [List.getElem_toArray, List.getElem_cons_succ, List.getElem_cons_zero, Act.put, List.setIfInBounds_toArray, List.set_cons_zero, List.set_cons_succ]
      refine wpAnyH_take (i := 29) (v := .pointer (some ⟨gz, m, none⟩)) rfl (by kernel_rfl) (by kernel_rfl) (by kernel_rfl) (fun _ _ _ h => h) (Or.inl ⟨by rfl, fun w hSw => by obtain ⟨hS1, hS2, hS3, hS4, hS5, hS6, hS7⟩ := hSw; go_simp⟩) (by assumption) ?_
      simp only [List.getElem_toArray, List.getElem_cons_succ, List.getElem_cons_zero, Act.put, List.setIfInBounds_toArray, List.set_cons_zero, List.set_cons_succ]
      refine wpAnyH_take (i := 30) (v := .int .i64 777) rfl (by kernel_rfl) (by kernel_rfl) (by kernel_rfl) (fun _ _ _ h => h) (Or.inl ⟨by rfl, fun w hSw => by obtain ⟨hS1, hS2, hS3, hS4, hS5, hS6, hS7⟩ := hSw; go_simp⟩) (by assumption) ?_
      simp only [List.getElem_toArray, List.getElem_cons_succ, List.getElem_cons_zero, Act.put, List.setIfInBounds_toArray, List.set_cons_zero, List.set_cons_succ]
      refine wpAnyH_take (i := 31) (v := .bool false) rfl (by kernel_rfl) (by kernel_rfl) (by kernel_rfl) (fun _ _ _ h => h) (Or.inl ⟨by rfl, fun w hSw => by obtain ⟨hS1, hS2, hS3, hS4, hS5, hS6, hS7⟩ := hSw; go_simp⟩) (by assumption) ?_
      simp only [List.getElem_toArray, List.getElem_cons_succ, List.getElem_cons_zero, Act.put, List.setIfInBounds_toArray, List.set_cons_zero, List.set_cons_succ]
      refine wpAnyH_take (i := 32) (v := .bool false) rfl (by kernel_rfl) (by kernel_rfl) (by kernel_rfl) (fun _ _ _ h => h) (Or.inl ⟨by rfl, fun w hSw => by obtain ⟨hS1, hS2, hS3, hS4, hS5, hS6, hS7⟩ := hSw; go_simp⟩) (by assumption) ?_
      simp only [List.getElem_toArray, List.getElem_cons_succ, List.getElem_cons_zero, Act.put, List.setIfInBounds_toArray, List.set_cons_zero, List.set_cons_succ]
      refine wpAnyH_take (i := 33) (v := .bool false) rfl (by kernel_rfl) (by kernel_rfl) (by kernel_rfl) (fun _ _ _ h => h) (Or.inl ⟨by rfl, fun w hSw => by obtain ⟨hS1, hS2, hS3, hS4, hS5, hS6, hS7⟩ := hSw; go_simp⟩) (by assumption) ?_
      simp only [List.getElem_toArray, List.getElem_cons_succ, List.getElem_cons_zero, Act.put, List.setIfInBounds_toArray, List.set_cons_zero, List.set_cons_succ]
      refine wpAnyH_take (i := 34) (v := .slice (some ⟨gz, 0, none⟩) mz cz) rfl (by kernel_rfl) (by kernel_rfl) (by kernel_rfl) (fun _ _ _ h => h) (Or.inl ⟨by rfl, fun w hSw => by obtain ⟨hS1, hS2, hS3, hS4, hS5, hS6, hS7⟩ := hSw; go_simp⟩) (by assumption) ?_
      simp only [List.getElem_toArray, List.getElem_cons_succ, List.getElem_cons_zero, Act.put, List.setIfInBounds_toArray, List.set_cons_zero, List.set_cons_succ]
      refine wpAnyH_take (i := 35) (v := .slice fa m fc) rfl (by kernel_rfl) (by kernel_rfl) (by kernel_rfl) (fun _ _ _ h => h) (Or.inl ⟨by rfl, fun w hSw => by obtain ⟨hS1, hS2, hS3, hS4, hS5, hS6, hS7⟩ := hSw; go_simp⟩) (by assumption) ?_
      simp only [List.getElem_toArray, List.getElem_cons_succ, List.getElem_cons_zero, Act.put, List.setIfInBounds_toArray, List.set_cons_zero, List.set_cons_succ]
      refine wpAnyH_take (i := 36) (v := .int .i64 (m : Int)) rfl (by kernel_rfl) (by kernel_rfl) (by kernel_rfl) (fun _ _ _ h => h) (Or.inl ⟨by rfl, fun w hSw => by obtain ⟨hS1, hS2, hS3, hS4, hS5, hS6, hS7⟩ := hSw; go_simp⟩) (by assumption) ?_
      simp only [List.getElem_toArray, List.getElem_cons_succ, List.getElem_cons_zero, Act.put, List.setIfInBounds_toArray, List.set_cons_zero, List.set_cons_succ]
      refine wpAnyH_take (i := 37) (v := .int .i64 (m1 : Int)) rfl (by kernel_rfl) (by kernel_rfl) (by kernel_rfl) (fun _ _ _ h => h) (Or.inl ⟨by rfl, fun w hSw => by obtain ⟨hS1, hS2, hS3, hS4, hS5, hS6, hS7⟩ := hSw; go_simp⟩) (by assumption) ?_
      simp only [List.getElem_toArray, List.getElem_cons_succ, List.getElem_cons_zero, Act.put, List.setIfInBounds_toArray, List.set_cons_zero, List.set_cons_succ]
      refine wpAnyH_take (i := 38) (v := .pointer (some ⟨gz, m1, none⟩)) rfl (by kernel_rfl) (by kernel_rfl) (by kernel_rfl) (fun _ _ _ h => h) (Or.inl ⟨by rfl, fun w hSw => by obtain ⟨hS1, hS2, hS3, hS4, hS5, hS6, hS7⟩ := hSw; go_simp⟩) (by assumption) ?_
      simp only [List.getElem_toArray, List.getElem_cons_succ, List.getElem_cons_zero, Act.put, List.setIfInBounds_toArray, List.set_cons_zero, List.set_cons_succ]
      refine wpAnyH_take (i := 39) (v := .int .i64 778) rfl (by kernel_rfl) (by kernel_rfl) (by kernel_rfl) (fun _ _ _ h => h) (Or.inl ⟨by rfl, fun w hSw => by obtain ⟨hS1, hS2, hS3, hS4, hS5, hS6, hS7⟩ := hSw; go_simp⟩) (by assumption) ?_
      simp only [List.getElem_toArray, List.getElem_cons_succ, List.getElem_cons_zero, Act.put, List.setIfInBounds_toArray, List.set_cons_zero, List.set_cons_succ]
      refine wpAnyH_take (i := 40) (v := .bool false) rfl (by kernel_rfl) (by kernel_rfl) (by kernel_rfl) (fun _ _ _ h => h) (Or.inl ⟨by rfl, fun w hSw => by obtain ⟨hS1, hS2, hS3, hS4, hS5, hS6, hS7⟩ := hSw; go_simp⟩) (by assumption) ?_
      simp only [List.getElem_toArray, List.getElem_cons_succ, List.getElem_cons_zero, Act.put, List.setIfInBounds_toArray, List.set_cons_zero, List.set_cons_succ]
      refine wpAnyH_take (i := 41) (v := .bool false) rfl (by kernel_rfl) (by kernel_rfl) (by kernel_rfl) (fun _ _ _ h => h) (Or.inl ⟨by rfl, fun w hSw => by obtain ⟨hS1, hS2, hS3, hS4, hS5, hS6, hS7⟩ := hSw; go_simp⟩) (by assumption) ?_
      simp only [List.getElem_toArray, List.getElem_cons_succ, List.getElem_cons_zero, Act.put, List.setIfInBounds_toArray, List.set_cons_zero, List.set_cons_succ]
      refine wpAnyH_take (i := 42) (v := .bool false) rfl (by kernel_rfl) (by kernel_rfl) (by kernel_rfl) (fun _ _ _ h => h) (Or.inl ⟨by rfl, fun w hSw => by obtain ⟨hS1, hS2, hS3, hS4, hS5, hS6, hS7⟩ := hSw; go_simp⟩) (by assumption) ?_
      simp only [List.getElem_toArray, List.getElem_cons_succ, List.getElem_cons_zero, Act.put, List.setIfInBounds_toArray, List.set_cons_zero, List.set_cons_succ]
      refine wpAnyH_take (i := 43) (v := .slice (some ⟨gi, 0, none⟩) nz ci) rfl (by kernel_rfl) (by kernel_rfl) (by kernel_rfl) (fun _ _ _ h => h) (Or.inl ⟨by rfl, fun w hSw => by obtain ⟨hS1, hS2, hS3, hS4, hS5, hS6, hS7⟩ := hSw; go_simp⟩) (by assumption) ?_
      simp only [List.getElem_toArray, List.getElem_cons_succ, List.getElem_cons_zero, Act.put, List.setIfInBounds_toArray, List.set_cons_zero, List.set_cons_succ]
      refine wpAnyH_take (i := 44) (v := .slice (some ⟨ib, io, none⟩) n ic) rfl (by kernel_rfl) (by kernel_rfl) (by kernel_rfl) (fun _ _ _ h => h) (Or.inl ⟨by rfl, fun w hSw => by obtain ⟨hS1, hS2, hS3, hS4, hS5, hS6, hS7⟩ := hSw; go_simp⟩) (by assumption) ?_
      simp only [List.getElem_toArray, List.getElem_cons_succ, List.getElem_cons_zero, Act.put, List.setIfInBounds_toArray, List.set_cons_zero, List.set_cons_succ]
      refine wpAnyH_take (i := 45) (v := .int .i64 (n : Int)) rfl (by kernel_rfl) (by kernel_rfl) (by kernel_rfl) (fun _ _ _ h => h) (Or.inl ⟨by rfl, fun w hSw => by obtain ⟨hS1, hS2, hS3, hS4, hS5, hS6, hS7⟩ := hSw; go_simp⟩) (by assumption) ?_
      simp only [List.getElem_toArray, List.getElem_cons_succ, List.getElem_cons_zero, Act.put, List.setIfInBounds_toArray, List.set_cons_zero, List.set_cons_succ]
      refine wpAnyH_take (i := 46) (v := .pointer (some ⟨gi, n, none⟩)) rfl (by kernel_rfl) (by kernel_rfl) (by kernel_rfl) (fun _ _ _ h => h) (Or.inl ⟨by rfl, fun w hSw => by obtain ⟨hS1, hS2, hS3, hS4, hS5, hS6, hS7⟩ := hSw; go_simp⟩) (by assumption) ?_
      simp only [List.getElem_toArray, List.getElem_cons_succ, List.getElem_cons_zero, Act.put, List.setIfInBounds_toArray, List.set_cons_zero, List.set_cons_succ]
      refine wpAnyH_take (i := 47) (v := .slice none 0 0) rfl (by kernel_rfl) (by kernel_rfl) (by kernel_rfl) (fun _ _ _ h => h) (Or.inl ⟨by rfl, fun w hSw => by obtain ⟨hS1, hS2, hS3, hS4, hS5, hS6, hS7⟩ := hSw; go_simp⟩) (by assumption) ?_
      simp only [List.getElem_toArray, List.getElem_cons_succ, List.getElem_cons_zero, Act.put, List.setIfInBounds_toArray, List.set_cons_zero, List.set_cons_succ]
      refine wpAnyH_take (i := 48) (v := .bool false) rfl (by kernel_rfl) (by kernel_rfl) (by kernel_rfl) (fun _ _ _ h => h) (Or.inl ⟨by rfl, fun w hSw => by obtain ⟨hS1, hS2, hS3, hS4, hS5, hS6, hS7⟩ := hSw; go_simp⟩) (by assumption) ?_
      simp only [List.getElem_toArray, List.getElem_cons_succ, List.getElem_cons_zero, Act.put, List.setIfInBounds_toArray, List.set_cons_zero, List.set_cons_succ]
      refine wpAnyH_take (i := 49) (v := .bool false) rfl (by kernel_rfl) (by kernel_rfl) (by kernel_rfl) (fun _ _ _ h => h) (Or.inl ⟨by rfl, fun w hSw => by obtain ⟨hS1, hS2, hS3, hS4, hS5, hS6, hS7⟩ := hSw; go_simp⟩) (by assumption) ?_
      simp only [List.getElem_toArray, List.getElem_cons_succ, List.getElem_cons_zero, Act.put, List.setIfInBounds_toArray, List.set_cons_zero, List.set_cons_succ]
      refine wpAnyH_done (by kernel_rfl) ?_ _
      clear hHeld hHeld2 hHeld3
      have HL14 := hide (unhide HLXB w14 hb14)
      clear HLXB HSS HSEC hcv14 hb14 hcutF hcutZ HFB HCU
      go_wp2
      go_loopw [18] (fun iv wr => ∃ i : Nat, i ≤ m ∧ iv = .int .i64 (i : Int) ∧ Hid (Lx w wr 3 p n ((D.reads 1).reads 1) g cp (Rf xss) (.slice (some ⟨gi, 0, none⟩) nz ci) us1 gf cf ((rowL bs 94 95 96).map (Value.int .u8)) (.slice (some ⟨gz, 0, none⟩) mz cz) fz gw g0 (D.now 1) (D.now 0))) (fun iv _ => m - (intOf iv).toNat)
      case atStart => exact ⟨0, by omega, rfl, HL14⟩
      case round =>
        clear HL14
        obtain ⟨i2, hi2, rfl, HL⟩ := hrel
        by_cases hlt2 : i2 < m
        · have hlz : i2 < mz := by omega
          obtain ⟨gb, gq, rfl, hcf2⟩ := unhide HFC i2 hlt2
          have hc1 : wr.cell? ⟨gz, i2, none⟩ = some (.int .i64 (fs.getD i2 0)) := (HL.out.1.fz.cellAt (by rw [HFZ3.out.1]; exact hlz)).trans (unhide HFZ2 i2 hlt2)
          have hc2 : wr.cell? ⟨gb, gq + i2, none⟩ = some (.int .i64 (fs.getD i2 0)) := (HL.out.1.old.cell (p := ⟨gb, gq + i2, none⟩) (World.block_lt_of_cell? w _ hcf2)).trans hcf2
          clear hcf2
          generalize fs.getD i2 0 = y at *
          go_wp2_with fail
          go_quiet (fail)
          have HL3 := hide (HL.out.below (drewn_bL wr nq))
          clear HL hc1 hc2
          go_wp2
          go_roundw
          case rel => exact ⟨i2 + 1, by omega, by go_num, HL3⟩
          case measure => simp [intOf]; omega
        · clear HFC HFZ2 HFF HFZ
          have HMX : Hid (∀ k, k < n → ((Rf xss k).length = 515 ∧ (Rf xss k)[512]? = some (.int .u8 91) ∧ (Rf xss k)[513]? = some (.int .u8 92) ∧ (Rf xss k)[514]? = some (.int .u8 93)) ∧ ∀ j, j < 512 → ∃ x : Int, 0 ≤ x ∧ x ≤ 255 ∧ (Rf xss k)[j]? = some (.int .u8 x)) := fun k hk => by
            have hs := unhide HXS k hk
            have hl := rowL_at (xss.getD k []) hs 91 92 93
            have hlen := rowL_len (xss.getD k []) hs 91 92 93
            refine ⟨⟨by unfold Rf; rw [List.length_map, hlen], hl.1, hl.2.1, hl.2.2⟩, fun j hj => ?_⟩
            have hj2 : j < (rowL (xss.getD k []) 91 92 93).length := by rw [hlen]; omega
            have hm2 := rowL_mem (xss.getD k []) hs (a := 91) (b := 92) (c := 93) (by decide) (by decide) (by decide) _ (List.getElem_mem hj2)
            refine ⟨_, hm2.1, hm2.2, ?_⟩
            unfold Rf
            rw [List.getElem?_map, List.getElem?_eq_getElem hj2]
            rfl
          have HST : Hid (∃ R, Lx w wr 3 p n ((D.reads 1).reads 1) g cp R (.slice (some ⟨gi, 0, none⟩) nz ci) us1 gf cf ((rowL bs 94 95 96).map (Value.int .u8)) (.slice (some ⟨gz, 0, none⟩) mz cz) fz gw g0 (D.now 1) (D.now 0) ∧ ∀ k, 0 ≤ k → k < n → R k = Rf xss k) := ⟨_, HL.out, fun _ _ _ => rfl⟩
          clear HL HFZ3 hm1 HM1 hm1b hwm hnil hmz0 hmz1 hczm hcz0
          go_wp2
          rename World => w20
          go_loopw [19] (fun iv wr => ∃ i : Nat, i ≤ n ∧ iv = .int .i64 (i : Int) ∧ Hid (∃ R, Lx w wr 3 p n ((D.reads 1).reads 1) g cp R (.slice (some ⟨gi, 0, none⟩) nz ci) us1 gf cf ((rowL bs 94 95 96).map (Value.int .u8)) (.slice (some ⟨gz, 0, none⟩) mz cz) fz gw g0 (D.now 1) (D.now 0) ∧ ∀ k, i ≤ k → k < n → R k = Rf xss k)) (fun iv _ => n - (intOf iv).toNat)
          case atStart => exact ⟨0, by omega, rfl, HST⟩
          case round =>
            clear HST
            obtain ⟨i3, hi3, rfl, HL⟩ := hrel
            by_cases hlt3 : i3 < n
            · have hlz3 : i3 < nz := by omega
              obtain ⟨R, hLx, hR⟩ := HL.out
              have hRi := hR i3 (Nat.le_refl _) hlt3
              obtain ⟨gk, hgk⟩ : ∃ gk, g i3 = gk := ⟨_, rfl⟩
              obtain ⟨ck, hck⟩ : ∃ ck, cp i3 = ck := ⟨_, rfl⟩
              have hrow := hLx.1.lt.rows i3 hlt3
              rw [hgk, hck, hRi] at hrow
              have hck2 := hrow.cap.2.1
              have hcutK : ∀ W, (Instr.sliceAt 23 (.slice (some ⟨gk, 0, none⟩) 512 ck) none (some (.int .i64 515)) none).run Try.prog W = .ok (.slice (some ⟨gk, 0, none⟩) 515 ck) W := fun W => cutB (m := 515) (by omega) (by omega) W
              have hcutJ : ∀ W, (Instr.sliceAt 23 (.slice (some ⟨gk, 0, none⟩) 515 ck) none (some (.int .i64 512)) none).run Try.prog W = .ok (.slice (some ⟨gk, 0, none⟩) 512 ck) W := fun W => cutB (m := 512) (by omega) (by omega) W
              have hci3 : wr.cell? ⟨gi, i3, none⟩ = some (.slice (some ⟨gk, 0, none⟩) 512 ck) := by
                have h1 := hLx.1.lt.each i3 hlt3
                obtain ⟨hlt, _⟩ := List.getElem?_eq_some_iff.1 h1
                rw [hLx.1.lt.im.cellAt hlt, h1, hgk, hck]
              obtain ⟨ua, un, uc, huc, hub⟩ := unhide HSE i3 hlt3 wr hLx.1.old
              have hsx := unhide HXS i3 hlt3
              have HSS : Hid (∀ W, Below wr.heap.size wr W → W.cell? ⟨ib, io + i3, none⟩ = some (.slice ua un uc) ∧ W.cell? ⟨gk, 512, none⟩ = some (.int .u8 91) ∧ W.cell? ⟨gk, 513, none⟩ = some (.int .u8 92) ∧ W.cell? ⟨gk, 514, none⟩ = some (.int .u8 93) ∧ (convert 23 9 (.slice (some ⟨gk, 0, none⟩) 512 ck)).run Try.prog W = .ok (.string (mkS (secOf (xss.getD i3 [])))) W) := fun W hW => by
                have hr2 := hrow.below hW
                have hx := (unhide HMX i3 hlt3).1
                have h2 := row_own8 (m := 512) hr2 (by rw [rowL_len _ hsx]; decide) (rowL_mem _ hsx (by decide) (by decide) (by decide))
                rw [rowL_take _ hsx] at h2
                exact ⟨(hW.cell (p := ⟨ib, io + i3, none⟩) (World.block_lt_of_cell? wr _ huc)).trans huc, (hr2.cellAt (by rw [hx.1]; decide)).trans hx.2.1, (hr2.cellAt (by rw [hx.1]; decide)).trans hx.2.2.1, (hr2.cellAt (by rw [hx.1]; decide)).trans hx.2.2.2, conv_isB h2.isB⟩
              have HSEC : Hid (∀ W, Below wr.heap.size wr W → Calls Try.prog 17 #[.slice ua un uc] W fun e w' => ∃ a8 n8 c8, e = .returned (.slice a8 n8 c8) ∧ (convert 23 9 (.slice a8 n8 c8)).run Try.prog w' = .ok (.string (mkS (secOf (xss.getD i3 [])))) w' ∧ Below wr.heap.size wr w') := fun W hW => by
                refine (sector_calls (hub.below hW) (isB_bytes hub).2).mono ?_
                rintro e w' ⟨g9, rfl, hu, hb⟩
                exact ⟨_, _, _, rfl, conv_isB hu.isB, hW.trans (hb.mono hW.size)⟩
              have HLB : Hid (∀ W, Below wr.heap.size wr W → ∃ R, Lx w W 3 p n ((D.reads 1).reads 1) g cp R (.slice (some ⟨gi, 0, none⟩) nz ci) us1 gf cf ((rowL bs 94 95 96).map (Value.int .u8)) (.slice (some ⟨gz, 0, none⟩) mz cz) fz gw g0 (D.now 1) (D.now 0) ∧ (∀ k, i3 + 1 ≤ k → k < n → R k = Rf xss k) ∧ ∀ j, 0 ≤ j → (R i3)[j]? = (Rf xss i3)[j]?) := fun W hW => ⟨R, hLx.below hW, fun k hk => hR k (by omega), fun j _ => by rw [hRi]⟩
              have HGK := hide hgk
              have HCK := hide hck
              clear hrow hub hsx HL hLx hR hRi hgk hck
              generalize mkS (secOf (xss.getD i3 [])) = st at *
              go_wp2_with fail
              refine wp_region_held_drew (S := fun W => W.cell? ⟨ib, io + i3, none⟩ = some (.slice ua un uc) ∧ W.cell? ⟨gk, 512, none⟩ = some (.int .u8 91) ∧ W.cell? ⟨gk, 513, none⟩ = some (.int .u8 92) ∧ W.cell? ⟨gk, 514, none⟩ = some (.int .u8 93) ∧ (convert 23 9 (.slice (some ⟨gk, 0, none⟩) 512 ck)).run Try.prog W = .ok (.string st) W) (by kernel_rfl) (unhide HSS _ (Below.refl _ _).drew) (fun hHeld => ?_)
              refine wpAnyH_take (i := 0) (v := .slice (some ⟨gk, 0, none⟩) 515 ck) rfl (by kernel_rfl) (by kernel_rfl) (by kernel_rfl) (fun _ _ _ h => h) (Or.inl ⟨by rfl, fun w hSw => by obtain ⟨hS1, hS2, hS3, hS4, hS5⟩ := hSw; go_simp⟩) (by assumption) ?_
              simp only [List.getElem_toArray, List.getElem_cons_zero, Act.put, List.setIfInBounds_toArray, List.set_cons_zero, List.set_cons_succ]
              refine wpAnyH_take (i := 1) (v := .slice (some ⟨gk, 0, none⟩) 512 ck) rfl (by kernel_rfl) (by kernel_rfl) (by kernel_rfl) (fun _ _ _ h => h) (Or.inl ⟨by rfl, fun w hSw => by obtain ⟨hS1, hS2, hS3, hS4, hS5⟩ := hSw; go_simp⟩) (by assumption) ?_
              simp only [List.getElem_toArray, List.getElem_cons_succ, List.getElem_cons_zero, Act.put, List.setIfInBounds_toArray, List.set_cons_zero, List.set_cons_succ]
              refine wpAnyH_take (i := 2) (v := .string st) rfl (by kernel_rfl) (by kernel_rfl) (by kernel_rfl) (fun _ _ _ h => h) (Or.inl ⟨by rfl, fun w hSw => by obtain ⟨hS1, hS2, hS3, hS4, hS5⟩ := hSw; go_simp⟩) (by assumption) ?_
              simp only [List.getElem_toArray, List.getElem_cons_succ, List.getElem_cons_zero, Act.put, List.setIfInBounds_toArray, List.set_cons_zero, List.set_cons_succ]
              refine wpAnyH_take (i := 3) (v := .slice (some ⟨ib, io, none⟩) n ic) rfl (by kernel_rfl) (by kernel_rfl) (by kernel_rfl) (fun _ _ _ h => h) (Or.inl ⟨by rfl, fun w hSw => by obtain ⟨hS1, hS2, hS3, hS4, hS5⟩ := hSw; go_simp⟩) (by assumption) ?_
              simp only [List.getElem_toArray, List.getElem_cons_succ, List.getElem_cons_zero, Act.put, List.setIfInBounds_toArray, List.set_cons_zero, List.set_cons_succ]
              refine wpAnyH_take (i := 4) (v := .int .i64 (i3 : Int)) rfl (by kernel_rfl) (by kernel_rfl) (by kernel_rfl) (fun _ _ _ h => h) (Or.inl ⟨by rfl, fun w hSw => by obtain ⟨hS1, hS2, hS3, hS4, hS5⟩ := hSw; go_simp⟩) (by assumption) ?_
              simp only [List.getElem_toArray, List.getElem_cons_succ, List.getElem_cons_zero, Act.put, List.setIfInBounds_toArray, List.set_cons_zero, List.set_cons_succ]
              refine wpAnyH_take (i := 5) (v := .pointer (some ⟨ib, io + i3, none⟩)) rfl (by kernel_rfl) (by kernel_rfl) (by kernel_rfl) (fun _ _ _ h => h) (Or.inl ⟨by rfl, fun w hSw => by obtain ⟨hS1, hS2, hS3, hS4, hS5⟩ := hSw; go_simp⟩) (by assumption) ?_
              simp only [List.getElem_toArray, List.getElem_cons_succ, List.getElem_cons_zero, Act.put, List.setIfInBounds_toArray, List.set_cons_zero, List.set_cons_succ]
              refine wpAnyH_take (i := 6) (v := .slice ua un uc) rfl (by kernel_rfl) (by kernel_rfl) (by kernel_rfl) (fun _ _ _ h => h) (Or.inl ⟨by rfl, fun w hSw => by obtain ⟨hS1, hS2, hS3, hS4, hS5⟩ := hSw; go_simp⟩) (by assumption) ?_
              simp only [List.getElem_toArray, List.getElem_cons_succ, List.getElem_cons_zero, Act.put, List.setIfInBounds_toArray, List.set_cons_zero, List.set_cons_succ]
              refine wpAnyH_ready (rs := [7]) (by kernel_rfl) (by simp) (AllReadyH.cons rfl (fun K hK => ?_) AllReadyH.nil)
              refine step_call1Gd (by rfl) 17 sector_enterL (.tmp 184) _ rfl rfl (unhide HSEC _ (Below.refl _ _).drew) ?_
              rintro e w21 ⟨a8, n8, c8, rfl, hcv21, hb21⟩
              refine ⟨_, rfl, ?_⟩
              refine hK.out _ _ (unhide HSS _ hb21) (fun hHeld2 => ?_)
              clear hK K
              simp only [List.getElem_toArray, List.getElem_cons_succ, List.getElem_cons_zero, Act.put, List.setIfInBounds_toArray, List.set_cons_zero, List.set_cons_succ]
              refine wpAnyH_ready (rs := [8]) (by kernel_rfl) (by simp) (AllReadyH.cons rfl (fun K hK => ?_) AllReadyH.nil)
              refine step_conv (by rfl) (.tmp 185) rfl rfl hcv21 ?_
              refine hK.out _ _ (hHeld2) (fun hHeld3 => ?_)
              clear hK K
              simp only [List.getElem_toArray, List.getElem_cons_succ, List.getElem_cons_zero, Act.put, List.setIfInBounds_toArray, List.set_cons_zero, List.set_cons_succ]
              refine wpAnyH_take (i := 9) (v := .bool false) rfl (by kernel_rfl) (by kernel_rfl) (by kernel_rfl) (fun _ _ _ h => h) (Or.inl ⟨by rfl, fun w hSw => by obtain ⟨hS1, hS2, hS3, hS4, hS5⟩ := hSw; go_simp⟩) (by assumption) ?_
              simp only [List.getElem_toArray, List.getElem_cons_succ, List.getElem_cons_zero, Act.put, List.setIfInBounds_toArray, List.set_cons_zero, List.set_cons_succ]
              refine wpAnyH_take (i := 10) (v := .bool false) rfl (by kernel_rfl) (by kernel_rfl) (by kernel_rfl) (fun _ _ _ h => h) (Or.inl ⟨by rfl, fun w hSw => by obtain ⟨hS1, hS2, hS3, hS4, hS5⟩ := hSw; go_simp⟩) (by assumption) ?_
              simp only [List.getElem_toArray, List.getElem_cons_succ, List.getElem_cons_zero, Act.put, List.setIfInBounds_toArray, List.set_cons_zero, List.set_cons_succ]
              refine wpAnyH_take (i := 11) (v := .slice (some ⟨gk, 0, none⟩) 515 ck) rfl (by kernel_rfl) (by kernel_rfl) (by kernel_rfl) (fun _ _ _ h => h) (Or.inl ⟨by rfl, fun w hSw => by obtain ⟨hS1, hS2, hS3, hS4, hS5⟩ := hSw; go_simp⟩) (by assumption) ?_
              simp only [List.getElem_toArray, List.getElem_cons_succ, List.getElem_cons_zero, Act.put, List.setIfInBounds_toArray, List.set_cons_zero, List.set_cons_succ]
              refine wpAnyH_take (i := 12) (v := .pointer (some ⟨gk, 512, none⟩)) rfl (by kernel_rfl) (by kernel_rfl) (by kernel_rfl) (fun _ _ _ h => h) (Or.inl ⟨by rfl, fun w hSw => by obtain ⟨hS1, hS2, hS3, hS4, hS5⟩ := hSw; go_simp⟩) (by assumption) ?_
              simp only [List.getElem_toArray, List.getElem_cons_succ, List.getElem_cons_zero, Act.put, List.setIfInBounds_toArray, List.set_cons_zero, List.set_cons_succ]
              refine wpAnyH_take (i := 13) (v := .int .u8 91) rfl (by kernel_rfl) (by kernel_rfl) (by kernel_rfl) (fun _ _ _ h => h) (Or.inl ⟨by rfl, fun w hSw => by obtain ⟨hS1, hS2, hS3, hS4, hS5⟩ := hSw; go_simp⟩) (by assumption) ?_
              simp only [List.getElem_toArray, List.getElem_cons_succ, List.getElem_cons_zero, Act.put, List.setIfInBounds_toArray, List.set_cons_zero, List.set_cons_succ]
              refine wpAnyH_take (i := 14) (v := .bool false) rfl (by kernel_rfl) (by kernel_rfl) (by kernel_rfl) (fun _ _ _ h => h) (Or.inl ⟨by rfl, fun w hSw => by obtain ⟨hS1, hS2, hS3, hS4, hS5⟩ := hSw; go_simp⟩) (by assumption) ?_
              simp only [List.getElem_toArray, List.getElem_cons_succ, List.getElem_cons_zero, Act.put, List.setIfInBounds_toArray, List.set_cons_zero, List.set_cons_succ]
              refine wpAnyH_take (i := 15) (v := .bool false) rfl (by kernel_rfl) (by kernel_rfl) (by kernel_rfl) (fun _ _ _ h => h) (Or.inl ⟨by rfl, fun w hSw => by obtain ⟨hS1, hS2, hS3, hS4, hS5⟩ := hSw; go_simp⟩) (by assumption) ?_
              simp only [List.getElem_toArray, List.getElem_cons_succ, List.getElem_cons_zero, Act.put, List.setIfInBounds_toArray, List.set_cons_zero, List.set_cons_succ]
              refine wpAnyH_take (i := 16) (v := .bool false) rfl (by kernel_rfl) (by kernel_rfl) (by kernel_rfl) (fun _ _ _ h => h) (Or.inl ⟨by rfl, fun w hSw => by obtain ⟨hS1, hS2, hS3, hS4, hS5⟩ := hSw; go_simp⟩) (by assumption) ?_
              simp only [List.getElem_toArray, List.getElem_cons_succ, List.getElem_cons_zero, Act.put, List.setIfInBounds_toArray, List.set_cons_zero, List.set_cons_succ]
              refine wpAnyH_take (i := 17) (v := .slice (some ⟨gk, 0, none⟩) 515 ck) rfl (by kernel_rfl) (by kernel_rfl) (by kernel_rfl) (fun _ _ _ h => h) (Or.inl ⟨by rfl, fun w hSw => by obtain ⟨hS1, hS2, hS3, hS4, hS5⟩ := hSw; go_simp⟩) (by assumption) ?_
              simp only [List.getElem_toArray, List.getElem_cons_succ, List.getElem_cons_zero, Act.put, List.setIfInBounds_toArray, List.set_cons_zero, List.set_cons_succ]
              refine wpAnyH_take (i := 18) (v := .pointer (some ⟨gk, 513, none⟩)) rfl (by kernel_rfl) (by kernel_rfl) (by kernel_rfl) (fun _ _ _ h => h) (Or.inl ⟨by rfl, fun w hSw => by obtain ⟨hS1, hS2, hS3, hS4, hS5⟩ := hSw; go_simp⟩) (by assumption) ?_
              simp only [List.getElem_toArray, List.getElem_cons_succ, List.getElem_cons_zero, Act.put, List.setIfInBounds_toArray, List.set_cons_zero, List.set_cons_succ]
              refine wpAnyH_take (i := 19) (v := .int .u8 92) rfl (by kernel_rfl) (by kernel_rfl) (by kernel_rfl) (fun _ _ _ h => h) (Or.inl ⟨by rfl, fun w hSw => by obtain ⟨hS1, hS2, hS3, hS4, hS5⟩ := hSw; go_simp⟩) (by assumption) ?_
              simp only [List.getElem_toArray, List.getElem_cons_succ, List.getElem_cons_zero, Act.put, List.setIfInBounds_toArray, List.set_cons_zero, List.set_cons_succ]
              refine wpAnyH_take (i := 20) (v := .bool false) rfl (by kernel_rfl) (by kernel_rfl) (by kernel_rfl) (fun _ _ _ h => h) (Or.inl ⟨by rfl, fun w hSw => by obtain ⟨hS1, hS2, hS3, hS4, hS5⟩ := hSw; go_simp⟩) (by assumption) ?_
              simp only [List.getElem_toArray, List.getElem_cons_succ, List.getElem_cons_zero, Act.put, List.setIfInBounds_toArray, List.set_cons_zero, List.set_cons_succ]
              refine wpAnyH_take (i := 21) (v := .bool false) rfl (by kernel_rfl) (by kernel_rfl) (by kernel_rfl) (fun _ _ _ h => h) (Or.inl ⟨by rfl, fun w hSw => by obtain ⟨hS1, hS2, hS3, hS4, hS5⟩ := hSw; go_simp⟩) (by assumption) ?_
              simp only [List.getElem_toArray, List.getElem_cons_succ, List.getElem_cons_zero, Act.put, List.setIfInBounds_toArray, List.set_cons_zero, List.set_cons_succ]
              refine wpAnyH_take (i := 22) (v := .bool false) rfl (by kernel_rfl) (by kernel_rfl) (by kernel_rfl) (fun _ _ _ h => h) (Or.inl ⟨by rfl, fun w hSw => by obtain ⟨hS1, hS2, hS3, hS4, hS5⟩ := hSw; go_simp⟩) (by assumption) ?_
              simp only [List.getElem_toArray, List.getElem_cons_succ, List.getElem_cons_zero, Act.put, List.setIfInBounds_toArray, List.set_cons_zero, List.set_cons_succ]
              refine wpAnyH_take (i := 23) (v := .slice (some ⟨gk, 0, none⟩) 515 ck) rfl (by kernel_rfl) (by kernel_rfl) (by kernel_rfl) (fun _ _ _ h => h) (Or.inl ⟨by rfl, fun w hSw => by obtain ⟨hS1, hS2, hS3, hS4, hS5⟩ := hSw; go_simp⟩) (by assumption) ?_
              simp only [List.getElem_toArray, List.getElem_cons_succ, List.getElem_cons_zero, Act.put, List.setIfInBounds_toArray, List.set_cons_zero, List.set_cons_succ]
              refine wpAnyH_take (i := 24) (v := .pointer (some ⟨gk, 514, none⟩)) rfl (by kernel_rfl) (by kernel_rfl) (by kernel_rfl) (fun _ _ _ h => h) (Or.inl ⟨by rfl, fun w hSw => by obtain ⟨hS1, hS2, hS3, hS4, hS5⟩ := hSw; go_simp⟩) (by assumption) ?_
              simp only [List.getElem_toArray, List.getElem_cons_succ, List.getElem_cons_zero, Act.put, List.setIfInBounds_toArray, List.set_cons_zero, List.set_cons_succ]
              refine wpAnyH_take (i := 25) (v := .int .u8 93) rfl (by kernel_rfl) (by kernel_rfl) (by kernel_rfl) (fun _ _ _ h => h) (Or.inl ⟨by rfl, fun w hSw => by obtain ⟨hS1, hS2, hS3, hS4, hS5⟩ := hSw; go_simp⟩) (by assumption) ?_
              simp only [List.getElem_toArray, List.getElem_cons_succ, List.getElem_cons_zero, Act.put, List.setIfInBounds_toArray, List.set_cons_zero, List.set_cons_succ]
              refine wpAnyH_take (i := 26) (v := .bool false) rfl (by kernel_rfl) (by kernel_rfl) (by kernel_rfl) (fun _ _ _ h => h) (Or.inl ⟨by rfl, fun w hSw => by obtain ⟨hS1, hS2, hS3, hS4, hS5⟩ := hSw; go_simp⟩) (by assumption) ?_
              simp only [List.getElem_toArray, List.getElem_cons_succ, List.getElem_cons_zero, Act.put, List.setIfInBounds_toArray, List.set_cons_zero, List.set_cons_succ]
              refine wpAnyH_take (i := 27) (v := .bool false) rfl (by kernel_rfl) (by kernel_rfl) (by kernel_rfl) (fun _ _ _ h => h) (Or.inl ⟨by rfl, fun w hSw => by obtain ⟨hS1, hS2, hS3, hS4, hS5⟩ := hSw; go_simp⟩) (by assumption) ?_
              simp only [List.getElem_toArray, List.getElem_cons_succ, List.getElem_cons_zero, Act.put, List.setIfInBounds_toArray, List.set_cons_zero, List.set_cons_succ]
              refine wpAnyH_done (by kernel_rfl) ?_ _
              clear hHeld hHeld2 hHeld3
              have HL21 := hide (unhide HLB w21 hb21)
              clear HLB HSS HSEC hcv21 hb21 hcutK hcutJ huc hci3
              go_wp2
              rename World => w22
              go_loopw [21] (fun jv wr => ∃ j : Nat, j ≤ 512 ∧ jv = .int .i64 (j : Int) ∧ Hid (∃ R, Lx w wr 3 p n ((D.reads 1).reads 1) g cp R (.slice (some ⟨gi, 0, none⟩) nz ci) us1 gf cf ((rowL bs 94 95 96).map (Value.int .u8)) (.slice (some ⟨gz, 0, none⟩) mz cz) fz gw g0 (D.now 1) (D.now 0) ∧ (∀ k, i3 + 1 ≤ k → k < n → R k = Rf xss k) ∧ ∀ j', j ≤ j' → (R i3)[j']? = (Rf xss i3)[j']?)) (fun jv _ => 512 - (intOf jv).toNat)
              case atStart => exact ⟨0, by omega, rfl, HL21⟩
              case round =>
                clear HL21
                obtain ⟨j4, hj4, rfl, HL⟩ := hrel
                by_cases hlt4 : j4 < 512
                · obtain ⟨R, hLx, hR, hRj⟩ := HL.out
                  have hrow := hLx.1.lt.rows i3 hlt3
                  rw [HGK.out, HCK.out] at hrow
                  obtain ⟨x, hx0, hx1, hx2⟩ := (unhide HMX i3 hlt3).2 j4 hlt4
                  have hcx : wr.cell? ⟨gk, j4, none⟩ = some (.int .u8 x) := by
                    rw [hrow.cellAt (by have := hrow.cap.1; omega), hRj j4 (Nat.le_refl _), hx2]
                  have hfx := hrow.frozenAt j4
                  have hci4 : wr.cell? ⟨gi, i3, none⟩ = some (.slice (some ⟨gk, 0, none⟩) 512 ck) := by
                    have h1 := hLx.1.lt.each i3 hlt3
                    obtain ⟨hlt, _⟩ := List.getElem?_eq_some_iff.1 h1
                    rw [hLx.1.lt.im.cellAt hlt, h1, HGK.out, HCK.out]
                  have HNX : Hid (∀ u, ∃ R, Lx w (wr.setCell ⟨gk, j4, none⟩ u).drew 3 p n ((D.reads 1).reads 1) g cp R (.slice (some ⟨gi, 0, none⟩) nz ci) us1 gf cf ((rowL bs 94 95 96).map (Value.int .u8)) (.slice (some ⟨gz, 0, none⟩) mz cz) fz gw g0 (D.now 1) (D.now 0) ∧ (∀ k, i3 + 1 ≤ k → k < n → R k = Rf xss k) ∧ ∀ j', j4 + 1 ≤ j' → (R i3)[j']? = (Rf xss i3)[j']?) := fun u => by
                    have h1 := hLx.1.store (j := j4) (u := u) hlt3
                    rw [HGK.out] at h1
                    refine ⟨_, Lx.below ⟨h1, sec_keep hrow hLx.2.1, sec_keep hrow hLx.2.2⟩ (Below.refl _ _).drew, fun k hk hk2 => ?_, fun j' hj' => ?_⟩
                    · rw [upd_other _ _ (by omega)]; exact hR k hk hk2
                    · rw [upd_same, List.getElem?_set_ne (by omega)]; exact hRj j' (by omega)
                  clear hrow hLx hR hRj HL hx2
                  go_wp2_with fail
                  go_region
                  go_wp2
                  go_roundw
                  case rel => exact ⟨j4 + 1, by omega, by go_num, unhide HNX _⟩
                  case measure => simp [intOf]; omega
                · have HL5 : Hid (∃ R, Lx w wr 3 p n ((D.reads 1).reads 1) g cp R (.slice (some ⟨gi, 0, none⟩) nz ci) us1 gf cf ((rowL bs 94 95 96).map (Value.int .u8)) (.slice (some ⟨gz, 0, none⟩) mz cz) fz gw g0 (D.now 1) (D.now 0) ∧ ∀ k, i3 + 1 ≤ k → k < n → R k = Rf xss k) := by
                    obtain ⟨R, h1, h2, _⟩ := HL.out
                    exact ⟨R, h1, h2⟩
                  clear HL
                  go_wp2
                  go_roundw
                  case rel => exact ⟨i3 + 1, by omega, by go_num, HL5⟩
                  case measure => simp [intOf]; omega
            · have HLZ : Hid (∃ R, Lx w wr 3 p n ((D.reads 1).reads 1) g cp R (.slice (some ⟨gi, 0, none⟩) nz ci) us1 gf cf ((rowL bs 94 95 96).map (Value.int .u8)) (.slice (some ⟨gz, 0, none⟩) mz cz) fz gw g0 (D.now 1) (D.now 0)) := by
                obtain ⟨R, h1, _⟩ := HL.out
                exact ⟨R, h1⟩
              clear HL HMX
              have HRF : Hid (((rowL bs 94 95 96).map (Value.int .u8)).length = 515 ∧ ∀ j, j < 512 → ∃ x : Int, 0 ≤ x ∧ x ≤ 255 ∧ ((rowL bs 94 95 96).map (Value.int .u8))[j]? = some (.int .u8 x)) := by
                have hs := HBS.out.1
                have hlen := rowL_len bs hs 94 95 96
                refine ⟨by rw [List.length_map, hlen], fun j hj => ?_⟩
                have hj2 : j < (rowL bs 94 95 96).length := by rw [hlen]; omega
                have hm2 := rowL_mem bs hs (a := 94) (b := 95) (c := 96) (by decide) (by decide) (by decide) _ (List.getElem_mem hj2)
                refine ⟨_, hm2.1, hm2.2, ?_⟩
                rw [List.getElem?_map, List.getElem?_eq_getElem hj2]
                rfl
              generalize (rowL bs 94 95 96).map (Value.int .u8) = RF0 at *
              have HST : Hid (∃ R RF, Lx w wr 3 p n ((D.reads 1).reads 1) g cp R (.slice (some ⟨gi, 0, none⟩) nz ci) us1 gf cf RF (.slice (some ⟨gz, 0, none⟩) mz cz) fz gw g0 (D.now 1) (D.now 0) ∧ ∀ j', 0 ≤ j' → RF[j']? = RF0[j']?) := by
                obtain ⟨R, h1⟩ := HLZ.out
                exact ⟨R, _, h1, fun _ _ => rfl⟩
              clear HLZ
              go_wp2
              rename World => w30
              go_loopw [22] (fun jv wr => ∃ j : Nat, j ≤ 512 ∧ jv = .int .i64 (j : Int) ∧ Hid (∃ R RF, Lx w wr 3 p n ((D.reads 1).reads 1) g cp R (.slice (some ⟨gi, 0, none⟩) nz ci) us1 gf cf RF (.slice (some ⟨gz, 0, none⟩) mz cz) fz gw g0 (D.now 1) (D.now 0) ∧ ∀ j', j ≤ j' → RF[j']? = RF0[j']?)) (fun jv _ => 512 - (intOf jv).toNat)
              case atStart => exact ⟨0, by omega, rfl, HST⟩
              case round =>
                clear HST
                obtain ⟨j5, hj5, rfl, HL⟩ := hrel
                by_cases hlt5 : j5 < 512
                · obtain ⟨R, RF, hLx, hRj⟩ := HL.out
                  have hrow := hLx.1.fl
                  obtain ⟨x, hx0, hx1, hx2⟩ := HRF.out.2 j5 hlt5
                  have hcx : wr.cell? ⟨gf, j5, none⟩ = some (.int .u8 x) := by
                    rw [hrow.cellAt (by have := hrow.cap.1; omega), hRj j5 (Nat.le_refl _), hx2]
                  have hfx := hrow.frozenAt j5
                  have HNX : Hid (∀ u, ∃ R RF, Lx w (wr.setCell ⟨gf, j5, none⟩ u) 3 p n ((D.reads 1).reads 1) g cp R (.slice (some ⟨gi, 0, none⟩) nz ci) us1 gf cf RF (.slice (some ⟨gz, 0, none⟩) mz cz) fz gw g0 (D.now 1) (D.now 0) ∧ ∀ j', j5 + 1 ≤ j' → RF[j']? = RF0[j']?) := fun u => by
                    have h1 := hLx.1.storeF (j := j5) (u := u)
                    refine ⟨_, _, ⟨h1, sec_keep hrow hLx.2.1, sec_keep hrow hLx.2.2⟩, fun j' hj' => ?_⟩
                    rw [List.getElem?_set_ne (by omega)]
                    exact hRj j' (by omega)
                  clear hrow hLx hRj HL hx2
                  go_wp2
                  go_roundw
                  case rel => exact ⟨j5 + 1, by omega, by go_num, unhide HNX _⟩
                  case measure => simp [intOf]; omega
                · obtain ⟨R, RF, hLx, _⟩ := HL.out
                  have hb31 := hLx.1.old
                  have HR31 := hide (hLx.1.read (i := 1) (by show 1 < D.la.length; rw [HD2.out.1]; omega) (by decide))
                  have HAW := hide hLx.2.1
                  have HA0 := hide hLx.2.2
                  clear hLx HL hb31 HRF
                  go_wp2_with fail
                  refine (unhide HR31).mono ?_
                  rintro e w32 ⟨gn, rfl, hA32, _, hL32, hK32⟩
                  have HR32 := hide (hL32.read (i := 0) (by show 0 < D.la.length; rw [HD2.out.1]; omega) (by decide))
                  have HAN := hide hA32
                  have HAW2 := hide (hK32 _ _ HAW.out)
                  have HA02 := hide (hK32 _ _ HA0.out)
                  clear HR31 hA32 hL32 hK32 HAW HA0
                  go_wp2_with fail
                  refine (unhide HR32).mono ?_
                  rintro e w33 ⟨gq0, rfl, hA33, _, hL33, hK33⟩
                  have hs1 := HS12.out
                  have hs0 := HS13.out
                  have hold := hL33.old
                  obtain ⟨ua, un, uc, huc, hub⟩ := unhide HSE 0 (by omega) w33 hold
                  rw [Nat.add_zero] at huc
                  have HSS : Hid (∀ W, Below w33.heap.size w33 W → W.cell? ⟨ib, io, none⟩ = some (.slice ua un uc) ∧ (convert 23 9 (.slice (some ⟨gn, 0, none⟩) 512 512)).run Try.prog W = .ok (.string (mkS (D.now 1))) W ∧ (convert 23 9 (.slice (some ⟨gw, 0, none⟩) 512 512)).run Try.prog W = .ok (.string (mkS (D.now 1))) W ∧ (convert 23 9 (.slice (some ⟨gq0, 0, none⟩) 512 512)).run Try.prog W = .ok (.string (mkS (D.now 0))) W ∧ (convert 23 9 (.slice (some ⟨g0, 0, none⟩) 512 512)).run Try.prog W = .ok (.string (mkS (D.now 0))) W) := fun W hW =>
                    ⟨(hW.cell (p := ⟨ib, io, none⟩) (World.block_lt_of_cell? w33 _ huc)).trans huc, conv_isB (isB_arrS ((hK33 _ _ HAN.out).below hW) hs1), conv_isB (isB_arrS ((hK33 _ _ HAW2.out).below hW) hs1), conv_isB (isB_arrS (hA33.below hW) hs0), conv_isB (isB_arrS ((hK33 _ _ HA02.out).below hW) hs0)⟩
                  have HSEC : Hid (∀ W, Below w33.heap.size w33 W → Calls Try.prog 17 #[.slice ua un uc] W fun e w' => ∃ a8 n8 c8, e = .returned (.slice a8 n8 c8) ∧ (convert 23 9 (.slice a8 n8 c8)).run Try.prog w' = .ok (.string (mkS (D.now 0))) w' ∧ Below w33.heap.size w33 w') := fun W hW => by
                    refine (sector_calls (hub.below hW) (isB_bytes hub).2).mono ?_
                    rintro e w' ⟨g9, rfl, hu, hb⟩
                    rw [HD2.out.2]
                    exact ⟨_, _, _, rfl, conv_isB hu.isB, hW.trans (hb.mono hW.size)⟩
                  have HOLD := hide hold
                  clear hA33 hL33 hK33 HAN HAW2 HA02 hub huc hs1 hs0 hold HR32
                  have hn0 : ¬ n = 0 := by omega
                  generalize mkS (D.now 1) = s1 at *
                  generalize mkS (D.now 0) = st at *
                  go_wp2_with fail
                  refine wp_region_held_drew (S := fun W => W.cell? ⟨ib, io, none⟩ = some (.slice ua un uc) ∧ (convert 23 9 (.slice (some ⟨gn, 0, none⟩) 512 512)).run Try.prog W = .ok (.string s1) W ∧ (convert 23 9 (.slice (some ⟨gw, 0, none⟩) 512 512)).run Try.prog W = .ok (.string s1) W ∧ (convert 23 9 (.slice (some ⟨gq0, 0, none⟩) 512 512)).run Try.prog W = .ok (.string st) W ∧ (convert 23 9 (.slice (some ⟨g0, 0, none⟩) 512 512)).run Try.prog W = .ok (.string st) W) (by kernel_rfl) (unhide HSS _ (Below.refl _ _).drew) (fun hHeld => ?_)
                  refine wpAnyH_take (i := 0) (v := .int .i64 0) rfl (by kernel_rfl) (by kernel_rfl) (by kernel_rfl) (fun _ _ _ h => h) (Or.inl ⟨by rfl, fun w hSw => by obtain ⟨hS1, hS2, hS3, hS4, hS5⟩ := hSw; go_simp⟩) (by assumption) ?_
                  simp only [List.getElem_toArray, List.getElem_cons_zero, Act.put, List.setIfInBounds_toArray, List.set_cons_zero, List.set_cons_succ]
                  refine wpAnyH_take (i := 1) (v := .bool true) rfl (by kernel_rfl) (by kernel_rfl) (by kernel_rfl) (fun _ _ _ h => h) (Or.inl ⟨by rfl, fun w hSw => by obtain ⟨hS1, hS2, hS3, hS4, hS5⟩ := hSw; go_simp⟩) (by assumption) ?_
                  simp only [List.getElem_toArray, List.getElem_cons_succ, List.getElem_cons_zero, Act.put, List.setIfInBounds_toArray, List.set_cons_zero, List.set_cons_succ]
                  refine wpAnyH_take (i := 2) (v := .bool true) rfl (by kernel_rfl) (by kernel_rfl) (by kernel_rfl) (fun _ _ _ h => h) (Or.inl ⟨by rfl, fun w hSw => by obtain ⟨hS1, hS2, hS3, hS4, hS5⟩ := hSw; go_simp⟩) (by assumption) ?_
                  simp only [List.getElem_toArray, List.getElem_cons_succ, List.getElem_cons_zero, Act.put, List.setIfInBounds_toArray, List.set_cons_zero, List.set_cons_succ]
                  refine wpAnyH_take (i := 3) (v := .int .i64 0) rfl (by kernel_rfl) (by kernel_rfl) (by kernel_rfl) (fun _ _ _ h => h) (Or.inl ⟨by rfl, fun w hSw => by obtain ⟨hS1, hS2, hS3, hS4, hS5⟩ := hSw; go_simp⟩) (by assumption) ?_
                  simp only [List.getElem_toArray, List.getElem_cons_succ, List.getElem_cons_zero, Act.put, List.setIfInBounds_toArray, List.set_cons_zero, List.set_cons_succ]
                  refine wpAnyH_take (i := 4) (v := .bool true) rfl (by kernel_rfl) (by kernel_rfl) (by kernel_rfl) (fun _ _ _ h => h) (Or.inl ⟨by rfl, fun w hSw => by obtain ⟨hS1, hS2, hS3, hS4, hS5⟩ := hSw; go_simp⟩) (by assumption) ?_
                  simp only [List.getElem_toArray, List.getElem_cons_succ, List.getElem_cons_zero, Act.put, List.setIfInBounds_toArray, List.set_cons_zero, List.set_cons_succ]
                  refine wpAnyH_take (i := 5) (v := .bool true) rfl (by kernel_rfl) (by kernel_rfl) (by kernel_rfl) (fun _ _ _ h => h) (Or.inl ⟨by rfl, fun w hSw => by obtain ⟨hS1, hS2, hS3, hS4, hS5⟩ := hSw; go_simp⟩) (by assumption) ?_
                  simp only [List.getElem_toArray, List.getElem_cons_succ, List.getElem_cons_zero, Act.put, List.setIfInBounds_toArray, List.set_cons_zero, List.set_cons_succ]
                  refine wpAnyH_take (i := 6) (v := .bool true) rfl (by kernel_rfl) (by kernel_rfl) (by kernel_rfl) (fun _ _ _ h => h) (Or.inl ⟨by rfl, fun w hSw => by obtain ⟨hS1, hS2, hS3, hS4, hS5⟩ := hSw; go_simp⟩) (by assumption) ?_
                  simp only [List.getElem_toArray, List.getElem_cons_succ, List.getElem_cons_zero, Act.put, List.setIfInBounds_toArray, List.set_cons_zero, List.set_cons_succ]
                  refine wpAnyH_take (i := 7) (v := .slice (some ⟨gn, 0, none⟩) 512 512) rfl (by kernel_rfl) (by kernel_rfl) (by kernel_rfl) (fun _ _ _ h => h) (Or.inl ⟨by rfl, fun w hSw => by obtain ⟨hS1, hS2, hS3, hS4, hS5⟩ := hSw; go_simp⟩) (by assumption) ?_
                  simp only [List.getElem_toArray, List.getElem_cons_succ, List.getElem_cons_zero, Act.put, List.setIfInBounds_toArray, List.set_cons_zero, List.set_cons_succ]
                  refine wpAnyH_take (i := 8) (v := .string s1) rfl (by kernel_rfl) (by kernel_rfl) (by kernel_rfl) (fun _ _ _ h => h) (Or.inl ⟨by rfl, fun w hSw => by obtain ⟨hS1, hS2, hS3, hS4, hS5⟩ := hSw; go_simp⟩) (by assumption) ?_
                  simp only [List.getElem_toArray, List.getElem_cons_succ, List.getElem_cons_zero, Act.put, List.setIfInBounds_toArray, List.set_cons_zero, List.set_cons_succ]
                  refine wpAnyH_take (i := 9) (v := .slice (some ⟨gw, 0, none⟩) 512 512) rfl (by kernel_rfl) (by kernel_rfl) (by kernel_rfl) (fun _ _ _ h => h) (Or.inl ⟨by rfl, fun w hSw => by obtain ⟨hS1, hS2, hS3, hS4, hS5⟩ := hSw; go_simp⟩) (by assumption) ?_
                  simp only [List.getElem_toArray, List.getElem_cons_succ, List.getElem_cons_zero, Act.put, List.setIfInBounds_toArray, List.set_cons_zero, List.set_cons_succ]
                  refine wpAnyH_take (i := 10) (v := .string s1) rfl (by kernel_rfl) (by kernel_rfl) (by kernel_rfl) (fun _ _ _ h => h) (Or.inl ⟨by rfl, fun w hSw => by obtain ⟨hS1, hS2, hS3, hS4, hS5⟩ := hSw; go_simp⟩) (by assumption) ?_
                  simp only [List.getElem_toArray, List.getElem_cons_succ, List.getElem_cons_zero, Act.put, List.setIfInBounds_toArray, List.set_cons_zero, List.set_cons_succ]
                  refine wpAnyH_take (i := 11) (v := .bool true) rfl (by kernel_rfl) (by kernel_rfl) (by kernel_rfl) (fun _ _ _ h => h) (Or.inl ⟨by rfl, fun w hSw => by obtain ⟨hS1, hS2, hS3, hS4, hS5⟩ := hSw; go_simp⟩) (by assumption) ?_
                  simp only [List.getElem_toArray, List.getElem_cons_succ, List.getElem_cons_zero, Act.put, List.setIfInBounds_toArray, List.set_cons_zero, List.set_cons_succ]
                  refine wpAnyH_take (i := 12) (v := .bool true) rfl (by kernel_rfl) (by kernel_rfl) (by kernel_rfl) (fun _ _ _ h => h) (Or.inl ⟨by rfl, fun w hSw => by obtain ⟨hS1, hS2, hS3, hS4, hS5⟩ := hSw; go_simp⟩) (by assumption) ?_
                  simp only [List.getElem_toArray, List.getElem_cons_succ, List.getElem_cons_zero, Act.put, List.setIfInBounds_toArray, List.set_cons_zero, List.set_cons_succ]
                  refine wpAnyH_take (i := 13) (v := .bool true) rfl (by kernel_rfl) (by kernel_rfl) (by kernel_rfl) (fun _ _ _ h => h) (Or.inl ⟨by rfl, fun w hSw => by obtain ⟨hS1, hS2, hS3, hS4, hS5⟩ := hSw; go_simp⟩) (by assumption) ?_
                  simp only [List.getElem_toArray, List.getElem_cons_succ, List.getElem_cons_zero, Act.put, List.setIfInBounds_toArray, List.set_cons_zero, List.set_cons_succ]
                  refine wpAnyH_take (i := 14) (v := .slice (some ⟨gq0, 0, none⟩) 512 512) rfl (by kernel_rfl) (by kernel_rfl) (by kernel_rfl) (fun _ _ _ h => h) (Or.inl ⟨by rfl, fun w hSw => by obtain ⟨hS1, hS2, hS3, hS4, hS5⟩ := hSw; go_simp⟩) (by assumption) ?_
                  simp only [List.getElem_toArray, List.getElem_cons_succ, List.getElem_cons_zero, Act.put, List.setIfInBounds_toArray, List.set_cons_zero, List.set_cons_succ]
                  refine wpAnyH_take (i := 15) (v := .string st) rfl (by kernel_rfl) (by kernel_rfl) (by kernel_rfl) (fun _ _ _ h => h) (Or.inl ⟨by rfl, fun w hSw => by obtain ⟨hS1, hS2, hS3, hS4, hS5⟩ := hSw; go_simp⟩) (by assumption) ?_
                  simp only [List.getElem_toArray, List.getElem_cons_succ, List.getElem_cons_zero, Act.put, List.setIfInBounds_toArray, List.set_cons_zero, List.set_cons_succ]
                  refine wpAnyH_take (i := 16) (v := .slice (some ⟨g0, 0, none⟩) 512 512) rfl (by kernel_rfl) (by kernel_rfl) (by kernel_rfl) (fun _ _ _ h => h) (Or.inl ⟨by rfl, fun w hSw => by obtain ⟨hS1, hS2, hS3, hS4, hS5⟩ := hSw; go_simp⟩) (by assumption) ?_
                  simp only [List.getElem_toArray, List.getElem_cons_succ, List.getElem_cons_zero, Act.put, List.setIfInBounds_toArray, List.set_cons_zero, List.set_cons_succ]
                  refine wpAnyH_take (i := 17) (v := .string st) rfl (by kernel_rfl) (by kernel_rfl) (by kernel_rfl) (fun _ _ _ h => h) (Or.inl ⟨by rfl, fun w hSw => by obtain ⟨hS1, hS2, hS3, hS4, hS5⟩ := hSw; go_simp⟩) (by assumption) ?_
                  simp only [List.getElem_toArray, List.getElem_cons_succ, List.getElem_cons_zero, Act.put, List.setIfInBounds_toArray, List.set_cons_zero, List.set_cons_succ]
                  refine wpAnyH_take (i := 18) (v := .bool true) rfl (by kernel_rfl) (by kernel_rfl) (by kernel_rfl) (fun _ _ _ h => h) (Or.inl ⟨by rfl, fun w hSw => by obtain ⟨hS1, hS2, hS3, hS4, hS5⟩ := hSw; go_simp⟩) (by assumption) ?_
                  simp only [List.getElem_toArray, List.getElem_cons_succ, List.getElem_cons_zero, Act.put, List.setIfInBounds_toArray, List.set_cons_zero, List.set_cons_succ]
                  refine wpAnyH_take (i := 19) (v := .bool true) rfl (by kernel_rfl) (by kernel_rfl) (by kernel_rfl) (fun _ _ _ h => h) (Or.inl ⟨by rfl, fun w hSw => by obtain ⟨hS1, hS2, hS3, hS4, hS5⟩ := hSw; go_simp⟩) (by assumption) ?_
                  simp only [List.getElem_toArray, List.getElem_cons_succ, List.getElem_cons_zero, Act.put, List.setIfInBounds_toArray, List.set_cons_zero, List.set_cons_succ]
                  refine wpAnyH_take (i := 20) (v := .bool true) rfl (by kernel_rfl) (by kernel_rfl) (by kernel_rfl) (fun _ _ _ h => h) (Or.inl ⟨by rfl, fun w hSw => by obtain ⟨hS1, hS2, hS3, hS4, hS5⟩ := hSw; go_simp⟩) (by assumption) ?_
                  simp only [List.getElem_toArray, List.getElem_cons_succ, List.getElem_cons_zero, Act.put, List.setIfInBounds_toArray, List.set_cons_zero, List.set_cons_succ]
                  refine wpAnyH_take (i := 21) (v := .slice (some ⟨g0, 0, none⟩) 512 512) rfl (by kernel_rfl) (by kernel_rfl) (by kernel_rfl) (fun _ _ _ h => h) (Or.inl ⟨by rfl, fun w hSw => by obtain ⟨hS1, hS2, hS3, hS4, hS5⟩ := hSw; go_simp⟩) (by assumption) ?_
                  simp only [List.getElem_toArray, List.getElem_cons_succ, List.getElem_cons_zero, Act.put, List.setIfInBounds_toArray, List.set_cons_zero, List.set_cons_succ]
                  refine wpAnyH_take (i := 22) (v := .string st) rfl (by kernel_rfl) (by kernel_rfl) (by kernel_rfl) (fun _ _ _ h => h) (Or.inl ⟨by rfl, fun w hSw => by obtain ⟨hS1, hS2, hS3, hS4, hS5⟩ := hSw; go_simp⟩) (by assumption) ?_
                  simp only [List.getElem_toArray, List.getElem_cons_succ, List.getElem_cons_zero, Act.put, List.setIfInBounds_toArray, List.set_cons_zero, List.set_cons_succ]
                  refine wpAnyH_take (i := 23) (v := .slice (some ⟨ib, io, none⟩) n ic) rfl (by kernel_rfl) (by kernel_rfl) (by kernel_rfl) (fun _ _ _ h => h) (Or.inl ⟨by rfl, fun w hSw => by obtain ⟨hS1, hS2, hS3, hS4, hS5⟩ := hSw; go_simp⟩) (by assumption) ?_
                  simp only [List.getElem_toArray, List.getElem_cons_succ, List.getElem_cons_zero, Act.put, List.setIfInBounds_toArray, List.set_cons_zero, List.set_cons_succ]
                  refine wpAnyH_take (i := 24) (v := .pointer (some ⟨ib, io, none⟩)) rfl (by kernel_rfl) (by kernel_rfl) (by kernel_rfl) (fun _ _ _ h => h) (Or.inl ⟨by rfl, fun w hSw => by obtain ⟨hS1, hS2, hS3, hS4, hS5⟩ := hSw; go_simp⟩) (by assumption) ?_
                  simp only [List.getElem_toArray, List.getElem_cons_succ, List.getElem_cons_zero, Act.put, List.setIfInBounds_toArray, List.set_cons_zero, List.set_cons_succ]
                  refine wpAnyH_take (i := 25) (v := .slice ua un uc) rfl (by kernel_rfl) (by kernel_rfl) (by kernel_rfl) (fun _ _ _ h => h) (Or.inl ⟨by rfl, fun w hSw => by obtain ⟨hS1, hS2, hS3, hS4, hS5⟩ := hSw; go_simp⟩) (by assumption) ?_
                  simp only [List.getElem_toArray, List.getElem_cons_succ, List.getElem_cons_zero, Act.put, List.setIfInBounds_toArray, List.set_cons_zero, List.set_cons_succ]
                  refine wpAnyH_ready (rs := [26]) (by kernel_rfl) (by simp) (AllReadyH.cons rfl (fun K hK => ?_) AllReadyH.nil)
                  refine step_call1Gd (by rfl) 17 sector_enterL (.tmp 271) _ rfl rfl (unhide HSEC _ (Below.refl _ _).drew) ?_
                  rintro e w34 ⟨a8, n8, c8, rfl, hcv34, hb34⟩
                  refine ⟨_, rfl, ?_⟩
                  refine hK.out _ _ (unhide HSS _ hb34) (fun hHeld2 => ?_)
                  clear hK K
                  simp only [List.getElem_toArray, List.getElem_cons_succ, List.getElem_cons_zero, Act.put, List.setIfInBounds_toArray, List.set_cons_zero, List.set_cons_succ]
                  refine wpAnyH_ready (rs := [27]) (by kernel_rfl) (by simp) (AllReadyH.cons rfl (fun K hK => ?_) AllReadyH.nil)
                  refine step_conv (by rfl) (.tmp 272) rfl rfl hcv34 ?_
                  refine hK.out _ _ (hHeld2) (fun hHeld3 => ?_)
                  clear hK K
                  simp only [List.getElem_toArray, List.getElem_cons_succ, List.getElem_cons_zero, Act.put, List.setIfInBounds_toArray, List.set_cons_zero, List.set_cons_succ]
                  refine wpAnyH_take (i := 28) (v := .bool true) rfl (by kernel_rfl) (by kernel_rfl) (by kernel_rfl) (fun _ _ _ h => h) (Or.inl ⟨by rfl, fun w hSw => by obtain ⟨hS1, hS2, hS3, hS4, hS5⟩ := hSw; go_simp⟩) (by assumption) ?_
                  simp only [List.getElem_toArray, List.getElem_cons_succ, List.getElem_cons_zero, Act.put, List.setIfInBounds_toArray, List.set_cons_zero, List.set_cons_succ]
                  refine wpAnyH_take (i := 29) (v := .bool true) rfl (by kernel_rfl) (by kernel_rfl) (by kernel_rfl) (fun _ _ _ h => h) (Or.inl ⟨by rfl, fun w hSw => by obtain ⟨hS1, hS2, hS3, hS4, hS5⟩ := hSw; go_simp⟩) (by assumption) ?_
                  simp only [List.getElem_toArray, List.getElem_cons_succ, List.getElem_cons_zero, Act.put, List.setIfInBounds_toArray, List.set_cons_zero, List.set_cons_succ]
                  refine wpAnyH_take (i := 30) (v := .bool true) rfl (by kernel_rfl) (by kernel_rfl) (by kernel_rfl) (fun _ _ _ h => h) (Or.inl ⟨by rfl, fun w hSw => by obtain ⟨hS1, hS2, hS3, hS4, hS5⟩ := hSw; go_simp⟩) (by assumption) ?_
                  simp only [List.getElem_toArray, List.getElem_cons_succ, List.getElem_cons_zero, Act.put, List.setIfInBounds_toArray, List.set_cons_zero, List.set_cons_succ]
                  refine wpAnyH_done (by kernel_rfl) ?_ _
                  clear hHeld hHeld2 hHeld3
                  have hfin := HOLD.out.trans (hb34.mono HOLD.out.size)
                  clear HSS HSEC hcv34 hb34
                  go_wp2
                  go_ret
                  exact ⟨rfl, hfin⟩
end Go.Proofs.Ytfgjhlnaaopdeab

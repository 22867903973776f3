/- What Told answers: true. -/
import Derived.Test.YtmnmnepiikeomaaDoorShaSum
import Derived.Test.YtmnmnepiikeomaaDoorShaHelp
import Derived.Test.YtmnmnepiikeomaaDoorKeyEq
import Derived.Lib.SlBytesConst
namespace Go.Proofs.YtmnmnepiikeomaaDoor
open Go.RowKit

theorem sha_len (xs : List Int) : (shaOf xs).length = 32 := by rw [shaOf, keyB_len]
theorem keyV_eql (xs : List Int) (w : World) : (binOp .eql 28 (keyV xs) (keyV xs)).run Tryd.prog w = .ok (.bool true) w := by
  rw [keyV, key_eql _ _ (sha_len xs) (sha_len xs)]
  simp
theorem keyV_neq (xs : List Int) (w : World) : (binOp .neq 28 (keyV xs) (keyV xs)).run Tryd.prog w = .ok (.bool false) w := by
  rw [keyV, key_neq _ _ (sha_len xs) (sha_len xs)]
  simp
theorem keyV_guard (op : BinOp) (x y : Operand) (xs ys : List Int) (w : World) : (eqGuard op 28 x y (keyV xs) (keyV ys)).run Tryd.prog w = .ok () w := key_guard op x y _ _ w
def abcK : List Int := [186, 120, 22, 191, 143, 1, 207, 234, 65, 65, 64, 222, 93, 174, 34, 35, 176, 3, 97, 163, 150, 23, 122, 156, 180, 16, 255, 97, 242, 0, 21, 173]
theorem abc_sha : shaOf [97, 98, 99] = abcK := by decide +kernel
set_option maxRecDepth 100000 in
set_option maxHeartbeats 1000000 in
theorem abc_calls (w : World) : Calls Tryd.prog 24 #[] w fun e w' => e = .returned (keyV [97, 98, 99]) ∧ Below w.heap.size w w' := by
  have hi48 : (Tryd.prog.info? 28).map (·.size) = some (abcK.map (Value.int .u8)).length := by kernel_rfl
  have hl48 : (row32 []).length = (abcK.map (Value.int .u8)).length := by rfl
  have hone48 := u8_one abcK
  have HKV : Hid (keyV [97, 98, 99] = .agg (abcK.map (Value.int .u8)).toArray) := by
    show _ = _
    rw [keyV, abc_sha]
  go_enter Tryd.func24, Tryd.ntmps24
  go_wp2_with (refine wpList_storeArr2 (cs' := abcK.map (Value.int .u8)) rfl (.tmp 0) (.tmp 1) 28 rfl rfl rfl (Arr.new w (row32 []) 28) hi48 hl48 hone48 ?_; intro w8 hR8 hw8)
  exact bodyPost_ret (v := .agg (abcK.map (Value.int .u8)).toArray) (results_arr rfl rfl hR8 Tryd.underlying28 hi48) rfl ⟨by rw [HKV.out], hw8.below _ _ (lit_below _ _) (Nat.le_refl _)⟩
theorem IsHash.kept {w w' : World} {g g' : Nat} {xs : List Int} (h : IsHash w g xs) (hg : w.grownBy w' (some g')) (hne : g ≠ g') : IsHash w' g xs := by
  obtain ⟨h1, h2, rest, h3, h4, h5, h6⟩ := h
  exact ⟨h1, h2, rest, h3, h4, h5, h6.keep (hg.block g h6.lt (by simpa using hne))⟩
theorem IsHash.lt {w : World} {g : Nat} {xs : List Int} (h : IsHash w g xs) : g < w.heap.size := by
  obtain ⟨_, _, _, _, _, _, h6⟩ := h
  exact h6.lt
theorem TabS.grown {w w' : World} {g : Nat} (h : TabS w) (hg : w.grownBy w' (some g)) (hne : 0 ≠ g) : TabS w' := fun i hi => by
  have h1 := h i hi
  rw [H8.vals_at init8 i hi] at h1 ⊢
  rw [← h1]
  exact World.cell?_of_block (hg.block _ (World.block_lt_of_cell? w _ h1) (by simpa using hne))
/-- Both tables. -/
structure Tabs (w : World) : Prop where
  k : TabK w
  s : TabS w
theorem Tabs.below {w w' : World} (h : Tabs w) (hb : Below w.heap.size w w') : Tabs w' := ⟨h.k.below hb, h.s.below hb⟩
theorem Tabs.ltK {w : World} (h : Tabs w) : 1 < w.heap.size := World.block_lt_of_cell? w _ (h.k 0 (by decide))
theorem Tabs.ltS {w : World} (h : Tabs w) : 0 < w.heap.size := by
  have h1 := h.s 0 (by decide)
  rw [H8.vals_at init8 0 (by decide)] at h1
  exact World.block_lt_of_cell? w _ h1
theorem grown_alloc {w w' : World} {o : Obj} {g : Nat} (h : (w.alloc o).grownBy w' (some g)) : w.grownBy w' (some g) := grown_then (grown_belowS g (lit_below w o)) h
/-- Bytes of a literal are written. -/
theorem write_new {W : World} {g n : Nat} {xs : List Int} (ys : List Int) (fr : Nat × Nat) {C : Array Value} (hC : C = (ys.map (Value.int .u8)).toArray) (hn : n = ys.length) (hb : ∀ x ∈ ys, 0 ≤ x ∧ x ≤ 255) (hl : ys.length ≤ 1000) (h : IsHash W g xs) (hT : TabK W) (hne : 1 ≠ g) (hx : xs.length ≤ 1000000000) :
    Calls Tryd.prog 19 #[.pointer (some ⟨g, 0, none⟩), .slice (some ⟨W.heap.size, 0, none⟩) n n] (W.alloc (.cells C 5 fr)) fun e w' => (∃ v, e = .returned v) ∧ IsHash w' g (xs ++ ys) ∧ W.grownBy w' (some g) := by
  subst hC hn
  refine (write_calls (h.below (lit_below _ _)) (isB_litm W ys fr hb hl) (fun _ ad had => ?_) (by omega) (hT.below (lit_below _ _)) hne).mono ?_
  · injection had with had
    subst had
    have := h.lt
    show W.heap.size ≠ g
    omega
  · rintro e w' ⟨he, hi, hg⟩
    exact ⟨he, hi, grown_alloc hg⟩
theorem below_alloc {w w' : World} {o : Obj} (h : Below (w.alloc o).heap.size (w.alloc o) w') : Below w.heap.size w w' := below_then (lit_below w o) h
theorem sum_new {W : World} {n : Nat} (ys : List Int) (fr : Nat × Nat) {C : Array Value} (hC : C = (ys.map (Value.int .u8)).toArray) (hn : n = ys.length) (hb : ∀ x ∈ ys, 0 ≤ x ∧ x ≤ 255) (hl : ys.length ≤ 1000) (hT : Tabs W) :
    Calls Tryd.prog 11 #[.slice (some ⟨W.heap.size + 1, 0, none⟩) 1 1] ((W.alloc (.cells C 5 fr)).alloc (.cells #[.slice (some ⟨W.heap.size, 0, none⟩) n n] 26)) fun e w' => e = .returned (keyV ys) ∧ Below W.heap.size W w' := by
  subst hC hn
  have h1 := isBB_one (isB_litm W ys fr hb hl)
  rw [size_alloc] at h1
  have hT2 := (hT.below (lit_below _ (.cells (ys.map (Value.int .u8)).toArray 5 fr))).below (lit_below _ (.cells #[.slice (some ⟨W.heap.size, 0, none⟩) ys.length ys.length] 26))
  refine (sums_calls h1 (by simp; omega) hT2.k hT2.s).mono ?_
  rintro e w' ⟨rfl, h2⟩
  refine ⟨by simp, below_alloc (below_alloc h2)⟩
theorem rsum_new {W : World} {n : Nat} (ys : List Int) (fr : Nat × Nat) {C : Array Value} (hC : C = (ys.map (Value.int .u8)).toArray) (hn : n = ys.length) (hb : ∀ x ∈ ys, 0 ≤ x ∧ x ≤ 255) (hl : ys.length ≤ 1000) :
    Calls Tryd.prog 12 #[.slice (some ⟨W.heap.size, 0, none⟩) n n] (W.alloc (.cells C 5 fr)) fun e w' => e = .returned (keyV ys) ∧ Below W.heap.size W w' := by
  subst hC hn
  refine (rsum_calls (isB_litm W ys fr hb hl) (by omega)).mono ?_
  rintro e w' ⟨rfl, h2⟩
  exact ⟨rfl, below_alloc h2⟩
theorem conv_lit (W : World) (C : Array Value) (n c : Nat) : (convert 26 26 (.slice (some ⟨W.heap.size, 0, none⟩) n c)).run Tryd.prog (W.alloc (.cells C 5)) = .ok (.slice (some ⟨W.heap.size, 0, none⟩) n c) (W.alloc (.cells C 5 (C.size, C.size + 1))) :=
  Lib.run_convert_bytes_const W 26 5 C n c Tryd.underlying26 Tryd.underlying5
set_option maxRecDepth 100000 in
set_option maxHeartbeats 1000000 in
theorem told_calls {w : World} (hT : Tabs w) : Calls Tryd.prog 9 #[] w fun e w' => e = .returned (.bool true) ∧ Below w.heap.size w w' := by
  have HT := hide hT
  have hKl := hT.ltK
  have hSl := hT.ltS
  have hcv := conv_lit
  have hke := keyV_eql
  have hkg := keyV_guard
  clear hT
  go_enter Tryd.func9, Tryd.ntmps9
  go_wp2_with (first
    | (go_at_call 15; refine (shaNew_calls (unhide HT).s).mono ?_; rintro e w1 ⟨rfl, hH1, hB1⟩; have hl1 := hH1.lt; have hz1 := hB1.size; have hT1 := (unhide HT).k.below hB1)
    | (go_at_call 19; refine (write_new [97, 98] (2, 3) rfl rfl (by decide) (by decide) hH1 hT1 (by omega) (by decide)).mono ?_; rintro e w2 ⟨⟨v2, rfl⟩, hH2, hg2⟩; rw [List.nil_append] at hH2; have hB2 := hB1.grown hg2 hz1 (fun k hk => (by injection hk with hk; omega)))
    | (go_at_call 21; refine (shaCopy_calls hH2).mono ?_; rintro e w3 ⟨rfl, hH3c, hb3⟩; have hH3 := hH2.below hb3; have hB3 := below_then hB2 hb3; have hl2 := hH2.lt; have hl3 := hH3c.lt; have hT3 := (unhide HT).k.below hB3; clear hH1 hg2 hH2 hb3 hT1))
  go_wp2_with (first
    | (go_at_call 19; refine (write_new [99] (1, 2) rfl rfl (by decide) (by decide) hH3 hT3 (by omega) (by decide)).mono ?_; rintro e w4 ⟨⟨v4, rfl⟩, hH4, hg4⟩; have hH4c := hH3c.kept hg4 (by omega); have hB4 := hB3.grown hg4 hB3.size (fun k hk => (by injection hk with hk; omega))))
  have hT4 := (unhide HT).below hB4
  clear hH3 hH3c hT3 hg4
  go_wp2_with (go_at_call 11; refine (sum_new [97, 98, 99] (3, 4) rfl rfl (by decide) (by decide) hT4).mono ?_; rintro e w5 ⟨rfl, hb5⟩)
  go_wp2_with (go_at_call 24; refine (abc_calls _).mono ?_; rintro e w6 ⟨rfl, hb6⟩; have hb6' := below_then hb5 hb6; have hH6 := hH4.below hb6'; have hT6 := hT4.below hb6')
  go_wp2_with (go_at_call 22; refine (keys_calls hH6 hT6.k).mono ?_; rintro e w7 ⟨rfl, hb7⟩)
  go_wp2_with (go_at_call 24; refine (abc_calls _).mono ?_; rintro e w8 ⟨rfl, hb8⟩; have hb8' := below_then (below_then hb6' hb7) hb8; have hH8 := hH4.below hb8'; have hH8c := hH4c.below hb8'; have hT8 := hT4.below hb8')
  go_wp2_with (go_at_call 20; (first | (refine (len_calls hH8).mono ?_; rintro e w9 ⟨rfl, hw9⟩; obtain rfl := hw9.symm; clear hH8) | (refine (len_calls hH8c).mono ?_; rintro e w9 ⟨rfl, hw9⟩; obtain rfl := hw9.symm)))
  go_wp2_with (go_at_call 22; refine (keys_calls hH8c hT8.k).mono ?_; rintro e w10 ⟨rfl, hb10⟩)
  go_wp2_with (go_at_call 12; refine (rsum_new [97, 98] (2, 3) rfl rfl (by decide) (by decide)).mono ?_; rintro e w11 ⟨rfl, hb11⟩)
  go_ret
  exact ⟨rfl, below_then hB4 (below_then (below_then hb8' hb10) hb11)⟩
end Go.Proofs.YtmnmnepiikeomaaDoor

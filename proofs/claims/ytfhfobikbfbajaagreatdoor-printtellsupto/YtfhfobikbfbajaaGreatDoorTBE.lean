/- The writer's Builder: what is written in a struct that embeds one. What a writer holds as a text; a part's mark. The program's writing of a term: what its parts keep. The program's writing of a term. -/
import Derived.Test.YtfhfobikbfbajaaGreatDoorTAN
import Derived.Test.YtfhfobikbfbajaaGreatDoorTAD
import Derived.Lib.UnsafeStr
import Derived.Test.YtfhfobikbfbajaaGreatDoorTAZ
namespace Go.Proofs.YtfhfobikbfbajaaGreatDoor
open Go.RowKit Go.Maps

def WtT (t : TypeId) : Prop := t = 5 ∨ t = 83
/-- Two bytes or more lie in it. -/
def Bgw (W : World) (b : Nat) : Prop := ∃ p a n c, Arr W b 83 [p, .slice a n c] ∧ 2 ≤ n
/-- Then no block of one byte is its row: such blocks were not changed. -/
def Stw (b : Nat) (W W' : World) : Prop := Bgw W b → Bgw W' b ∧ ∀ k x, Arr W k 5 [x] → Arr W' k 5 [x]
theorem Stw.refl (b : Nat) (W : World) : Stw b W W := fun h => ⟨h, fun _ _ h => h⟩
theorem Stw.trans {b : Nat} {W W1 W2 : World} (h : Stw b W W1) (k : Stw b W1 W2) : Stw b W W2 := fun hb => by
  obtain ⟨h1, h2⟩ := h hb
  obtain ⟨k1, k2⟩ := k h1
  exact ⟨k1, fun j x hx => k2 j x (h2 j x hx)⟩
theorem Stw.below {b : Nat} {W W' : World} (hb : Below W.heap.size W W') : Stw b W W' := fun ⟨p, a, n, c, h, h2⟩ => ⟨⟨p, a, n, c, h.below hb, h2⟩, fun _ _ hx => hx.below hb⟩
theorem arr_same {W : World} {b : Nat} {t t' : TypeId} {cs cs' : List Value} (h : Arr W b t cs) (h' : Arr W b t' cs') : t = t' ∧ cs = cs' := by
  unfold Arr at h h'
  rw [h] at h'
  injection h' with h'
  injection h' with h1 h2
  exact ⟨h2, by simpa using h1⟩
theorem Stw.own {b : Nat} {W W' : World} {p p' v : Value} (h : Arr W b 83 [p, v]) (h' : Arr W' b 83 [p', v]) (hg : W.grownBy W' (some b)) : Stw b W W' := fun ⟨q, a, n, c, h1, h2⟩ => by
  have e := (arr_same h h1).2
  simp only [List.cons.injEq, and_true] at e
  obtain ⟨_, rfl⟩ := e
  refine ⟨⟨p', a, n, c, h', h2⟩, fun k x hx => hx.keep (hg.block k hx.lt fun e => ?_)⟩
  injection e with e
  subst e
  exact absurd (arr_same hx h).1 (by decide)
/-- So much is written in a writer; nothing but bytes and writers from w's end on was changed. -/
structure Wt (w W0 W : World) (b : Nat) (l : List UInt8) : Prop where
  bl : ∃ p v, Arr W b 83 [p, v] ∧ (p = .pointer none ∨ p = .pointer (some ⟨b, 0, none⟩)) ∧ Own8 W w.heap.size v (iL l)
  ch : Ch w.heap.size WtT W0 W
  old : Below w.heap.size w W0
  new : w.heap.size ≤ b
  st : Stw b W0 W
theorem pwres2x {fn : Func} {p q : Tmp} {tmps : Array Value} {w : World} (h : fn.results = #[.tmp p, .tmp q]) : (results fn tmps).run Tryz.prog w = .ok (.tuple #[tmps.getD p undef, tmps.getD q undef]) w := by
  simp [results, h]
section
variable {w W0 W W' : World} {b : Nat} {l : List UInt8}
theorem pgrown_putW (W : World) (b j : Nat) (v : Value) : W.grownBy (W.setCell ⟨b, j, none⟩ v) (some b) := ⟨rfl, rfl, rfl, by simp, fun k _ hne => heap_setCell_other W ⟨b, j, none⟩ k v (fun e => hne (by simp [e]))⟩
theorem Wt.base (h : Wt w W0 W b l) : Below w.heap.size w W := belowCh h.old h.ch h.old.size
theorem Wt.below (h : Wt w W0 W b l) (hb : Below W.heap.size W W') : Wt w W0 W' b l := by
  obtain ⟨p, v, h1, h2, h3⟩ := h.bl
  exact ⟨⟨p, v, h1.below hb, h2, h3.below hb⟩, h.ch.trans (Ch.of_below hb), h.old, h.new, h.st.trans (Stw.below hb)⟩
theorem Wt.rebase (h : Wt w W0 W b l) : Wt w W W b l := ⟨h.bl, Ch.refl _ _ _, h.base, h.new, Stw.refl _ _⟩
theorem Wt.join {W1 : World} {l1 : List UInt8} (h : Wt w W0 W1 b l1) (k : Wt w W1 W b l) : Wt w W0 W b l := ⟨k.bl, h.ch.trans k.ch, h.old, h.new, h.st.trans k.st⟩
end
/-- A pointer made one without a type, and back: the address as it is. -/
theorem pb_out (W : World) {src dst t e : TypeId} {j : TypeInfo} {cells : Nat} (a : Addr) (hs : Tryz.prog.underlying src = some (.pointer t)) (hd : Tryz.prog.underlying dst = some .unsafePointer) (ht : Tryz.prog.info? t = some j) (hj : j.size ≠ 0) (hsh : W.shape? a.block = some (e, cells)) (hoff : a.off < cells) :
    (convert src dst (.pointer (some a))).run Tryz.prog W = .ok (.pointer (some a)) W := by
  simp [convert, run_underlying hs, run_underlying hd, Conv.unsafePointer, Conv.seenAt, viewAt, cellsIn, hsh, sizeOf, typeInfo, ht, hj]
  intro h
  omega
theorem pb_in (W : World) {src dst u e : TypeId} {j : TypeInfo} {cells : Nat} (a : Addr) (hs : Tryz.prog.underlying src = some .unsafePointer) (hd : Tryz.prog.underlying dst = some (.pointer u)) (hu : Tryz.prog.info? u = some j) (hsh : W.shape? a.block = some (e, cells)) (hlies : liesAt Tryz.prog Tryz.prog.depth e (cells / Tryz.prog.cellsOf e) a.off u 1 = true) :
    (convert src dst (.pointer (some a))).run Tryz.prog W = .ok (.pointer (some a)) W := by
  simp [convert, run_underlying hs, run_underlying hd, Conv.unsafePointer, Conv.seenAt, viewAt, hsh, variablesAt, hlies, sizeOf, typeInfo, hu]
set_option maxRecDepth 100000 in
set_option maxHeartbeats 4000000 in
theorem wcheck_calls {W : World} {b : Nat} {p v : Value} (h : Arr W b 83 [p, v]) (hp : p = .pointer none ∨ p = .pointer (some ⟨b, 0, none⟩)) : Calls Tryz.prog 99 #[.pointer (some ⟨b, 0, none⟩)] W fun e W' => e = .returned (.tuple #[]) ∧ Hid (Arr W' b 83 [.pointer (some ⟨b, 0, none⟩), v] ∧ W.grownBy W' (some b)) := by
  have hc := h.cell 0
  have hf := h.frozen 0
  have HH := hide h
  have hsh : W.shape? b = some (83, 2) := by
    unfold World.shape?
    rw [show W.heap[b]? = _ from h]
    rfl
  have hinf : ∃ j, Tryz.prog.info? 81 = some j ∧ j.size ≠ 0 := by
    have : (Tryz.prog.info? 81).map (·.size) = some 2 := by kernel_rfl
    obtain ⟨j, hj, hs⟩ := Option.map_eq_some_iff.1 this
    exact ⟨j, hj, by rw [hs]; decide⟩
  obtain ⟨j, hj, hj0⟩ := hinf
  have hptr : Tryz.prog.underlying 79 = some (.pointer 81) := by kernel_rfl
  have huns : Tryz.prog.underlying 176 = some .unsafePointer := by kernel_rfl
  have hlies : liesAt Tryz.prog Tryz.prog.depth 83 (2 / Tryz.prog.cellsOf 83) 0 81 1 = true := by kernel_rfl
  have hcv1 : (convert 79 176 (.pointer (some ⟨b, 0, none⟩))).run Tryz.prog W = .ok (.pointer (some ⟨b, 0, none⟩)) W := pb_out W ⟨b, 0, none⟩ hptr huns hj hj0 hsh (Nat.zero_lt_succ 1)
  have hcv2 : (convert 176 79 (.pointer (some ⟨b, 0, none⟩))).run Tryz.prog W = .ok (.pointer (some ⟨b, 0, none⟩)) W := pb_in W ⟨b, 0, none⟩ huns hptr hj hsh hlies
  have hnq : ∀ (W2 : World), (binOp .neq 79 (.pointer (some ⟨b, 0, none⟩)) (.pointer (some ⟨b, 0, none⟩))).run Tryz.prog W2 = .ok (.bool false) W2 := fun W2 => Lib.run_neq_ptr_same W2 ⟨b, 0, none⟩ hptr hj
  have hne : ∀ (u : Value) (W2 : World), (callFunc 133 #[u]).run Tryz.prog W2 = .ok (.value u) W2 := fun u W2 => by
    rw [run_callFunc_extern Tryz.func133 (by kernel_rfl) (by kernel_rfl) (by kernel_rfl) (e := Extern.AbiNoEscape.same) (by kernel_rfl), Lib.run_noEscape]
    rfl
  clear hsh hj hj0 hptr huns hlies
  clear h
  rcases hp with rfl | rfl
  · go_enter Tryz.func99, Tryz.ntmps99
    have hc2 : (W.setCell ⟨b, 0, none⟩ (.pointer (some ⟨b, 0, none⟩))).cell? ⟨b, 0, none⟩ = some (.pointer (some ⟨b, 0, none⟩)) := (HH.out.set 0 _).cell 0
    go_wp2_with (simp only [hne, hcv1, hcv2, hnq])
    refine bodyPost_end (results_none rfl _ _ _) rfl ?_
    exact ⟨rfl, hide ⟨HH.out.set 0 _, pgrown_putW W b 0 _⟩⟩
  · go_enter Tryz.func99, Tryz.ntmps99
    go_wp2_with (simp only [hnq])
    refine bodyPost_end (results_none rfl _ _ _) rfl ?_
    exact ⟨rfl, hide ⟨HH.out, rfl, rfl, rfl, Nat.le_refl _, fun _ _ _ => rfl⟩⟩
theorem u8_ne_w {W : World} {B b : Nat} {v : Value} {xs : List Int} {cs : List Value} (h : Own8 W B v xs) (ha : Arr W b 83 cs) : v.ownBlock ≠ some b := by
  intro e
  rcases h.1.2 with ⟨q, _⟩ | ⟨g, cap, cur, q, _, hg, _⟩
  · rw [q] at e; cases e
  · rw [q] at e
    have e : g = b := by injection e
    subst e
    unfold Arr at ha
    rw [hg] at ha
    injection ha with ha
    injection ha with _ ha
    exact absurd ha (by decide)
section
variable {w W0 W : World} {b : Nat} {l : List UInt8}
/-- What copyCheck leaves. -/
theorem wchk (h : Wt w W0 W b l) : ∃ v, Calls Tryz.prog 99 #[.pointer (some ⟨b, 0, none⟩)] W fun e W' => e = .returned (.tuple #[]) ∧ Hid (Arr W' b 83 [.pointer (some ⟨b, 0, none⟩), v] ∧ Own8 W' w.heap.size v (iL l) ∧ Ch w.heap.size WtT W0 W' ∧ Stw b W0 W') := by
  obtain ⟨p, v, h1, h2, h3⟩ := h.bl
  refine ⟨v, (wcheck_calls h1 h2).mono ?_⟩
  rintro e W' ⟨e1, e2⟩
  refine ⟨e1, hide ⟨e2.out.1, ⟨World.ownsRow.kept h3.1 e2.out.2 (Or.inr (u8_ne_w h3 h1)), h3.2⟩, h.ch.trans (Ch.of_grown e2.out.2 h.new h1 (Or.inr rfl)), h.st.trans (Stw.own h1 e2.out.1 e2.out.2)⟩⟩
theorem wfin {W1 W2 : World} {v v' : Value} {l' : List UInt8} {a : Option Addr} {n c : Nat} (h : Wt w W0 W b l) (h1 : Arr W1 b 83 [.pointer (some ⟨b, 0, none⟩), v]) (h2 : Own8 W1 w.heap.size v (iL l)) (h3 : Ch w.heap.size WtT W0 W1 ∧ Stw b W0 W1) (hll : l.length ≤ l'.length) (h4 : Own8 W2 w.heap.size v' (iL l')) (hg : W1.grownBy W2 v.ownBlock) (hv : v' = .slice a n c) :
    Wt w W0 (W2.setCell ⟨b, 1, none⟩ (.slice a n c)) b l' ∧ W2.cell? ⟨b, 1, none⟩ = some v ∧ W2.frozen? ⟨b, 1, none⟩ = false := by
  have ha2 : Arr W2 b 83 [.pointer (some ⟨b, 0, none⟩), v] := h1.keep (hg.block b h1.lt (fun e => u8_ne_w h2 h1 e.symm))
  have hst : Stw b W1 (W2.setCell ⟨b, 1, none⟩ v') := fun ⟨q, a3, n3, c3, k1, k2⟩ => by
    have e := (arr_same h1 k1).2
    simp only [List.cons.injEq, and_true] at e
    obtain ⟨_, rfl⟩ := e
    have hn3 : n3 = l.length := by
      rcases h2.1.2 with ⟨q, h0⟩ | ⟨g, cap, cur, q, _⟩
      · injection q with _ q _
        rw [iL_len] at h0
        omega
      · injection q with _ q _
        rw [q, iL_len]
    obtain ⟨a4, n4, c4, e4⟩ := h4.shape
    have hn4 : n4 = l'.length := by
      rcases h4.1.2 with ⟨q, h0⟩ | ⟨g, cap, cur, q, _⟩
      · rw [e4] at q
        injection q with _ q _
        rw [iL_len] at h0
        omega
      · rw [e4] at q
        injection q with _ q _
        rw [q, iL_len]
    refine ⟨⟨_, a4, n4, c4, by rw [e4]; exact ha2.set 1 _, by omega⟩, fun k x hx => ?_⟩
    have hkb : k ≠ b := fun e => by subst e; exact absurd (arr_same hx h1).1 (by decide)
    have hx2 : Arr W2 k 5 [x] := hx.keep (hg.block k hx.lt fun e => by
      rcases h2.1.2 with ⟨q, _⟩ | ⟨g, cap, cur, q, _, hgg, hcp, _, hsz, _⟩
      · rw [q] at e; cases e
      · rw [q] at e
        have e : g = k := by injection e with e; exact e.symm
        subst e
        unfold Arr at hx
        rw [hx] at hgg
        injection hgg with hgg
        injection hgg with hgg _
        rw [← hgg] at hsz
        rw [iL_len] at hcp
        simp at hsz
        omega)
    exact hx2.keep (heap_setCell_other W2 ⟨b, 1, none⟩ k _ (fun e => hkb e))
  subst hv
  refine ⟨⟨⟨_, _, ha2.set 1 _, Or.inr rfl, ⟨World.ownsRow.kept (row := some b) h4.1 (pgrown_putW W2 b 1 _) (Or.inr (u8_ne_w h4 ha2)), h4.2⟩⟩, (h3.1.trans (Ch.mono (Own8.ch h2 hg) (Nat.le_refl _) (fun _ ht => Or.inl ht))).trans (Ch.of_grown (pgrown_putW W2 b 1 _) h.new ha2 (Or.inr rfl)), h.old, h.new, h3.2.trans hst⟩, ha2.cell 1, ha2.frozen 1⟩
set_option maxRecDepth 100000 in
set_option maxHeartbeats 4000000 in
theorem wstr_calls (h : Wt w W0 W b l) (s : ByteArray) (hl : l.length + s.size ≤ 100000000000) : Calls Tryz.prog 58 #[.pointer (some ⟨b, 0, none⟩), .string s] W fun e W' => e = .returned (.tuple #[.int .i64 s.size, .nilIface]) ∧ Hid (Wt w W0 W' b (l ++ byL s)) := by
  obtain ⟨v, hck⟩ := wchk h
  have HCK := hide hck
  have HH := hide h
  have HL := hide hl
  clear hck h hl
  go_enter Tryz.func58, Tryz.ntmps58
  go_wp2_with fail
  refine (unhide HCK).mono ?_
  rintro e w1 ⟨rfl, HX⟩
  have c1 := HX.out.1.cell 1
  have c1 : w1.cell? ⟨b, 1, none⟩ = some v := c1
  have HSZ : Hid (w.heap.size ≤ w1.heap.size) := hide (Nat.le_trans HH.out.old.size HX.out.2.2.1.size)
  obtain ⟨a0, n0, c0, hv⟩ := HX.out.2.1.shape
  subst hv
  go_wp2_with (first
    | (at_builtin; refine wpList_appSt rfl (.tmp 12) (.tmp 13) rfl rfl HX.out.2.1 rfl (by have := HL.out; omega) HSZ.out ?_; intro v2 w2 ho2 hg2; obtain ⟨a2, n2, c2, hv2⟩ := ho2.shape; obtain ⟨hF, hcl, hfr⟩ := wfin HH.out HX.out.1 HX.out.2.1 HX.out.2.2 (by simp) ho2 hg2 hv2; subst hv2; have HF := hide hF; clear hF ho2 hg2 c1)
    | fail)
  refine bodyPost_ret (pwres2x (p := 4) (q := 5) rfl) rfl ?_
  exact ⟨rfl, HF⟩
set_option maxRecDepth 100000 in
set_option maxHeartbeats 4000000 in
theorem wbyt_calls (h : Wt w W0 W b l) (c : UInt8) {z : Int} (hz : z = (c.toNat : Int)) (hl : l.length ≤ 100000000000) : Calls Tryz.prog 60 #[.pointer (some ⟨b, 0, none⟩), .int .u8 z] W fun e W' => e = .returned .nilIface ∧ Hid (Wt w W0 W' b (l ++ [c])) := by
  obtain ⟨v, hck⟩ := wchk h
  have HCK := hide hck
  have HH := hide h
  have HL := hide hl
  subst hz
  clear hck h hl
  go_enter Tryz.func60, Tryz.ntmps60
  go_wp2_with fail
  refine (unhide HCK).mono ?_
  rintro e w1 ⟨rfl, HX⟩
  have c1 : w1.cell? ⟨b, 1, none⟩ = some v := HX.out.1.cell 1
  have HSZ : Hid (w.heap.size ≤ w1.heap.size) := hide (Nat.le_trans HH.out.old.size HX.out.2.2.1.size)
  obtain ⟨a0, n0, c0, hv⟩ := HX.out.2.1.shape
  subst hv
  have HO2 := hide (HX.out.2.1.below (jalloc_below w1 (.cells #[.int .u8 (c.toNat : Int)] 5)))
  have HA2 := hide (HX.out.1.below (jalloc_below w1 (.cells #[.int .u8 (c.toNat : Int)] 5)))
  have HC2 := hide (And.intro (HX.out.2.2.1.trans (Ch.of_below (B := w.heap.size) (T := WtT) (jalloc_below w1 (.cells #[.int .u8 (c.toNat : Int)] 5)))) (HX.out.2.2.2.trans (Stw.below (jalloc_below w1 (.cells #[.int .u8 (c.toNat : Int)] 5)))))
  have HI2 := hide (own8_one w1 c).isB
  have HS2 : Hid (w.heap.size ≤ (w1.alloc (.cells #[.int .u8 (c.toNat : Int)] 5)).heap.size) := hide (by have := HSZ.out; simp; omega)
  go_wp2_with (first
    | (at_builtin; refine wpList_appB rfl (.tmp 11) (.tmp 13) rfl rfl HO2.out rfl HI2.out (by rw [iL_len, iL_len]; have := HL.out; simp; omega) HS2.out ?_; intro v2 w2 ho2 hg2; rw [← iL_app] at ho2; obtain ⟨a2, n2, c2, hv2⟩ := ho2.shape; obtain ⟨hF, hcl, hfr⟩ := wfin HH.out HA2.out HO2.out HC2.out (by simp) ho2 hg2 hv2; subst hv2; have HF := hide hF; clear hF ho2 hg2 c1)
    | fail)
  go_ret
  exact ⟨rfl, HF⟩
end
end Go.Proofs.YtfhfobikbfbajaaGreatDoor

namespace Go.Proofs.YtfhfobikbfbajaaGreatDoor
open Go.RowKit Go.Maps

theorem iL_cells (l : List UInt8) : (iL l).map (Value.int .u8) = Lib.byteCells l := by simp [iL, Lib.byteCells]
section
variable {w W0 W : World} {b : Nat} {l : List UInt8}
set_option maxRecDepth 100000 in
set_option maxHeartbeats 2000000 in
theorem wstring_calls (h : Wt w W0 W b l) (h0 : l ≠ []) : Calls Tryz.prog 35 #[.pointer (some ⟨b, 0, none⟩)] W fun e W' => e = .returned (.string ⟨l.toArray⟩) ∧ Below w.heap.size w W' := by
  obtain ⟨p, v, hbk, hp, hown, _⟩ := h.bl
  have HB := hide h.base
  have hl0 : l.length ≠ 0 := by simpa using h0
  have hown' := hown
  rw [iL_cells, iL_len] at hown
  obtain ⟨g, cap, cur, rfl, hbg, hg, hnc, hcm, hcs, htake⟩ : ∃ g cap cur, v = .slice (some ⟨g, 0, none⟩) l.length cap ∧ w.heap.size ≤ g ∧ W.heap[g]? = some (.cells cur 5 (0, 0)) ∧ l.length ≤ cap ∧ cap ≤ maxLen ∧ cur.size = cap * 1 ∧ cur.toList.take (l.length * 1) = Lib.byteCells l := by
    rcases hown.2 with ⟨_, hz⟩ | ⟨g, cap, cur, hv, r⟩
    · exact absurd hz hl0
    · exact ⟨g, cap, cur, hv, r⟩
  have c1 : W.drew.cell? ⟨b, 1, none⟩ = some (.slice (some ⟨g, 0, none⟩) l.length cap) := hbk.cell 1
  have hSD : (Builtin.unsafeSliceData_ #[65] 121 #[.slice (some ⟨g, 0, none⟩) l.length cap]).run Tryz.prog W.drew = .ok (.pointer (some ⟨g, 0, none⟩)) W.drew :=
    Lib.run_unsafeSliceData_row _ _ _ _ _ _ (by omega)
  have hUS : (Builtin.unsafeString_ #[121, 3] 9 #[.pointer (some ⟨g, 0, none⟩), .int .i64 l.length]).run Tryz.prog W.drew = .ok (.string ⟨l.toArray⟩) (W.drew.freeze ⟨g, 0, none⟩ l.length) := by
    refine Lib.run_unsafeString_row W.drew 121 3 9 5 (by kernel_rfl) (by kernel_rfl) g cur.size (by have hg' : W.drew.heap[g]? = some (.cells cur 5 (0, 0)) := hg; simp [World.shape?, hg']) l h0 (by omega) (by unfold maxLen at hcm; omega) ?_
    intro j x hx
    have := hown.cells (g := g) rfl j (.int .u8 x.toNat) (by simp [Lib.byteCells, hx])
    exact this
  have HBG := hide hbg
  clear h hbk hp hown hown' hg hcs htake hbg hnc hcm
  go_enter Tryz.func35, Tryz.ntmps35
  go_wp2
  go_region
  all_goals (go_wp2; go_ret; exact ⟨rfl, Lib.below_freeze (Below.drew HB.out) (p := ⟨g, 0, none⟩) HBG.out _⟩)
set_option maxRecDepth 100000 in
set_option maxHeartbeats 2000000 in
theorem wstring_nil {p : Value} (hbk : Arr W b 83 [p, .slice none 0 0]) : Calls Tryz.prog 35 #[.pointer (some ⟨b, 0, none⟩)] W fun e W' => e = .returned (.string ⟨#[]⟩) ∧ Below W.heap.size W W' := by
  have c1 : W.drew.cell? ⟨b, 1, none⟩ = some (.slice none 0 0) := hbk.cell 1
  have hSD : (Builtin.unsafeSliceData_ #[65] 121 #[.slice none 0 0]).run Tryz.prog W.drew = .ok (.pointer none) W.drew := rfl
  have hUS : (Builtin.unsafeString_ #[121, 3] 9 #[.pointer none, .int .i64 0]).run Tryz.prog W.drew = .ok (.string .empty) W.drew := Lib.run_unsafeString_none _ _ _ _ none
  clear hbk
  go_enter Tryz.func35, Tryz.ntmps35
  go_wp2
  go_region
  all_goals (go_wp2; go_ret; exact ⟨rfl, Below.drew (Below.refl _ W)⟩)
theorem Wt.big (h : Wt w W0 W b l) (h2 : 2 ≤ l.length) : Bgw W b := by
  obtain ⟨p, v, h1, _, h3⟩ := h.bl
  obtain ⟨a, n, c, e⟩ := h3.shape
  subst e
  refine ⟨p, a, n, c, h1, ?_⟩
  rcases h3.1.2 with ⟨q, h0⟩ | ⟨g, cap, cur, q, _⟩
  · rw [iL_len] at h0; omega
  · injection q with _ q _
    rw [q, iL_len]; exact h2
/-- A store into a block of one byte that is newer. -/
theorem Wt.setu (h : Wt w W0 W b l) (h2 : 2 ≤ l.length) {g : Nat} {x : Value} (hg : Arr W g 5 [x]) (hw : W0.heap.size ≤ g) (y : Value) : Wt w W0 (W.setCell ⟨g, 0, none⟩ y) b l := by
  obtain ⟨p, v, h1, hp, h3⟩ := h.bl
  have hgb : b ≠ g := fun e => by subst e; exact absurd (arr_same hg h1).1 (by decide)
  have hk : W.grownBy (W.setCell ⟨g, 0, none⟩ y) (some g) := pgrown_putW W g 0 y
  have hvg : v.ownBlock ≠ some g := fun e => by
    rcases h3.1.2 with ⟨q, _⟩ | ⟨g', cap, cur, q, _, hgg, hcp, _, hsz, _⟩
    · rw [q] at e; cases e
    · rw [q] at e
      have e : g' = g := by injection e
      subst e
      unfold Arr at hg
      rw [hg] at hgg
      injection hgg with hgg
      injection hgg with hgg _
      rw [← hgg] at hsz
      rw [iL_len] at hcp
      simp at hsz
      omega
  have hb' : Arr (W.setCell ⟨g, 0, none⟩ y) b 83 [p, v] := h1.keep (hk.block b h1.lt (fun e => hgb (by injection e)))
  refine ⟨⟨p, v, hb', hp, ⟨World.ownsRow.kept h3.1 hk (Or.inr hvg), h3.2⟩⟩, h.ch.trans (Ch.of_grown hk (Nat.le_trans h.old.size hw) hg (Or.inl rfl)), h.old, h.new, fun hb => ?_⟩
  obtain ⟨⟨q, a, n, c, k1, k2⟩, k3⟩ := h.st hb
  have e := (arr_same h1 k1).2
  simp only [List.cons.injEq, and_true] at e
  obtain ⟨_, rfl⟩ := e
  exact ⟨⟨p, a, n, c, hb', k2⟩, fun k x hx => (k3 k x hx).keep (hk.block k (k3 k x hx).lt (fun e => by injection e with e; have := hx.lt; omega))⟩
set_option maxRecDepth 100000 in
set_option maxHeartbeats 4000000 in
/-- The mark ahead of a part. -/
theorem part_calls {g2 g5 : Nat} {c : UInt8} {k : Int} (h : Wt w W0 W b l) (h2 : 2 ≤ l.length) (hl : l.length ≤ 100000000000) (hg2 : Arr W g2 112 [.pointer (some ⟨b, 0, none⟩)]) (hg5 : Arr W g5 5 [.int .u8 k]) (hk : k = (c.toNat : Int)) (hw : W0.heap.size ≤ g5) :
    Calls Tryz.prog 101 #[.pointer (some ⟨g2, 0, none⟩), .pointer (some ⟨g5, 0, none⟩)] W fun e W' => e = .returned (.tuple #[]) ∧ Hid (Wt w W0 W' b (l ++ [c]) ∧ Arr W' g5 5 [.int .u8 44] ∧ Ch w.heap.size WtT W W') := by
  have HW := hide h
  have H2 := hide h2
  have HL := hide hl
  have HG5 := hide hg5
  have HGW := hide hw
  have c2 := hg2.cell 0
  have c5 := hg5.cell 0
  have HK := hide hk
  have HSS : Hid (∀ W2, (Below W.heap.size W W2 ∨ (Wt w W W2 b (l ++ [c]) ∧ Arr W2 g5 5 [.int .u8 k])) → W2.cell? ⟨g2, 0, none⟩ = some (.pointer (some ⟨b, 0, none⟩)) ∧ W2.cell? ⟨g5, 0, none⟩ = some (.int .u8 k)) := hide (fun W2 hh => by
    rcases hh with hh | ⟨hh, h5⟩
    · exact ⟨(hg2.below hh).cell 0, (hg5.below hh).cell 0⟩
    · exact ⟨(hg2.ch hh.ch (by unfold WtT; decide)).cell 0, h5.cell 0⟩)
  have HWB : Hid (∀ W2, Below W.heap.size W W2 → Calls Tryz.prog 60 #[.pointer (some ⟨b, 0, none⟩), .int .u8 k] W2 fun e W' => e = .returned .nilIface ∧ Hid (Wt w W W' b (l ++ [c]) ∧ Arr W' g5 5 [.int .u8 k])) := hide (fun W2 hb => (wbyt_calls (HW.out.rebase.below hb) c HK.out HL.out).mono fun e W' ⟨e1, e2⟩ => ⟨e1, hide ⟨e2.out, (e2.out.st (HW.out.big H2.out)).2 _ _ HG5.out⟩⟩)
  clear h h2 hl hg2 hg5 hk hw
  go_enter Tryz.func101, Tryz.ntmps101
  go_wp2_with fail
  focus (go_region_held3 (fun W2 => W2.cell? ⟨g2, 0, none⟩ = some (.pointer (some ⟨b, 0, none⟩)) ∧ W2.cell? ⟨g5, 0, none⟩ = some (.int .u8 k))
    ((refine unhide HSS _ ?_; first | exact Or.inl (Below.refl _ _) | exact Or.inl (Below.refl _ _).drew | exact Or.inr HX.out))
    (first
      | (go_at_call 60; refine (unhide HWB _ (by first | assumption | exact (Below.refl _ _).drew)).mono ?_; rintro e w6 ⟨rfl, HX⟩)))
  have HX6 := hide (And.intro (HW.out.join HX.out.1) HX.out.2)
  have f5 := HX6.out.2.frozen 0
  have c5 := HX6.out.2.cell 0
  have HF : Hid (Wt w W0 (w6.setCell ⟨g5, 0, none⟩ (.int .u8 44)) b (l ++ [c])) := hide (HX6.out.1.setu (by have := H2.out; simp; omega) HX6.out.2 HGW.out _)
  have HA := hide (HX6.out.2.set 0 (.int .u8 44))
  have HCH : Hid (Ch w.heap.size WtT W (w6.setCell ⟨g5, 0, none⟩ (.int .u8 44))) := hide (HX.out.1.ch.trans (Ch.of_grown (pgrown_putW w6 g5 0 _) (Nat.le_trans HW.out.old.size HGW.out) HX6.out.2 (Or.inl rfl)))
  go_wp2
  refine bodyPost_end (results_none rfl _ _ _) rfl ?_
  exact ⟨rfl, hide ⟨HF.out, HA.out, HCH.out⟩⟩
end
end Go.Proofs.YtfhfobikbfbajaaGreatDoor

namespace Go.Proofs.YtfhfobikbfbajaaGreatDoor
open Go.RowKit Go.Maps

structure Tw (w W W1 : World) (b : Nat) (l : List UInt8) (g2 g3 g4 g5 : Nat) (t : Tm) (u : Value) (mk : Int) : Prop where
  wt : Wt w W W1 b l
  a2 : Arr W1 g2 112 [.pointer (some ⟨b, 0, none⟩)]
  a3 : Arr W1 g3 52 (tmC t u)
  a4 : Arr W1 g4 153 (shQ t.kind)
  a5 : Arr W1 g5 5 [.int .u8 mk]
  n5 : W.heap.size ≤ g5
  big : 2 ≤ l.length
section
variable {w W W1 W2 : World} {b : Nat} {l l2 : List UInt8} {g2 g3 g4 g5 : Nat} {t : Tm} {u : Value} {mk : Int}
theorem Tw.to (h : Tw w W W1 b l g2 g3 g4 g5 t u mk) (k : Wt w W1 W2 b l2) (hl : l.length ≤ l2.length) : Tw w W W2 b l2 g2 g3 g4 g5 t u mk :=
  ⟨h.wt.join k, h.a2.ch k.ch (by unfold WtT; decide), h.a3.ch k.ch (by unfold WtT; decide), h.a4.ch k.ch (by unfold WtT; decide), (k.st (h.wt.big h.big)).2 _ _ h.a5, h.n5, Nat.le_trans h.big hl⟩
theorem Tw.below (h : Tw w W W1 b l g2 g3 g4 g5 t u mk) (hb : Below W1.heap.size W1 W2) : Tw w W W2 b l g2 g3 g4 g5 t u mk :=
  ⟨h.wt.below hb, h.a2.below hb, h.a3.below hb, h.a4.below hb, h.a5.below hb, h.n5, h.big⟩
theorem Tw.part (h : Tw w W W1 b l g2 g3 g4 g5 t u mk) {c : UInt8} (hk : mk = (c.toNat : Int)) (hl : l.length ≤ 100000000000) :
    Calls Tryz.prog 101 #[.pointer (some ⟨g2, 0, none⟩), .pointer (some ⟨g5, 0, none⟩)] W1 fun e W' => e = .returned (.tuple #[]) ∧ Hid (Tw w W W' b (l ++ [c]) g2 g3 g4 g5 t u 44 ∧ Ch w.heap.size WtT W1 W') :=
  (part_calls h.wt h.big hl h.a2 h.a5 hk h.n5).mono fun e W' ⟨e1, e2⟩ => ⟨e1, hide ⟨⟨e2.out.1, h.a2.ch e2.out.2.2 (by unfold WtT; decide), h.a3.ch e2.out.2.2 (by unfold WtT; decide), h.a4.ch e2.out.2.2 (by unfold WtT; decide), e2.out.2.1, h.n5, by have := h.big; simp; omega⟩, e2.out.2.2⟩⟩
theorem Tw.str (h : Tw w W W1 b l g2 g3 g4 g5 t u mk) (s : ByteArray) (hl : l.length + s.size ≤ 100000000000) (W2 : World) (hb : Below W1.heap.size W1 W2) :
    Calls Tryz.prog 58 #[.pointer (some ⟨b, 0, none⟩), .string s] W2 fun e W' => e = .returned (.tuple #[.int .i64 s.size, .nilIface]) ∧ Hid (Tw w W W' b (l ++ byL s) g2 g3 g4 g5 t u mk) :=
  (wstr_calls (h.below hb).wt.rebase s hl).mono fun e W' ⟨e1, e2⟩ => ⟨e1, hide ((h.below hb).to e2.out (by simp))⟩
theorem Tw.byt (h : Tw w W W1 b l g2 g3 g4 g5 t u mk) (c : UInt8) {z : Int} (hz : z = (c.toNat : Int)) (hl : l.length ≤ 100000000000) :
    Calls Tryz.prog 60 #[.pointer (some ⟨b, 0, none⟩), .int .u8 z] W1 fun e W' => e = .returned .nilIface ∧ Hid (Tw w W W' b (l ++ [c]) g2 g3 g4 g5 t u mk) :=
  (wbyt_calls h.wt.rebase c hz hl).mono fun e W' ⟨e1, e2⟩ => ⟨e1, hide (h.to e2.out (by simp))⟩
theorem Tw.pg (h : Tw w W W1 b l g2 g3 g4 g5 t u mk) (hP : Pg w) : Pg W1 := hP.below h.wt.base
theorem Tw.cells {k n m : Int} {x : ByteArray} {ag : List Tm} (h : Tw w W W1 b l g2 g3 g4 g5 ⟨k, x, n, m, ag⟩ u mk) : W1.cell? ⟨g2, 0, none⟩ = some (.pointer (some ⟨b, 0, none⟩)) ∧ W1.cell? ⟨g3, 1, none⟩ = some (.string x) ∧ W1.cell? ⟨g3, 2, none⟩ = some (.int .i64 n) ∧ W1.cell? ⟨g3, 3, none⟩ = some (.int .i64 m) ∧ W1.cell? ⟨g3, 4, none⟩ = some u ∧ W1.cell? ⟨g4, 0, none⟩ = some (.string (wds.getD k.toNat noText)) ∧ W1.cell? ⟨g4, 1, none⟩ = some (.int .i64 (txM k)) ∧ W1.cell? ⟨g4, 4, none⟩ = some (.bool (decide (k = 7))) :=
  ⟨h.a2.cell 0, (tmC_arr h.a3).2.1, (tmC_arr h.a3).2.2.1, (tmC_arr h.a3).2.2.2.1, (tmC_arr h.a3).2.2.2.2, (sh_arr h.a4).1, (sh_arr h.a4).2.1, (sh_arr h.a4).2.2.2.2⟩
theorem pB_le {t : Tm} : ∀ {n i : Nat}, i ≤ n → n ≤ t.args.length → (pB t i).length ≤ (pB t n).length
  | 0, i, h, _ => by rw [show i = 0 by omega]; exact Nat.le_refl _
  | n + 1, i, h, hn => by
    rcases Nat.lt_or_ge n i with q | q
    · rw [show i = n + 1 by omega]; exact Nat.le_refl _
    · have := pB_le (t := t) (n := n) (i := i) q (by omega)
      rw [pB_step (by omega)]
      simp only [List.length_append]
      omega
end
end Go.Proofs.YtfhfobikbfbajaaGreatDoor

namespace Go.Proofs.YtfhfobikbfbajaaGreatDoor
open Go.RowKit Go.Maps

set_option maxRecDepth 100000 in
set_option maxHeartbeats 4000000 in
theorem wlit_calls {w W : World} {b : Nat} {l : List UInt8} {t : Tm} {u : Value} (h : Wt w W W b l) (hk : t.kind = 1) (hs : t.text.size ≤ 2000000) (hl : l.length + (tmB t).length ≤ 10000000000) (hu : ∃ a n c, u = .slice a n c) :
    Calls Tryz.prog 59 #[.pointer (some ⟨b, 0, none⟩), .agg (tmC t u).toArray] W fun e W' => e = .returned (.tuple #[]) ∧ Hid (Wt w W W' b (l ++ tmB t)) := by
  have HW := hide h
  obtain ⟨k, x, n, m, ag⟩ := t
  have hk : k = 1 := hk
  subst hk
  have hB : tmB ⟨1, x, n, m, ag⟩ = byL (bs (quoteL x.data.toList)) := by rw [tmB_eq, if_pos rfl]; simp [byL, bs]
  rw [hB] at hl ⊢
  have HQ : Hid (∀ W2, Calls Tryz.prog 100 #[.string x] W2 fun e w' => e = .returned (.string (bs (quoteL x.data.toList))) ∧ Below W2.heap.size W2 w') := hide (fun W2 => quote_calls x (by have : x.size ≤ 2000000 := hs; omega) W2)
  obtain ⟨q, hq⟩ : ∃ q, q = bs (quoteL x.data.toList) := ⟨_, rfl⟩
  rw [← hq] at HQ hl ⊢
  have HL : Hid (l.length + q.size ≤ 100000000000) := hide (by rw [byL_len] at hl; omega)
  obtain ⟨a, nn, c, rfl⟩ := hu
  clear h hs hl hB hq
  go_enter Tryz.func59, Tryz.ntmps59
  go_wp2_with (first
    | (refine wpList_boxJ rfl 52 (.tmp 1) rfl (cs := (tmC ⟨1, x, n, m, ag⟩ (.slice a nn c))) rfl ?_; intro w2 hA2 hb2 hs2; have hA2 : Arr w2 (W.heap.size + 1) 52 (tmC ⟨1, x, n, m, ag⟩ (.slice a nn c)) := (by simpa using hA2); have c0 := (tmC_arr hA2).1; have HA2 := hide hA2; have HG2 := hide ((Arr.new W [.pointer (some ⟨b, 0, none⟩)] 112).below hb2); have HB2 := hide (below_then (jalloc_below W _) hb2); clear hA2 hb2 hs2)
    | fail)
  have HW2 := hide (HW.out.below HB2.out)
  have HQ2 : Hid (∀ W2, Below w2.heap.size w2 W2 → Calls Tryz.prog 100 #[.string x] W2 fun e w' => e = .returned (.string q) ∧ Below w2.heap.size w2 w') := hide (fun W2 hb => (HQ.out W2).mono fun e w' ⟨e1, e2⟩ => ⟨e1, below_then hb e2⟩)
  have HS : Hid (∀ W2, Below w2.heap.size w2 W2 → Calls Tryz.prog 58 #[.pointer (some ⟨b, 0, none⟩), .string q] W2 fun e W' => e = .returned (.tuple #[.int .i64 q.size, .nilIface]) ∧ Hid (Wt w w2 W' b (l ++ byL q))) := hide (fun W2 hb => wstr_calls (HW2.out.rebase.below hb) q HL.out)
  have HSS : Hid (∀ W2, (Below w2.heap.size w2 W2 ∨ Wt w w2 W2 b (l ++ byL q)) → W2.cell? ⟨W.heap.size, 0, none⟩ = some (.pointer (some ⟨b, 0, none⟩)) ∧ W2.cell? ⟨W.heap.size + 1, 1, none⟩ = some (.string x)) := hide (fun W2 hh => by
    rcases hh with hh | hh
    · exact ⟨(HG2.out.below hh).cell 0, (tmC_arr (HA2.out.below hh)).2.1⟩
    · exact ⟨(HG2.out.ch hh.ch (by unfold WtT; decide)).cell 0, (tmC_arr (HA2.out.ch hh.ch (by unfold WtT; decide))).2.1⟩)
  clear c0
  focus (go_region_held3 (fun W2 => W2.cell? ⟨W.heap.size, 0, none⟩ = some (.pointer (some ⟨b, 0, none⟩)) ∧ W2.cell? ⟨W.heap.size + 1, 1, none⟩ = some (.string x))
    ((refine unhide HSS _ ?_; first | exact Or.inr HX.out | exact Or.inl hb6 | exact Or.inl (Below.refl _ _) | exact Or.inl (Below.refl _ _).drew))
    (first
      | (go_at_call 100; refine (unhide HQ2 _ (by first | assumption | exact (Below.refl _ _).drew)).mono ?_; rintro e w6 ⟨rfl, hb6⟩)
      | (go_at_call 58; refine (unhide HS _ (by first | assumption | exact (Below.refl _ _).drew)).mono ?_; rintro e w7 ⟨rfl, HX⟩)))
  go_wp2
  refine bodyPost_ret (results_none rfl _ _ _) rfl ?_
  exact ⟨rfl, hide (HW2.out.join HX.out)⟩
end Go.Proofs.YtfhfobikbfbajaaGreatDoor

/- A disk beside it: what is read, written, flushed. What place and soundIn answer. -/
import Derived.Test.YtpeopejnkbmcdaaDoorKC
import Derived.Test.YtpeopejnkbmcdaaDoorKH
import Derived.Test.YtpeopejnkbmcdaaDoorKG
import Derived.Test.YtpeopejnkbmcdaaDoorKB
import Derived.Test.YtpeopejnkbmcdaaDoorKD
import Derived.Test.YtpeopejnkbmcdaaDoorKJ
namespace Go.Proofs.YtpeopejnkbmcdaaDoor
open Go.RowKit Go.Maps

structure Cj (T : TypeId → Prop) (w w' : World) : Prop where
  os : w'.os = w.os
  tape : w'.tape = w.tape
  output : w'.output = w.output
  size : w.heap.size ≤ w'.heap.size
  block : ∀ (k : Nat) (cs : Array Value) (t : TypeId) (m : Nat × Nat), w.heap[k]? = some (Obj.cells cs t m) → ¬ T t → w'.heap[k]? = some (Obj.cells cs t m)
theorem Cj.refl (T : TypeId → Prop) (w : World) : Cj T w w := ⟨rfl, rfl, rfl, Nat.le_refl _, fun _ _ _ _ h _ => h⟩
theorem Cj.trans {T : TypeId → Prop} {a b c : World} (h : Cj T a b) (k : Cj T b c) : Cj T a c :=
  ⟨k.os.trans h.os, k.tape.trans h.tape, k.output.trans h.output, Nat.le_trans h.size k.size, fun i cs t m hi ht => k.block i cs t m (h.block i cs t m hi ht) ht⟩
theorem Cj.of_below {T : TypeId → Prop} {w w' : World} (h : Below w.heap.size w w') : Cj T w w' := ⟨h.os, h.tape, h.output, h.size, fun k _ _ _ hk _ => (h.block k (Array.getElem?_eq_some_iff.1 hk).1).trans hk⟩
theorem Cj.of_grown {T : TypeId → Prop} {w w' : World} {g : Nat} {t : TypeId} {cs : List Value} (hg : w.grownBy w' (some g)) (hA : Arr w g t cs) (ht : T t) : Cj T w w' :=
  ⟨hg.os, hg.tape, hg.output, hg.size, fun k ds t' m hk ht' => (hg.block k (Array.getElem?_eq_some_iff.1 hk).1 (fun e => by
    injection e with e
    subst e
    unfold Arr at hA
    rw [hA] at hk
    simp only [Option.some.injEq, Obj.cells.injEq] at hk
    exact ht' (hk.2.1 ▸ ht))).trans hk⟩
theorem Cj.mono {T T' : TypeId → Prop} {w w' : World} (h : Cj T w w') (ht : ∀ t, T t → T' t) : Cj T' w w' := ⟨h.os, h.tape, h.output, h.size, fun k cs t m hk hn => h.block k cs t m hk (fun e => hn (ht t e))⟩
theorem Arr.cj {T : TypeId → Prop} {w w' : World} {g : Nat} {t : TypeId} {cs : List Value} (h : Arr w g t cs) (hc : Cj T w w') (ht : ¬ T t) : Arr w' g t cs := hc.block g _ t (0, 0) h ht
theorem owns_cj {T : TypeId → Prop} {w w' : World} {B : Nat} {t : TypeId} {s n : Nat} {u : Value} {cs : List Value} (h : w.ownsRow B t s u n cs) (hc : Cj T w w') (ht : ¬ T t) : w'.ownsRow B t s u n cs := by
  refine ⟨h.1, ?_⟩
  rcases h.2 with hn | ⟨g, cap, cur, rfl, hb, hgg, rest⟩
  · exact .inl hn
  · exact .inr ⟨g, cap, cur, rfl, hb, hc.block g _ t (0, 0) hgg ht, rest⟩
theorem Own8.cj {T : TypeId → Prop} {w w' : World} {B : Nat} {v : Value} {xs : List Int} (h : Own8 w B v xs) (hc : Cj T w w') (ht : ¬ T 5) : Own8 w' B v xs := ⟨owns_cj h.1 hc ht, h.2⟩
def TDk (t : TypeId) : Prop := t = 56 ∨ t = 77
theorem Dk.typ {W : World} {p gl gm : Nat} {V : Nat → Value} {D : AD} (h : Dk W p gl gm V D) {b : Nat} (hb : Ft p gl gm V b) {cs : Array Value} {t : TypeId} {m : Nat × Nat} (ht : W.heap[b]? = some (Obj.cells cs t m)) : TDk t := by
  rcases hb with rfl | rfl | rfl | ⟨i, e⟩
  · have h1 := h.blk
    unfold Arr at h1
    rw [h1] at ht
    simp only [Option.some.injEq, Obj.cells.injEq] at ht
    exact Or.inl ht.2.1.symm
  · rcases h.las.2 with ⟨hv, _⟩ | ⟨g', cap', cur, hv, _, hg, _⟩
    · cases hv
    · injection hv with e1
      injection e1 with e1
      injection e1 with e1
      subst e1
      rw [hg] at ht
      simp only [Option.some.injEq, Obj.cells.injEq] at ht
      exact Or.inr ht.2.1.symm
  · obtain ⟨M, ⟨es, clock, hb, _⟩, _⟩ := h.map
    rw [hb] at ht
    cases ht
  · rcases (h.row i).2 with ⟨hv, _⟩ | ⟨g', cap', cur, hv, _, hg, _⟩
    · rw [hv] at e; cases e
    · rw [hv] at e
      simp only [Value.ownBlock, Option.some.injEq] at e
      subst e
      rw [hg] at ht
      simp only [Option.some.injEq, Obj.cells.injEq] at ht
      exact Or.inr ht.2.1.symm
theorem Cj.of_up {W W' : World} {p gl gm : Nat} {V : Nat → Value} {D : AD} (h : Dk W p gl gm V D) {F : Nat → Prop} (hu : Up F W W') (hF : ∀ b, F b → Ft p gl gm V b) : Cj TDk W W' :=
  ⟨hu.os, hu.tape, hu.output, hu.size, fun k _ _ _ hk ht => (hu.block k (Array.getElem?_eq_some_iff.1 hk).1 (fun e => ht (h.typ (hF k e) hk))).trans hk⟩
/-- A disk that was made behind w0. -/
def Sn (w0 W : World) (p : Nat) (D : AD) : Prop := ∃ gl gm V, Dk W p gl gm V D ∧ (∀ b, Ft p gl gm V b → w0.heap.size ≤ b) ∧ Below w0.heap.size w0 W
theorem Sn.be {w0 W : World} {p : Nat} {D : AD} (h : Sn w0 W p D) : Below w0.heap.size w0 W := by obtain ⟨_, _, _, _, _, h⟩ := h; exact h
theorem Sn.ok {w0 W : World} {p : Nat} {D : AD} (h : Sn w0 W p D) : D.Ok := by obtain ⟨_, _, _, h, _, _⟩ := h; exact h.ok
theorem Sn.below {w0 W W2 : World} {p : Nat} {D : AD} (h : Sn w0 W p D) (hb : Below W.heap.size W W2) : Sn w0 W2 p D := by
  obtain ⟨gl, gm, V, h1, h2, h3⟩ := h
  exact ⟨gl, gm, V, h1.below hb, h2, h3.trans (hb.mono h3.size)⟩
/-- Another block is written. -/
theorem Sn.set {w0 W W2 : World} {p g : Nat} {D : AD} {t : TypeId} {cs : List Value} (h : Sn w0 W p D) (hg : W.grownBy W2 (some g)) (hA : Arr W g t cs) (ht : ¬ TDk t) (hlo : w0.heap.size ≤ g) : Sn w0 W2 p D := by
  obtain ⟨gl, gm, V, h1, h2, h3⟩ := h
  refine ⟨gl, gm, V, h1.up (F := fun b => b = g) (Up.of_grown hg (fun k hk => by injection hk with hk; exact hk.symm)) (fun b hb e => ?_), h2, jbelow_grown h3 hg h3.size hlo⟩
  subst e
  exact ht (h1.typ hb hA)
/-- A row of a call's own is written. -/
theorem Sn.row {w0 W W2 : World} {p B s n : Nat} {D : AD} {t : TypeId} {v : Value} {cs : List Value} (h : Sn w0 W p D) (hg : W.grownBy W2 v.ownBlock) (hr : W.ownsRow B t s v n cs) (ht : ¬ TDk t) (hlo : w0.heap.size ≤ B) : Sn w0 W2 p D := by
  obtain ⟨gl, gm, V, h1, h2, h3⟩ := h
  have hlt := World.ownsRow.lt hr
  refine ⟨gl, gm, V, h1.up (F := fun b => v.ownBlock = some b) (Up.of_grown hg (fun k hk => hk)) (fun b hb e => ?_), h2, h3.grown hg h3.size (fun j hj => Nat.le_trans hlo (hlt j hj).1)⟩
  rcases hr.2 with ⟨rfl, _⟩ | ⟨g, cap, cur, rfl, _, hgg, _⟩
  · cases e
  · simp only [Value.ownBlock, Option.some.injEq] at e
    subst e
    exact ht (h1.typ hb hgg)
theorem sn_read {w0 W : World} {p i : Nat} {D : AD} (h : Sn w0 W p D) (hi : i < D.la.length) (hr0 : 0 ≤ D.rd) (hr1 : D.rd ≤ 1152921504606846976) :
    Calls Tryd.prog 39 #[.pointer (some ⟨p, 0, none⟩), .int .i64 (i : Int)] W fun e w' => ∃ g, e = .returned (.tuple #[.slice (some ⟨g, 0, none⟩) 512 512, .int .i64 0]) ∧ IsB w' (.slice (some ⟨g, 0, none⟩) 512 512) (D.now i) ∧ Sn w0 w' p D.read ∧ Cj TDk W w' := by
  obtain ⟨gl, gm, V, h1, h2, h3⟩ := h
  refine (read_calls h1 hi hr0 hr1).mono ?_
  rintro e w' ⟨g, rfl, hg, hA, hD, hgr⟩
  exact ⟨g, rfl, isB_arrS hA (h1.ok.now hi), ⟨gl, gm, V, hD, h2, jbelow_grown h3 hgr h3.size (h2 p (Or.inl rfl))⟩, Cj.of_grown hgr h1.blk (Or.inl rfl)⟩
theorem sn_sectors {w0 W : World} {p : Nat} {D : AD} (h : Sn w0 W p D) : Calls Tryd.prog 35 #[.pointer (some ⟨p, 0, none⟩)] W fun e w' => e = .returned (.int .i64 (D.la.length : Int)) ∧ w' = W := by
  obtain ⟨gl, gm, V, h1, h2, h3⟩ := h
  exact sectors_calls h1.cells.1
theorem sn_new {w0 W : World} {n : Nat} (hb : Below w0.heap.size w0 W) (h2 : 2 ≤ n) (h6 : n ≤ 65536) : Calls Tryd.prog 6 #[.int .i64 (n : Int)] W fun e w' => ∃ p, e = .returned (.tuple #[.pointer (some ⟨p, 0, none⟩), .int .i64 0]) ∧ Sn w0 w' p (zeroD n) ∧ Below W.heap.size W w' := by
  refine (new_calls h2 h6).mono ?_
  rintro e w' ⟨p, gl, gm, V, rfl, hD, q1, q2, q3, hV, hbb⟩
  have hs := hb.size
  refine ⟨p, rfl, ⟨gl, gm, V, hD, fun b hb2 => ?_, hb.trans (hbb.mono hs)⟩, hbb⟩
  rcases hb2 with rfl | rfl | rfl | ⟨i, e⟩
  · omega
  · omega
  · omega
  · rw [hV i] at e; cases e
theorem sn_write {w0 W : World} {p i B : Nat} {D : AD} {v : Value} {s : List Int} (h : Sn w0 W p D) (hi : i < D.la.length) (hw0 : 0 ≤ D.wt) (hw1 : D.wt ≤ 1152921504606846976) (hwl : (D.wr i).length ≤ 68719476736) (hs : IsSec s) (ho : Own8 W B v s) :
    Calls Tryd.prog 14 #[.pointer (some ⟨p, 0, none⟩), .int .i64 (i : Int), v] W fun e w' => e = .returned (.int .i64 0) ∧ Sn w0 w' p (D.write i s) ∧ Cj TDk W w' := by
  obtain ⟨gl, gm, V, h1, h2, h3⟩ := h
  rcases ho.1.2 with ⟨rfl, h0⟩ | ⟨g, cap, cur, rfl, hb, hg, hle, hm, hsz, htk⟩
  · have := hs.1; omega
  · have hr : W.rangeAt g 0 (u8V s) := fun j u hu => by
      have := World.ownsRow.cells (g := g) ho.1 rfl j u hu
      rw [Addr.add_lit] at this
      exact this
    have hF : ¬ Ft p gl gm V g := fun hF => by
      have := h1.typ hF hg
      unfold TDk at this
      revert this
      decide
    rw [hs.1]
    refine (write_good h1 hi hw0 hw1 hwl hs hr (Array.getElem?_eq_some_iff.1 hg).1 hF).mono ?_
    rintro e w' ⟨rfl, V', q1, q2, q3⟩
    refine ⟨rfl, ⟨gl, gm, V', q1, fun b hb2 => ?_, h3.trans (q3.below h3.size h2)⟩, Cj.of_up h1 q3 (fun _ h => h)⟩
    rcases q2 b hb2 with hb2 | hb2
    · exact h2 b hb2
    · exact Nat.le_trans h3.size hb2
theorem sn_flush {w0 W : World} {p : Nat} {D : AD} (h : Sn w0 W p D) (hwl : ∀ i, (D.wr i).length ≤ 68719476736) (hf0 : 0 ≤ D.fl) (hf1 : D.fl ≤ 1152921504606846976) :
    Calls Tryd.prog 8 #[.pointer (some ⟨p, 0, none⟩)] W fun e w' => e = .returned (.tuple #[]) ∧ Sn w0 w' p D.flush ∧ Cj TDk W w' := by
  obtain ⟨gl, gm, V, h1, h2, h3⟩ := h
  refine (flush_calls h1 hwl hf0 hf1).mono ?_
  rintro e w' ⟨rfl, gm', q1, q2, q3⟩
  have hlo : ∀ b, b = p ∨ b = gl → w0.heap.size ≤ b := fun b hb => h2 b (hb.imp_right Or.inl)
  refine ⟨rfl, ⟨gl, gm', _, q2, fun b hb => ?_, h3.trans (q3.below h3.size hlo)⟩, Cj.of_up h1 q3 (fun b hb => hb.imp_right Or.inl)⟩
  rcases hb with rfl | rfl | rfl | ⟨i, e⟩
  · exact hlo _ (Or.inl rfl)
  · exact hlo _ (Or.inr rfl)
  · exact Nat.le_trans h3.size q1
  · cases e
/-- A disk that was read so often. -/
def AD.sds (D : AD) (m : Nat) : AD := { D with rd := D.rd + m }
theorem AD.sds_zero (D : AD) : D.sds 0 = D := by
  unfold AD.sds
  simp
theorem AD.sds_one (D : AD) (m : Nat) : (D.sds m).read = D.sds (m + 1) := by
  unfold AD.sds AD.read
  simp [Int.add_assoc]
end Go.Proofs.YtpeopejnkbmcdaaDoor

namespace Go.Proofs.YtpeopejnkbmcdaaDoor
open Go.RowKit Go.Maps

/-- The slot that is sound in a sector. -/
def sndO (n : Nat) (b : List Int) (i : Nat) : Option SL := (decS b).bind fun s => if s.sc = (n : Int) ∧ s.t % 2 = (i : Int) then some s else none
theorem sndO_none {n i : Nat} {b : List Int} (h : decS b = none) : sndO n b i = none := by unfold sndO; rw [h]; rfl
theorem sndO_not {n i : Nat} {b : List Int} {s : SL} (h : decS b = some s) (k : ¬ (s.sc = (n : Int) ∧ s.t % 2 = (i : Int))) : sndO n b i = none := by
  unfold sndO; rw [h, Option.bind_some, if_neg k]
theorem sndO_yes {n i : Nat} {b : List Int} {s : SL} (h : decS b = some s) (k : s.sc = (n : Int)) (k2 : s.t % 2 = (i : Int)) : sndO n b i = some s := by
  unfold sndO; rw [h, Option.bind_some, if_pos ⟨k, k2⟩]
theorem sndO_some {n i : Nat} {b : List Int} {s : SL} (h : sndO n b i = some s) : decS b = some s ∧ s.sc = (n : Int) ∧ s.t % 2 = (i : Int) := by
  unfold sndO at h
  cases hd : decS b with
  | none => rw [hd] at h; simp at h
  | some r =>
    rw [hd, Option.bind_some] at h
    split at h
    · rename_i hc
      have : r = s := by simpa using h
      subst this
      exact ⟨rfl, hc.1, hc.2⟩
    · simp at h
theorem sndO_ok {n i : Nat} {b : List Int} (hb : By8 b) : ((sndO n b i).getD .nul).Ok := by
  cases h : sndO n b i with
  | none => exact SL.nul_ok
  | some s => exact decS_ok hb (sndO_some h).1
set_option maxRecDepth 100000 in
set_option maxHeartbeats 1000000 in
theorem splace_calls {w : World} {s : SL} (h0 : 0 ≤ s.t) : Calls Tryd.prog 36 #[.agg (slV s).toArray] w fun e w' => e = .returned (.int .i64 (s.t % 2)) ∧ Below w.heap.size w w' := by
  have HF : Hid (∀ w1, Arr w1 w.heap.size 32 (slV s) → w1.cell? ⟨w.heap.size, 2, none⟩ = some (.int .i64 s.t)) := hide (fun w1 hA1 => (hA1.cell 2).trans (slV_at s).2.2.1)
  have hr : s.t.tmod 2 = s.t % 2 := Int.tmod_eq_emod_of_nonneg h0
  generalize slV s = cs1 at *
  generalize s.t = x at *
  obtain ⟨y, hy⟩ : ∃ y, y = x % 2 := ⟨_, rfl⟩
  rw [← hy] at hr ⊢
  have HW : Hid (IntKind.i64.wrap y = y) := hide (IntWalk.i64_in _ (by omega))
  clear h0 hy
  go_enter Tryd.func36, Tryd.ntmps36
  go_wp2_with (first
    | (refine wpList_boxJ rfl 32 (.tmp 0) rfl rfl ?_; intro w1 hA1 hb1 hs1
       have c2 := unhide HF w1 hA1
       have HB1 := hide hb1
       clear hA1 hb1 hs1)
    | fail)
  go_ret
  exact ⟨rfl, HB1.out⟩
theorem ssec_enter (v : Value) (W : World) : (callFunc 35 #[v]).run Tryd.prog W = .ok (.enter 35 #[v]) W := by kernel_rfl
theorem spl_enter (v : Value) (W : World) : (callFunc 36 #[v]).run Tryd.prog W = .ok (.enter 36 #[v]) W := by kernel_rfl
theorem tdk_slot : ¬ TDk 32 := by unfold TDk; decide
set_option maxRecDepth 100000 in
set_option maxHeartbeats 4000000 in
theorem sound_calls {w0 w : World} {p i : Nat} {D : AD} (hS : Sn w0 w p D) (hi : i < 2) (ht : Tab w0) (hr0 : 0 ≤ D.rd) (hr1 : D.rd ≤ 1152921504606846976) :
    Calls Tryd.prog 21 #[.pointer (some ⟨p, 0, none⟩), .int .i64 (i : Int)] w fun e w' => e = .returned (.tuple #[.agg (slV ((sndO D.la.length (D.now i) i).getD .nul)).toArray, .bool (sndO D.la.length (D.now i) i).isSome]) ∧ Sn w0 w' p D.read ∧ Cj TDk w w' := by
  have hla := hS.ok
  have hn2 : 2 ≤ D.la.length := hla.lo
  have hsec := hla.now (i := i) (by omega)
  have HRD : Hid (∀ W, Below w.heap.size w W → Calls Tryd.prog 39 #[.pointer (some ⟨p, 0, none⟩), .int .i64 (i : Int)] W fun e w' => ∃ g, e = .returned (.tuple #[.slice (some ⟨g, 0, none⟩) 512 512, .int .i64 0]) ∧ IsB w' (.slice (some ⟨g, 0, none⟩) 512 512) (D.now i) ∧ Sn w0 w' p D.read ∧ Cj TDk W w') := hide (fun W hW => sn_read (hS.below hW) (by omega) hr0 hr1)
  have HSC : Hid (∀ W, Sn w0 W p D.read → Calls Tryd.prog 35 #[.pointer (some ⟨p, 0, none⟩)] W fun e w' => e = .returned (.int .i64 (D.la.length : Int)) ∧ w' = W) := hide (fun W hW => sn_sectors (D := D.read) hW)
  have HTB : Hid (∀ W, Sn w0 W p D.read → Tab W) := hide (fun W hW => ht.below hW.be)
  have hby : By8 (D.now i) := hsec.2
  have hok := decSR_ok hby
  have hcase : (decS (D.now i) = none ∧ decSE (D.now i) = 180) ∨ (∃ s, decS (D.now i) = some s ∧ decSR (D.now i) = s ∧ decSE (D.now i) = 0 ∧ 0 ≤ s.t) := by
    cases h : decS (D.now i) with
    | none => exact Or.inl ⟨rfl, (decSR_none h).2⟩
    | some s => exact Or.inr ⟨s, rfl, (decSR_some h).1, (decSR_some h).2, (decS_some h).2.2.1.t.1⟩
  have hb1 := jalloc_below w (.cells z105.toArray 32)
  have hA1 := Arr.new w z105 32
  obtain ⟨w1, hw1⟩ : ∃ w1, w1 = w.alloc (.cells z105.toArray 32) := ⟨_, rfl⟩
  rw [← hw1] at hb1 hA1
  have HB1 := hide hb1
  have HA1 := hide hA1
  have HW1 := hide hw1
  obtain ⟨g4, hg4⟩ : ∃ g2, g2 = w.heap.size := ⟨_, rfl⟩
  have HG4 := hide hg4
  rw [← hg4] at HA1
  have HLO : Hid (w0.heap.size ≤ g4) := hide (by rw [hg4]; exact hS.be.size)
  have hlen0 : z105.length = (slV .nul).length := by rw [slV_len SL.nul_ok]; rfl
  have hinf0 := infoSof SL.nul_ok
  have hone0 := slV_one SL.nul
  have hinf := infoSof hok
  have hlen : z105.length = (slV (decSR (D.now i))).length := by rw [slV_len hok]; rfl
  have hon := slV_one (decSR (D.now i))
  have HOK := hide hok
  generalize hb : D.now i = b at *
  generalize hN : D.la.length = N at *
  clear hS hla hn2 hsec ht hby hok hb1 hA1 hw1 hg4 hb hN
  go_enter Tryd.func21, Tryd.ntmps21
  go_wp2_with (first
    | (refine wpList_allocJ rfl 32 rfl infoSlo ?_; rw [← HW1.out, ← HG4.out])
    | fail)
  refine (unhide HRD _ HB1.out).mono ?_
  rintro e w2 ⟨g, rfl, hI2, hS2, hC2⟩
  have HA2 := hide (HA1.out.cj hC2 tdk_slot)
  have HDC := hide (sdec_calls hI2 (unhide HTB _ hS2))
  have HS2 := hide hS2
  have HC2 := hide (Cj.trans (Cj.of_below HB1.out) hC2)
  clear hI2 hS2 hC2 HA1 HRD
  go_wp2_with fail
  refine (unhide HDC).mono ?_
  rintro e w3 ⟨rfl, hb3⟩
  have hA3 := HA2.out.below hb3
  have hS3 := HS2.out.below hb3
  have hC3 : Cj TDk w w3 := Cj.trans HC2.out (Cj.of_below hb3)
  have hba := jalloc_below w3 (.cells z105.toArray 32)
  have HX : Hid (∀ w4, Arr w4 w3.heap.size 32 (slV (decSR b)) → (w3.alloc (.cells z105.toArray 32)).grownBy w4 (some w3.heap.size) → Arr w4 g4 32 z105 ∧ Sn w0 w4 p D.read ∧ Cj TDk w w4) := hide (fun w4 hA4 hg4 => by
    have hlt := hA3.lt
    have hbw : Below w3.heap.size w3 w4 := jbelow_grown hba hg4 hba.size (Nat.le_refl _)
    exact ⟨arr_grown (hA3.below hba) hg4 (by simp; omega), hS3.below hbw, Cj.trans hC3 (Cj.of_below hbw)⟩)
  clear HDC HA2 HS2 HC2 hA3 hS3 hC3 hba hb3
  go_wp2_with (first
    | (refine wpList_allocJ rfl 32 rfl infoSlo ?_)
    | (refine wpList_storeJ rfl (.tmp 8) (.tmp 19) 32 rfl rfl rfl (Arr.new w3 z105 32) hinf hlen hon ?_; intro w4 hA4 hg4x
       obtain ⟨hA44, hS4, hC4⟩ := unhide HX w4 hA4 hg4x
       have HA4 := hide hA4
       have HA44 := hide hA44
       have HS4 := hide hS4
       have HC4 := hide hC4
       clear hA4 hA44 hS4 hC4 hg4x HX)
    | fail)
  generalize w3.heap.size = g8 at *
  have HS : Hid (∀ W, Below w4.heap.size w4 W → W.cell? ⟨g8, 0, none⟩ = some (.int .i64 (decSR b).sc) ∧ W.rangeAt g8 0 (slV (decSR b))) := hide (fun W hW => ⟨((HA4.out.below hW).cell 0).trans (slV_at _).1, (HA4.out.below hW).rangeJ⟩)
  have HSN : Hid (∀ W, Below w4.heap.size w4 W → Sn w0 W p D.read ∧ Arr W g4 32 z105 ∧ Arr W g8 32 (slV (decSR b)) ∧ Cj TDk w W) := hide (fun W hW => ⟨HS4.out.below hW, HA44.out.below hW, HA4.out.below hW, Cj.trans HC4.out (Cj.of_below hW)⟩)
  have HFN : Hid (∀ W cs w9, Below w4.heap.size w4 W → W.grownBy w9 (some g4) → Arr w9 g4 32 cs → Sn w0 w9 p D.read ∧ Cj TDk w w9) := hide (fun W cs w9 hW hg hA => by
    obtain ⟨s1, s2, s3, s4⟩ := unhide HSN W hW
    refine ⟨s1.set hg s2 tdk_slot HLO.out, ?_⟩
    refine ⟨hg.os.trans s4.os, hg.tape.trans s4.tape, hg.output.trans s4.output, Nat.le_trans s4.size hg.size, fun k cs t m hk hn => ?_⟩
    have h1 := s4.block k cs t m hk hn
    have hlt := (Array.getElem?_eq_some_iff.1 hk).1
    rw [hg.block k (Array.getElem?_eq_some_iff.1 h1).1 (by have := HG4.out; simp; omega)]
    exact h1)
  clear HA4 HA44 HS4 HC4
  have HBD := hide ((Below.refl w4.heap.size w4).drew)
  rcases hcase with ⟨hd, he⟩ | ⟨s, hd, hsr, he, ht0⟩
  · have HR := hide (sndO_none (n := N) (i := i) hd)
    rw [he]
    generalize slV (decSR b) = cs1 at *
    generalize (decSR b).sc = x0 at *
    clear hd he
    go_wp2_with fail
    refine wp_region_held_drew (S := fun W => W.cell? ⟨g8, 0, none⟩ = some (.int .i64 x0) ∧ W.rangeAt g8 0 cs1) (by kernel_rfl) (unhide HS _ HBD.out) (fun hHeld => ?_)
    refine wpAnyH_take (i := 0) (v := .int .i64 180) rfl (by kernel_rfl) (by kernel_rfl) (by kernel_rfl) (fun _ _ _ h => h) (Or.inl ⟨by rfl, fun w hSw => by obtain ⟨hS1, hS2⟩ := hSw; go_simp⟩) (by assumption) ?_
    simp only [List.getElem_toArray, List.getElem_cons_zero, Act.put, List.setIfInBounds_toArray, List.set_cons_zero, List.set_cons_succ]
    refine wpAnyH_take (i := 1) (v := .bool true) rfl (by kernel_rfl) (by kernel_rfl) (by kernel_rfl) (fun _ _ _ h => h) (Or.inl ⟨by rfl, fun w hSw => by obtain ⟨hS1, hS2⟩ := hSw; go_simp⟩) (by assumption) ?_
    simp only [List.getElem_toArray, List.getElem_cons_succ, List.getElem_cons_zero, Act.put, List.setIfInBounds_toArray, List.set_cons_zero, List.set_cons_succ]
    refine wpAnyH_take (i := 2) (v := .bool true) rfl (by kernel_rfl) (by kernel_rfl) (by kernel_rfl) (fun _ _ _ h => h) (Or.inl ⟨by rfl, fun w hSw => by obtain ⟨hS1, hS2⟩ := hSw; go_simp⟩) (by assumption) ?_
    simp only [List.getElem_toArray, List.getElem_cons_succ, List.getElem_cons_zero, Act.put, List.setIfInBounds_toArray, List.set_cons_zero, List.set_cons_succ]
    refine wpAnyH_take (i := 3) (v := undef) rfl (by kernel_rfl) (by kernel_rfl) (by kernel_rfl) (fun _ _ _ h => h) (Or.inr ⟨by rfl, rfl⟩) (by assumption) ?_
    simp only [List.getElem_toArray, List.getElem_cons_succ, List.getElem_cons_zero, Act.put, List.setIfInBounds_toArray, List.set_cons_zero, List.set_cons_succ]
    refine wpAnyH_take (i := 4) (v := undef) rfl (by kernel_rfl) (by kernel_rfl) (by kernel_rfl) (fun _ _ _ h => h) (Or.inr ⟨by rfl, rfl⟩) (by assumption) ?_
    simp only [List.getElem_toArray, List.getElem_cons_succ, List.getElem_cons_zero, Act.put, List.setIfInBounds_toArray, List.set_cons_zero, List.set_cons_succ]
    refine wpAnyH_take (i := 5) (v := undef) rfl (by kernel_rfl) (by kernel_rfl) (by kernel_rfl) (fun _ _ _ h => h) (Or.inr ⟨by rfl, rfl⟩) (by assumption) ?_
    simp only [List.getElem_toArray, List.getElem_cons_succ, List.getElem_cons_zero, Act.put, List.setIfInBounds_toArray, List.set_cons_zero, List.set_cons_succ]
    refine wpAnyH_take (i := 6) (v := undef) rfl (by kernel_rfl) (by kernel_rfl) (by kernel_rfl) (fun _ _ _ h => h) (Or.inr ⟨by rfl, rfl⟩) (by assumption) ?_
    simp only [List.getElem_toArray, List.getElem_cons_succ, List.getElem_cons_zero, Act.put, List.setIfInBounds_toArray, List.set_cons_zero, List.set_cons_succ]
    refine wpAnyH_take (i := 7) (v := undef) rfl (by kernel_rfl) (by kernel_rfl) (by kernel_rfl) (fun _ _ _ h => h) (Or.inr ⟨by rfl, rfl⟩) (by assumption) ?_
    simp only [List.getElem_toArray, List.getElem_cons_succ, List.getElem_cons_zero, Act.put, List.setIfInBounds_toArray, List.set_cons_zero, List.set_cons_succ]
    refine wpAnyH_take (i := 8) (v := .bool true) rfl (by kernel_rfl) (by kernel_rfl) (by kernel_rfl) (fun _ _ _ h => h) (Or.inl ⟨by rfl, fun w hSw => by obtain ⟨hS1, hS2⟩ := hSw; go_simp⟩) (by assumption) ?_
    simp only [List.getElem_toArray, List.getElem_cons_succ, List.getElem_cons_zero, Act.put, List.setIfInBounds_toArray, List.set_cons_zero, List.set_cons_succ]
    refine wpAnyH_take (i := 9) (v := .bool true) rfl (by kernel_rfl) (by kernel_rfl) (by kernel_rfl) (fun _ _ _ h => h) (Or.inl ⟨by rfl, fun w hSw => by obtain ⟨hS1, hS2⟩ := hSw; go_simp⟩) (by assumption) ?_
    simp only [List.getElem_toArray, List.getElem_cons_succ, List.getElem_cons_zero, Act.put, List.setIfInBounds_toArray, List.set_cons_zero, List.set_cons_succ]
    refine wpAnyH_take (i := 10) (v := undef) rfl (by kernel_rfl) (by kernel_rfl) (by kernel_rfl) (fun _ _ _ h => h) (Or.inr ⟨by rfl, rfl⟩) (by assumption) ?_
    simp only [List.getElem_toArray, List.getElem_cons_succ, List.getElem_cons_zero, Act.put, List.setIfInBounds_toArray, List.set_cons_zero, List.set_cons_succ]
    refine wpAnyH_take (i := 11) (v := undef) rfl (by kernel_rfl) (by kernel_rfl) (by kernel_rfl) (fun _ _ _ h => h) (Or.inr ⟨by rfl, rfl⟩) (by assumption) ?_
    simp only [List.getElem_toArray, List.getElem_cons_succ, List.getElem_cons_zero, Act.put, List.setIfInBounds_toArray, List.set_cons_zero, List.set_cons_succ]
    refine wpAnyH_take (i := 12) (v := undef) rfl (by kernel_rfl) (by kernel_rfl) (by kernel_rfl) (fun _ _ _ h => h) (Or.inr ⟨by rfl, rfl⟩) (by assumption) ?_
    simp only [List.getElem_toArray, List.getElem_cons_succ, List.getElem_cons_zero, Act.put, List.setIfInBounds_toArray, List.set_cons_zero, List.set_cons_succ]
    refine wpAnyH_take (i := 13) (v := undef) rfl (by kernel_rfl) (by kernel_rfl) (by kernel_rfl) (fun _ _ _ h => h) (Or.inr ⟨by rfl, rfl⟩) (by assumption) ?_
    simp only [List.getElem_toArray, List.getElem_cons_succ, List.getElem_cons_zero, Act.put, List.setIfInBounds_toArray, List.set_cons_zero, List.set_cons_succ]
    refine wpAnyH_take (i := 14) (v := .bool true) rfl (by kernel_rfl) (by kernel_rfl) (by kernel_rfl) (fun _ _ _ h => h) (Or.inl ⟨by rfl, fun w hSw => by obtain ⟨hS1, hS2⟩ := hSw; go_simp⟩) (by assumption) ?_
    simp only [List.getElem_toArray, List.getElem_cons_succ, List.getElem_cons_zero, Act.put, List.setIfInBounds_toArray, List.set_cons_zero, List.set_cons_succ]
    refine wpAnyH_done (by kernel_rfl) ?_ _
    go_wp2_with (first
      | (refine wpList_bldJ rfl 32 rfl bldS0 ?_)
      | (refine wpList_storeJ rfl (.tmp 4) (.tmp 36) 32 rfl rfl rfl (unhide HSN _ HBD.out).2.1 hinf0 hlen0 hone0 ?_; intro w9 hA9 hg9))
    have hA9' : Arr w9 g4 32 (slV .nul) := hA9
    obtain ⟨r1, r2⟩ := unhide HFN _ _ w9 HBD.out hg9 hA9'
    refine bodyPost_ret (results_rowJ2 rfl rfl rfl hA9' Tryd.underlying32 rfl hinf0) rfl ?_
    rw [HR.out]
    exact ⟨rfl, r1, r2⟩
  · rw [he]
    subst hsr
    generalize decSR b = s at *
    have HPL : Hid (∀ W, Calls Tryd.prog 36 #[.agg (slV s).toArray] W fun e w' => e = .returned (.int .i64 (s.t % 2)) ∧ Below W.heap.size W w') := hide (fun W => splace_calls ht0)
    by_cases h1 : s.sc = (N : Int)
    · by_cases h2 : s.t % 2 = (i : Int)
      · have HR : Hid (slV ((sndO N b i).getD .nul) = slV s ∧ (sndO N b i).isSome = true) := hide (by rw [sndO_yes hd h1 h2]; exact ⟨rfl, rfl⟩)
        rw [h1] at HS
        rw [h2] at HPL
        generalize slV s = cs1 at *
        clear hd he ht0 h1 h2
        go_wp2_with fail
        refine wp_region_held_drew (S := fun W => W.cell? ⟨g8, 0, none⟩ = some (.int .i64 (N : Int)) ∧ W.rangeAt g8 0 cs1) (by kernel_rfl) (unhide HS _ HBD.out) (fun hHeld => ?_)
        refine wpAnyH_take (i := 0) (v := .int .i64 0) rfl (by kernel_rfl) (by kernel_rfl) (by kernel_rfl) (fun _ _ _ h => h) (Or.inl ⟨by rfl, fun w hSw => by obtain ⟨hS1, hS2⟩ := hSw; go_simp⟩) (by assumption) ?_
        simp only [List.getElem_toArray, List.getElem_cons_zero, Act.put, List.setIfInBounds_toArray, List.set_cons_zero, List.set_cons_succ]
        refine wpAnyH_take (i := 1) (v := .bool false) rfl (by kernel_rfl) (by kernel_rfl) (by kernel_rfl) (fun _ _ _ h => h) (Or.inl ⟨by rfl, fun w hSw => by obtain ⟨hS1, hS2⟩ := hSw; go_simp⟩) (by assumption) ?_
        simp only [List.getElem_toArray, List.getElem_cons_succ, List.getElem_cons_zero, Act.put, List.setIfInBounds_toArray, List.set_cons_zero, List.set_cons_succ]
        refine wpAnyH_take (i := 2) (v := .bool false) rfl (by kernel_rfl) (by kernel_rfl) (by kernel_rfl) (fun _ _ _ h => h) (Or.inl ⟨by rfl, fun w hSw => by obtain ⟨hS1, hS2⟩ := hSw; go_simp⟩) (by assumption) ?_
        simp only [List.getElem_toArray, List.getElem_cons_succ, List.getElem_cons_zero, Act.put, List.setIfInBounds_toArray, List.set_cons_zero, List.set_cons_succ]
        refine wpAnyH_take (i := 3) (v := .pointer (some ⟨g8, 0, none⟩)) rfl (by kernel_rfl) (by kernel_rfl) (by kernel_rfl) (fun _ _ _ h => h) (Or.inl ⟨by rfl, fun w hSw => by obtain ⟨hS1, hS2⟩ := hSw; go_simp⟩) (by assumption) ?_
        simp only [List.getElem_toArray, List.getElem_cons_succ, List.getElem_cons_zero, Act.put, List.setIfInBounds_toArray, List.set_cons_zero, List.set_cons_succ]
        refine wpAnyH_take (i := 4) (v := .int .i64 (N : Int)) rfl (by kernel_rfl) (by kernel_rfl) (by kernel_rfl) (fun _ _ _ h => h) (Or.inl ⟨by rfl, fun w hSw => by obtain ⟨hS1, hS2⟩ := hSw; go_simp⟩) (by assumption) ?_
        simp only [List.getElem_toArray, List.getElem_cons_succ, List.getElem_cons_zero, Act.put, List.setIfInBounds_toArray, List.set_cons_zero, List.set_cons_succ]
        refine wpAnyH_take (i := 5) (v := .pointer (some ⟨p, 0, none⟩)) rfl (by kernel_rfl) (by kernel_rfl) (by kernel_rfl) (fun _ _ _ h => h) (Or.inl ⟨by rfl, fun w hSw => by obtain ⟨hS1, hS2⟩ := hSw; go_simp⟩) (by assumption) ?_
        simp only [List.getElem_toArray, List.getElem_cons_succ, List.getElem_cons_zero, Act.put, List.setIfInBounds_toArray, List.set_cons_zero, List.set_cons_succ]
        refine wpAnyH_ready (rs := [6]) (by kernel_rfl) (by simp) (AllReadyH.cons rfl (fun K hK => ?_) AllReadyH.nil)
        refine step_call1J (by rfl) 35 ssec_enter (.tmp 26) _ rfl rfl (unhide HSC _ (unhide HSN _ HBD.out).1) ?_
        rintro e wn ⟨rfl, hwn⟩
        obtain rfl := hwn.symm
        clear hwn
        refine ⟨_, rfl, ?_⟩
        refine hK.out _ _ (unhide HS _ HBD.out) (fun hJ1 => ?_)
        clear hK K
        simp only [List.getElem_toArray, List.getElem_cons_succ, List.getElem_cons_zero, Act.put, List.setIfInBounds_toArray, List.set_cons_zero, List.set_cons_succ]
        refine wpAnyH_take (i := 7) (v := .bool false) rfl (by kernel_rfl) (by kernel_rfl) (by kernel_rfl) (fun _ _ _ h => h) (Or.inl ⟨by rfl, fun w hSw => by obtain ⟨hS1, hS2⟩ := hSw; go_simp⟩) (by assumption) ?_
        simp only [List.getElem_toArray, List.getElem_cons_succ, List.getElem_cons_zero, Act.put, List.setIfInBounds_toArray, List.set_cons_zero, List.set_cons_succ]
        refine wpAnyH_take (i := 8) (v := .bool false) rfl (by kernel_rfl) (by kernel_rfl) (by kernel_rfl) (fun _ _ _ h => h) (Or.inl ⟨by rfl, fun w hSw => by obtain ⟨hS1, hS2⟩ := hSw; go_simp⟩) (by assumption) ?_
        simp only [List.getElem_toArray, List.getElem_cons_succ, List.getElem_cons_zero, Act.put, List.setIfInBounds_toArray, List.set_cons_zero, List.set_cons_succ]
        refine wpAnyH_take (i := 9) (v := .bool false) rfl (by kernel_rfl) (by kernel_rfl) (by kernel_rfl) (fun _ _ _ h => h) (Or.inl ⟨by rfl, fun w hSw => by obtain ⟨hS1, hS2⟩ := hSw; go_simp⟩) (by assumption) ?_
        simp only [List.getElem_toArray, List.getElem_cons_succ, List.getElem_cons_zero, Act.put, List.setIfInBounds_toArray, List.set_cons_zero, List.set_cons_succ]
        refine wpAnyH_take (i := 10) (v := .agg (cs1).toArray) rfl (by kernel_rfl) (by kernel_rfl) (by kernel_rfl) (fun _ _ _ h => h) (yieldsIf_load_mid (by rfl) _ _ rfl _ _ rfl _ _ (fun w hSw => hSw.2) Tryd.underlying32 rfl hinf) (by assumption) ?_
        simp only [List.getElem_toArray, List.getElem_cons_succ, List.getElem_cons_zero, Act.put, List.setIfInBounds_toArray, List.set_cons_zero, List.set_cons_succ]
        refine wpAnyH_take (i := 12) (v := .int .i64 (i : Int)) rfl (by kernel_rfl) (by kernel_rfl) (by kernel_rfl) (fun _ _ _ h => h) (Or.inl ⟨by rfl, fun w hSw => by obtain ⟨hS1, hS2⟩ := hSw; go_simp⟩) (by assumption) ?_
        simp only [List.getElem_toArray, List.getElem_cons_succ, List.getElem_cons_zero, Act.put, List.setIfInBounds_toArray, List.set_cons_zero, List.set_cons_succ]
        refine wpAnyH_ready (rs := [11]) (by kernel_rfl) (by simp) (AllReadyH.cons rfl (fun K hK => ?_) AllReadyH.nil)
        refine step_call1J (by rfl) 36 spl_enter (.tmp 31) _ rfl rfl (unhide HPL _) ?_
        rintro e wp ⟨rfl, hbp⟩
        have HBpl := hide (below_then HBD.out hbp)
        clear hbp
        refine ⟨_, rfl, ?_⟩
        refine hK.out _ _ (unhide HS _ HBpl.out) (fun hJ2 => ?_)
        clear hK K
        simp only [List.getElem_toArray, List.getElem_cons_succ, List.getElem_cons_zero, Act.put, List.setIfInBounds_toArray, List.set_cons_zero, List.set_cons_succ]
        refine wpAnyH_take (i := 13) (v := .bool false) rfl (by kernel_rfl) (by kernel_rfl) (by kernel_rfl) (fun _ _ _ h => h) (Or.inl ⟨by rfl, fun w hSw => by obtain ⟨hS1, hS2⟩ := hSw; go_simp⟩) (by assumption) ?_
        simp only [List.getElem_toArray, List.getElem_cons_succ, List.getElem_cons_zero, Act.put, List.setIfInBounds_toArray, List.set_cons_zero, List.set_cons_succ]
        refine wpAnyH_take (i := 14) (v := .bool false) rfl (by kernel_rfl) (by kernel_rfl) (by kernel_rfl) (fun _ _ _ h => h) (Or.inl ⟨by rfl, fun w hSw => by obtain ⟨hS1, hS2⟩ := hSw; go_simp⟩) (by assumption) ?_
        simp only [List.getElem_toArray, List.getElem_cons_succ, List.getElem_cons_zero, Act.put, List.setIfInBounds_toArray, List.set_cons_zero, List.set_cons_succ]
        refine wpAnyH_done (by kernel_rfl) ?_ _
        go_wp2_with (first
          | (refine wpList_loadJ rfl 32 (.tmp 8) rfl _ 0 rfl cs1 _ (unhide HS _ HBpl.out).2 Tryd.underlying32 rfl hinf ?_)
          | (refine wpList_storeJ rfl (.tmp 4) (.tmp 37) 32 rfl rfl rfl (unhide HSN _ HBpl.out).2.1 hinf hlen hon ?_; intro w9 hA9 hg9))
        have hA9' : Arr w9 g4 32 cs1 := hA9
        obtain ⟨r1, r2⟩ := unhide HFN _ _ w9 HBpl.out hg9 hA9'
        refine bodyPost_ret (results_rowJ2 rfl rfl rfl hA9' Tryd.underlying32 rfl hinf) rfl ?_
        rw [HR.out.1, HR.out.2]
        exact ⟨rfl, r1, r2⟩
      · have HR := hide (sndO_not (n := N) (i := i) hd (fun hc => h2 hc.2))
        rw [h1] at HS
        have hne : (s.t % 2 != (i : Int)) = true := by simpa using h2
        generalize s.t % 2 = y at *
        generalize slV s = cs1 at *
        clear hd he ht0 h1 h2
        go_wp2_with fail
        refine wp_region_held_drew (S := fun W => W.cell? ⟨g8, 0, none⟩ = some (.int .i64 (N : Int)) ∧ W.rangeAt g8 0 cs1) (by kernel_rfl) (unhide HS _ HBD.out) (fun hHeld => ?_)
        refine wpAnyH_take (i := 0) (v := .int .i64 0) rfl (by kernel_rfl) (by kernel_rfl) (by kernel_rfl) (fun _ _ _ h => h) (Or.inl ⟨by rfl, fun w hSw => by obtain ⟨hS1, hS2⟩ := hSw; go_simp⟩) (by assumption) ?_
        simp only [List.getElem_toArray, List.getElem_cons_zero, Act.put, List.setIfInBounds_toArray, List.set_cons_zero, List.set_cons_succ]
        refine wpAnyH_take (i := 1) (v := .bool false) rfl (by kernel_rfl) (by kernel_rfl) (by kernel_rfl) (fun _ _ _ h => h) (Or.inl ⟨by rfl, fun w hSw => by obtain ⟨hS1, hS2⟩ := hSw; go_simp⟩) (by assumption) ?_
        simp only [List.getElem_toArray, List.getElem_cons_succ, List.getElem_cons_zero, Act.put, List.setIfInBounds_toArray, List.set_cons_zero, List.set_cons_succ]
        refine wpAnyH_take (i := 2) (v := .bool false) rfl (by kernel_rfl) (by kernel_rfl) (by kernel_rfl) (fun _ _ _ h => h) (Or.inl ⟨by rfl, fun w hSw => by obtain ⟨hS1, hS2⟩ := hSw; go_simp⟩) (by assumption) ?_
        simp only [List.getElem_toArray, List.getElem_cons_succ, List.getElem_cons_zero, Act.put, List.setIfInBounds_toArray, List.set_cons_zero, List.set_cons_succ]
        refine wpAnyH_take (i := 3) (v := .pointer (some ⟨g8, 0, none⟩)) rfl (by kernel_rfl) (by kernel_rfl) (by kernel_rfl) (fun _ _ _ h => h) (Or.inl ⟨by rfl, fun w hSw => by obtain ⟨hS1, hS2⟩ := hSw; go_simp⟩) (by assumption) ?_
        simp only [List.getElem_toArray, List.getElem_cons_succ, List.getElem_cons_zero, Act.put, List.setIfInBounds_toArray, List.set_cons_zero, List.set_cons_succ]
        refine wpAnyH_take (i := 4) (v := .int .i64 (N : Int)) rfl (by kernel_rfl) (by kernel_rfl) (by kernel_rfl) (fun _ _ _ h => h) (Or.inl ⟨by rfl, fun w hSw => by obtain ⟨hS1, hS2⟩ := hSw; go_simp⟩) (by assumption) ?_
        simp only [List.getElem_toArray, List.getElem_cons_succ, List.getElem_cons_zero, Act.put, List.setIfInBounds_toArray, List.set_cons_zero, List.set_cons_succ]
        refine wpAnyH_take (i := 5) (v := .pointer (some ⟨p, 0, none⟩)) rfl (by kernel_rfl) (by kernel_rfl) (by kernel_rfl) (fun _ _ _ h => h) (Or.inl ⟨by rfl, fun w hSw => by obtain ⟨hS1, hS2⟩ := hSw; go_simp⟩) (by assumption) ?_
        simp only [List.getElem_toArray, List.getElem_cons_succ, List.getElem_cons_zero, Act.put, List.setIfInBounds_toArray, List.set_cons_zero, List.set_cons_succ]
        refine wpAnyH_ready (rs := [6]) (by kernel_rfl) (by simp) (AllReadyH.cons rfl (fun K hK => ?_) AllReadyH.nil)
        refine step_call1J (by rfl) 35 ssec_enter (.tmp 26) _ rfl rfl (unhide HSC _ (unhide HSN _ HBD.out).1) ?_
        rintro e wn ⟨rfl, hwn⟩
        obtain rfl := hwn.symm
        clear hwn
        refine ⟨_, rfl, ?_⟩
        refine hK.out _ _ (unhide HS _ HBD.out) (fun hJ1 => ?_)
        clear hK K
        simp only [List.getElem_toArray, List.getElem_cons_succ, List.getElem_cons_zero, Act.put, List.setIfInBounds_toArray, List.set_cons_zero, List.set_cons_succ]
        refine wpAnyH_take (i := 7) (v := .bool false) rfl (by kernel_rfl) (by kernel_rfl) (by kernel_rfl) (fun _ _ _ h => h) (Or.inl ⟨by rfl, fun w hSw => by obtain ⟨hS1, hS2⟩ := hSw; go_simp⟩) (by assumption) ?_
        simp only [List.getElem_toArray, List.getElem_cons_succ, List.getElem_cons_zero, Act.put, List.setIfInBounds_toArray, List.set_cons_zero, List.set_cons_succ]
        refine wpAnyH_take (i := 8) (v := .bool false) rfl (by kernel_rfl) (by kernel_rfl) (by kernel_rfl) (fun _ _ _ h => h) (Or.inl ⟨by rfl, fun w hSw => by obtain ⟨hS1, hS2⟩ := hSw; go_simp⟩) (by assumption) ?_
        simp only [List.getElem_toArray, List.getElem_cons_succ, List.getElem_cons_zero, Act.put, List.setIfInBounds_toArray, List.set_cons_zero, List.set_cons_succ]
        refine wpAnyH_take (i := 9) (v := .bool false) rfl (by kernel_rfl) (by kernel_rfl) (by kernel_rfl) (fun _ _ _ h => h) (Or.inl ⟨by rfl, fun w hSw => by obtain ⟨hS1, hS2⟩ := hSw; go_simp⟩) (by assumption) ?_
        simp only [List.getElem_toArray, List.getElem_cons_succ, List.getElem_cons_zero, Act.put, List.setIfInBounds_toArray, List.set_cons_zero, List.set_cons_succ]
        refine wpAnyH_take (i := 10) (v := .agg (cs1).toArray) rfl (by kernel_rfl) (by kernel_rfl) (by kernel_rfl) (fun _ _ _ h => h) (yieldsIf_load_mid (by rfl) _ _ rfl _ _ rfl _ _ (fun w hSw => hSw.2) Tryd.underlying32 rfl hinf) (by assumption) ?_
        simp only [List.getElem_toArray, List.getElem_cons_succ, List.getElem_cons_zero, Act.put, List.setIfInBounds_toArray, List.set_cons_zero, List.set_cons_succ]
        refine wpAnyH_take (i := 12) (v := .int .i64 (i : Int)) rfl (by kernel_rfl) (by kernel_rfl) (by kernel_rfl) (fun _ _ _ h => h) (Or.inl ⟨by rfl, fun w hSw => by obtain ⟨hS1, hS2⟩ := hSw; go_simp⟩) (by assumption) ?_
        simp only [List.getElem_toArray, List.getElem_cons_succ, List.getElem_cons_zero, Act.put, List.setIfInBounds_toArray, List.set_cons_zero, List.set_cons_succ]
        refine wpAnyH_ready (rs := [11]) (by kernel_rfl) (by simp) (AllReadyH.cons rfl (fun K hK => ?_) AllReadyH.nil)
        refine step_call1J (by rfl) 36 spl_enter (.tmp 31) _ rfl rfl (unhide HPL _) ?_
        rintro e wp ⟨rfl, hbp⟩
        have HBpl := hide (below_then HBD.out hbp)
        clear hbp
        refine ⟨_, rfl, ?_⟩
        refine hK.out _ _ (unhide HS _ HBpl.out) (fun hJ2 => ?_)
        clear hK K
        simp only [List.getElem_toArray, List.getElem_cons_succ, List.getElem_cons_zero, Act.put, List.setIfInBounds_toArray, List.set_cons_zero, List.set_cons_succ]
        refine wpAnyH_take (i := 13) (v := .bool true) rfl (by kernel_rfl) (by kernel_rfl) (by kernel_rfl) (fun _ _ _ h => h) (Or.inl ⟨by rfl, fun w hSw => by obtain ⟨hS1, hS2⟩ := hSw; go_simp⟩) (by assumption) ?_
        simp only [List.getElem_toArray, List.getElem_cons_succ, List.getElem_cons_zero, Act.put, List.setIfInBounds_toArray, List.set_cons_zero, List.set_cons_succ]
        refine wpAnyH_take (i := 14) (v := .bool true) rfl (by kernel_rfl) (by kernel_rfl) (by kernel_rfl) (fun _ _ _ h => h) (Or.inl ⟨by rfl, fun w hSw => by obtain ⟨hS1, hS2⟩ := hSw; go_simp⟩) (by assumption) ?_
        simp only [List.getElem_toArray, List.getElem_cons_succ, List.getElem_cons_zero, Act.put, List.setIfInBounds_toArray, List.set_cons_zero, List.set_cons_succ]
        refine wpAnyH_done (by kernel_rfl) ?_ _
        go_wp2_with (first
          | (refine wpList_bldJ rfl 32 rfl bldS0 ?_)
          | (refine wpList_storeJ rfl (.tmp 4) (.tmp 36) 32 rfl rfl rfl (unhide HSN _ HBpl.out).2.1 hinf0 hlen0 hone0 ?_; intro w9 hA9 hg9))
        have hA9' : Arr w9 g4 32 (slV .nul) := hA9
        obtain ⟨r1, r2⟩ := unhide HFN _ _ w9 HBpl.out hg9 hA9'
        refine bodyPost_ret (results_rowJ2 rfl rfl rfl hA9' Tryd.underlying32 rfl hinf0) rfl ?_
        rw [HR.out]
        exact ⟨rfl, r1, r2⟩
    · have HR := hide (sndO_not (n := N) (i := i) hd (fun hc => h1 hc.1))
      have hne : (s.sc != (N : Int)) = true := by simpa using h1
      generalize s.sc = x0 at *
      generalize slV s = cs1 at *
      clear hd he ht0 h1
      go_wp2_with fail
      refine wp_region_held_drew (S := fun W => W.cell? ⟨g8, 0, none⟩ = some (.int .i64 x0) ∧ W.rangeAt g8 0 cs1) (by kernel_rfl) (unhide HS _ HBD.out) (fun hHeld => ?_)
      refine wpAnyH_take (i := 0) (v := .int .i64 0) rfl (by kernel_rfl) (by kernel_rfl) (by kernel_rfl) (fun _ _ _ h => h) (Or.inl ⟨by rfl, fun w hSw => by obtain ⟨hS1, hS2⟩ := hSw; go_simp⟩) (by assumption) ?_
      simp only [List.getElem_toArray, List.getElem_cons_zero, Act.put, List.setIfInBounds_toArray, List.set_cons_zero, List.set_cons_succ]
      refine wpAnyH_take (i := 1) (v := .bool false) rfl (by kernel_rfl) (by kernel_rfl) (by kernel_rfl) (fun _ _ _ h => h) (Or.inl ⟨by rfl, fun w hSw => by obtain ⟨hS1, hS2⟩ := hSw; go_simp⟩) (by assumption) ?_
      simp only [List.getElem_toArray, List.getElem_cons_succ, List.getElem_cons_zero, Act.put, List.setIfInBounds_toArray, List.set_cons_zero, List.set_cons_succ]
      refine wpAnyH_take (i := 2) (v := .bool false) rfl (by kernel_rfl) (by kernel_rfl) (by kernel_rfl) (fun _ _ _ h => h) (Or.inl ⟨by rfl, fun w hSw => by obtain ⟨hS1, hS2⟩ := hSw; go_simp⟩) (by assumption) ?_
      simp only [List.getElem_toArray, List.getElem_cons_succ, List.getElem_cons_zero, Act.put, List.setIfInBounds_toArray, List.set_cons_zero, List.set_cons_succ]
      refine wpAnyH_take (i := 3) (v := .pointer (some ⟨g8, 0, none⟩)) rfl (by kernel_rfl) (by kernel_rfl) (by kernel_rfl) (fun _ _ _ h => h) (Or.inl ⟨by rfl, fun w hSw => by obtain ⟨hS1, hS2⟩ := hSw; go_simp⟩) (by assumption) ?_
      simp only [List.getElem_toArray, List.getElem_cons_succ, List.getElem_cons_zero, Act.put, List.setIfInBounds_toArray, List.set_cons_zero, List.set_cons_succ]
      refine wpAnyH_take (i := 4) (v := .int .i64 x0) rfl (by kernel_rfl) (by kernel_rfl) (by kernel_rfl) (fun _ _ _ h => h) (Or.inl ⟨by rfl, fun w hSw => by obtain ⟨hS1, hS2⟩ := hSw; go_simp⟩) (by assumption) ?_
      simp only [List.getElem_toArray, List.getElem_cons_succ, List.getElem_cons_zero, Act.put, List.setIfInBounds_toArray, List.set_cons_zero, List.set_cons_succ]
      refine wpAnyH_take (i := 5) (v := .pointer (some ⟨p, 0, none⟩)) rfl (by kernel_rfl) (by kernel_rfl) (by kernel_rfl) (fun _ _ _ h => h) (Or.inl ⟨by rfl, fun w hSw => by obtain ⟨hS1, hS2⟩ := hSw; go_simp⟩) (by assumption) ?_
      simp only [List.getElem_toArray, List.getElem_cons_succ, List.getElem_cons_zero, Act.put, List.setIfInBounds_toArray, List.set_cons_zero, List.set_cons_succ]
      refine wpAnyH_ready (rs := [6]) (by kernel_rfl) (by simp) (AllReadyH.cons rfl (fun K hK => ?_) AllReadyH.nil)
      refine step_call1J (by rfl) 35 ssec_enter (.tmp 26) _ rfl rfl (unhide HSC _ (unhide HSN _ HBD.out).1) ?_
      rintro e wn ⟨rfl, hwn⟩
      obtain rfl := hwn.symm
      clear hwn
      refine ⟨_, rfl, ?_⟩
      refine hK.out _ _ (unhide HS _ HBD.out) (fun hJ1 => ?_)
      clear hK K
      simp only [List.getElem_toArray, List.getElem_cons_succ, List.getElem_cons_zero, Act.put, List.setIfInBounds_toArray, List.set_cons_zero, List.set_cons_succ]
      refine wpAnyH_take (i := 7) (v := .bool true) rfl (by kernel_rfl) (by kernel_rfl) (by kernel_rfl) (fun _ _ _ h => h) (Or.inl ⟨by rfl, fun w hSw => by obtain ⟨hS1, hS2⟩ := hSw; go_simp⟩) (by assumption) ?_
      simp only [List.getElem_toArray, List.getElem_cons_succ, List.getElem_cons_zero, Act.put, List.setIfInBounds_toArray, List.set_cons_zero, List.set_cons_succ]
      refine wpAnyH_take (i := 8) (v := .bool true) rfl (by kernel_rfl) (by kernel_rfl) (by kernel_rfl) (fun _ _ _ h => h) (Or.inl ⟨by rfl, fun w hSw => by obtain ⟨hS1, hS2⟩ := hSw; go_simp⟩) (by assumption) ?_
      simp only [List.getElem_toArray, List.getElem_cons_succ, List.getElem_cons_zero, Act.put, List.setIfInBounds_toArray, List.set_cons_zero, List.set_cons_succ]
      refine wpAnyH_take (i := 9) (v := .bool true) rfl (by kernel_rfl) (by kernel_rfl) (by kernel_rfl) (fun _ _ _ h => h) (Or.inl ⟨by rfl, fun w hSw => by obtain ⟨hS1, hS2⟩ := hSw; go_simp⟩) (by assumption) ?_
      simp only [List.getElem_toArray, List.getElem_cons_succ, List.getElem_cons_zero, Act.put, List.setIfInBounds_toArray, List.set_cons_zero, List.set_cons_succ]
      refine wpAnyH_take (i := 10) (v := undef) rfl (by kernel_rfl) (by kernel_rfl) (by kernel_rfl) (fun _ _ _ h => h) (Or.inr ⟨by rfl, rfl⟩) (by assumption) ?_
      simp only [List.getElem_toArray, List.getElem_cons_succ, List.getElem_cons_zero, Act.put, List.setIfInBounds_toArray, List.set_cons_zero, List.set_cons_succ]
      refine wpAnyH_take (i := 11) (v := undef) rfl (by kernel_rfl) (by kernel_rfl) (by kernel_rfl) (fun _ _ _ h => h) (Or.inr ⟨by rfl, rfl⟩) (by assumption) ?_
      simp only [List.getElem_toArray, List.getElem_cons_succ, List.getElem_cons_zero, Act.put, List.setIfInBounds_toArray, List.set_cons_zero, List.set_cons_succ]
      refine wpAnyH_take (i := 12) (v := undef) rfl (by kernel_rfl) (by kernel_rfl) (by kernel_rfl) (fun _ _ _ h => h) (Or.inr ⟨by rfl, rfl⟩) (by assumption) ?_
      simp only [List.getElem_toArray, List.getElem_cons_succ, List.getElem_cons_zero, Act.put, List.setIfInBounds_toArray, List.set_cons_zero, List.set_cons_succ]
      refine wpAnyH_take (i := 13) (v := undef) rfl (by kernel_rfl) (by kernel_rfl) (by kernel_rfl) (fun _ _ _ h => h) (Or.inr ⟨by rfl, rfl⟩) (by assumption) ?_
      simp only [List.getElem_toArray, List.getElem_cons_succ, List.getElem_cons_zero, Act.put, List.setIfInBounds_toArray, List.set_cons_zero, List.set_cons_succ]
      refine wpAnyH_take (i := 14) (v := .bool true) rfl (by kernel_rfl) (by kernel_rfl) (by kernel_rfl) (fun _ _ _ h => h) (Or.inl ⟨by rfl, fun w hSw => by obtain ⟨hS1, hS2⟩ := hSw; go_simp⟩) (by assumption) ?_
      simp only [List.getElem_toArray, List.getElem_cons_succ, List.getElem_cons_zero, Act.put, List.setIfInBounds_toArray, List.set_cons_zero, List.set_cons_succ]
      refine wpAnyH_done (by kernel_rfl) ?_ _
      go_wp2_with (first
        | (refine wpList_bldJ rfl 32 rfl bldS0 ?_)
        | (refine wpList_storeJ rfl (.tmp 4) (.tmp 36) 32 rfl rfl rfl (unhide HSN _ HBD.out).2.1 hinf0 hlen0 hone0 ?_; intro w9 hA9 hg9))
      have hA9' : Arr w9 g4 32 (slV .nul) := hA9
      obtain ⟨r1, r2⟩ := unhide HFN _ _ w9 HBD.out hg9 hA9'
      refine bodyPost_ret (results_rowJ2 rfl rfl rfl hA9' Tryd.underlying32 rfl hinf0) rfl ?_
      rw [HR.out]
      exact ⟨rfl, r1, r2⟩
end Go.Proofs.YtpeopejnkbmcdaaDoor

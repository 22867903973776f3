/- ChainReads: the document's reading whole: its pure part, its memory; what is refused. ChainReads: the document's reading whole. -/
import Derived.Test.YtdalbalphagmfaaGreatDoorTE
import Derived.Test.YtdalbalphagmfaaGreatDoorSJ
namespace Go.Proofs.YtdalbalphagmfaaGreatDoor
open Go.RowKit Go.Maps

/-- A reading by a loop. -/
structure Rlp (N : Nat → List Int) (hs : List Int) (fi le : Int) (heap n k : Nat) (G : RS) (i : Nat) (ns : List Nat) (bs : List Int) (at_ : Nat) : Prop where
 len : ns.length = i
 byl : bs.length ≤ 480 * i
 go : i < k → ∃ St : RS, Rj heap n St ∧ St.ns = ns ∧ St.by_ = bs ∧ St.nx = at_ ∧ goS N hs fi le heap n (k - i) St = G
 fin : i = k → G.ns = ns ∧ (shaOf bs = hs → G.by_ = bs ∧ G.br = 0) ∧ (shaOf bs ≠ hs → G.by_ = [] ∧ G.br = fi)
section
variable {N : Nat → List Int} {hs : List Int} {fi le : Int} {heap n k : Nat} {G : RS} {i : Nat} {ns : List Nat} {bs : List Int} {at_ : Nat}
theorem Rlp.begin {f0 : Nat} (h : heap ≤ f0 ∧ f0 < n) (hk : 1 ≤ k) : Rlp N hs fi le heap n k (goS N hs fi le heap n k (begS heap n f0)) 0 [] [] f0 :=
 ⟨rfl, Nat.zero_le _, fun _ => ⟨begS heap n f0, rj_begin h, rfl, rfl, rfl, rfl⟩, fun e => by omega⟩
theorem Rlp.no (h : Rlp N hs fi le heap n k G i ns bs at_) (hi : i < k) (hk : secN le = (k : Int)) (h1 : 1 ≤ heap) (hn : n ≤ 65536) (hb : ∀ x ∈ N at_, 0 ≤ x ∧ x ≤ 255) (hl : lookI (N at_) hs le i heap n (ns ++ [at_]) = none) : G.ns = ns ++ [at_] ∧ G.by_ = [] ∧ G.br = (at_ : Int) := by
 obtain ⟨St, hj, rfl, rfl, rfl, rfl⟩ := h.go hi
 have hln := h.len
 have hlf := look_fits (hs := hs) (le := le) hj h1 hn (by rw [hln, hk]; omega) hb
 have hf : ¬ fits (N St.nx) hs le heap n St := fun hf => by rw [if_pos hf, hln, hl] at hlf; cases hlf
 have hat := hj.at_
 obtain ⟨m, hm⟩ : ∃ m, k - i = m + 1 := ⟨k - i - 1, by omega⟩
 rw [hm]
 have e : goS N hs fi le heap n (m + 1) St = readS (N St.nx) hs fi le heap n St := by
  unfold goS
  rw [if_pos (Or.inl (by rw [readS_no hf]; show ((St.nx : Nat) : Int) ≠ 0; omega))]
 rw [e, readS_no hf]
 exact ⟨rfl, rfl, rfl⟩
theorem Rlp.at_lt (h : Rlp N hs fi le heap n k G i ns bs at_) (hi : i < k) : heap ≤ at_ ∧ at_ < n := by
 obtain ⟨St, hj, _, _, rfl, _⟩ := h.go hi
 exact hj.at_
theorem Rlp.yes (h : Rlp N hs fi le heap n k G i ns bs at_) (hi : i < k) (hk : secN le = (k : Int)) (h1 : 1 ≤ heap) (hn : n ≤ 65536) (hfi : fi ≠ 0) (hb : ∀ x ∈ N at_, 0 ≤ x ∧ x ≤ 255) {pt : List Int} {nx : Nat} (hl : lookI (N at_) hs le i heap n (ns ++ [at_]) = some (pt, nx)) : Rlp N hs fi le heap n k G (i + 1) (ns ++ [at_]) (bs ++ pt) nx := by
 obtain ⟨St, hj, rfl, rfl, rfl, rfl⟩ := h.go hi
 have hln := h.len
 have hns : (St.ns.length : Int) < secN le := by rw [hln, hk]; omega
 have hlf := look_fits (hs := hs) (le := le) hj h1 hn hns hb
 have hf : fits (N St.nx) hs le heap n St := Classical.byContradiction fun hf => by rw [if_neg hf, hln, hl] at hlf; cases hlf
 rw [if_pos hf, hln, hl] at hlf
 injection hlf with hlf
 injection hlf with e1 e2
 subst e1 e2
 obtain ⟨m, hm⟩ : ∃ m, k - i = m + 1 := ⟨k - i - 1, by omega⟩
 have hm2 : k - (i + 1) = m := by omega
 have hrn := readS_ns (N St.nx) hs fi le heap n St
 have hrl : (readS (N St.nx) hs fi le heap n St).ns.length = i + 1 := by rw [hrn, List.length_append, List.length_singleton, hln]
 have hc := cnt_ok (le := le) (place := (i : Int)) (by omega) (by omega)
 have hp : (partOf (N St.nx) le i).length ≤ 480 := by unfold partOf; rw [List.length_take]; omega
 refine ⟨by rw [List.length_append, List.length_singleton, hln], by have := h.byl; rw [List.length_append]; omega, fun hi2 => ?_, fun hi2 => ?_⟩
 · have h2 : ¬ ((St.ns.length : Int) + 1 = secN le ∧ shaOf (St.by_ ++ partOf (N St.nx) le St.ns.length) ≠ hs) := fun h => by have := h.1; omega
   have e := readS_yes (fi := fi) hf h2
   have hne : ¬ ((readS (N St.nx) hs fi le heap n St).br ≠ 0 ∨ ((readS (N St.nx) hs fi le heap n St).ns.length : Int) = secN le) := by
    rintro (q | q)
    · rw [e] at q; exact q rfl
    · rw [hrl] at q; omega
   have hst := hj.step (fi := fi) hb hns (by unfold endR; exact decide_eq_false hne) h1 hfi
   refine ⟨_, hst.1, hrn, by rw [e, ← hln]; rfl, by rw [e]; rfl, ?_⟩
   rw [hm2, hm]
   show _ = goS N hs fi le heap n (m + 1) St
   unfold goS
   rw [if_neg hne]
   cases m <;> rfl
 · have e : goS N hs fi le heap n (k - i) St = readS (N St.nx) hs fi le heap n St := by
    rw [hm]
    unfold goS
    rw [if_pos (Or.inr (by rw [hrl]; omega))]
   rw [e]
   refine ⟨hrn, fun hs1 => ?_, fun hs1 => ?_⟩
   · rw [readS_yes hf (fun h => h.2 (by rw [hln]; exact hs1))]
     exact ⟨by show St.by_ ++ partOf (N St.nx) le St.ns.length = _; rw [hln], rfl⟩
   · rw [readS_bad hf ⟨by rw [hln]; omega, by rw [hln]; exact hs1⟩]
     exact ⟨rfl, rfl⟩
end
/-- What the document tells. -/
def tV (bv : Value) (bk er : Int) (nv : Value) (md : Bool) : List Value := [bv, .int .i64 bk, .int .i64 er, nv, .bool md]
theorem infoTold (l : List Value) (h : l.length = 5) : (Tryz.prog.info? 104).map (·.size) = some l.length := by rw [h]; kernel_rfl
theorem Arr.loadT {w : World} {g : Nat} {l : List Value} (h : Arr w g 104 l) (hl : l.length = 5) : (loadVar 104 ⟨g, 0, none⟩).run Tryz.prog w = .ok (.agg l.toArray) w :=
 run_loadVar_row _ _ 104 104 l.toArray (0, 0) _ h Tryz.underlying104 rfl (by simpa using infoTold l hl)
theorem results_told {fn : Func} {p : Tmp} {g : Nat} {tmps : Array Value} {w : World} {v : Value} (h : fn.results = #[.cell p 104]) (ha : tmps.getD p undef = .pointer (some ⟨g, 0, none⟩)) (hl : (loadVar 104 ⟨g, 0, none⟩).run Tryz.prog w = .ok v w) :
 (results fn tmps).run Tryz.prog w = .ok v w := by
 have ha' : tmps[p]?.getD undef = .pointer (some ⟨g, 0, none⟩) := by simpa using ha
 simp [results, h, asAddr, ha', hl]
theorem Wrote.up {w w' : World} {g : Nat} (h : Wrote w w' g) : Up (fun b => b = g) w w' := by
 have h9 := h.below g w ⟨rfl, rfl, rfl, Nat.le_refl _, fun _ _ => rfl⟩ (Nat.le_refl _)
 exact ⟨h9.os, h9.tape, h9.output, h9.size, fun q _ hq => h.other q hq⟩
section
variable {ops : Array Oper} {rest : List Oper} {o : Oper} {a : Act} {Q : Exit → Act → World → Prop} {w : World}
set_option maxRecDepth 100000 in
theorem wpList_appI7 (hgd : o.guard = none) (x y : Operand) (ho : o.op = .call { callee := .builtin .append, args := #[x, y], argTypes := #[23, 23] }) {B g : Nat} {v u : Value} {us : List Value} (hx : a.eval x = v) (hown : Row w B 3 v us) (hy : a.eval y = .slice (some ⟨g, 0, none⟩) 1 1)
 (hc : w.cell? ⟨g, 0, none⟩ = some u) (h1 : u.oneCell' = true) (hl : us.length ≤ 1000000) (hB : B ≤ w.heap.size)
 (hk : ∀ v' w', Row w' B 3 v' (us ++ [u]) → w.grownBy w' v.ownBlock → wpList Tryz.prog ops Q rest (a.put o.dst v') w') : wpList Tryz.prog ops Q (o :: rest) a w := by
 obtain ⟨i0, hi, hz0, hz1, hz2⟩ := info_parts infoI6
 refine wpList_plain hgd fun K hK => wp_append_own w x y 23 ho B 3 i0 _ 1 8 Tryz.underlying23 hi hz0 hz1 hz2 rfl (by decide) v us.length _ hx hown ⟨g, 0, none⟩ 1 1 [u] hy rfl (fun j z hu => ?_) (fun z hu => ?_) (by unfold maxLen; omega) (by omega) hB ?_
 · cases j with
   | zero =>
     injection hu with hu
     subst hu
     exact hc
   | succ j => simp at hu
 · rw [List.mem_singleton.1 hu]; exact h1
 · intro v' w' r1 r2 _
   refine hK _ _ (hk v' w' ?_ r2)
   unfold Row
   rw [List.length_append, List.length_singleton]
   exact r1
end
/-- The loop's memory. -/
structure Rl (w W : World) (S gR gt : Nat) (RV : List Value) (v nv : Value) (ns : List Nat) (bs : List Int) : Prop where
 ref : Arr W S 38 RV
 res : Arr W gR 104 (tV (.slice none 0 0) 0 0 (.slice none 0 0) false)
 tld : Arr W gt 104 (tV (.slice none 0 0) 0 0 nv true)
 num : Row W w.heap.size 3 nv (iV ns)
 own : Own8 W w.heap.size v bs
 bel : Below w.heap.size w W
 lo : w.heap.size ≤ S ∧ w.heap.size ≤ gR ∧ w.heap.size ≤ gt ∧ gR ≠ gt
section
variable {w W W1 W2 : World} {S gR gt : Nat} {RV : List Value} {v nv : Value} {ns : List Nat} {bs : List Int}
theorem Rl.below (h : Rl w W S gR gt RV v nv ns bs) (hb : Below W.heap.size W W1) : Rl w W1 S gR gt RV v nv ns bs :=
 ⟨h.ref.below hb, h.res.below hb, h.tld.below hb, owns_up h.num (Up.of_below (F := fun _ => False) hb) (fun _ _ h => h), h.own.below hb, h.bel.trans (hb.mono h.bel.size), h.lo⟩
theorem Rl.tyN (h : Rl w W S gR gt RV v nv ns bs) {b : Nat} (hb : nv.ownBlock = some b) : Ty W b 3 ∧ w.heap.size ≤ b := by
 obtain ⟨q, c, m, e⟩ := row_blk h.num hb
 exact ⟨⟨c, m, e⟩, q⟩
theorem Rl.tyP (h : Rl w W S gR gt RV v nv ns bs) {b : Nat} (hb : v.ownBlock = some b) : Ty W b 5 ∧ w.heap.size ≤ b := by
 obtain ⟨q, c, m, e⟩ := row_blk h.own.1 hb
 exact ⟨⟨c, m, e⟩, q⟩
theorem Rl.out {F : Nat → Prop} (h : Rl w W S gR gt RV v nv ns bs) (hu : Up F W W1) (hF : ∀ b, F b → w.heap.size ≤ b) : Below w.heap.size w W1 :=
 h.bel.trans (hu.below h.bel.size hF)
/-- A number is noted. -/
theorem Rl.number (h : Rl w W S gR gt RV v nv ns bs) (hb : Below W.heap.size W W1) {x : Nat} {nv' : Value} (hr : Row W2 w.heap.size 3 nv' (iV ns ++ [.int .i64 (x : Int)])) (hg : W1.grownBy W2 nv.ownBlock) : (W2.cell? ⟨gt, 3, none⟩ = some nv ∧ W2.frozen? ⟨gt, 3, none⟩ = false) ∧ Rl w (W2.setCell ⟨gt, 3, none⟩ nv') S gR gt RV v nv' (ns ++ [x]) bs := by
 have h1 := h.below hb
 have hu := up_own hg
 have hnF : ∀ {b : Nat} {t : TypeId}, Ty W1 b t → t ≠ 3 → ¬ nv.ownBlock = some b := fun hb ht e => ht (hb.one (h1.tyN e).1)
 have a1 := h1.tld.up hu (hnF h1.tld.ty (by decide))
 have hs : Up (fun b => b = gt) W2 (W2.setCell ⟨gt, 3, none⟩ nv') := up_set
 have hr' : Row W2 w.heap.size 3 nv' (iV (ns ++ [x])) := by
  have e : iV (ns ++ [x]) = iV ns ++ [.int .i64 (x : Int)] := by simp [iV]
  rw [e]; exact hr
 have hgt : Ty W2 gt 104 := a1.ty
 refine ⟨⟨arr_cell a1 rfl, a1.frozen 3⟩, (h1.ref.up hu (hnF h1.ref.ty (by decide))).up hs (fun e => ?_), (h1.res.up hu (hnF h1.res.ty (by decide))).up hs h.lo.2.2.2, a1.set 3 nv', owns_up hr' hs (fun b hb e => ?_), ?_, ?_, h.lo⟩
 · exact absurd ((h1.ref.up hu (hnF h1.ref.ty (by decide))).ty.one (e ▸ hgt)) (by decide)
 · obtain ⟨_, c, m, q⟩ := row_blk hr' hb
   have hq : Ty W2 b 3 := ⟨c, m, q⟩
   exact absurd (hq.one (e ▸ hgt)) (by decide)
 · have o2 : Own8 W2 w.heap.size v bs := ⟨owns_up h1.own.1 hu (fun b hb => hnF (h1.tyP hb).1 (by decide)), h1.own.2⟩
   refine ⟨owns_up o2.1 hs (fun b hb e => ?_), o2.2⟩
   obtain ⟨_, c, m, q⟩ := row_blk o2.1 hb
   have hq : Ty W2 b 5 := ⟨c, m, q⟩
   exact absurd (hq.one (e ▸ hgt)) (by decide)
 · have b2 : Below w.heap.size w W2 := h1.out hu (fun b hb => (h1.tyN hb).2)
   exact b2.trans (hs.below b2.size (fun b e => by have := h.lo; omega))
/-- A piece is noted. -/
theorem Rl.piece (h : Rl w W S gR gt RV v nv ns bs) {v' : Value} {pt : List Int} (hr : Own8 W2 w.heap.size v' (bs ++ pt)) (hg : W.grownBy W2 v.ownBlock) : Rl w W2 S gR gt RV v' nv ns (bs ++ pt) := by
 have hu := up_own hg
 have hnF : ∀ {b : Nat} {t : TypeId}, Ty W b t → t ≠ 5 → ¬ v.ownBlock = some b := fun hb ht e => ht (hb.one (h.tyP e).1)
 exact ⟨h.ref.up hu (hnF h.ref.ty (by decide)), h.res.up hu (hnF h.res.ty (by decide)), h.tld.up hu (hnF h.tld.ty (by decide)), owns_up h.num hu (fun b hb => hnF (h.tyN hb).1 (by decide)), hr, h.out hu (fun b hb => (h.tyP hb).2), h.lo⟩
/-- What is told lies behind the end. -/
theorem Rl.done (h : Rl w W S gR gt RV v nv ns bs) (hu : Up (fun b => b = gt ∨ b = gR) W W1) : Row W1 w.heap.size 3 nv (iV ns) ∧ Own8 W1 w.heap.size v bs ∧ Below w.heap.size w W1 := by
 have hnF : ∀ {b : Nat} {t : TypeId}, Ty W b t → t ≠ 104 → ¬ (b = gt ∨ b = gR) := fun hb ht e => by
  rcases e with e | e
  · exact ht (hb.one (e ▸ h.tld.ty))
  · exact ht (hb.one (e ▸ h.res.ty))
 exact ⟨owns_up h.num hu (fun b hb => hnF (h.tyN hb).1 (by decide)), ⟨owns_up h.own.1 hu (fun b hb => hnF (h.tyP hb).1 (by decide)), h.own.2⟩, h.out hu (fun b e => by have := h.lo; omega)⟩
end
section
variable {w : World} {hs : List Int} {fi le : Int} {ga : Option Addr} {n ca : Nat}
set_option maxRecDepth 100000 in
set_option maxHeartbeats 4000000 in
/-- A reading that is refused. -/
theorem rread_no {heap f : Int} (hh : hs.length = 32) (hf : RefE heap n fi le f) :
 Calls Tryz.prog 41 #[.slice ga n ca, .int .i64 heap, .agg (refV hs fi le).toArray] w fun e w' => e = .returned (.agg (tV (.slice none 0 0) (if f = 61 then fi else 0) f (.slice none 0 0) false).toArray) ∧ Below w.heap.size w w' := by
 obtain ⟨S, hS⟩ : ∃ S, w.heap.size = S := ⟨_, rfl⟩
 obtain ⟨w1, hw1⟩ : ∃ w1, w.alloc (.cells (refV hs fi le).toArray 38) = w1 := ⟨_, rfl⟩
 have hb1 : Below w.heap.size w w1 := by rw [← hw1]; exact (Below.refl _ _).alloc (Nat.le_refl _) _
 have hA1 : Arr w1 S 38 (refV hs fi le) := by rw [← hw1, ← hS]; exact Arr.new w _ _
 obtain ⟨w2, hw2⟩ : ∃ w2, w1.alloc (.cells (tV (.slice none 0 0) 0 0 (.slice none 0 0) false).toArray 104) = w2 := ⟨_, rfl⟩
 obtain ⟨gR, hgR⟩ : ∃ gR, w1.heap.size = gR := ⟨_, rfl⟩
 have hb12 : Below w1.heap.size w1 w2 := by rw [← hw2]; exact (Below.refl _ _).alloc (Nat.le_refl _) _
 have hA2 : Arr w2 gR 104 (tV (.slice none 0 0) 0 0 (.slice none 0 0) false) := by rw [← hw2, ← hgR]; exact Arr.new w1 _ _
 have c32 := arr_cell (hA1.below hb12) (ref_at32 hh).1
 have c33 := arr_cell (hA1.below hb12) (ref_at32 hh).2
 have hb2 : Below w.heap.size w w2 := hb1.trans (hb12.mono hb1.size)
 have HFIN : Hid (∀ w3, Wrote w2 w3 gR → Below w.heap.size w w3) := hide (fun w3 h3 => h3.below _ _ hb2 (by rw [← hgR]; exact hb1.size))
 have HLD : Hid (∀ w3 l, Arr w3 gR 104 l → l.length = 5 → (loadVar 104 ⟨gR, 0, none⟩).run Tryz.prog w3 = .ok (.agg l.toArray) w3) := hide (fun w3 l h hl => h.loadT hl)
 obtain ⟨RV, hRV⟩ : ∃ RV, refV hs fi le = RV := ⟨_, rfl⟩
 rw [hRV] at hw1 ⊢
 have HW1 := hide hw1
 have HS := hide hS
 have HW2 : Hid (w1.alloc (.cells #[.slice none 0 0, .int .i64 0, .int .i64 0, .slice none 0 0, .bool false] 104) = w2) := hide hw2
 have HGR := hide hgR
 clear hw1 hS hb1 hA1 hRV hw2 hgR hb12 hb2
 go_enter Tryz.func41, Tryz.ntmps41
 rcases hf with ⟨rfl, hf⟩ | ⟨rfl, h1, h2, hz⟩ | ⟨rfl, h1, h2, hz, hf⟩
 · have hiT := infoTold (tV (.slice none 0 0) 0 1 (.slice none 0 0) false) rfl
   have h1T : ∀ u ∈ tV (.slice none 0 0) 0 1 (.slice none 0 0) false, u.oneCell' = true := by simp [tV, Value.oneCell']
   by_cases h0 : heap < 1
   · clear hf
     go_wp2_with (first
      | (refine wpList_storeArr2 (cs' := tV (.slice none 0 0) 0 1 (.slice none 0 0) false) rfl (.tmp 6) (.tmp 23) 104 rfl rfl rfl hA2 hiT rfl h1T ?_; intro w3 hA3 hW3)
      | rw [HW1.out, HS.out]
      | rw [HW2.out, HGR.out])
     exact bodyPost_ret (v := .agg (tV (.slice none 0 0) 0 1 (.slice none 0 0) false).toArray) (results_told rfl rfl (unhide HLD w3 _ hA3 rfl)) rfl ⟨rfl, unhide HFIN w3 hW3⟩
   · have h2 : (n : Int) < heap := hf.resolve_left h0
     clear hf
     go_wp2_with (first
      | (refine wpList_storeArr2 (cs' := tV (.slice none 0 0) 0 1 (.slice none 0 0) false) rfl (.tmp 6) (.tmp 23) 104 rfl rfl rfl hA2 hiT rfl h1T ?_; intro w3 hA3 hW3)
      | rw [HW1.out, HS.out]
      | rw [HW2.out, HGR.out])
     exact bodyPost_ret (v := .agg (tV (.slice none 0 0) 0 1 (.slice none 0 0) false).toArray) (results_told rfl rfl (unhide HLD w3 _ hA3 rfl)) rfl ⟨rfl, unhide HFIN w3 hW3⟩
 · have hiT := infoTold (tV (.slice none 0 0) 0 2 (.slice none 0 0) false) rfl
   have h1T : ∀ u ∈ tV (.slice none 0 0) 0 2 (.slice none 0 0) false, u.oneCell' = true := by simp [tV, Value.oneCell']
   have h1n : ¬ heap < 1 := by omega
   have h2n : ¬ (n : Int) < heap := by omega
   have HSC : Hid (∀ W, Calls Tryz.prog 60 #[.int .i64 le] W fun e w' => e = .returned (.int .i64 0) ∧ w' = W) := hide (fun W => by rw [← hz]; exact refSectors_calls le W)
   clear hz
   go_wp2_with (first | rw [HW1.out, HS.out] | rw [HW2.out, HGR.out])
   refine (unhide HSC _).mono ?_
   rintro e wn ⟨rfl, hwn⟩
   obtain rfl := hwn.symm
   clear hwn
   go_wp2_with (refine wpList_storeArr2 (cs' := tV (.slice none 0 0) 0 2 (.slice none 0 0) false) rfl (.tmp 6) (.tmp 29) 104 rfl rfl rfl hA2 hiT rfl h1T ?_; intro w3 hA3 hW3)
   exact bodyPost_ret (v := .agg (tV (.slice none 0 0) 0 2 (.slice none 0 0) false).toArray) (results_told rfl rfl (unhide HLD w3 _ hA3 rfl)) rfl ⟨rfl, unhide HFIN w3 hW3⟩
 · have hiT := infoTold (tV (.slice none 0 0) fi 61 (.slice none 0 0) false) rfl
   have h1T : ∀ u ∈ tV (.slice none 0 0) fi 61 (.slice none 0 0) false, u.oneCell' = true := by simp [tV, Value.oneCell']
   have h1n : ¬ heap < 1 := by omega
   have h2n : ¬ (n : Int) < heap := by omega
   have hzb : (secN le == 0) = false := by simpa using hz
   by_cases h0 : fi < heap
   · clear hf
     go_wp2_with (first | rw [HW1.out, HS.out] | rw [HW2.out, HGR.out])
     refine (refSectors_calls le _).mono ?_
     rintro e wn ⟨rfl, hwn⟩
     obtain rfl := hwn.symm
     clear hwn
     go_wp2_with (refine wpList_storeArr2 (cs' := tV (.slice none 0 0) fi 61 (.slice none 0 0) false) rfl (.tmp 6) (.tmp 43) 104 rfl rfl rfl hA2 hiT rfl h1T ?_; intro w3 hA3 hW3)
     exact bodyPost_ret (v := .agg (tV (.slice none 0 0) fi 61 (.slice none 0 0) false).toArray) (results_told rfl rfl (unhide HLD w3 _ hA3 rfl)) rfl ⟨rfl, unhide HFIN w3 hW3⟩
   · have h3 : (n : Int) ≤ fi := hf.resolve_left h0
     clear hf
     go_wp2_with (first | rw [HW1.out, HS.out] | rw [HW2.out, HGR.out])
     refine (refSectors_calls le _).mono ?_
     rintro e wn ⟨rfl, hwn⟩
     obtain rfl := hwn.symm
     clear hwn
     go_wp2_with (refine wpList_storeArr2 (cs' := tV (.slice none 0 0) fi 61 (.slice none 0 0) false) rfl (.tmp 6) (.tmp 43) 104 rfl rfl rfl hA2 hiT rfl h1T ?_; intro w3 hA3 hW3)
     exact bodyPost_ret (v := .agg (tV (.slice none 0 0) fi 61 (.slice none 0 0) false).toArray) (results_told rfl rfl (unhide HLD w3 _ hA3 rfl)) rfl ⟨rfl, unhide HFIN w3 hW3⟩
end
set_option maxRecDepth 100000 in
set_option maxHeartbeats 4000000 in
/-- Get, refused. -/
theorem get_ref {w : World} {p : Nat} {heap f : Int} {hs : List Int} {fi le : Int} (hl : hs.length = 32) (hf : f = 1 ∨ f = 2) (hNR : ∀ W, Below w.heap.size w W → Calls Tryz.prog 69 #[.pointer (some ⟨p, 0, none⟩), .int .i64 heap, .agg (refV hs fi le).toArray] W fun e w' => e = .returned (.tuple #[.pointer none, .int .i64 f]) ∧ Below W.heap.size W w') :
 Calls Tryz.prog 36 #[.pointer (some ⟨p, 0, none⟩), .int .i64 heap, .agg (refV hs fi le).toArray] w fun e w' => e = .returned (.tuple #[.slice none 0 0, .int .i64 0, .int .i64 f]) ∧ Below w.heap.size w w' := by
 have hb0 := (Below.refl w.heap.size w).alloc (Nat.le_refl _) (.cells (refV hs fi le).toArray 38)
 have hA0 := Arr.new w (refV hs fi le) 38
 have hrng : (w.alloc (.cells (refV hs fi le).toArray 38)).rangeAt w.heap.size 0 (refV hs fi le) := arr_range (ds := []) (by rw [List.append_nil]; exact hA0)
 have hiR := infoRef hl fi le
 have hund := Tryz.underlying38
 have HNR := hide (hNR _ hb0)
 have HB0 := hide hb0
 have hf1 : (f == 61) = false := by rcases hf with rfl | rfl <;> rfl
 have hf2 : (f != 0) = true := by rcases hf with rfl | rfl <;> rfl
 clear hA0 hb0 hl hNR hf
 go_enter Tryz.func36, Tryz.ntmps36
 go_wp2_with (first
  | (refine wpList_load_mid rfl 38 (.tmp 5) rfl w.heap.size 0 rfl (refV hs fi le) _ hrng hund rfl hiR ?_))
 refine (unhide HNR).mono ?_
 rintro e w2 ⟨rfl, hb2⟩
 have HB2 := hide (below_then HB0.out hb2)
 clear hb2 hrng hiR hund HNR HB0
 go_wp2
 go_ret3
 exact ⟨rfl, HB2.out⟩
end Go.Proofs.YtdalbalphagmfaaGreatDoor

namespace Go.Proofs.YtdalbalphagmfaaGreatDoor
open Go.RowKit Go.Maps

section
variable {w : World} {ga ca n B0 heap f0 k : Nat} {us : List Value} {ims : List (List Int)} {hs : List Int} {le : Int}
set_option maxRecDepth 100000 in
set_option maxHeartbeats 16000000 in
/-- A reading that is begun. -/
theorem rread_yes (hI : Ig w B0 (.slice (some ⟨ga, 0, none⟩) n ca) us ims) (hnl : ims.length = n) (hh : hs.length = 32) (hhb : ∀ x ∈ hs, 0 ≤ x ∧ x ≤ 255) (hk : secN le = (k : Int)) (hk1 : 1 ≤ k) (h1 : 1 ≤ heap) (hf : heap ≤ f0 ∧ f0 < n) (hn2 : n ≤ 65536) :
 Calls Tryz.prog 41 #[.slice (some ⟨ga, 0, none⟩) n ca, .int .i64 (heap : Int), .agg (refV hs (f0 : Int) le).toArray] w fun e w' => ∃ ba bn bc na nn nc, e = .returned (.agg (tV (.slice ba bn bc) (goS (fun i => ims.getD i []) hs (f0 : Int) le heap n k (begS heap n f0)).br (outE (goS (fun i => ims.getD i []) hs (f0 : Int) le heap n k (begS heap n f0))) (.slice na nn nc) true).toArray) ∧ Own8 w' w.heap.size (.slice ba bn bc) (goS (fun i => ims.getD i []) hs (f0 : Int) le heap n k (begS heap n f0)).by_ ∧ Row w' w.heap.size 3 (.slice na nn nc) (iV (goS (fun i => ims.getD i []) hs (f0 : Int) le heap n k (begS heap n f0)).ns) ∧ Below w.heap.size w w' := by
 have hk9 := secN_hi le
 obtain ⟨N, hN⟩ : ∃ N : Nat → List Int, (fun i => ims.getD i []) = N := ⟨_, rfl⟩
 have hNi : ∀ i, N i = ims.getD i [] := fun i => by rw [← hN]
 rw [hN]
 have P0 := Rlp.begin (N := N) (hs := hs) (fi := (f0 : Int)) (le := le) (k := k) hf hk1
 obtain ⟨G, hG⟩ : ∃ G, goS N hs (f0 : Int) le heap n k (begS heap n f0) = G := ⟨_, rfl⟩
 rw [hG] at P0 ⊢
 have hfi : (f0 : Int) ≠ 0 := by omega
 obtain ⟨S, hS⟩ : ∃ S, w.heap.size = S := ⟨_, rfl⟩
 obtain ⟨w1, hw1⟩ : ∃ w1, w.alloc (.cells (refV hs (f0 : Int) le).toArray 38) = w1 := ⟨_, rfl⟩
 have hb1 : Below w.heap.size w w1 := by rw [← hw1]; exact (Below.refl _ _).alloc (Nat.le_refl _) _
 have hA1 : Arr w1 S 38 (refV hs (f0 : Int) le) := by rw [← hw1, ← hS]; exact Arr.new w _ _
 obtain ⟨w2, hw2⟩ : ∃ w2, w1.alloc (.cells (tV (.slice none 0 0) 0 0 (.slice none 0 0) false).toArray 104) = w2 := ⟨_, rfl⟩
 obtain ⟨gR, hgR⟩ : ∃ gR, w1.heap.size = gR := ⟨_, rfl⟩
 have hb12 : Below w1.heap.size w1 w2 := by rw [← hw2]; exact (Below.refl _ _).alloc (Nat.le_refl _) _
 have hA2 : Arr w2 gR 104 (tV (.slice none 0 0) 0 0 (.slice none 0 0) false) := by rw [← hw2, ← hgR]; exact Arr.new w1 _ _
 have hb2 : Below w.heap.size w w2 := hb1.trans (hb12.mono hb1.size)
 obtain ⟨gt, hgt⟩ : ∃ gt, w2.heap.size = gt := ⟨_, rfl⟩
 have c32 := arr_cell (hA1.below hb12) (ref_at32 hh).1
 have c33 := arr_cell (hA1.below hb12) (ref_at32 hh).2
 obtain ⟨RV, hRV⟩ : ∃ RV, refV hs (f0 : Int) le = RV := ⟨_, rfl⟩
 have hA12 := hA1.below hb12
 have hiR : (Tryz.prog.info? 38).map (·.size) = some RV.length := by rw [← hRV]; exact infoRef hh _ _
 have HKEY : Hid (∀ W, Arr W S 38 RV → W.rangeAt S 0 (hs.map (Value.int .u8)) ∧ W.cell? ⟨S, 32, none⟩ = some (.int .i64 (f0 : Int))) := hide (fun W hW => by
  rw [← hRV] at hW
  exact ⟨ref_key (arr_range (ds := []) (by rw [List.append_nil]; exact hW)), arr_cell hW (ref_at32 hh).1⟩)
 have HLK : Hid (∀ W, Below w.heap.size w W → ∀ i at_ sv ns B, i < k → at_ < n → Row W B 3 sv (iV ns) → ∃ ra rc, (∀ W2, Below W.heap.size W W2 → W2.cell? ⟨ga, at_, none⟩ = some (.slice ra 512 rc)) ∧ (∀ x ∈ N at_, 0 ≤ x ∧ x ≤ 255) ∧ ∀ W2, Below W.heap.size W W2 → Calls Tryz.prog 77 #[.slice ra 512 rc, .agg RV.toArray, .int .i64 (i : Int), .int .i64 (heap : Int), .int .i64 (n : Int), sv] W2 fun e w' => ∃ r, e = .returned r ∧ LookP (N at_) hs le i heap n ns W2 w' r) := hide (fun W hW i at_ sv ns B hi hat hr => by
  obtain ⟨ra, rc, q1, q2, _⟩ := (hI.below hW).at (j := at_) (by omega)
  refine ⟨ra, rc, fun W2 h2 => bkeptC h2 q1, by rw [hNi]; exact q2.mem, fun W2 h2 => ?_⟩
  rw [← hRV, hNi]
  exact look6_calls (q2.below h2) hh hhb (by rw [hk]; omega) (owns_up hr (Up.of_below (F := fun _ => False) h2) (fun _ _ h => h)))
 have HPN : Hid (∀ {i ns bs at_}, Rlp N hs (f0 : Int) le heap n k G i ns bs at_ → i < k → (∀ x ∈ N at_, 0 ≤ x ∧ x ≤ 255) → lookI (N at_) hs le i heap n (ns ++ [at_]) = none → G.ns = ns ++ [at_] ∧ G.by_ = [] ∧ G.br = (at_ : Int)) := hide (fun a1 a2 a3 a4 => a1.no a2 hk h1 hn2 a3 a4)
 have HPY : Hid (∀ {i ns bs at_}, Rlp N hs (f0 : Int) le heap n k G i ns bs at_ → i < k → (∀ x ∈ N at_, 0 ≤ x ∧ x ≤ 255) → ∀ {pt nx}, lookI (N at_) hs le i heap n (ns ++ [at_]) = some (pt, nx) → Rlp N hs (f0 : Int) le heap n k G (i + 1) (ns ++ [at_]) (bs ++ pt) nx) := hide (fun a1 a2 a3 _ _ a4 => a1.yes a2 hk h1 hn2 hfi a3 a4)
 rw [hRV] at hw1 hA12 ⊢
 have HRL0 : Hid (∀ w3 w4, w2.alloc (.cells (tV (.slice none 0 0) 0 0 (.slice none 0 0) false).toArray 104) = w3 → Arr w4 gt 104 (tV (.slice none 0 0) 0 0 (.slice none 0 0) true) → Wrote w3 w4 gt → Rl w w4 S gR gt RV (.slice none 0 0) (.slice none 0 0) [] []) := hide (fun w3 w4 e3 a4 hW => by
  have hb3 : Below w2.heap.size w2 w3 := by rw [← e3]; exact (Below.refl _ _).alloc (Nat.le_refl _) _
  have s1 := hb1.size
  have s2 := hb12.size
  have l1 := hA12.lt
  have l2 := hA2.lt
  refine ⟨(hA12.below hb3).wrote hW (by omega), (hA2.below hb3).wrote hW (by omega), a4, Row.nil _ _ _, Own8.nil _ _, hW.below _ _ (hb2.trans (hb3.mono hb2.size)) (by omega), by omega, by omega, by omega, by omega⟩)
 have HG1 : Hid (k ≤ 2185 ∧ secN le = (k : Int) ∧ hs.length = 32) := hide ⟨by omega, hk, hh⟩
 have HW1 := hide hw1
 have HS := hide hS
 have HW2 : Hid (w1.alloc (.cells #[.slice none 0 0, .int .i64 0, .int .i64 0, .slice none 0 0, .bool false] 104) = w2) := hide hw2
 have HGR := hide hgR
 have HGT := hide hgt
 have HP0 := hide P0
 have h1n : ¬ (heap : Int) < 1 := by omega
 have h2n : ¬ (n : Int) < (heap : Int) := by omega
 have h3n : ¬ (f0 : Int) < (heap : Int) := by omega
 have h4n : ¬ (n : Int) ≤ (f0 : Int) := by omega
 have hkz : ((k : Int) == 0) = false := by simp; omega
 have HSC : Hid (∀ W, Calls Tryz.prog 60 #[.int .i64 le] W fun e w' => e = .returned (.int .i64 (k : Int)) ∧ w' = W) := hide (fun W => by rw [← hk]; exact refSectors_calls le W)
 have hA3 := Arr.new w2 (tV (.slice none 0 0) 0 0 (.slice none 0 0) false) 104
 rw [hgt] at hA3
 obtain ⟨w3, hw3⟩ : ∃ w3, w2.alloc (.cells (tV (.slice none 0 0) 0 0 (.slice none 0 0) false).toArray 104) = w3 := ⟨_, rfl⟩
 rw [hw3] at hA3
 have HW3 : Hid (w2.alloc (.cells #[.slice none 0 0, .int .i64 0, .int .i64 0, .slice none 0 0, .bool false] 104) = w3) := hide hw3
 have hiT := infoTold (tV (.slice none 0 0) 0 0 (.slice none 0 0) true) rfl
 have h1T : ∀ u ∈ tV (.slice none 0 0) 0 0 (.slice none 0 0) true, u.oneCell' = true := by simp [tV, Value.oneCell']
 have hca : n ≤ ca ∧ ca ≤ 9223372036854775807 := by
  obtain ⟨_, _, hve, _, q1, q2⟩ := hI.shape (by omega)
  injection hve with _ _ e3
  subst e3
  exact ⟨by omega, q2⟩
 obtain ⟨hca1, hca2⟩ := hca
 have hkI : (k : Int) ≤ 2185 := by omega
 clear hw1 hS hb1 hA1 hA12 hRV hw2 hgR hgt hb12 hb2 hA2 P0 hG hI hnl hh hhb hk hf h1 hn2 hfi hN hNi hk9 hw3
 go_enter Tryz.func41, Tryz.ntmps41
 go_wp2_with (first | rw [HW1.out, HS.out] | rw [HW2.out, HGR.out])
 refine (unhide HSC _).mono ?_
 rintro e wn ⟨rfl, hwn⟩
 obtain rfl := hwn.symm
 clear hwn HSC
 go_wp2_with (first
  | (refine wpList_storeArr2 (cs' := tV (.slice none 0 0) 0 0 (.slice none 0 0) true) rfl (.tmp 8) (.tmp 44) 104 rfl rfl rfl hA3 hiT rfl h1T ?_; intro w4 hA4 hW4
     have HRL := hide (unhide HRL0 w3 w4 HW3.out hA4 hW4)
     have c32 := (unhide HKEY w4 HRL.out.ref).2
     clear hA4 hW4 hA3 HRL0)
  | rw [HW3.out, HGT.out])
 go_loopw [9, 10, 11] (fun av bv iv W => ∃ (i at_ : Nat) (ba : Option Addr) (bn bc : Nat), i ≤ k ∧ av = .int .i64 (at_ : Int) ∧ bv = .slice ba bn bc ∧ iv = .int .i64 (i : Int) ∧ Hid (∃ nv ns bs, Rl w W S gR gt RV (.slice ba bn bc) nv ns bs ∧ Rlp N hs (f0 : Int) le heap n k G i ns bs at_)) (fun _ _ iv _ => k - (intOf iv).toNat)
 case atStart => exact ⟨0, f0, none, 0, 0, by omega, rfl, rfl, rfl, hide ⟨_, _, _, HRL.out, HP0.out⟩⟩
 case round =>
  clear HRL HP0 c32
  obtain ⟨i, at_, ba, bn, bc, hik, rfl, rfl, rfl, HI⟩ := hrel
  by_cases hlt : i < k
  · obtain ⟨nv, ns, bs, hL, hP⟩ := HI.out
    obtain ⟨hat1, hat⟩ := hP.at_lt hlt
    obtain ⟨na, nc, hnv⟩ := hL.num.shape
    rw [iV_len, hP.len] at hnv
    subst hnv
    obtain ⟨i1, hi1⟩ : ∃ i1, i + 1 = i1 := ⟨_, rfl⟩
    obtain ⟨w5, hw5⟩ : ∃ w5, wr.alloc (.cells #[.int .i64 (at_ : Int)] 3) = w5 := ⟨_, rfl⟩
    have hb5 : Below wr.heap.size wr w5 := by rw [← hw5]; exact (Below.refl _ _).alloc (Nat.le_refl _) _
    have hcn : w5.cell? ⟨wr.heap.size, 0, none⟩ = some (.int .i64 (at_ : Int)) := by rw [← hw5]; exact arr_cell (Arr.new wr [.int .i64 (at_ : Int)] 3) rfl
    have hc3 : wr.cell? ⟨gt, 3, none⟩ = some (.slice na i nc) := arr_cell hL.tld rfl
    have HROW := hide (owns_up hL.num (Up.of_below (F := fun _ => False) hb5) (fun _ _ h => h))
    have HLN : Hid ((iV ns).length ≤ 1000000) := hide (by rw [iV_len, hP.len]; omega)
    have HSZ : Hid (w.heap.size ≤ w5.heap.size) := hide (Nat.le_trans hL.bel.size hb5.size)
    have HNUM : Hid (∀ w6 nv2, Row w6 w.heap.size 3 nv2 (iV ns ++ [.int .i64 (at_ : Int)]) → w5.grownBy w6 (Value.slice na i nc).ownBlock → (w6.cell? ⟨gt, 3, none⟩ = some (.slice na i nc) ∧ w6.frozen? ⟨gt, 3, none⟩ = false) ∧ ∃ na2 nc2, nv2 = .slice na2 i1 nc2 ∧ Hid (Rl w (w6.setCell ⟨gt, 3, none⟩ (.slice na2 i1 nc2)) S gR gt RV (.slice ba bn bc) (.slice na2 i1 nc2) (ns ++ [at_]) bs)) := hide (fun w6 nv2 hr hg => by
     obtain ⟨p1, p2⟩ := hL.number hb5 hr hg
     obtain ⟨a2, c2, hv⟩ := hr.shape
     rw [List.length_append, iV_len, hP.len, List.length_singleton, hi1] at hv
     subst hv
     exact ⟨p1, a2, c2, rfl, hide p2⟩)
    have HP := hide hP
    have HW5 := hide hw5
    have HI1 := hide hi1
    clear hL hP hb5 hw5 HI hi1
    go_wp2_with (at_builtin; rw [HW5.out]; refine wpList_appI7 rfl (.tmp 53) (.tmp 55) rfl rfl HROW.out rfl hcn rfl HLN.out HSZ.out ?_; intro nv2 w6 hr6 hg6
                 obtain ⟨⟨hc6, hf6⟩, na2, nc2, hv2, HL7⟩ := unhide HNUM w6 nv2 hr6 hg6
                 subst hv2
                 clear hr6 hg6)
    obtain ⟨w7, hw7⟩ : ∃ w7, w6.setCell ⟨gt, 3, none⟩ (.slice na2 i1 nc2) = w7 := ⟨_, rfl⟩
    rw [hw7] at HL7 ⊢
    have HW7 := hide hw7
    clear hw7 hc6 hf6 hc3 HROW HLN HSZ HNUM hcn HW5
    obtain ⟨ra, rc, q1, q2, q3⟩ := unhide HLK w7 HL7.out.bel i at_ _ _ _ hlt hat HL7.out.num
    have HS15 : Hid (∀ W, Below w7.heap.size w7 W → W.rangeAt S 0 RV ∧ W.cell? ⟨ga, at_, none⟩ = some (.slice ra 512 rc) ∧ W.cell? ⟨gt, 3, none⟩ = some (.slice na2 i1 nc2)) := hide (fun W hW => ⟨arr_range (ds := []) (by rw [List.append_nil]; exact HL7.out.ref.below hW), q1 W hW, arr_cell (HL7.out.tld.below hW) rfl⟩)
    have HLC := hide q3
    have HBY := hide q2
    have hy0 : Below w7.heap.size w7 w7.drew := (Below.refl _ _).drew
    clear q1 q2 q3
    rcases hlk : lookI (N at_) hs le i heap n (ns ++ [at_]) with _ | ⟨pt, nx⟩
    · have HLN2 : Hid (∀ W, Below w7.heap.size w7 W → Calls Tryz.prog 77 #[.slice ra 512 rc, .agg RV.toArray, .int .i64 (i : Int), .int .i64 (heap : Int), .int .i64 (n : Int), .slice na2 i1 nc2] W fun e w' => e = .returned (.tuple #[.slice none 0 0, .int .i64 0, .bool false]) ∧ Below W.heap.size W w') := hide (fun W hW => by
       refine (unhide HLC W hW).mono ?_
       rintro e w' ⟨r, rfl, hP⟩
       rw [hP.no hlk]
       exact ⟨rfl, hP.bel⟩)
      have HGE := hide (unhide HPN HP.out hlt HBY.out hlk)
      clear hlk HLC HPY HPN HLK HBY HP
      refine wp_region_held_drew (S := fun W => W.rangeAt S 0 RV ∧ W.cell? ⟨ga, at_, none⟩ = some (.slice ra 512 rc) ∧ W.cell? ⟨gt, 3, none⟩ = some (.slice na2 i1 nc2)) (by kernel_rfl) (unhide HS15 _ hy0) (fun hHeld => ?_)
      refine wpAnyH_take (i := 0) (v := .slice (some ⟨ga, 0, none⟩) n ca) rfl (by kernel_rfl) (by kernel_rfl) (by kernel_rfl) (fun _ _ _ h => h) (Or.inl ⟨by rfl, fun w hSw => by obtain ⟨hS1, hS2, hS3⟩ := hSw; go_simp⟩) (by assumption) ?_
      simp only [fGa, fGz, Act.put, fSa, fSz, fSs]
      refine wpAnyH_take (i := 1) (v := .int .i64 (at_ : Int)) rfl (by kernel_rfl) (by kernel_rfl) (by kernel_rfl) (fun _ _ _ h => h) (Or.inl ⟨by rfl, fun w hSw => by obtain ⟨hS1, hS2, hS3⟩ := hSw; go_simp⟩) (by assumption) ?_
      simp only [fGa, fGs, fGz, Act.put, fSa, fSz, fSs]
      refine wpAnyH_take (i := 2) (v := .pointer (some ⟨ga, at_, none⟩)) rfl (by kernel_rfl) (by kernel_rfl) (by kernel_rfl) (fun _ _ _ h => h) (Or.inl ⟨by rfl, fun w hSw => by obtain ⟨hS1, hS2, hS3⟩ := hSw; go_simp⟩) (by assumption) ?_
      simp only [fGa, fGs, fGz, Act.put, fSa, fSz, fSs]
      refine wpAnyH_take (i := 3) (v := .slice (ra) 512 rc) rfl (by kernel_rfl) (by kernel_rfl) (by kernel_rfl) (fun _ _ _ h => h) (Or.inl ⟨by rfl, fun w hSw => by obtain ⟨hS1, hS2, hS3⟩ := hSw; go_simp⟩) (by assumption) ?_
      simp only [fGa, fGs, fGz, Act.put, fSa, fSz, fSs]
      refine wpAnyH_take (i := 4) (v := .agg (RV).toArray) rfl (by kernel_rfl) (by kernel_rfl) (by kernel_rfl) (fun _ _ _ h => h) (yieldsIf_load_mid (by rfl) _ _ rfl _ _ rfl _ _ (fun w hSw => hSw.1) Tryz.underlying38 rfl hiR) (by assumption) ?_
      simp only [fGa, fGs, fGz, Act.put, fSa, fSz, fSs]
      refine wpAnyH_take (i := 5) (v := .int .i64 (i : Int)) rfl (by kernel_rfl) (by kernel_rfl) (by kernel_rfl) (fun _ _ _ h => h) (Or.inl ⟨by rfl, fun w hSw => by obtain ⟨hS1, hS2, hS3⟩ := hSw; go_simp⟩) (by assumption) ?_
      simp only [fGa, fGs, fGz, Act.put, fSa, fSz, fSs]
      refine wpAnyH_take (i := 6) (v := .int .i64 (heap : Int)) rfl (by kernel_rfl) (by kernel_rfl) (by kernel_rfl) (fun _ _ _ h => h) (Or.inl ⟨by rfl, fun w hSw => by obtain ⟨hS1, hS2, hS3⟩ := hSw; go_simp⟩) (by assumption) ?_
      simp only [fGa, fGs, fGz, Act.put, fSa, fSz, fSs]
      refine wpAnyH_take (i := 7) (v := .slice (some ⟨ga, 0, none⟩) n ca) rfl (by kernel_rfl) (by kernel_rfl) (by kernel_rfl) (fun _ _ _ h => h) (Or.inl ⟨by rfl, fun w hSw => by obtain ⟨hS1, hS2, hS3⟩ := hSw; go_simp⟩) (by assumption) ?_
      simp only [fGa, fGs, fGz, Act.put, fSa, fSz, fSs]
      refine wpAnyH_take (i := 8) (v := .int .i64 (n : Int)) rfl (by kernel_rfl) (by kernel_rfl) (by kernel_rfl) (fun _ _ _ h => h) (Or.inl ⟨by rfl, fun w hSw => by obtain ⟨hS1, hS2, hS3⟩ := hSw; go_simp⟩) (by assumption) ?_
      simp only [fGa, fGs, fGz, Act.put, fSa, fSz, fSs]
      refine wpAnyH_take (i := 9) (v := .pointer (some ⟨gt, 3, none⟩)) rfl (by kernel_rfl) (by kernel_rfl) (by kernel_rfl) (fun _ _ _ h => h) (Or.inl ⟨by rfl, fun w hSw => by obtain ⟨hS1, hS2, hS3⟩ := hSw; go_simp⟩) (by assumption) ?_
      simp only [fGa, fGs, fGz, Act.put, fSa, fSz, fSs]
      refine wpAnyH_take (i := 10) (v := .slice (na2) i1 nc2) rfl (by kernel_rfl) (by kernel_rfl) (by kernel_rfl) (fun _ _ _ h => h) (Or.inl ⟨by rfl, fun w hSw => by obtain ⟨hS1, hS2, hS3⟩ := hSw; go_simp⟩) (by assumption) ?_
      simp only [fGa, fGs, fGz, Act.put, fSa, fSz, fSs]
      refine wpAnyH_ready (rs := [11]) (by kernel_rfl) (by simp) (AllReadyH.cons rfl (fun K hK => ?_) AllReadyH.nil)
      refine step_call6C (by rfl) 77 look_enter6 (.tmp 62) (.tmp 63) (.tmp 64) (.tmp 65) (.tmp 67) (.tmp 69) _ rfl rfl rfl rfl rfl rfl rfl (unhide HLN2 _ hy0) ?_
      rintro e w8 ⟨rfl, hb8⟩
      have hy1 : Below w7.heap.size w7 w8 := hy0.trans (hb8.mono hy0.size)
      refine ⟨_, rfl, ?_⟩
      refine hK.out _ _ (unhide HS15 _ hy1) (fun hJ1 => ?_)
      clear hK K
      simp only [fGa, fGs, fGz, Act.put, fSa, fSz, fSs]
      refine wpAnyH_take (i := 12) (v := .tuple #[.slice none 0 0, .int .i64 0, .bool false]) rfl (by kernel_rfl) (by kernel_rfl) (by kernel_rfl) (fun _ _ _ h => h) (Or.inl ⟨by rfl, fun w hSw => by obtain ⟨hS1, hS2, hS3⟩ := hSw; go_simp⟩) (by assumption) ?_
      simp only [fGa, fGs, fGz, Act.put, fSa, fSz, fSs]
      refine wpAnyH_take (i := 13) (v := .slice none 0 0) rfl (by kernel_rfl) (by kernel_rfl) (by kernel_rfl) (fun _ _ _ h => h) (Or.inl ⟨by rfl, fun w hSw => by obtain ⟨hS1, hS2, hS3⟩ := hSw; go_simp⟩) (by assumption) ?_
      simp only [fGa, fGs, fGz, Act.put, fSa, fSz, fSs]
      refine wpAnyH_take (i := 14) (v := .int .i64 0) rfl (by kernel_rfl) (by kernel_rfl) (by kernel_rfl) (fun _ _ _ h => h) (Or.inl ⟨by rfl, fun w hSw => by obtain ⟨hS1, hS2, hS3⟩ := hSw; go_simp⟩) (by assumption) ?_
      simp only [fGa, fGs, fGz, Act.put, fSa, fSz, fSs]
      refine wpAnyH_take (i := 15) (v := .bool false) rfl (by kernel_rfl) (by kernel_rfl) (by kernel_rfl) (fun _ _ _ h => h) (Or.inl ⟨by rfl, fun w hSw => by obtain ⟨hS1, hS2, hS3⟩ := hSw; go_simp⟩) (by assumption) ?_
      simp only [fGa, fGs, fGz, Act.put, fSa, fSz, fSs]
      refine wpAnyH_take (i := 16) (v := .slice none 0 0) rfl (by kernel_rfl) (by kernel_rfl) (by kernel_rfl) (fun _ _ _ h => h) (Or.inl ⟨by rfl, fun w hSw => by obtain ⟨hS1, hS2, hS3⟩ := hSw; go_simp⟩) (by assumption) ?_
      simp only [fGa, fGs, fGz, Act.put, fSa, fSz, fSs]
      refine wpAnyH_take (i := 17) (v := .int .i64 0) rfl (by kernel_rfl) (by kernel_rfl) (by kernel_rfl) (fun _ _ _ h => h) (Or.inl ⟨by rfl, fun w hSw => by obtain ⟨hS1, hS2, hS3⟩ := hSw; go_simp⟩) (by assumption) ?_
      simp only [fGa, fGs, fGz, Act.put, fSa, fSz, fSs]
      refine wpAnyH_take (i := 18) (v := .bool false) rfl (by kernel_rfl) (by kernel_rfl) (by kernel_rfl) (fun _ _ _ h => h) (Or.inl ⟨by rfl, fun w hSw => by obtain ⟨hS1, hS2, hS3⟩ := hSw; go_simp⟩) (by assumption) ?_
      simp only [fGa, fGs, fGz, Act.put, fSa, fSz, fSs]
      refine wpAnyH_done (by kernel_rfl) ?_ _
      have hL8 := HL7.out.below hy1
      have c2 := arr_cell hL8.tld (j := 2) (v := .int .i64 0) rfl
      have c1 := arr_cell hL8.tld (j := 1) (v := .int .i64 0) rfl
      have f2 := hL8.tld.frozen 2
      have f1 := hL8.tld.frozen 1
      have hA9 : Arr ((w8.setCell ⟨gt, 2, none⟩ (.int .i64 61)).setCell ⟨gt, 1, none⟩ (.int .i64 (at_ : Int))) gt 104 (tV (.slice none 0 0) (at_ : Int) 61 (.slice na2 i1 nc2) true) := (hL8.tld.set 2 (.int .i64 61)).set 1 (.int .i64 (at_ : Int))
      have hR9 : Arr ((w8.setCell ⟨gt, 2, none⟩ (.int .i64 61)).setCell ⟨gt, 1, none⟩ (.int .i64 (at_ : Int))) gR 104 (tV (.slice none 0 0) 0 0 (.slice none 0 0) false) := (hL8.res.up up_set hL8.lo.2.2.2).up up_set hL8.lo.2.2.2
      have hr9 : ((w8.setCell ⟨gt, 2, none⟩ (.int .i64 61)).setCell ⟨gt, 1, none⟩ (.int .i64 (at_ : Int))).rangeAt gt 0 (tV (.slice none 0 0) (at_ : Int) 61 (.slice na2 i1 nc2) true) := arr_range (ds := []) (by rw [List.append_nil]; exact hA9)
      have HFIN : Hid (∀ w10, Arr w10 gR 104 (tV (.slice none 0 0) (at_ : Int) 61 (.slice na2 i1 nc2) true) → Wrote ((w8.setCell ⟨gt, 2, none⟩ (.int .i64 61)).setCell ⟨gt, 1, none⟩ (.int .i64 (at_ : Int))) w10 gR → (loadVar 104 ⟨gR, 0, none⟩).run Tryz.prog w10 = .ok (.agg (tV (.slice none 0 0) (at_ : Int) 61 (.slice na2 i1 nc2) true).toArray) w10 ∧ ∃ ba bn bc na nn nc, (Ending.returned (.agg (tV (.slice none 0 0) (at_ : Int) 61 (.slice na2 i1 nc2) true).toArray)) = .returned (.agg (tV (.slice ba bn bc) G.br (outE G) (.slice na nn nc) true).toArray) ∧ Own8 w10 w.heap.size (.slice ba bn bc) G.by_ ∧ Row w10 w.heap.size 3 (.slice na nn nc) (iV G.ns) ∧ Below w.heap.size w w10) := hide (fun w10 h10 hW => by
       have hU : Up (fun b => b = gt ∨ b = gR) w8 w10 := ((up_set.mono (fun b e => Or.inl e)).trans up_set (fun b e => Or.inl (Or.inl e))).trans hW.up (fun b e => Or.inl (Or.inr e))
       obtain ⟨d1, d2, d3⟩ := hL8.done hU
       obtain ⟨e1, e2, e3⟩ := HGE.out
       have e4 : outE G = 61 := by unfold outE; rw [if_neg (by rw [e3]; omega)]
       refine ⟨h10.loadT rfl, none, 0, 0, na2, i1, nc2, by rw [e3, e4], by rw [e2]; exact Own8.nil _ _, by rw [e1]; exact d1, d3⟩)
      have hiT9 := infoTold (tV (.slice none 0 0) (at_ : Int) 61 (.slice na2 i1 nc2) true) rfl
      have h1T9 : ∀ u ∈ tV (.slice none 0 0) (at_ : Int) 61 (.slice na2 i1 nc2) true, u.oneCell' = true := by simp [tV, Value.oneCell']
      clear hL8 hA9 HL7 HS15 HLN2 hy0 hy1 hHeld hJ1
      go_wp2_with (first
       | refine wpList_load_mid rfl 104 (.tmp 8) rfl gt 0 rfl (tV (.slice none 0 0) (at_ : Int) 61 (.slice na2 i1 nc2) true) _ hr9 Tryz.underlying104 rfl hiT9 ?_
       | (refine wpList_storeArr2 (cs' := tV (.slice none 0 0) (at_ : Int) 61 (.slice na2 i1 nc2) true) rfl (.tmp 6) (.tmp 79) 104 rfl rfl rfl hR9 hiT9 rfl h1T9 ?_; intro w10 hA10 hW10))
      obtain ⟨z1, z2⟩ := unhide HFIN w10 hA10 hW10
      exact bodyPost_ret (v := .agg (tV (.slice none 0 0) (at_ : Int) 61 (.slice na2 i1 nc2) true).toArray) (results_told rfl rfl z1) rfl z2
    · have HLY2 : Hid (∀ W, Below w7.heap.size w7 W → Calls Tryz.prog 77 #[.slice ra 512 rc, .agg RV.toArray, .int .i64 (i : Int), .int .i64 (heap : Int), .int .i64 (n : Int), .slice na2 i1 nc2] W fun e w' => ∃ va vn vc, e = .returned (.tuple #[.slice va vn vc, .int .i64 (nx : Int), .bool true]) ∧ IsB w' (.slice va vn vc) pt ∧ Below W.heap.size W w') := hide (fun W hW => by
       refine (unhide HLC W hW).mono ?_
       rintro e w' ⟨r, rfl, hP⟩
       obtain ⟨v, B', rfl, hO, _⟩ := hP.yes pt nx hlk
       obtain ⟨va, vn, vc, rfl⟩ := hO.shape
       exact ⟨va, vn, vc, rfl, hO.isB, hP.bel⟩)
      have HP1 := hide (unhide HPY HP.out hlt HBY.out hlk)
      clear hlk HLC HPY HPN HLK HBY HP
      refine wp_region_held_drew (S := fun W => W.rangeAt S 0 RV ∧ W.cell? ⟨ga, at_, none⟩ = some (.slice ra 512 rc) ∧ W.cell? ⟨gt, 3, none⟩ = some (.slice na2 i1 nc2)) (by kernel_rfl) (unhide HS15 _ hy0) (fun hHeld => ?_)
      refine wpAnyH_take (i := 0) (v := .slice (some ⟨ga, 0, none⟩) n ca) rfl (by kernel_rfl) (by kernel_rfl) (by kernel_rfl) (fun _ _ _ h => h) (Or.inl ⟨by rfl, fun w hSw => by obtain ⟨hS1, hS2, hS3⟩ := hSw; go_simp⟩) (by assumption) ?_
      simp only [fGa, fGz, Act.put, fSa, fSz, fSs]
      refine wpAnyH_take (i := 1) (v := .int .i64 (at_ : Int)) rfl (by kernel_rfl) (by kernel_rfl) (by kernel_rfl) (fun _ _ _ h => h) (Or.inl ⟨by rfl, fun w hSw => by obtain ⟨hS1, hS2, hS3⟩ := hSw; go_simp⟩) (by assumption) ?_
      simp only [fGa, fGs, fGz, Act.put, fSa, fSz, fSs]
      refine wpAnyH_take (i := 2) (v := .pointer (some ⟨ga, at_, none⟩)) rfl (by kernel_rfl) (by kernel_rfl) (by kernel_rfl) (fun _ _ _ h => h) (Or.inl ⟨by rfl, fun w hSw => by obtain ⟨hS1, hS2, hS3⟩ := hSw; go_simp⟩) (by assumption) ?_
      simp only [fGa, fGs, fGz, Act.put, fSa, fSz, fSs]
      refine wpAnyH_take (i := 3) (v := .slice (ra) 512 rc) rfl (by kernel_rfl) (by kernel_rfl) (by kernel_rfl) (fun _ _ _ h => h) (Or.inl ⟨by rfl, fun w hSw => by obtain ⟨hS1, hS2, hS3⟩ := hSw; go_simp⟩) (by assumption) ?_
      simp only [fGa, fGs, fGz, Act.put, fSa, fSz, fSs]
      refine wpAnyH_take (i := 4) (v := .agg (RV).toArray) rfl (by kernel_rfl) (by kernel_rfl) (by kernel_rfl) (fun _ _ _ h => h) (yieldsIf_load_mid (by rfl) _ _ rfl _ _ rfl _ _ (fun w hSw => hSw.1) Tryz.underlying38 rfl hiR) (by assumption) ?_
      simp only [fGa, fGs, fGz, Act.put, fSa, fSz, fSs]
      refine wpAnyH_take (i := 5) (v := .int .i64 (i : Int)) rfl (by kernel_rfl) (by kernel_rfl) (by kernel_rfl) (fun _ _ _ h => h) (Or.inl ⟨by rfl, fun w hSw => by obtain ⟨hS1, hS2, hS3⟩ := hSw; go_simp⟩) (by assumption) ?_
      simp only [fGa, fGs, fGz, Act.put, fSa, fSz, fSs]
      refine wpAnyH_take (i := 6) (v := .int .i64 (heap : Int)) rfl (by kernel_rfl) (by kernel_rfl) (by kernel_rfl) (fun _ _ _ h => h) (Or.inl ⟨by rfl, fun w hSw => by obtain ⟨hS1, hS2, hS3⟩ := hSw; go_simp⟩) (by assumption) ?_
      simp only [fGa, fGs, fGz, Act.put, fSa, fSz, fSs]
      refine wpAnyH_take (i := 7) (v := .slice (some ⟨ga, 0, none⟩) n ca) rfl (by kernel_rfl) (by kernel_rfl) (by kernel_rfl) (fun _ _ _ h => h) (Or.inl ⟨by rfl, fun w hSw => by obtain ⟨hS1, hS2, hS3⟩ := hSw; go_simp⟩) (by assumption) ?_
      simp only [fGa, fGs, fGz, Act.put, fSa, fSz, fSs]
      refine wpAnyH_take (i := 8) (v := .int .i64 (n : Int)) rfl (by kernel_rfl) (by kernel_rfl) (by kernel_rfl) (fun _ _ _ h => h) (Or.inl ⟨by rfl, fun w hSw => by obtain ⟨hS1, hS2, hS3⟩ := hSw; go_simp⟩) (by assumption) ?_
      simp only [fGa, fGs, fGz, Act.put, fSa, fSz, fSs]
      refine wpAnyH_take (i := 9) (v := .pointer (some ⟨gt, 3, none⟩)) rfl (by kernel_rfl) (by kernel_rfl) (by kernel_rfl) (fun _ _ _ h => h) (Or.inl ⟨by rfl, fun w hSw => by obtain ⟨hS1, hS2, hS3⟩ := hSw; go_simp⟩) (by assumption) ?_
      simp only [fGa, fGs, fGz, Act.put, fSa, fSz, fSs]
      refine wpAnyH_take (i := 10) (v := .slice (na2) i1 nc2) rfl (by kernel_rfl) (by kernel_rfl) (by kernel_rfl) (fun _ _ _ h => h) (Or.inl ⟨by rfl, fun w hSw => by obtain ⟨hS1, hS2, hS3⟩ := hSw; go_simp⟩) (by assumption) ?_
      simp only [fGa, fGs, fGz, Act.put, fSa, fSz, fSs]
      refine wpAnyH_ready (rs := [11]) (by kernel_rfl) (by simp) (AllReadyH.cons rfl (fun K hK => ?_) AllReadyH.nil)
      refine step_call6C (by rfl) 77 look_enter6 (.tmp 62) (.tmp 63) (.tmp 64) (.tmp 65) (.tmp 67) (.tmp 69) _ rfl rfl rfl rfl rfl rfl rfl (unhide HLY2 _ hy0) ?_
      rintro e w8 ⟨va, vn, vc, rfl, hIp, hb8⟩
      have hy1 : Below w7.heap.size w7 w8 := hy0.trans (hb8.mono hy0.size)
      refine ⟨_, rfl, ?_⟩
      refine hK.out _ _ (unhide HS15 _ hy1) (fun hJ1 => ?_)
      clear hK K
      simp only [fGa, fGs, fGz, Act.put, fSa, fSz, fSs]
      refine wpAnyH_take (i := 12) (v := .tuple #[.slice va vn vc, .int .i64 (nx : Int), .bool true]) rfl (by kernel_rfl) (by kernel_rfl) (by kernel_rfl) (fun _ _ _ h => h) (Or.inl ⟨by rfl, fun w hSw => by obtain ⟨hS1, hS2, hS3⟩ := hSw; go_simp⟩) (by assumption) ?_
      simp only [fGa, fGs, fGz, Act.put, fSa, fSz, fSs]
      refine wpAnyH_take (i := 13) (v := .slice (va) vn vc) rfl (by kernel_rfl) (by kernel_rfl) (by kernel_rfl) (fun _ _ _ h => h) (Or.inl ⟨by rfl, fun w hSw => by obtain ⟨hS1, hS2, hS3⟩ := hSw; go_simp⟩) (by assumption) ?_
      simp only [fGa, fGs, fGz, Act.put, fSa, fSz, fSs]
      refine wpAnyH_take (i := 14) (v := .int .i64 (nx : Int)) rfl (by kernel_rfl) (by kernel_rfl) (by kernel_rfl) (fun _ _ _ h => h) (Or.inl ⟨by rfl, fun w hSw => by obtain ⟨hS1, hS2, hS3⟩ := hSw; go_simp⟩) (by assumption) ?_
      simp only [fGa, fGs, fGz, Act.put, fSa, fSz, fSs]
      refine wpAnyH_take (i := 15) (v := .bool true) rfl (by kernel_rfl) (by kernel_rfl) (by kernel_rfl) (fun _ _ _ h => h) (Or.inl ⟨by rfl, fun w hSw => by obtain ⟨hS1, hS2, hS3⟩ := hSw; go_simp⟩) (by assumption) ?_
      simp only [fGa, fGs, fGz, Act.put, fSa, fSz, fSs]
      refine wpAnyH_take (i := 16) (v := .slice (va) vn vc) rfl (by kernel_rfl) (by kernel_rfl) (by kernel_rfl) (fun _ _ _ h => h) (Or.inl ⟨by rfl, fun w hSw => by obtain ⟨hS1, hS2, hS3⟩ := hSw; go_simp⟩) (by assumption) ?_
      simp only [fGa, fGs, fGz, Act.put, fSa, fSz, fSs]
      refine wpAnyH_take (i := 17) (v := .int .i64 (nx : Int)) rfl (by kernel_rfl) (by kernel_rfl) (by kernel_rfl) (fun _ _ _ h => h) (Or.inl ⟨by rfl, fun w hSw => by obtain ⟨hS1, hS2, hS3⟩ := hSw; go_simp⟩) (by assumption) ?_
      simp only [fGa, fGs, fGz, Act.put, fSa, fSz, fSs]
      refine wpAnyH_take (i := 18) (v := .bool true) rfl (by kernel_rfl) (by kernel_rfl) (by kernel_rfl) (fun _ _ _ h => h) (Or.inl ⟨by rfl, fun w hSw => by obtain ⟨hS1, hS2, hS3⟩ := hSw; go_simp⟩) (by assumption) ?_
      simp only [fGa, fGs, fGz, Act.put, fSa, fSz, fSs]
      refine wpAnyH_done (by kernel_rfl) ?_ _
      have hL8 := HL7.out.below hy1
      have hown := hL8.own
      have hlen : bs.length + pt.length ≤ 140737488355328 := by
       have q := HP1.out.byl
       rw [List.length_append] at q
       omega
      have hsz8 : w.heap.size ≤ w8.heap.size := hL8.bel.size
      have HL8 := hide hL8
      clear hL8 HL7 HS15 HLY2 hy0 hy1 hHeld hJ1
      go_wp2_with (at_builtin; refine wpList_appL8 rfl (.tmp 80) (.tmp 81) rfl rfl hown rfl hIp hlen hsz8 ?_; intro v9 w9 hO9 hg9 hat9
                   obtain ⟨b9, n9, c9, hv9⟩ := hO9.shape
                   subst hv9
                   have HQ : Hid (∃ nv ns bs, Rl w w9 S gR gt RV (.slice b9 n9 c9) nv ns bs ∧ Rlp N hs (f0 : Int) le heap n k G i1 ns bs nx) := hide ⟨_, _, _, HL8.out.piece hO9 hg9, by rw [← HI1.out]; exact HP1.out⟩
                   clear hO9 hg9 hat9 HL8 hown)
      go_roundw
      case rel => exact ⟨i1, nx, b9, n9, c9, by have := HI1.out; omega, rfl, rfl, by have := HI1.out; go_num, HQ⟩
      case measure => simp [intOf]; omega
  · obtain rfl : i = k := by omega
    clear HPN HPY HLK
    obtain ⟨nv, ns, bs, hL, hP⟩ := HI.out
    obtain ⟨na, nc, hnv⟩ := hL.num.shape
    rw [iV_len, hP.len] at hnv
    subst hnv
    obtain ⟨g1, g2, g3⟩ := hP.fin rfl
    obtain ⟨KV, hKV⟩ : ∃ KV, hs.map (Value.int .u8) = KV := ⟨_, rfl⟩
    obtain ⟨KP, hKP⟩ : ∃ KP, (shaOf bs).map (Value.int .u8) = KP := ⟨_, rfl⟩
    have hiK : (Tryz.prog.info? 36).map (·.size) = some KV.length := by rw [← hKV]; exact infoKey HG1.out.2.2
    have HS22 : Hid (∀ W, Below wr.heap.size wr W → W.rangeAt S 0 KV) := hide (fun W hW => by rw [← hKV]; exact (unhide HKEY W (hL.ref.below hW)).1)
    have HSU : Hid (∀ W, Below wr.heap.size wr W → Calls Tryz.prog 61 #[.slice ba bn bc] W fun e w' => e = .returned (.agg KP.toArray) ∧ Below W.heap.size W w') := hide (fun W hW => by
     have hlen : bs.length ≤ 140737488350000 := by have := hP.byl; have := HG1.out.1; omega
     have h9 := rsum_calls (hL.own.below hW).isB hlen
     unfold keyV at h9
     rw [hKP] at h9
     exact h9)
    have HKQ : Hid (∀ W : World, (binOp .neq 36 (.agg KP.toArray) (.agg KV.toArray)).run Tryz.prog W = .ok (.bool (!decide (shaOf bs = hs))) W) := hide (fun W => by rw [← hKP, ← hKV]; exact key_neq _ _ (shaOf_len bs) HG1.out.2.2 W)
    have hkg := key_guard
    have hv0 : Below wr.heap.size wr wr.drew := (Below.refl _ _).drew
    have HL := hide hL
    have HGA := hide g1
    have HGY := hide g2
    have HGN := hide g3
    have hNE : ¬ S = gt := fun e => absurd (hL.ref.ty.one (e ▸ hL.tld.ty)) (by decide)
    have HNE := hide hNE
    clear hL hP g1 g2 g3 hKV hKP HI hNE
    go_wp2_with fail
    by_cases hsha : shaOf bs = hs
    · have hkq : ∀ W : World, (binOp .neq 36 (.agg KP.toArray) (.agg KV.toArray)).run Tryz.prog W = .ok (.bool false) W := fun W => by rw [unhide HKQ W, decide_eq_true hsha]; rfl
      refine wp_region_held_drew (S := fun W => W.rangeAt S 0 KV) (by kernel_rfl) (unhide HS22 _ hv0) (fun hHeld => ?_)
      refine wpAnyH_take (i := 0) (v := .slice (ba) bn bc) rfl (by kernel_rfl) (by kernel_rfl) (by kernel_rfl) (fun _ _ _ h => h) (Or.inl ⟨by rfl, fun w hSw => by go_simp⟩) (by assumption) ?_
      simp only [fGa, fGz, Act.put, fSa, fSz, fSs]
      refine wpAnyH_take (i := 2) (v := .pointer (some ⟨S, 0, none⟩)) rfl (by kernel_rfl) (by kernel_rfl) (by kernel_rfl) (fun _ _ _ h => h) (Or.inl ⟨by rfl, fun w hSw => by go_simp⟩) (by assumption) ?_
      simp only [fGa, fGs, fGz, Act.put, fSa, fSz, fSs]
      refine wpAnyH_take (i := 3) (v := .agg (KV).toArray) rfl (by kernel_rfl) (by kernel_rfl) (by kernel_rfl) (fun _ _ _ h => h) (yieldsIf_load_mid (by rfl) _ _ rfl _ _ rfl _ _ (fun w hSw => hSw) Tryz.underlying36 rfl hiK) (by assumption) ?_
      simp only [fGa, fGs, fGz, Act.put, fSa, fSz, fSs]
      refine wpAnyH_ready (rs := [1]) (by kernel_rfl) (by simp) (AllReadyH.cons rfl (fun K hK => ?_) AllReadyH.nil)
      refine step_call1C (by rfl) 61 rsum_enter (.tmp 84) _ rfl rfl (unhide HSU _ hv0) ?_
      rintro e w8 ⟨rfl, hb8⟩
      have hv1 : Below wr.heap.size wr w8 := hv0.trans (hb8.mono hv0.size)
      refine ⟨_, rfl, ?_⟩
      refine hK.out _ _ (unhide HS22 _ hv1) (fun hJ2 => ?_)
      clear hK K
      simp only [fGa, fGs, fGz, Act.put, fSa, fSz, fSs]
      refine wpAnyH_take (i := 4) (v := .bool false) rfl (by kernel_rfl) (by kernel_rfl) (by kernel_rfl) (fun _ _ _ h => h) (Or.inl ⟨by rfl, fun w hSw => by go_simp⟩) (by assumption) ?_
      simp only [fGa, fGs, fGz, Act.put, fSa, fSz, fSs]
      refine wpAnyH_done (by kernel_rfl) ?_ _
      have hL8 := HL.out.below hv1
      have c0 := arr_cell hL8.tld (j := 0) (v := .slice none 0 0) rfl
      have fz := hL8.tld.frozen 0
      have hA9 : Arr (w8.setCell ⟨gt, 0, none⟩ (.slice ba bn bc)) gt 104 (tV (.slice ba bn bc) 0 0 (.slice na i nc) true) := hL8.tld.set 0 (.slice ba bn bc)
      have hR9 : Arr (w8.setCell ⟨gt, 0, none⟩ (.slice ba bn bc)) gR 104 (tV (.slice none 0 0) 0 0 (.slice none 0 0) false) := hL8.res.up up_set hL8.lo.2.2.2
      have hr9 : (w8.setCell ⟨gt, 0, none⟩ (.slice ba bn bc)).rangeAt gt 0 (tV (.slice ba bn bc) 0 0 (.slice na i nc) true) := arr_range (ds := []) (by rw [List.append_nil]; exact hA9)
      have HFIN : Hid (∀ w10, Arr w10 gR 104 (tV (.slice ba bn bc) 0 0 (.slice na i nc) true) → Wrote (w8.setCell ⟨gt, 0, none⟩ (.slice ba bn bc)) w10 gR → (loadVar 104 ⟨gR, 0, none⟩).run Tryz.prog w10 = .ok (.agg (tV (.slice ba bn bc) 0 0 (.slice na i nc) true).toArray) w10 ∧ ∃ ba' bn' bc' na' nn' nc', (Ending.returned (.agg (tV (.slice ba bn bc) 0 0 (.slice na i nc) true).toArray)) = .returned (.agg (tV (.slice ba' bn' bc') G.br (outE G) (.slice na' nn' nc') true).toArray) ∧ Own8 w10 w.heap.size (.slice ba' bn' bc') G.by_ ∧ Row w10 w.heap.size 3 (.slice na' nn' nc') (iV G.ns) ∧ Below w.heap.size w w10) := hide (fun w10 h10 hW => by
       have hU : Up (fun b => b = gt ∨ b = gR) w8 w10 := (up_set.mono (fun b e => Or.inl e)).trans hW.up (fun b e => Or.inl (Or.inr e))
       obtain ⟨d1, d2, d3⟩ := hL8.done hU
       obtain ⟨e2, e3⟩ := HGY.out hsha
       have e4 : outE G = 0 := by unfold outE; rw [if_pos e3]
       refine ⟨h10.loadT rfl, ba, bn, bc, na, i, nc, by rw [e3, e4], by rw [e2]; exact d2, by rw [HGA.out]; exact d1, d3⟩)
      have hiT9 := infoTold (tV (.slice ba bn bc) 0 0 (.slice na i nc) true) rfl
      have h1T9 : ∀ u ∈ tV (.slice ba bn bc) 0 0 (.slice na i nc) true, u.oneCell' = true := by simp [tV, Value.oneCell']
      clear hL8 hA9 HL HS22 HSU hv0 hv1 hHeld hJ2 hkq hkg HKQ
      go_wp2_with (first
       | refine wpList_load_mid rfl 104 (.tmp 8) rfl gt 0 rfl (tV (.slice ba bn bc) 0 0 (.slice na i nc) true) _ hr9 Tryz.underlying104 rfl hiT9 ?_
       | (refine wpList_storeArr2 (cs' := tV (.slice ba bn bc) 0 0 (.slice na i nc) true) rfl (.tmp 6) (.tmp 96) 104 rfl rfl rfl hR9 hiT9 rfl h1T9 ?_; intro w10 hA10 hW10))
      obtain ⟨z1, z2⟩ := unhide HFIN w10 hA10 hW10
      exact bodyPost_ret (v := .agg (tV (.slice ba bn bc) 0 0 (.slice na i nc) true).toArray) (results_told rfl rfl z1) rfl z2
    · have hkq : ∀ W : World, (binOp .neq 36 (.agg KP.toArray) (.agg KV.toArray)).run Tryz.prog W = .ok (.bool true) W := fun W => by rw [unhide HKQ W, decide_eq_false hsha]; rfl
      refine wp_region_held_drew (S := fun W => W.rangeAt S 0 KV) (by kernel_rfl) (unhide HS22 _ hv0) (fun hHeld => ?_)
      refine wpAnyH_take (i := 0) (v := .slice (ba) bn bc) rfl (by kernel_rfl) (by kernel_rfl) (by kernel_rfl) (fun _ _ _ h => h) (Or.inl ⟨by rfl, fun w hSw => by go_simp⟩) (by assumption) ?_
      simp only [fGa, fGz, Act.put, fSa, fSz, fSs]
      refine wpAnyH_take (i := 2) (v := .pointer (some ⟨S, 0, none⟩)) rfl (by kernel_rfl) (by kernel_rfl) (by kernel_rfl) (fun _ _ _ h => h) (Or.inl ⟨by rfl, fun w hSw => by go_simp⟩) (by assumption) ?_
      simp only [fGa, fGs, fGz, Act.put, fSa, fSz, fSs]
      refine wpAnyH_take (i := 3) (v := .agg (KV).toArray) rfl (by kernel_rfl) (by kernel_rfl) (by kernel_rfl) (fun _ _ _ h => h) (yieldsIf_load_mid (by rfl) _ _ rfl _ _ rfl _ _ (fun w hSw => hSw) Tryz.underlying36 rfl hiK) (by assumption) ?_
      simp only [fGa, fGs, fGz, Act.put, fSa, fSz, fSs]
      refine wpAnyH_ready (rs := [1]) (by kernel_rfl) (by simp) (AllReadyH.cons rfl (fun K hK => ?_) AllReadyH.nil)
      refine step_call1C (by rfl) 61 rsum_enter (.tmp 84) _ rfl rfl (unhide HSU _ hv0) ?_
      rintro e w8 ⟨rfl, hb8⟩
      have hv1 : Below wr.heap.size wr w8 := hv0.trans (hb8.mono hv0.size)
      refine ⟨_, rfl, ?_⟩
      refine hK.out _ _ (unhide HS22 _ hv1) (fun hJ2 => ?_)
      clear hK K
      simp only [fGa, fGs, fGz, Act.put, fSa, fSz, fSs]
      refine wpAnyH_take (i := 4) (v := .bool true) rfl (by kernel_rfl) (by kernel_rfl) (by kernel_rfl) (fun _ _ _ h => h) (Or.inl ⟨by rfl, fun w hSw => by go_simp⟩) (by assumption) ?_
      simp only [fGa, fGs, fGz, Act.put, fSa, fSz, fSs]
      refine wpAnyH_done (by kernel_rfl) ?_ _
      have hL8 := HL.out.below hv1
      have c2 := arr_cell hL8.tld (j := 2) (v := .int .i64 0) rfl
      have c1 := arr_cell hL8.tld (j := 1) (v := .int .i64 0) rfl
      have f2 := hL8.tld.frozen 2
      have f1 := hL8.tld.frozen 1
      have c32 := (unhide HKEY w8 hL8.ref).2
      have c32' : (w8.setCell ⟨gt, 2, none⟩ (.int .i64 61)).cell? ⟨S, 32, none⟩ = some (.int .i64 (f0 : Int)) := up_set.cell c32 HNE.out
      have hA9 : Arr ((w8.setCell ⟨gt, 2, none⟩ (.int .i64 61)).setCell ⟨gt, 1, none⟩ (.int .i64 (f0 : Int))) gt 104 (tV (.slice none 0 0) (f0 : Int) 61 (.slice na i nc) true) := (hL8.tld.set 2 (.int .i64 61)).set 1 (.int .i64 (f0 : Int))
      have hR9 : Arr ((w8.setCell ⟨gt, 2, none⟩ (.int .i64 61)).setCell ⟨gt, 1, none⟩ (.int .i64 (f0 : Int))) gR 104 (tV (.slice none 0 0) 0 0 (.slice none 0 0) false) := (hL8.res.up up_set hL8.lo.2.2.2).up up_set hL8.lo.2.2.2
      have hr9 : ((w8.setCell ⟨gt, 2, none⟩ (.int .i64 61)).setCell ⟨gt, 1, none⟩ (.int .i64 (f0 : Int))).rangeAt gt 0 (tV (.slice none 0 0) (f0 : Int) 61 (.slice na i nc) true) := arr_range (ds := []) (by rw [List.append_nil]; exact hA9)
      have HFIN : Hid (∀ w10, Arr w10 gR 104 (tV (.slice none 0 0) (f0 : Int) 61 (.slice na i nc) true) → Wrote ((w8.setCell ⟨gt, 2, none⟩ (.int .i64 61)).setCell ⟨gt, 1, none⟩ (.int .i64 (f0 : Int))) w10 gR → (loadVar 104 ⟨gR, 0, none⟩).run Tryz.prog w10 = .ok (.agg (tV (.slice none 0 0) (f0 : Int) 61 (.slice na i nc) true).toArray) w10 ∧ ∃ ba bn bc na' nn nc', (Ending.returned (.agg (tV (.slice none 0 0) (f0 : Int) 61 (.slice na i nc) true).toArray)) = .returned (.agg (tV (.slice ba bn bc) G.br (outE G) (.slice na' nn nc') true).toArray) ∧ Own8 w10 w.heap.size (.slice ba bn bc) G.by_ ∧ Row w10 w.heap.size 3 (.slice na' nn nc') (iV G.ns) ∧ Below w.heap.size w w10) := hide (fun w10 h10 hW => by
       have hU : Up (fun b => b = gt ∨ b = gR) w8 w10 := ((up_set.mono (fun b e => Or.inl e)).trans up_set (fun b e => Or.inl (Or.inl e))).trans hW.up (fun b e => Or.inl (Or.inr e))
       obtain ⟨d1, d2, d3⟩ := hL8.done hU
       obtain ⟨e2, e3⟩ := HGN.out hsha
       have e4 : outE G = 61 := by unfold outE; rw [if_neg (by rw [e3]; omega)]
       refine ⟨h10.loadT rfl, none, 0, 0, na, i, nc, by rw [e3, e4], by rw [e2]; exact Own8.nil _ _, by rw [HGA.out]; exact d1, d3⟩)
      have hiT9 := infoTold (tV (.slice none 0 0) (f0 : Int) 61 (.slice na i nc) true) rfl
      have h1T9 : ∀ u ∈ tV (.slice none 0 0) (f0 : Int) 61 (.slice na i nc) true, u.oneCell' = true := by simp [tV, Value.oneCell']
      clear hL8 hA9 HL HS22 HSU hv0 hv1 hHeld hJ2 hkq hkg HKQ c32
      go_wp2_with (first
       | refine wpList_load_mid rfl 104 (.tmp 8) rfl gt 0 rfl (tV (.slice none 0 0) (f0 : Int) 61 (.slice na i nc) true) _ hr9 Tryz.underlying104 rfl hiT9 ?_
       | (refine wpList_storeArr2 (cs' := tV (.slice none 0 0) (f0 : Int) 61 (.slice na i nc) true) rfl (.tmp 6) (.tmp 93) 104 rfl rfl rfl hR9 hiT9 rfl h1T9 ?_; intro w10 hA10 hW10))
      obtain ⟨z1, z2⟩ := unhide HFIN w10 hA10 hW10
      exact bodyPost_ret (v := .agg (tV (.slice none 0 0) (f0 : Int) 61 (.slice na i nc) true).toArray) (results_told rfl rfl z1) rfl z2
end
end Go.Proofs.YtdalbalphagmfaaGreatDoor

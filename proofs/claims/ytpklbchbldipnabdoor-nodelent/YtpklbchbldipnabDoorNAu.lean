/- Many slices of entries of the call's own beside one another; an append, and who still reads what he read. marked. -/
import Derived.Test.YtpklbchbldipnabDoorNeP
import Derived.Test.YtpklbchbldipnabDoorNAq
import Derived.Test.YtpklbchbldipnabDoorNAh
import Derived.Test.YtpklbchbldipnabDoorNAi
namespace Go.Proofs.YtpklbchbldipnabDoor
open Go.RowKit Go.Maps

/-- Who still reads what he read behind an append to v, which reads l. -/
def SharesE (w w' : World) (v : Value) (l : List Ent) : Prop := ∀ B2 v2 zs, OwnE w B2 v2 zs → (v2.ownBlock = v.ownBlock → zs.length ≤ l.length) → OwnE w' B2 v2 zs
section
variable {ops : Array Oper} {rest : List Oper} {o : Oper} {a : Act} {Q : Exit → Act → World → Prop} {w : World} {K : Act → World → Prop} {E : Prop}
theorem wp_appEh (x y : Operand) (ho : o.op = .call { callee := .builtin .append, args := #[x, y], argTypes := #[22, 22] }) {B : Nat} {v : Value} {l m : List Ent} {ad : Addr} {n c : Nat} (hx : a.eval x = v) (hown : OwnE w B v l) (hy : a.eval y = .slice (some ad) n c) (hn : n = m.length) (hmk : ∀ e ∈ m, EnOk e)
    (hm : ∀ j u, (ensV m)[j]? = some u → w.cell? (ad.add j) = some u) (hl : l.length + m.length ≤ 100000000000) (hB : B ≤ w.heap.size)
    (hk : ∀ v' w', OwnE w' B v' (l ++ m) → w.grownBy w' v.ownBlock → (v'.ownBlock = v.ownBlock ∨ v'.ownBlock = some w.heap.size) → SharesE w w' v l → K (a.put o.dst v') w') : o.wp Tryd.prog a w K Q := by
  obtain ⟨i0, hi, hz0, hz1, hz2⟩ := info_parts infoEn
  subst hn
  obtain ⟨v', w', hr, h2, h3, h4, h5⟩ := run_append_own_at (P := Tryd.prog) w B 22 o.type 38 i0 _ 68 104 Tryd.underlying22 hi hz0 hz1 hz2 rfl (by decide) v l.length (ensV l) hown.2 ad m.length c (ensV m) (by rw [ensV_len hmk]) hm (ensV_one m) (by unfold maxLen; omega) (by omega) hB
  have hsh : SharesE w w' v l := by
    intro B2 v2 zs hz2' hag
    have hown' := hown
    rcases hown.2.2 with ⟨rfl, _⟩ | ⟨g, cap, cur, rfl, hbg, hg, hnc, hcm, hcs, htake⟩
    · exact hz2'.kept h3 (Classical.em (v2.ownBlock = none))
    · by_cases hroom : l.length + m.length ≤ cap
      · have hfit : l.length * i0.size + (ensV m).length ≤ cur.size := by rw [hz1, hcs, ensV_len hmk]; omega
        have hr2 := run_append_room (P := Tryd.prog) w 22 o.type 38 i0 Tryd.underlying22 hi g l.length cap cur hg ad m.length c (ensV m) (by rw [hz1, ensV_len hmk]) hm (ensV_one m) hroom hfit
        rw [hr] at hr2
        injection hr2 with _ hw
        subst hw
        by_cases hgg : v2.ownBlock = some g
        · have hzl := hag hgg
          rcases hz2'.2.2 with ⟨rfl, _⟩ | ⟨g2, cap2, cur2, rfl, hb2, hg2, hnc2, hcm2, hcs2, htake2⟩
          · simp [Value.ownBlock] at hgg
          · simp only [Value.ownBlock, Option.some.injEq] at hgg
            subst hgg
            rw [hg] at hg2
            simp only [Option.some.injEq, Obj.cells.injEq, and_true] at hg2
            subst hg2
            have hcap : cap2 = cap := by omega
            subst hcap
            have hcl : cur.toList.length = cap2 * 68 := by simpa using hcs
            refine ⟨hz2'.1, by rw [ensV_len hz2'.1], .inr ⟨g2, cap2, _, rfl, hb2, setRow_heap w g2 cur _ 38 _ hg, hnc2, hcm2, ?_, ?_⟩⟩
            · simp only [List.size_toArray, List.length_append, List.length_take, List.length_drop, hcl, hz1, ensV_len hmk]
              omega
            · simp only [hz1]
              rw [List.append_assoc, List.take_append_of_le_length (by rw [List.length_take, hcl]; omega), List.take_take, Nat.min_eq_left (by omega)]
              exact htake2
        · exact hz2'.kept h3 (Or.inr hgg)
      · have holds : ∀ j u, (ensV l)[j]? = some u → w.cell? ((⟨g, 0, none⟩ : Addr).add j) = some u := World.ownsRow.cells (g := g) hown'.2 rfl
        have hr2 := run_append_grow (P := Tryd.prog) w 22 o.type 38 i0 _ Tryd.underlying22 hi hz0 ⟨g, 0, none⟩ l.length cap (ensV l) (by rw [hz1, ensV_len hown.1]) holds ad m.length c (ensV m) (by rw [hz1, ensV_len hmk]) hm (by omega) (by omega) (growslice_fits (by omega) (by rw [hz2]; omega))
        rw [hr] at hr2
        injection hr2 with _ hw
        subst hw
        exact hz2'.kept (grownBy_none w _) (by cases v2.ownBlock <;> simp)
  unfold Oper.wp execOp
  simp only [ho, resolve, invoke, builtin, Sem.run_bind, Sem.run_pure, Result.andThen_ok, List.map_toArray, List.map_cons, List.map_nil, hx, hy, hr]
  refine hk v' w' ⟨fun e he => ?_, ?_⟩ h3 h5 hsh
  · rcases List.mem_append.1 he with he | he
    · exact hown.1 e he
    · exact hmk e he
  · rw [List.length_append, ensV_app]; exact h2
theorem wpList_appEh (hgd : o.guard = none) (x y : Operand) (ho : o.op = .call { callee := .builtin .append, args := #[x, y], argTypes := #[22, 22] }) {B : Nat} {v : Value} {l m : List Ent} {ad : Addr} {n c : Nat} (hx : a.eval x = v) (hown : OwnE w B v l) (hy : a.eval y = .slice (some ad) n c) (hn : n = m.length) (hmk : ∀ e ∈ m, EnOk e)
    (hm : ∀ j u, (ensV m)[j]? = some u → w.cell? (ad.add j) = some u) (hl : l.length + m.length ≤ 100000000000) (hB : B ≤ w.heap.size)
    (hk : ∀ v' w', OwnE w' B v' (l ++ m) → w.grownBy w' v.ownBlock → (v'.ownBlock = v.ownBlock ∨ v'.ownBlock = some w.heap.size) → SharesE w w' v l → wpList Tryd.prog ops Q rest (a.put o.dst v') w') : wpList Tryd.prog ops Q (o :: rest) a w :=
  wpList_plain hgd fun _ hK => wp_appEh x y ho hx hown hy hn hmk hm hl hB fun v' w' h1 h2 h3 h4 => hK _ _ (hk v' w' h1 h2 h3 h4)
end
theorem OwnE.lt {w : World} {B : Nat} {v : Value} {l : List Ent} (h : OwnE w B v l) : ∀ k, v.ownBlock = some k → B ≤ k ∧ k < w.heap.size := World.ownsRow.lt h.2
/-- Entries lie in no row of something else. -/
theorem OwnE.apart {w : World} {b1 b2 : Nat} {t2 : TypeId} {v1 v2 : Value} {c1 : List Ent} {c2 : List Value} (h1 : OwnE w b1 v1 c1) (h2 : Row w b2 t2 v2 c2) (ht : 38 ≠ t2) : v1.ownBlock = none ∨ v1.ownBlock ≠ v2.ownBlock := by
  rcases h2.2 with ⟨rfl, _⟩ | ⟨g', cap', cur', rfl, _, hg', _⟩
  · cases v1.ownBlock with
    | none => exact Or.inl rfl
    | some x => exact Or.inr (by simp [Value.ownBlock])
  · exact h1.block hg' (fun e => ht e.symm)
theorem apartE {w : World} {b1 b2 : Nat} {t2 : TypeId} {v1 v2 : Value} {c1 : List Ent} {c2 : List Value} (h2 : Row w b2 t2 v2 c2) (h1 : OwnE w b1 v1 c1) (ht : 38 ≠ t2) : v2.ownBlock = none ∨ v2.ownBlock ≠ v1.ownBlock := by
  rcases h1.apart h2 ht with h | h
  · cases hv : v2.ownBlock with
    | none => exact Or.inl rfl
    | some x => exact Or.inr (by rw [h]; simp)
  · exact Or.inr fun e => h e.symm
theorem OwnE.front {w : World} {B : Nat} {v : Value} {l : List Ent} (h : OwnE w B v l) (hp : 0 < l.length) : ∃ g c, v = .slice (some ⟨g, 0, none⟩) l.length c ∧ l.length ≤ c ∧ c ≤ 9223372036854775807 ∧ B ≤ g ∧ g < w.heap.size := by
  rcases h.2.2 with ⟨rfl, h0⟩ | ⟨g, cap, cur, rfl, hb, hg, hle, hm, _⟩
  · omega
  · exact ⟨g, cap, rfl, hle, by simpa [maxLen] using hm, hb, (Array.getElem?_eq_some_iff.1 hg).1⟩
/-- n slices of entries, each in a block of its own, from B on and below S. -/
structure LinesE (w : World) (B S : Nat) (U : Nat → Value) (R : Nat → List Ent) (n : Nat) : Prop where
  row : ∀ k, k < n → OwnE w B (U k) (R k)
  hi : ∀ k, k < n → ∀ g, (U k).ownBlock = some g → g < S
  apart : ∀ j k, j < n → k < n → j ≠ k → (U j).ownBlock = none ∨ (U j).ownBlock ≠ (U k).ownBlock
theorem LinesE.step {w w' : World} {B S : Nat} {U : Nat → Value} {R : Nat → List Ent} {n i : Nat} (h : LinesE w B S U R n) (hi : i < n) {ys : List Ent} (hg : w.grownBy w' (U i).ownBlock) (hr : OwnE w' B (U i) ys) : LinesE w' B S U (upd R i ys) n := by
  refine ⟨fun k hk => ?_, h.hi, h.apart⟩
  by_cases e : k = i
  · subst e; rw [upd_same]; exact hr
  · rw [upd_other _ _ e]
    exact (h.row k hk).kept hg (h.apart k i hk hi e)
theorem LinesE.below {w w' : World} {B S : Nat} {U : Nat → Value} {R : Nat → List Ent} {n : Nat} (h : LinesE w B S U R n) (hb : Below w.heap.size w w') : LinesE w' B S U R n :=
  ⟨fun k hk => (h.row k hk).below hb, h.hi, h.apart⟩
theorem LinesE.ext {w : World} {B S : Nat} {U : Nat → Value} {R R' : Nat → List Ent} {n : Nat} (h : LinesE w B S U R n) (he : ∀ k, k < n → R' k = R k) : LinesE w B S U R' n :=
  ⟨fun k hk => by rw [he k hk]; exact h.row k hk, h.hi, h.apart⟩
def mkdE (m : Ent) (j : Nat) (xs : List Ent) : List Ent := List.replicate j m ++ xs.drop j
theorem mkdE_len {m : Ent} {j : Nat} {xs : List Ent} (h : j ≤ xs.length) : (mkdE m j xs).length = xs.length := by simp [mkdE]; omega
theorem mkdE_zero (m : Ent) (xs : List Ent) : mkdE m 0 xs = xs := by simp [mkdE]
theorem mkdE_all (m : Ent) (xs : List Ent) : mkdE m xs.length xs = List.replicate xs.length m := by simp [mkdE]
theorem mkdE_set {m : Ent} {j : Nat} {xs : List Ent} (h : j < xs.length) : (mkdE m j xs).set j m = mkdE m (j + 1) xs := by
  unfold mkdE
  apply List.ext_getElem?
  intro k
  rw [List.getElem?_set]
  by_cases hk : j = k
  · subst hk
    rw [if_pos rfl, if_pos (by simp; omega), List.getElem?_append_left (by simp), List.getElem?_replicate, if_pos (by omega)]
  · rw [if_neg hk]
    by_cases h1 : k < j
    · rw [List.getElem?_append_left (by simpa using h1), List.getElem?_append_left (by simp; omega), List.getElem?_replicate, List.getElem?_replicate, if_pos h1, if_pos (by omega)]
    · rw [List.getElem?_append_right (by simp; omega), List.getElem?_append_right (by simp; omega), List.getElem?_drop, List.getElem?_drop]
      congr 1
      simp
      omega
theorem repE_get (m : Ent) {n j : Nat} (h : j < n) : (List.replicate n m).getD j .nul = m := by
  rw [List.getD_eq_getElem?_getD, List.getElem?_replicate, if_pos h]; rfl
end Go.Proofs.YtpklbchbldipnabDoor

namespace Go.Proofs.YtpklbchbldipnabDoor
open Go.RowKit Go.Maps Classical

def mkM (x : Int) : Ent := ⟨[], false, List.replicate 32 0, List.replicate 32 0, x, 0⟩
theorem mkM_ok {x : Int} (h : -9223372036854775808 ≤ x ∧ x ≤ 9223372036854775807) : EnOk (mkM x) := ⟨⟨by show ∀ c ∈ ([] : List Int), _; simp, ⟨by show (List.replicate 32 (0 : Int)).length = 32; simp, fun c hc => by have := (List.mem_replicate.1 hc).2; omega⟩, ⟨by show (List.replicate 32 (0 : Int)).length = 32; simp, fun c hc => by have := (List.mem_replicate.1 hc).2; omega⟩⟩, by show ([] : List Int).length ≤ _; simp, h, by show (-9223372036854775808 : Int) ≤ 0 ∧ (0 : Int) ≤ 9223372036854775807; decide⟩
theorem bMr (x : Int) (W : World) : (Instr.build 36 #[(1, .int .i64 x)]).run Tryd.prog W = .ok (.agg (rfV (List.replicate 32 0) x 0).toArray) W := by kernel_rfl
theorem bMe (x : Int) (W : World) : (Instr.build 38 #[(3, .agg (rfV (List.replicate 32 0) x 0).toArray)]).run Tryd.prog W = .ok (.agg (enV (mkM x)).toArray) W := by kernel_rfl
def ml (i : Nat) : Ent := mkM (-1 - (i : Int))
def RmE (L : Nat → Nat) (X : Nat → List Ent) (i : Nat) : Nat → List Ent := fun k => if k < i then List.replicate (L k) (ml k) else X k
theorem RmE_lt {L : Nat → Nat} {X : Nat → List Ent} {i k : Nat} (h : k < i) : RmE L X i k = List.replicate (L k) (ml k) := if_pos h
theorem RmE_ge {L : Nat → Nat} {X : Nat → List Ent} {i k : Nat} (h : ¬ k < i) : RmE L X i k = X k := if_neg h
def Loc (w : World) (u v : Value) : Prop := v.ownBlock = u.ownBlock ∨ ∃ k, v.ownBlock = some k ∧ w.heap.size ≤ k
theorem app_step {wr W W' : World} {u v v' : Value} (hG : wr.grownBy W u.ownBlock) (hg : W.grownBy W' v.ownBlock) (hv : Loc wr u v) (hat : v'.ownBlock = v.ownBlock ∨ v'.ownBlock = some W.heap.size) : wr.grownBy W' u.ownBlock ∧ Loc wr u v' := by
  refine ⟨Go.Proofs.YtpklbchbldipnabDoor.grown_new hG hg ?_, ?_⟩
  · rcases hv with hv | ⟨k, hk, hle⟩
    · exact Or.inl hv
    · exact Or.inr fun j hj => by rw [hk] at hj; injection hj with hj; omega
  · rcases hat with hat | hat
    · rcases hv with hv | ⟨k, hk, hle⟩
      · exact Or.inl (hat.trans hv)
      · exact Or.inr ⟨k, hat.trans hk, hle⟩
    · exact Or.inr ⟨_, hat, hG.size⟩
theorem grown_refl (w : World) (row : Option Nat) : w.grownBy w row := ⟨rfl, rfl, rfl, Nat.le_refl _, fun _ _ _ => rfl⟩
/-- What the first i lists have become, lengthened by seventy. -/
def LgE (w : World) (B S : Nat) (U : Nat → Value) (L : Nat → Nat) (ms : List Value) (i : Nat) : Prop :=
  ∀ k, k < i → ∃ u, ms[k]? = some u ∧ OwnE w B u (List.replicate (L k + 70) (ml k)) ∧ (u.ownBlock = (U k).ownBlock ∨ ∃ g, u.ownBlock = some g ∧ S ≤ g)
theorem LgE.step {w w' : World} {B S : Nat} {U : Nat → Value} {R : Nat → List Ent} {L : Nat → Nat} {ms : List Value} {n i : Nat} (h : LgE w B S U L ms i) (hi : i < n) (hR : LinesE w B S U R n) (hg : w.grownBy w' (U i).ownBlock) : LgE w' B S U L ms i := by
  intro k hk
  obtain ⟨u, h1, h2, h3⟩ := h k hk
  refine ⟨u, h1, h2.kept hg ?_, h3⟩
  rcases h3 with h3 | ⟨g, hg1, hg2⟩
  · rw [h3]; exact hR.apart k i (by omega) hi (by omega)
  · refine Or.inr fun e => ?_
    have := hR.hi i hi g (e.symm.trans hg1)
    omega
theorem LgE.lines {w w' : World} {B S : Nat} {U : Nat → Value} {L : Nat → Nat} {ms : List Value} {i : Nat} (h : LgE w B S U L ms i) (hR : ∀ u xs, OwnE w B u xs → OwnE w' B u xs) : LgE w' B S U L ms i := by
  intro k hk
  obtain ⟨u, h1, h2, h3⟩ := h k hk
  exact ⟨u, h1, hR _ _ h2, h3⟩
theorem LgE.add {w : World} {B S : Nat} {U : Nat → Value} {L : Nat → Nat} {ms : List Value} {i : Nat} (h : LgE w B S U L ms i) (hm : ms.length = i) {g1 : Value} {wr : World} (hS : S ≤ wr.heap.size)
    (r1 : OwnE w B g1 (List.replicate (L i + 70) (ml i))) (l1 : Loc wr (U i) g1) : LgE w B S U L (ms ++ [g1]) (i + 1) := by
  intro k hk
  by_cases e : k < i
  · obtain ⟨u, h1, h2, h3⟩ := h k e
    exact ⟨u, by rw [List.getElem?_append_left (by omega)]; exact h1, h2, h3⟩
  · obtain rfl : k = i := by omega
    refine ⟨g1, by rw [List.getElem?_append_right (by omega), hm, Nat.sub_self]; rfl, r1, ?_⟩
    rcases l1 with hg | ⟨j, h1, h2⟩
    · exact Or.inl hg
    · exact Or.inr ⟨j, h1, by omega⟩
/-- The cells of an entry. -/
def AtE (W : World) (b o : Nat) (t : Ent) : Prop := W.rangeAt b o (enV t)
theorem AtE.below {w W : World} {b o : Nat} {t : Ent} (h : AtE w b o t) (hb : Below w.heap.size w W) : AtE W b o t := range_kept h hb
theorem infoLt : (Tryd.prog.info? 22).map (fun i => (i.zero, i.size, i.bytes)) = some (some (.slice none 0 0), 1, 24) := by kernel_rfl
section
variable {ops : Array Oper} {rest : List Oper} {o : Oper} {a : Act} {Q : Exit → Act → World → Prop} {w : World}
theorem wpList_putEn (hgd : o.guard = none) (x y : Operand) (ho : o.op = .store 38 x y) {B g n c k : Nat} {l : List Ent} {e' : Ent} (hx : a.eval x = .pointer (some ⟨g, k * 68, none⟩)) (hy : a.eval y = .agg (enV e').toArray)
    (h : OwnE w B (.slice (some ⟨g, 0, none⟩) n c) l) (hn : l.length = n) (hk : k < n) (hok : EnOk e')
    (hq : ∀ w', OwnE w' B (.slice (some ⟨g, 0, none⟩) n c) (l.set k e') → w.grownBy w' (some g) → wpList Tryd.prog ops Q rest (a.put o.dst undef) w') : wpList Tryd.prog ops Q (o :: rest) a w := by
  have hle := enV_len hok.ok
  have hok0 : EnOk (l.getD k .nul) := en_get h.1 (by omega)
  obtain ⟨a1, b1⟩ := h.put hn hk (j := 0) (cs := enV e') (by omega) (put_en hok0.ok hok.ok) hok
  have hr := h.room hn hk (j := 0) (m := 68) (by omega)
  rw [Nat.add_zero] at a1 b1 hr
  exact wpList_store_mid hgd 38 x y ho g (k * 68) (enV e').toArray hx hy (by simpa [hle] using hr) (by simpa [hle] using infoEz) (all_oneCell_toArray (enV_one e')) (hq _ (by simpa using a1) (by simpa using b1))
end
set_option maxRecDepth 100000 in
set_option maxHeartbeats 8000000 in
theorem marked_some {w : World} {B n gL cL : Nat} {us : List Value} {U : Nat → Value} {X : Nat → List Ent} {L : Nat → Nat} (hl : Row w B 22 (.slice (some ⟨gL, 0, none⟩) n cL) us) (hun : us.length = n) (hus : ∀ k, k < n → us[k]? = some (U k)) (hR : LinesE w B w.heap.size U X n) (hn : n ≤ 100) (hL : ∀ k, k < n → (X k).length = L k ∧ L k ≤ 10000) (hB : B ≤ w.heap.size) :
    Calls Tryd.prog 26 #[.slice (some ⟨gL, 0, none⟩) n cL] w fun e w' => e = .returned (.bool true) ∧ Below B w w' := by
  have HUN := hide hun
  have HUS := hide hus
  have HLL := hide hL
  have HGL : Hid (0 < n → gL < w.heap.size) := fun h0 => by
    obtain ⟨g', c', e0, _, _, _, hg⟩ := hl.head (by rw [hun]; exact h0)
    injection e0 with e1 e2 e3
    injection e1 with e1
    injection e1 with e1
    rw [e1]; exact hg
  have hcl : n ≤ cL := by
    rcases Nat.eq_zero_or_pos n with h0 | h0
    · rw [h0]; exact Nat.zero_le _
    · obtain ⟨g', c', e0, hc1, _⟩ := hl.head (by rw [hun]; exact h0)
      injection e0 with e1 e2 e3
      rw [hun, ← e3] at hc1
      exact hc1
  obtain ⟨i0, hi, hz0, hz1, hz2⟩ := info_parts infoLt
  clear hun hus hL
  go_enter Tryd.func26, Tryd.ntmps26
  go_wp2_with fail
  go_loopw [3] (fun iv wr => ∃ (i : Nat), i ≤ n ∧ iv = .int .i64 (i : Int) ∧ Row wr B 22 (.slice (some ⟨gL, 0, none⟩) n cL) us ∧ LinesE wr B w.heap.size U (RmE L X i) n ∧ Below B w wr) (fun i _ => n - (intOf i).toNat)
  case atStart => exact ⟨0, by omega, rfl, hl, hR.ext fun k hk => RmE_ge (by omega), Below.refl _ _⟩
  case round =>
    obtain ⟨i, hin, rfl, hl1, hR1, ho1⟩ := hrel
    clear hl hR
    by_cases hlt : i < n
    · have hri := hR1.row i hlt
      rw [RmE_ge (by omega)] at hri
      obtain ⟨m, hm⟩ : ∃ m, m = L i := ⟨_, rfl⟩
      obtain ⟨hxl, hmb⟩ := unhide HLL i hlt
      rw [← hm] at hxl hmb
      obtain ⟨a, c, hui⟩ := hri.shape
      rw [hxl] at hui
      have HXL := hide hxl
      have HUI := hide hui
      have HMM := hide hm
      have hiI : (i : Int) < (n : Int) := by omega
      clear hxl hui hm hri
      go_wp2_with fail
      go_loopw [4] (fun jv W => ∃ (j : Nat), j ≤ m ∧ jv = .int .i64 (j : Int) ∧ Row W B 22 (.slice (some ⟨gL, 0, none⟩) n cL) us ∧ LinesE W B w.heap.size U (upd (RmE L X i) i (mkdE (ml i) j (X i))) n ∧ Below B w W) (fun j _ => m - (intOf j).toNat)
      case atStart =>
        refine ⟨0, by omega, rfl, hl1, hR1.ext fun k hk => ?_, ho1⟩
        by_cases e : k = i
        · subst e; rw [upd_same, mkdE_zero, RmE_ge (by omega)]
        · rw [upd_other _ _ e]
      case round =>
        clear hl1 hR1 ho1
        obtain ⟨j, hj, rfl, hl2, hR2, ho2⟩ := hrel
        have hcell : wr.cell? ⟨gL, i, none⟩ = some (.slice a m c) := by
          rw [hl2.cellAt (by rw [HUN.out]; exact hlt), unhide HUS i hlt, HUI.out]
        by_cases hjm : j < m
        · have hri := hR2.row i hlt
          rw [upd_same, HUI.out] at hri
          have hlen : (mkdE (ml i) j (X i)).length = m := by rw [mkdE_len (by rw [HXL.out]; omega), HXL.out]
          obtain ⟨g, c2, hv, hc1, hc2, hgB, hgw⟩ := hri.front (by rw [hlen]; omega)
          rw [hlen] at hc1
          injection hv with e1 e2 e3
          subst e1 e3
          have hjI : (j : Int) < (m : Int) := by omega
          have HRI := hide hri
          have HLEN := hide hlen
          clear hlen e2 hri
          have HMK : Hid (EnOk (ml i)) := mkM_ok (by omega)
          go_wp2_with (first
            | (refine wpList_bld1 rfl 36 1 (.tmp 33) rfl (v := .int .i64 (-1 - (i : Int))) (u := .agg (rfV (List.replicate 32 0) (-1 - (i : Int)) 0).toArray) rfl (bMr _) ?_; refine wpList_bld1 rfl 38 3 (.tmp 34) rfl (v := .agg (rfV (List.replicate 32 0) (-1 - (i : Int)) 0).toArray) (u := .agg (enV (ml i)).toArray) rfl (bMe _) ?_)
            | (refine wpList_putEn rfl (.tmp 36) (.tmp 35) rfl (k := j) (e' := ml i) rfl rfl HRI.out HLEN.out hjm HMK.out ?_; intro w9 hO9 hg9))
          go_roundw
          case rel =>
            have hu : (U i).ownBlock = some g := by rw [HUI.out]; rfl
            rw [mkdE_set (by rw [HXL.out]; exact hjm)] at hO9
            have hs3 : wr.grownBy w9 (U i).ownBlock := by rw [hu]; exact hg9
            have hap := apartE hl2 (hR2.row i hlt) (by decide)
            refine ⟨j + 1, by omega, by go_num, hl2.kept hs3 hap, ?_, ho2.grown hs3 (Nat.le_trans hB ho2.size) (fun b hb => ((hR2.row i hlt).lt b hb).1)⟩
            refine (hR2.step hlt hs3 (ys := mkdE (ml i) (j + 1) (X i)) (by rw [HUI.out]; exact hO9)).ext fun k hk => ?_
            by_cases e : k = i
            · subst e; rw [upd_same, upd_same]
            · rw [upd_other _ _ e, upd_other _ _ e, upd_other _ _ e]
          case measure => simp [intOf]; omega
        · have hjI : ¬ (j : Int) < (m : Int) := by omega
          go_wp2
          go_roundw
          case rel =>
            refine ⟨i + 1, by omega, by go_num, hl2, hR2.ext fun k hk => ?_, ho2⟩
            by_cases e : k = i
            · subst e
              obtain rfl : j = m := by omega
              rw [upd_same, RmE_lt (by omega), ← HMM.out, ← HXL.out, mkdE_all]
            · rw [upd_other _ _ e]
              by_cases e2 : k < i
              · rw [RmE_lt e2, RmE_lt (by omega)]
              · rw [RmE_ge e2, RmE_ge (by omega)]
          case measure => simp [intOf]; omega
    · obtain rfl : i = n := by omega
      have hiN : ¬ (i : Int) < (i : Int) := by omega
      go_wp2_with fail
      go_loopw [5, 6] (fun mr iv W => ∃ (k : Nat) (ms : List Value), k ≤ i ∧ iv = .int .i64 (k : Int) ∧ ms.length = k ∧ Row W w.heap.size 22 mr ms ∧ Row W B 22 (.slice (some ⟨gL, 0, none⟩) i cL) us ∧ LinesE W B w.heap.size U (RmE L X i) i ∧ LgE W B w.heap.size U L ms k ∧ Below B w W) (fun _ k _ => i - (intOf k).toNat)
      case atStart => exact ⟨0, [], by omega, rfl, rfl, Row.nil _ _ _, hl1, hR1, fun k hk => by omega, ho1⟩
      case round =>
        clear hl1 hR1 ho1
        obtain ⟨k, ms, hk, rfl, hms, hmr, hl2, hR2, hlg, ho2⟩ := hrel
        by_cases hlt2 : k < i
        · obtain ⟨m, hm⟩ : ∃ m, m = L k := ⟨_, rfl⟩
          obtain ⟨_, hmb⟩ := unhide HLL k hlt2
          rw [← hm] at hmb
          have hr0 := hR2.row k hlt2
          rw [RmE_lt hlt2, ← hm] at hr0
          obtain ⟨a, c, hui⟩ := hr0.shape
          rw [List.length_replicate] at hui
          have hcell : wr.cell? ⟨gL, k, none⟩ = some (.slice a m c) := by
            rw [hl2.cellAt (by rw [HUN.out]; exact hlt2), unhide HUS k hlt2, hui]
          have hBr : B ≤ wr.heap.size := Nat.le_trans hB ho2.size
          rw [hui] at hr0
          have HMM := hide hm
          have HUI := hide hui
          have HMS := hide hms
          have hszO := ho2.size
          have hkI : (k : Int) < (i : Int) := by omega
          clear hm hui hms hlt hin
          go_wp2_with fail
          go_loopw [7, 8] (fun gv nv W => ∃ (q : Nat), q ≤ 70 ∧ nv = .int .i64 (q : Int) ∧ wr.grownBy W (Value.slice a m c).ownBlock ∧ OwnE W B (.slice a m c) (List.replicate m (ml k)) ∧ OwnE W B gv (List.replicate (m + q) (ml k)) ∧ Loc wr (.slice a m c) gv) (fun _ n _ => 70 - (intOf n).toNat)
          case atStart => exact ⟨0, by omega, rfl, grown_refl _ _, hr0, hr0, Or.inl rfl⟩
          case round =>
            clear hcell hr0
            obtain ⟨q, hq, rfl, hG5, hu5, hw5, hL5⟩ := hrel
            obtain ⟨a5, c5, hs5⟩ := hw5.shape
            rw [List.length_replicate] at hs5
            subst hs5
            have hszG := hG5.size
            by_cases hqz : q < 70
            · have hqI : (q : Int) < 70 := by omega
              have HU6 := hide (hu5.below ((Below.refl wr.heap.size wr).alloc (Nat.le_refl _) (.cells (enV (ml k)).toArray 38)))
              have HW6 := hide (hw5.below ((Below.refl wr.heap.size wr).alloc (Nat.le_refl _) (.cells (enV (ml k)).toArray 38)))
              have HG6 := hide (hG5.trans (World.grownBy_alloc wr (.cells (enV (ml k)).toArray 38) _))
              have HMK : Hid (EnOk (ml k)) := mkM_ok (by omega)
              have HC6 := hide (isEn_one wr (ml k) HMK.out).cells
              have HOK1 : Hid (∀ e ∈ [ml k], EnOk e) := fun e he => by rw [List.mem_singleton.1 he]; exact HMK.out
              have HEL := hide (enV_len HMK.out.ok)
              clear hu5 hw5
              go_wp2_with (first
                | (refine wpList_bld1 rfl 36 1 (.tmp 53) rfl (v := .int .i64 (-1 - (k : Int))) (u := .agg (rfV (List.replicate 32 0) (-1 - (k : Int)) 0).toArray) rfl (bMr _) ?_; refine wpList_bld1 rfl 38 3 (.tmp 54) rfl (v := .agg (rfV (List.replicate 32 0) (-1 - (k : Int)) 0).toArray) (u := .agg (enV (ml k)).toArray) rfl (bMe _) ?_)
                | (refine wpList_buildEn rfl (.tmp 55) rfl rfl HEL.out ?_)
                | (at_builtin; refine wpList_appEh rfl (.tmp 51) (.tmp 56) rfl rfl (unhide HW6) rfl (m := [ml k]) rfl HOK1.out (unhide HC6) (by simp; omega) (by simp; omega) ?_; intro v7 w7 hw7 hg7 hat7 hsh7))
              obtain ⟨hG7, hL7⟩ := app_step HG6.out hg7 hL5 hat7
              have hu7 := hsh7 _ _ _ HU6.out (fun _ => by simp)
              have hw8 : OwnE w7 B v7 (List.replicate (m + (q + 1)) (ml k)) := by rw [← Nat.add_assoc, List.replicate_succ']; exact hw7
              refine ⟨⟨q + 1, by omega, by go_num, hG7, hu7, hw8, hL7⟩, ?_⟩
              simp [intOf]; omega
            · obtain ⟨m3, hm3⟩ : ∃ m3, m3 = m + q := ⟨_, rfl⟩
              rw [← hm3] at hw5 hL5 ⊢
              have hq3 : m3 = m + 70 := by omega
              have hqI : ¬ (q : Int) < 70 := by omega
              have hm3b : m3 ≤ 100000 := by omega
              have HM3 := hide hq3
              have hap5 := apartE hmr (hR2.row k hlt2) (by decide)
              rw [HUI.out] at hap5
              have hmrG := hmr.kept hG5 hap5
              clear hq3 hm3
              go_wp2_with (at_builtin; refine wpList_append_own _ rfl _ _ 59 rfl w.heap.size 22 i0 (.slice none 0 0) 1 24 Tryd.underlying59 hi hz0 hz1 hz2 rfl (by decide) _ _ _ rfl (World.ownsRow.alloc hmrG _) ⟨wr.heap.size, 0, none⟩ 1 1 [.slice a5 m3 c5] rfl rfl (cell_one_new _ _ _) (by intro u hu; simp at hu; subst hu; rfl) (by have := HMS.out; unfold maxLen; omega) (by have := HMS.out; omega) (by simp; omega) ?_; intro v8 w8 hw8 hg8 hnil8)
              have hG8 := (World.grownBy_alloc wr _ _).trans hg8
              have hkp : ∀ u xs, OwnE wr B u xs → OwnE w8 B u xs := fun u xs h => h.kept hG8 (h.apart hmrG (by decide))
              have hG5' := hG5
              rw [← HUI.out] at hG5'
              have hap6 := apartE hl2 (hR2.row k hlt2) (by decide)
              have hgLw : gL < w.heap.size := unhide HGL (by omega)
              have hl8 : Row w8 B 22 (.slice (some ⟨gL, 0, none⟩) i cL) us := (hl2.kept hG5' hap6).kept hG8 (Or.inr fun e => by have := (hmrG.lt gL e.symm).1; omega)
              have hR8 : LinesE wr B w.heap.size U (RmE L X i) i := by
                refine (hR2.step hlt2 hG5' (ys := List.replicate m (ml k)) (by rw [HUI.out]; exact hu5)).ext fun j hj => ?_
                by_cases e : j = k
                · subst e
                  rw [upd_same, RmE_lt hlt2, HMM.out]
                · rw [upd_other _ _ e]
              have hlg8 := hlg.step hlt2 hR2 hG5'
              rw [← HUI.out] at hL5
              have hlg9 := (hlg8.add HMS.out hszO (by rw [← HMM.out, ← HM3.out]; exact hw5) hL5).lines hkp
              have hbB : Below B w w8 := by
                have h1 : Below B w wr := ho2.grown hG5' hBr (fun g hg => ((hR2.row k hlt2).lt g hg).1)
                exact h1.grown hG8 (Nat.le_trans hBr hszG) (fun g hg => Nat.le_trans hB (hmrG.lt g hg).1)
              refine ⟨⟨k + 1, _, by omega, by go_num, by simp [HMS.out], ?_, hl8, ⟨fun j hj => hkp _ _ (hR8.row j hj), hR8.hi, hR8.apart⟩, hlg9, hbB⟩, ?_⟩
              · unfold Row
                rw [List.length_append]
                exact hw8
              · simp [intOf]; omega
        · obtain rfl : k = i := by omega
          obtain ⟨am, cm, rfl⟩ := hmr.shape
          rw [hms] at hmr ⊢
          have HF : Hid (∀ j, j < k → ∃ gm g c g' c', am = some ⟨gm, 0, none⟩ ∧ k ≤ cm ∧ cm ≤ 9223372036854775807 ∧ wr.cell? ⟨gm, j, none⟩ = some (.slice (some ⟨g', 0, none⟩) (L j + 70) c') ∧ L j + 70 ≤ c' ∧ c' ≤ 9223372036854775807 ∧ wr.cell? ⟨gL, j, none⟩ = some (.slice g (L j) c) ∧ (∀ q, q < L j + 70 → AtE wr g' (q * 68) (ml j)) ∧ (0 < L j → ∃ g2, g = some ⟨g2, 0, none⟩ ∧ L j ≤ c ∧ c ≤ 9223372036854775807 ∧ ∀ q, q < L j → AtE wr g2 (q * 68) (ml j))) := fun j hj => by
            obtain ⟨gm, cm2, hvm, r1, r2, _, _⟩ := hmr.head (by omega)
            injection hvm with x1 x2 x3
            subst x1 x3
            have hr := hR2.row j hj
            rw [RmE_lt hj] at hr
            obtain ⟨u, hu, hru, _⟩ := hlg j hj
            obtain ⟨a, c, hs⟩ := hr.shape
            rw [List.length_replicate] at hs
            obtain ⟨g', c', hs', s1, s2, _, _⟩ := hru.front (by rw [List.length_replicate]; omega)
            rw [List.length_replicate] at hs' s1
            refine ⟨gm, a, c, g', c', rfl, by omega, r2, ?_, s1, s2, ?_, fun q hq => ?_, fun hp => ?_⟩
            · rw [hmr.cellAt (by rw [hms]; exact hj), hu, hs']
            · rw [hl2.cellAt (by rw [HUN.out]; exact hj), unhide HUS j hj, hs]
            · rw [hs'] at hru
              have := hru.rangeE (by rw [List.length_replicate]) hq
              rw [repE_get _ hq] at this
              exact this
            · obtain ⟨g2, c2, hv, t1, t2, _, _⟩ := hr.front (by rw [List.length_replicate]; exact hp)
              rw [hs, List.length_replicate] at hv
              rw [List.length_replicate] at t1
              injection hv with e1 _ e3
              subst e1 e3
              rw [hs] at hr
              refine ⟨g2, rfl, t1, t2, fun q hq => ?_⟩
              have := hr.rangeE (by rw [List.length_replicate]) hq
              rw [repE_get _ hq] at this
              exact this
          have HO2 := hide ho2
          have hBr : B ≤ wr.heap.size := Nat.le_trans hB ho2.size
          obtain ⟨wz, hwz⟩ : ∃ wz, wz = wr := ⟨_, rfl⟩
          rw [← hwz] at HF HO2 hBr
          have HWZ : Hid (Below wz.heap.size wz wr) := by rw [hwz]; exact Below.refl _ _
          clear hmr hl2 hR2 hlg ho2 hwz
          go_wp2_with fail
          go_loopw [9] (fun iv W => ∃ (j : Nat), j ≤ k ∧ iv = .int .i64 (j : Int) ∧ Hid (Below wz.heap.size wz W)) (fun j _ => k - (intOf j).toNat)
          case atStart => exact ⟨0, by omega, rfl, HWZ⟩
          case round =>
            clear HWZ
            obtain ⟨j, hj, rfl, HB1⟩ := hrel
            by_cases hjk : j < k
            · obtain ⟨gm, gq, cq, g', c', rfl, y1, y2, f1, f2, f3, f4, f5, f6⟩ := unhide HF j hjk
              obtain ⟨_, hLj⟩ := unhide HLL j hjk
              generalize L j = m at *
              obtain ⟨y, hy⟩ : ∃ y, y = m + 70 := ⟨_, rfl⟩
              rw [← hy] at f1 f2 f5
              have hyb : y ≤ 100000 := by omega
              have hmy : m ≤ y := by omega
              have hjI : (j : Int) < (k : Int) := by omega
              have F1 : Hid (∀ W, Below wz.heap.size wz W → W.cell? ⟨gm, j, none⟩ = some (.slice (some ⟨g', 0, none⟩) y c')) := fun W h => (h.cell (p := ⟨gm, j, none⟩) (World.block_lt_of_cell? wz _ f1)).trans f1
              have F4 : Hid (∀ W, Below wz.heap.size wz W → W.cell? ⟨gL, j, none⟩ = some (.slice gq m cq)) := fun W h => (h.cell (p := ⟨gL, j, none⟩) (World.block_lt_of_cell? wz _ f4)).trans f4
              have F5 : Hid (∀ W, Below wz.heap.size wz W → ∀ q, q < y → AtE W g' (q * 68) (ml j)) := fun W h q hq => (f5 q hq).below h
              have F6 : Hid (∀ W, Below wz.heap.size wz W → 0 < m → ∃ g2, gq = some ⟨g2, 0, none⟩ ∧ m ≤ cq ∧ cq ≤ 9223372036854775807 ∧ ∀ q, q < m → AtE W g2 (q * 68) (ml j)) := fun W h hp => by
                obtain ⟨g2, e1, e2, e3, e4⟩ := f6 hp
                exact ⟨g2, e1, e2, e3, fun q hq => (e4 q hq).below h⟩
              obtain ⟨gg, hgg⟩ : ∃ gg, gg = wr.heap.size := ⟨_, rfl⟩
              have HMK : Hid (EnOk (ml j)) := mkM_ok (by omega)
              have hnq := en_neq HMK.out.ok HMK.out.ok
              have hgd := en_guard .neq
              rw [decide_eq_true rfl] at hnq
              have HIE : Hid ((Tryd.prog.info? 38).map (·.size) = some (enV (ml j)).length) := infoEof HMK.out.ok
              have HZE : Hid (z68.length = (enV (ml j)).length) := by show _ = _; rw [enV_len HMK.out.ok]; exact z68_len
              have HOE : Hid (∀ u ∈ enV (ml j), u.oneCell' = true) := enV_one _
              have HBE : Hid (∀ W, (Instr.build 38 #[(3, .agg (rfV (List.replicate 32 0) (-1 - (j : Int)) 0).toArray)]).run Tryd.prog W = .ok (.agg (enV (ml j)).toArray) W) := bMe _
              unfold AtE at F5 F6
              generalize hEV : enV (ml j) = EV at *
              have HEV := hide hEV
              clear f1 f4 f5 f6 hy hEV HMK
              go_upto_region 22 with (first
                | (refine wpList_bld1 rfl 36 1 (.tmp 69) rfl (v := .int .i64 (-1 - (j : Int))) (u := .agg (rfV (List.replicate 32 0) (-1 - (j : Int)) 0).toArray) rfl (bMr _) ?_; refine wpList_bld1 rfl 38 3 (.tmp 70) rfl (v := .agg (rfV (List.replicate 32 0) (-1 - (j : Int)) 0).toArray) (u := .agg EV.toArray) rfl HBE.out ?_)
                | (refine wpList_allocZ rfl 38 rfl infoEn ?_)
                | (refine wpList_storeArr2 (cs' := EV) rfl (.tmp 10) (.tmp 71) 38 rfl rfl rfl (Arr.new wr z68 38) HIE.out HZE.out HOE.out ?_; intro w5 hA5 hw5))
              have hb5 : Below wr.heap.size wr w5 := hw5.below _ _ (lit_blw _ _) (Nat.le_refl _)
              have HB5 : Hid (Below wz.heap.size wz w5) := HB1.out.trans (hb5.mono HB1.out.size)
              rw [← hgg] at hA5
              rw [← hgg]
              have HA5 := hide hA5.range
              clear hA5 hw5 hb5 HB1 hgg
              go_wp2_with fail
              go_loopw [11] (fun iv W => ∃ (c : Nat), c ≤ y ∧ iv = .int .i64 (c : Int) ∧ Hid (W.rangeAt gg 0 EV ∧ Below wz.heap.size wz W)) (fun c _ => y - (intOf c).toNat)
              case atStart => exact ⟨0, by omega, rfl, HA5.out, HB5.out⟩
              case round =>
                clear HA5 HB5
                obtain ⟨c, hc, rfl, HB2⟩ := hrel
                have e1 := unhide F1 wr HB2.out.2
                have m0 := HB2.out.1
                by_cases hcy : c < y
                · have hcI : (c : Int) < (y : Int) := by omega
                  have x0 := unhide F5 wr HB2.out.2 c hcy
                  have e4 := unhide F4 wr HB2.out.2
                  have HN : Hid (wr.drew.rangeAt gg 0 EV ∧ Below wz.heap.size wz wr.drew) := ⟨m0, HB2.out.2.drew⟩
                  by_cases hcm3 : c < m
                  · obtain ⟨g2, rfl, t1, t2, t3⟩ := unhide F6 wr HB2.out.2 (by omega)
                    have hcmI : (c : Int) < (m : Int) := by omega
                    have z0 := t3 c hcm3
                    clear t3
                    go_wp2_with fail
                    refine wp_region_held_drew (S := fun W => W.cell? ⟨gm, j, none⟩ = some (.slice (some ⟨g', 0, none⟩) y c') ∧ W.rangeAt g' (c * 68) EV ∧ W.rangeAt gg 0 EV ∧ W.cell? ⟨gL, j, none⟩ = some (.slice (some ⟨g2, 0, none⟩) m cq) ∧ W.rangeAt g2 (c * 68) EV) (by kernel_rfl) (⟨e1, x0, m0, e4, z0⟩) (fun hHeld => ?_)
                    refine wpAnyH_take (i := 0) (v := .slice (some ⟨gm, 0, none⟩) k cm) rfl (by kernel_rfl) (by kernel_rfl) (by kernel_rfl) (fun _ _ _ h => h) (Or.inl ⟨by rfl, fun w hSw => by obtain ⟨hS1, hS2, hS3, hS4, hS5⟩ := hSw; go_simp⟩) (by assumption) ?_
                    simp only [List.getElem_toArray, List.getElem_cons_zero, Act.put, List.setIfInBounds_toArray, List.set_cons_zero, List.set_cons_succ]
                    refine wpAnyH_take (i := 1) (v := .int .i64 (j : Int)) rfl (by kernel_rfl) (by kernel_rfl) (by kernel_rfl) (fun _ _ _ h => h) (Or.inl ⟨by rfl, fun w hSw => by obtain ⟨hS1, hS2, hS3, hS4, hS5⟩ := hSw; go_simp⟩) (by assumption) ?_
                    simp only [List.getElem_toArray, List.getElem_cons_succ, List.getElem_cons_zero, Act.put, List.setIfInBounds_toArray, List.set_cons_zero, List.set_cons_succ]
                    refine wpAnyH_take (i := 2) (v := .pointer (some ⟨gm, j, none⟩)) rfl (by kernel_rfl) (by kernel_rfl) (by kernel_rfl) (fun _ _ _ h => h) (Or.inl ⟨by rfl, fun w hSw => by obtain ⟨hS1, hS2, hS3, hS4, hS5⟩ := hSw; go_simp⟩) (by assumption) ?_
                    simp only [List.getElem_toArray, List.getElem_cons_succ, List.getElem_cons_zero, Act.put, List.setIfInBounds_toArray, List.set_cons_zero, List.set_cons_succ]
                    refine wpAnyH_take (i := 3) (v := .slice (some ⟨g', 0, none⟩) y c') rfl (by kernel_rfl) (by kernel_rfl) (by kernel_rfl) (fun _ _ _ h => h) (Or.inl ⟨by rfl, fun w hSw => by obtain ⟨hS1, hS2, hS3, hS4, hS5⟩ := hSw; go_simp⟩) (by assumption) ?_
                    simp only [List.getElem_toArray, List.getElem_cons_succ, List.getElem_cons_zero, Act.put, List.setIfInBounds_toArray, List.set_cons_zero, List.set_cons_succ]
                    refine wpAnyH_take (i := 4) (v := .int .i64 (c : Int)) rfl (by kernel_rfl) (by kernel_rfl) (by kernel_rfl) (fun _ _ _ h => h) (Or.inl ⟨by rfl, fun w hSw => by obtain ⟨hS1, hS2, hS3, hS4, hS5⟩ := hSw; go_simp⟩) (by assumption) ?_
                    simp only [List.getElem_toArray, List.getElem_cons_succ, List.getElem_cons_zero, Act.put, List.setIfInBounds_toArray, List.set_cons_zero, List.set_cons_succ]
                    refine wpAnyH_take (i := 5) (v := .pointer (some ⟨g', c * 68, none⟩)) rfl (by kernel_rfl) (by kernel_rfl) (by kernel_rfl) (fun _ _ _ h => h) (Or.inl ⟨by rfl, fun w hSw => by obtain ⟨hS1, hS2, hS3, hS4, hS5⟩ := hSw; go_simp⟩) (by assumption) ?_
                    simp only [List.getElem_toArray, List.getElem_cons_succ, List.getElem_cons_zero, Act.put, List.setIfInBounds_toArray, List.set_cons_zero, List.set_cons_succ]
                    refine wpAnyH_take (i := 6) (v := .agg (EV).toArray) rfl (by kernel_rfl) (by kernel_rfl) (by kernel_rfl) (fun _ _ _ h => h) (yieldsIf_load_mid (by rfl) _ _ rfl _ _ rfl _ _ (fun w hSw => hSw.2.1) Tryd.underlying38 rfl HIE.out) (by assumption) ?_
                    simp only [List.getElem_toArray, List.getElem_cons_succ, List.getElem_cons_zero, Act.put, List.setIfInBounds_toArray, List.set_cons_zero, List.set_cons_succ]
                    refine wpAnyH_take (i := 7) (v := .agg (EV).toArray) rfl (by kernel_rfl) (by kernel_rfl) (by kernel_rfl) (fun _ _ _ h => h) (yieldsIf_load_mid (by rfl) _ _ rfl _ _ rfl _ _ (fun w hSw => hSw.2.2.1) Tryd.underlying38 rfl HIE.out) (by assumption) ?_
                    simp only [List.getElem_toArray, List.getElem_cons_succ, List.getElem_cons_zero, Act.put, List.setIfInBounds_toArray, List.set_cons_zero, List.set_cons_succ]
                    refine wpAnyH_take (i := 8) (v := .bool false) rfl (by kernel_rfl) (by kernel_rfl) (by kernel_rfl) (fun _ _ _ h => h) (Or.inl ⟨by rfl, fun w hSw => by obtain ⟨hS1, hS2, hS3, hS4, hS5⟩ := hSw; go_simp⟩) (by assumption) ?_
                    simp only [List.getElem_toArray, List.getElem_cons_succ, List.getElem_cons_zero, Act.put, List.setIfInBounds_toArray, List.set_cons_zero, List.set_cons_succ]
                    refine wpAnyH_take (i := 9) (v := .bool false) rfl (by kernel_rfl) (by kernel_rfl) (by kernel_rfl) (fun _ _ _ h => h) (Or.inl ⟨by rfl, fun w hSw => by obtain ⟨hS1, hS2, hS3, hS4, hS5⟩ := hSw; go_simp⟩) (by assumption) ?_
                    simp only [List.getElem_toArray, List.getElem_cons_succ, List.getElem_cons_zero, Act.put, List.setIfInBounds_toArray, List.set_cons_zero, List.set_cons_succ]
                    refine wpAnyH_take (i := 10) (v := .int .i64 (c : Int)) rfl (by kernel_rfl) (by kernel_rfl) (by kernel_rfl) (fun _ _ _ h => h) (Or.inl ⟨by rfl, fun w hSw => by obtain ⟨hS1, hS2, hS3, hS4, hS5⟩ := hSw; go_simp⟩) (by assumption) ?_
                    simp only [List.getElem_toArray, List.getElem_cons_succ, List.getElem_cons_zero, Act.put, List.setIfInBounds_toArray, List.set_cons_zero, List.set_cons_succ]
                    refine wpAnyH_take (i := 11) (v := .slice (some ⟨gL, 0, none⟩) k cL) rfl (by kernel_rfl) (by kernel_rfl) (by kernel_rfl) (fun _ _ _ h => h) (Or.inl ⟨by rfl, fun w hSw => by obtain ⟨hS1, hS2, hS3, hS4, hS5⟩ := hSw; go_simp⟩) (by assumption) ?_
                    simp only [List.getElem_toArray, List.getElem_cons_succ, List.getElem_cons_zero, Act.put, List.setIfInBounds_toArray, List.set_cons_zero, List.set_cons_succ]
                    refine wpAnyH_take (i := 12) (v := .int .i64 (j : Int)) rfl (by kernel_rfl) (by kernel_rfl) (by kernel_rfl) (fun _ _ _ h => h) (Or.inl ⟨by rfl, fun w hSw => by obtain ⟨hS1, hS2, hS3, hS4, hS5⟩ := hSw; go_simp⟩) (by assumption) ?_
                    simp only [List.getElem_toArray, List.getElem_cons_succ, List.getElem_cons_zero, Act.put, List.setIfInBounds_toArray, List.set_cons_zero, List.set_cons_succ]
                    refine wpAnyH_take (i := 13) (v := .pointer (some ⟨gL, j, none⟩)) rfl (by kernel_rfl) (by kernel_rfl) (by kernel_rfl) (fun _ _ _ h => h) (Or.inl ⟨by rfl, fun w hSw => by obtain ⟨hS1, hS2, hS3, hS4, hS5⟩ := hSw; go_simp⟩) (by assumption) ?_
                    simp only [List.getElem_toArray, List.getElem_cons_succ, List.getElem_cons_zero, Act.put, List.setIfInBounds_toArray, List.set_cons_zero, List.set_cons_succ]
                    refine wpAnyH_take (i := 14) (v := .slice (some ⟨g2, 0, none⟩) m cq) rfl (by kernel_rfl) (by kernel_rfl) (by kernel_rfl) (fun _ _ _ h => h) (Or.inl ⟨by rfl, fun w hSw => by obtain ⟨hS1, hS2, hS3, hS4, hS5⟩ := hSw; go_simp⟩) (by assumption) ?_
                    simp only [List.getElem_toArray, List.getElem_cons_succ, List.getElem_cons_zero, Act.put, List.setIfInBounds_toArray, List.set_cons_zero, List.set_cons_succ]
                    refine wpAnyH_take (i := 15) (v := .int .i64 (m : Int)) rfl (by kernel_rfl) (by kernel_rfl) (by kernel_rfl) (fun _ _ _ h => h) (Or.inl ⟨by rfl, fun w hSw => by obtain ⟨hS1, hS2, hS3, hS4, hS5⟩ := hSw; go_simp⟩) (by assumption) ?_
                    simp only [List.getElem_toArray, List.getElem_cons_succ, List.getElem_cons_zero, Act.put, List.setIfInBounds_toArray, List.set_cons_zero, List.set_cons_succ]
                    refine wpAnyH_take (i := 16) (v := .bool true) rfl (by kernel_rfl) (by kernel_rfl) (by kernel_rfl) (fun _ _ _ h => h) (Or.inl ⟨by rfl, fun w hSw => by obtain ⟨hS1, hS2, hS3, hS4, hS5⟩ := hSw; go_simp⟩) (by assumption) ?_
                    simp only [List.getElem_toArray, List.getElem_cons_succ, List.getElem_cons_zero, Act.put, List.setIfInBounds_toArray, List.set_cons_zero, List.set_cons_succ]
                    refine wpAnyH_take (i := 17) (v := .bool true) rfl (by kernel_rfl) (by kernel_rfl) (by kernel_rfl) (fun _ _ _ h => h) (Or.inl ⟨by rfl, fun w hSw => by obtain ⟨hS1, hS2, hS3, hS4, hS5⟩ := hSw; go_simp⟩) (by assumption) ?_
                    simp only [List.getElem_toArray, List.getElem_cons_succ, List.getElem_cons_zero, Act.put, List.setIfInBounds_toArray, List.set_cons_zero, List.set_cons_succ]
                    refine wpAnyH_take (i := 18) (v := .slice (some ⟨gL, 0, none⟩) k cL) rfl (by kernel_rfl) (by kernel_rfl) (by kernel_rfl) (fun _ _ _ h => h) (Or.inl ⟨by rfl, fun w hSw => by obtain ⟨hS1, hS2, hS3, hS4, hS5⟩ := hSw; go_simp⟩) (by assumption) ?_
                    simp only [List.getElem_toArray, List.getElem_cons_succ, List.getElem_cons_zero, Act.put, List.setIfInBounds_toArray, List.set_cons_zero, List.set_cons_succ]
                    refine wpAnyH_take (i := 19) (v := .int .i64 (j : Int)) rfl (by kernel_rfl) (by kernel_rfl) (by kernel_rfl) (fun _ _ _ h => h) (Or.inl ⟨by rfl, fun w hSw => by obtain ⟨hS1, hS2, hS3, hS4, hS5⟩ := hSw; go_simp⟩) (by assumption) ?_
                    simp only [List.getElem_toArray, List.getElem_cons_succ, List.getElem_cons_zero, Act.put, List.setIfInBounds_toArray, List.set_cons_zero, List.set_cons_succ]
                    refine wpAnyH_take (i := 20) (v := .pointer (some ⟨gL, j, none⟩)) rfl (by kernel_rfl) (by kernel_rfl) (by kernel_rfl) (fun _ _ _ h => h) (Or.inl ⟨by rfl, fun w hSw => by obtain ⟨hS1, hS2, hS3, hS4, hS5⟩ := hSw; go_simp⟩) (by assumption) ?_
                    simp only [List.getElem_toArray, List.getElem_cons_succ, List.getElem_cons_zero, Act.put, List.setIfInBounds_toArray, List.set_cons_zero, List.set_cons_succ]
                    refine wpAnyH_take (i := 21) (v := .slice (some ⟨g2, 0, none⟩) m cq) rfl (by kernel_rfl) (by kernel_rfl) (by kernel_rfl) (fun _ _ _ h => h) (Or.inl ⟨by rfl, fun w hSw => by obtain ⟨hS1, hS2, hS3, hS4, hS5⟩ := hSw; go_simp⟩) (by assumption) ?_
                    simp only [List.getElem_toArray, List.getElem_cons_succ, List.getElem_cons_zero, Act.put, List.setIfInBounds_toArray, List.set_cons_zero, List.set_cons_succ]
                    refine wpAnyH_take (i := 22) (v := .int .i64 (c : Int)) rfl (by kernel_rfl) (by kernel_rfl) (by kernel_rfl) (fun _ _ _ h => h) (Or.inl ⟨by rfl, fun w hSw => by obtain ⟨hS1, hS2, hS3, hS4, hS5⟩ := hSw; go_simp⟩) (by assumption) ?_
                    simp only [List.getElem_toArray, List.getElem_cons_succ, List.getElem_cons_zero, Act.put, List.setIfInBounds_toArray, List.set_cons_zero, List.set_cons_succ]
                    refine wpAnyH_take (i := 23) (v := .pointer (some ⟨g2, c * 68, none⟩)) rfl (by kernel_rfl) (by kernel_rfl) (by kernel_rfl) (fun _ _ _ h => h) (Or.inl ⟨by rfl, fun w hSw => by obtain ⟨hS1, hS2, hS3, hS4, hS5⟩ := hSw; go_simp⟩) (by assumption) ?_
                    simp only [List.getElem_toArray, List.getElem_cons_succ, List.getElem_cons_zero, Act.put, List.setIfInBounds_toArray, List.set_cons_zero, List.set_cons_succ]
                    refine wpAnyH_take (i := 24) (v := .agg (EV).toArray) rfl (by kernel_rfl) (by kernel_rfl) (by kernel_rfl) (fun _ _ _ h => h) (yieldsIf_load_mid (by rfl) _ _ rfl _ _ rfl _ _ (fun w hSw => hSw.2.2.2.2) Tryd.underlying38 rfl HIE.out) (by assumption) ?_
                    simp only [List.getElem_toArray, List.getElem_cons_succ, List.getElem_cons_zero, Act.put, List.setIfInBounds_toArray, List.set_cons_zero, List.set_cons_succ]
                    refine wpAnyH_take (i := 25) (v := .agg (EV).toArray) rfl (by kernel_rfl) (by kernel_rfl) (by kernel_rfl) (fun _ _ _ h => h) (yieldsIf_load_mid (by rfl) _ _ rfl _ _ rfl _ _ (fun w hSw => hSw.2.2.1) Tryd.underlying38 rfl HIE.out) (by assumption) ?_
                    simp only [List.getElem_toArray, List.getElem_cons_succ, List.getElem_cons_zero, Act.put, List.setIfInBounds_toArray, List.set_cons_zero, List.set_cons_succ]
                    refine wpAnyH_take (i := 26) (v := .bool false) rfl (by kernel_rfl) (by kernel_rfl) (by kernel_rfl) (fun _ _ _ h => h) (Or.inl ⟨by rfl, fun w hSw => by obtain ⟨hS1, hS2, hS3, hS4, hS5⟩ := hSw; go_simp⟩) (by assumption) ?_
                    simp only [List.getElem_toArray, List.getElem_cons_succ, List.getElem_cons_zero, Act.put, List.setIfInBounds_toArray, List.set_cons_zero, List.set_cons_succ]
                    refine wpAnyH_take (i := 27) (v := .bool false) rfl (by kernel_rfl) (by kernel_rfl) (by kernel_rfl) (fun _ _ _ h => h) (Or.inl ⟨by rfl, fun w hSw => by obtain ⟨hS1, hS2, hS3, hS4, hS5⟩ := hSw; go_simp⟩) (by assumption) ?_
                    simp only [List.getElem_toArray, List.getElem_cons_succ, List.getElem_cons_zero, Act.put, List.setIfInBounds_toArray, List.set_cons_zero, List.set_cons_succ]
                    refine wpAnyH_take (i := 28) (v := .bool false) rfl (by kernel_rfl) (by kernel_rfl) (by kernel_rfl) (fun _ _ _ h => h) (Or.inl ⟨by rfl, fun w hSw => by obtain ⟨hS1, hS2, hS3, hS4, hS5⟩ := hSw; go_simp⟩) (by assumption) ?_
                    simp only [List.getElem_toArray, List.getElem_cons_succ, List.getElem_cons_zero, Act.put, List.setIfInBounds_toArray, List.set_cons_zero, List.set_cons_succ]
                    refine wpAnyH_done (by kernel_rfl) ?_ _
                    go_wp2
                    go_roundw
                    case rel => exact ⟨c + 1, by omega, by go_num, HN⟩
                    case measure => simp [intOf]; omega
                  · have hcmI : ¬ (c : Int) < (m : Int) := by omega
                    go_wp2_with fail
                    refine wp_region_held_drew (S := fun W => W.cell? ⟨gm, j, none⟩ = some (.slice (some ⟨g', 0, none⟩) y c') ∧ W.rangeAt g' (c * 68) EV ∧ W.rangeAt gg 0 EV ∧ W.cell? ⟨gL, j, none⟩ = some (.slice gq m cq) ∧ True) (by kernel_rfl) (⟨e1, x0, m0, e4, trivial⟩) (fun hHeld => ?_)
                    refine wpAnyH_take (i := 0) (v := .slice (some ⟨gm, 0, none⟩) k cm) rfl (by kernel_rfl) (by kernel_rfl) (by kernel_rfl) (fun _ _ _ h => h) (Or.inl ⟨by rfl, fun w hSw => by obtain ⟨hS1, hS2, hS3, hS4, hS5⟩ := hSw; go_simp⟩) (by assumption) ?_
                    simp only [List.getElem_toArray, List.getElem_cons_zero, Act.put, List.setIfInBounds_toArray, List.set_cons_zero, List.set_cons_succ]
                    refine wpAnyH_take (i := 1) (v := .int .i64 (j : Int)) rfl (by kernel_rfl) (by kernel_rfl) (by kernel_rfl) (fun _ _ _ h => h) (Or.inl ⟨by rfl, fun w hSw => by obtain ⟨hS1, hS2, hS3, hS4, hS5⟩ := hSw; go_simp⟩) (by assumption) ?_
                    simp only [List.getElem_toArray, List.getElem_cons_succ, List.getElem_cons_zero, Act.put, List.setIfInBounds_toArray, List.set_cons_zero, List.set_cons_succ]
                    refine wpAnyH_take (i := 2) (v := .pointer (some ⟨gm, j, none⟩)) rfl (by kernel_rfl) (by kernel_rfl) (by kernel_rfl) (fun _ _ _ h => h) (Or.inl ⟨by rfl, fun w hSw => by obtain ⟨hS1, hS2, hS3, hS4, hS5⟩ := hSw; go_simp⟩) (by assumption) ?_
                    simp only [List.getElem_toArray, List.getElem_cons_succ, List.getElem_cons_zero, Act.put, List.setIfInBounds_toArray, List.set_cons_zero, List.set_cons_succ]
                    refine wpAnyH_take (i := 3) (v := .slice (some ⟨g', 0, none⟩) y c') rfl (by kernel_rfl) (by kernel_rfl) (by kernel_rfl) (fun _ _ _ h => h) (Or.inl ⟨by rfl, fun w hSw => by obtain ⟨hS1, hS2, hS3, hS4, hS5⟩ := hSw; go_simp⟩) (by assumption) ?_
                    simp only [List.getElem_toArray, List.getElem_cons_succ, List.getElem_cons_zero, Act.put, List.setIfInBounds_toArray, List.set_cons_zero, List.set_cons_succ]
                    refine wpAnyH_take (i := 4) (v := .int .i64 (c : Int)) rfl (by kernel_rfl) (by kernel_rfl) (by kernel_rfl) (fun _ _ _ h => h) (Or.inl ⟨by rfl, fun w hSw => by obtain ⟨hS1, hS2, hS3, hS4, hS5⟩ := hSw; go_simp⟩) (by assumption) ?_
                    simp only [List.getElem_toArray, List.getElem_cons_succ, List.getElem_cons_zero, Act.put, List.setIfInBounds_toArray, List.set_cons_zero, List.set_cons_succ]
                    refine wpAnyH_take (i := 5) (v := .pointer (some ⟨g', c * 68, none⟩)) rfl (by kernel_rfl) (by kernel_rfl) (by kernel_rfl) (fun _ _ _ h => h) (Or.inl ⟨by rfl, fun w hSw => by obtain ⟨hS1, hS2, hS3, hS4, hS5⟩ := hSw; go_simp⟩) (by assumption) ?_
                    simp only [List.getElem_toArray, List.getElem_cons_succ, List.getElem_cons_zero, Act.put, List.setIfInBounds_toArray, List.set_cons_zero, List.set_cons_succ]
                    refine wpAnyH_take (i := 6) (v := .agg (EV).toArray) rfl (by kernel_rfl) (by kernel_rfl) (by kernel_rfl) (fun _ _ _ h => h) (yieldsIf_load_mid (by rfl) _ _ rfl _ _ rfl _ _ (fun w hSw => hSw.2.1) Tryd.underlying38 rfl HIE.out) (by assumption) ?_
                    simp only [List.getElem_toArray, List.getElem_cons_succ, List.getElem_cons_zero, Act.put, List.setIfInBounds_toArray, List.set_cons_zero, List.set_cons_succ]
                    refine wpAnyH_take (i := 7) (v := .agg (EV).toArray) rfl (by kernel_rfl) (by kernel_rfl) (by kernel_rfl) (fun _ _ _ h => h) (yieldsIf_load_mid (by rfl) _ _ rfl _ _ rfl _ _ (fun w hSw => hSw.2.2.1) Tryd.underlying38 rfl HIE.out) (by assumption) ?_
                    simp only [List.getElem_toArray, List.getElem_cons_succ, List.getElem_cons_zero, Act.put, List.setIfInBounds_toArray, List.set_cons_zero, List.set_cons_succ]
                    refine wpAnyH_take (i := 8) (v := .bool false) rfl (by kernel_rfl) (by kernel_rfl) (by kernel_rfl) (fun _ _ _ h => h) (Or.inl ⟨by rfl, fun w hSw => by obtain ⟨hS1, hS2, hS3, hS4, hS5⟩ := hSw; go_simp⟩) (by assumption) ?_
                    simp only [List.getElem_toArray, List.getElem_cons_succ, List.getElem_cons_zero, Act.put, List.setIfInBounds_toArray, List.set_cons_zero, List.set_cons_succ]
                    refine wpAnyH_take (i := 9) (v := .bool false) rfl (by kernel_rfl) (by kernel_rfl) (by kernel_rfl) (fun _ _ _ h => h) (Or.inl ⟨by rfl, fun w hSw => by obtain ⟨hS1, hS2, hS3, hS4, hS5⟩ := hSw; go_simp⟩) (by assumption) ?_
                    simp only [List.getElem_toArray, List.getElem_cons_succ, List.getElem_cons_zero, Act.put, List.setIfInBounds_toArray, List.set_cons_zero, List.set_cons_succ]
                    refine wpAnyH_take (i := 10) (v := .int .i64 (c : Int)) rfl (by kernel_rfl) (by kernel_rfl) (by kernel_rfl) (fun _ _ _ h => h) (Or.inl ⟨by rfl, fun w hSw => by obtain ⟨hS1, hS2, hS3, hS4, hS5⟩ := hSw; go_simp⟩) (by assumption) ?_
                    simp only [List.getElem_toArray, List.getElem_cons_succ, List.getElem_cons_zero, Act.put, List.setIfInBounds_toArray, List.set_cons_zero, List.set_cons_succ]
                    refine wpAnyH_take (i := 11) (v := .slice (some ⟨gL, 0, none⟩) k cL) rfl (by kernel_rfl) (by kernel_rfl) (by kernel_rfl) (fun _ _ _ h => h) (Or.inl ⟨by rfl, fun w hSw => by obtain ⟨hS1, hS2, hS3, hS4, hS5⟩ := hSw; go_simp⟩) (by assumption) ?_
                    simp only [List.getElem_toArray, List.getElem_cons_succ, List.getElem_cons_zero, Act.put, List.setIfInBounds_toArray, List.set_cons_zero, List.set_cons_succ]
                    refine wpAnyH_take (i := 12) (v := .int .i64 (j : Int)) rfl (by kernel_rfl) (by kernel_rfl) (by kernel_rfl) (fun _ _ _ h => h) (Or.inl ⟨by rfl, fun w hSw => by obtain ⟨hS1, hS2, hS3, hS4, hS5⟩ := hSw; go_simp⟩) (by assumption) ?_
                    simp only [List.getElem_toArray, List.getElem_cons_succ, List.getElem_cons_zero, Act.put, List.setIfInBounds_toArray, List.set_cons_zero, List.set_cons_succ]
                    refine wpAnyH_take (i := 13) (v := .pointer (some ⟨gL, j, none⟩)) rfl (by kernel_rfl) (by kernel_rfl) (by kernel_rfl) (fun _ _ _ h => h) (Or.inl ⟨by rfl, fun w hSw => by obtain ⟨hS1, hS2, hS3, hS4, hS5⟩ := hSw; go_simp⟩) (by assumption) ?_
                    simp only [List.getElem_toArray, List.getElem_cons_succ, List.getElem_cons_zero, Act.put, List.setIfInBounds_toArray, List.set_cons_zero, List.set_cons_succ]
                    refine wpAnyH_take (i := 14) (v := .slice gq m cq) rfl (by kernel_rfl) (by kernel_rfl) (by kernel_rfl) (fun _ _ _ h => h) (Or.inl ⟨by rfl, fun w hSw => by obtain ⟨hS1, hS2, hS3, hS4, hS5⟩ := hSw; go_simp⟩) (by assumption) ?_
                    simp only [List.getElem_toArray, List.getElem_cons_succ, List.getElem_cons_zero, Act.put, List.setIfInBounds_toArray, List.set_cons_zero, List.set_cons_succ]
                    refine wpAnyH_take (i := 15) (v := .int .i64 (m : Int)) rfl (by kernel_rfl) (by kernel_rfl) (by kernel_rfl) (fun _ _ _ h => h) (Or.inl ⟨by rfl, fun w hSw => by obtain ⟨hS1, hS2, hS3, hS4, hS5⟩ := hSw; go_simp⟩) (by assumption) ?_
                    simp only [List.getElem_toArray, List.getElem_cons_succ, List.getElem_cons_zero, Act.put, List.setIfInBounds_toArray, List.set_cons_zero, List.set_cons_succ]
                    refine wpAnyH_take (i := 16) (v := .bool false) rfl (by kernel_rfl) (by kernel_rfl) (by kernel_rfl) (fun _ _ _ h => h) (Or.inl ⟨by rfl, fun w hSw => by obtain ⟨hS1, hS2, hS3, hS4, hS5⟩ := hSw; go_simp⟩) (by assumption) ?_
                    simp only [List.getElem_toArray, List.getElem_cons_succ, List.getElem_cons_zero, Act.put, List.setIfInBounds_toArray, List.set_cons_zero, List.set_cons_succ]
                    refine wpAnyH_take (i := 17) (v := .bool false) rfl (by kernel_rfl) (by kernel_rfl) (by kernel_rfl) (fun _ _ _ h => h) (Or.inl ⟨by rfl, fun w hSw => by obtain ⟨hS1, hS2, hS3, hS4, hS5⟩ := hSw; go_simp⟩) (by assumption) ?_
                    simp only [List.getElem_toArray, List.getElem_cons_succ, List.getElem_cons_zero, Act.put, List.setIfInBounds_toArray, List.set_cons_zero, List.set_cons_succ]
                    refine wpAnyH_take (i := 18) (v := undef) rfl (by kernel_rfl) (by kernel_rfl) (by kernel_rfl) (fun _ _ _ h => h) (Or.inr ⟨by rfl, rfl⟩) (by assumption) ?_
                    simp only [List.getElem_toArray, List.getElem_cons_succ, List.getElem_cons_zero, Act.put, List.setIfInBounds_toArray, List.set_cons_zero, List.set_cons_succ]
                    refine wpAnyH_take (i := 19) (v := undef) rfl (by kernel_rfl) (by kernel_rfl) (by kernel_rfl) (fun _ _ _ h => h) (Or.inr ⟨by rfl, rfl⟩) (by assumption) ?_
                    simp only [List.getElem_toArray, List.getElem_cons_succ, List.getElem_cons_zero, Act.put, List.setIfInBounds_toArray, List.set_cons_zero, List.set_cons_succ]
                    refine wpAnyH_take (i := 20) (v := undef) rfl (by kernel_rfl) (by kernel_rfl) (by kernel_rfl) (fun _ _ _ h => h) (Or.inr ⟨by rfl, rfl⟩) (by assumption) ?_
                    simp only [List.getElem_toArray, List.getElem_cons_succ, List.getElem_cons_zero, Act.put, List.setIfInBounds_toArray, List.set_cons_zero, List.set_cons_succ]
                    refine wpAnyH_take (i := 21) (v := undef) rfl (by kernel_rfl) (by kernel_rfl) (by kernel_rfl) (fun _ _ _ h => h) (Or.inr ⟨by rfl, rfl⟩) (by assumption) ?_
                    simp only [List.getElem_toArray, List.getElem_cons_succ, List.getElem_cons_zero, Act.put, List.setIfInBounds_toArray, List.set_cons_zero, List.set_cons_succ]
                    refine wpAnyH_take (i := 22) (v := undef) rfl (by kernel_rfl) (by kernel_rfl) (by kernel_rfl) (fun _ _ _ h => h) (Or.inr ⟨by rfl, rfl⟩) (by assumption) ?_
                    simp only [List.getElem_toArray, List.getElem_cons_succ, List.getElem_cons_zero, Act.put, List.setIfInBounds_toArray, List.set_cons_zero, List.set_cons_succ]
                    refine wpAnyH_take (i := 23) (v := undef) rfl (by kernel_rfl) (by kernel_rfl) (by kernel_rfl) (fun _ _ _ h => h) (Or.inr ⟨by rfl, rfl⟩) (by assumption) ?_
                    simp only [List.getElem_toArray, List.getElem_cons_succ, List.getElem_cons_zero, Act.put, List.setIfInBounds_toArray, List.set_cons_zero, List.set_cons_succ]
                    refine wpAnyH_take (i := 24) (v := undef) rfl (by kernel_rfl) (by kernel_rfl) (by kernel_rfl) (fun _ _ _ h => h) (Or.inr ⟨by rfl, rfl⟩) (by assumption) ?_
                    simp only [List.getElem_toArray, List.getElem_cons_succ, List.getElem_cons_zero, Act.put, List.setIfInBounds_toArray, List.set_cons_zero, List.set_cons_succ]
                    refine wpAnyH_take (i := 25) (v := undef) rfl (by kernel_rfl) (by kernel_rfl) (by kernel_rfl) (fun _ _ _ h => h) (Or.inr ⟨by rfl, rfl⟩) (by assumption) ?_
                    simp only [List.getElem_toArray, List.getElem_cons_succ, List.getElem_cons_zero, Act.put, List.setIfInBounds_toArray, List.set_cons_zero, List.set_cons_succ]
                    refine wpAnyH_take (i := 26) (v := undef) rfl (by kernel_rfl) (by kernel_rfl) (by kernel_rfl) (fun _ _ _ h => h) (Or.inr ⟨by rfl, rfl⟩) (by assumption) ?_
                    simp only [List.getElem_toArray, List.getElem_cons_succ, List.getElem_cons_zero, Act.put, List.setIfInBounds_toArray, List.set_cons_zero, List.set_cons_succ]
                    refine wpAnyH_take (i := 27) (v := .bool false) rfl (by kernel_rfl) (by kernel_rfl) (by kernel_rfl) (fun _ _ _ h => h) (Or.inl ⟨by rfl, fun w hSw => by obtain ⟨hS1, hS2, hS3, hS4, hS5⟩ := hSw; go_simp⟩) (by assumption) ?_
                    simp only [List.getElem_toArray, List.getElem_cons_succ, List.getElem_cons_zero, Act.put, List.setIfInBounds_toArray, List.set_cons_zero, List.set_cons_succ]
                    refine wpAnyH_take (i := 28) (v := .bool false) rfl (by kernel_rfl) (by kernel_rfl) (by kernel_rfl) (fun _ _ _ h => h) (Or.inl ⟨by rfl, fun w hSw => by obtain ⟨hS1, hS2, hS3, hS4, hS5⟩ := hSw; go_simp⟩) (by assumption) ?_
                    simp only [List.getElem_toArray, List.getElem_cons_succ, List.getElem_cons_zero, Act.put, List.setIfInBounds_toArray, List.set_cons_zero, List.set_cons_succ]
                    refine wpAnyH_done (by kernel_rfl) ?_ _
                    go_wp2
                    go_roundw
                    case rel => exact ⟨c + 1, by omega, by go_num, HN⟩
                    case measure => simp [intOf]; omega
                · have hcI : ¬ (c : Int) < (y : Int) := by omega
                  have HB3 := hide HB2.out.2
                  go_wp2
                  go_roundw
                  case rel => exact ⟨j + 1, by omega, by go_num, HB3⟩
                  case measure => simp [intOf]; omega
            · have hjI : ¬ (j : Int) < (k : Int) := by omega
              go_wp2
              go_ret
              exact ⟨rfl, (HO2.out).trans ((HB1.out).mono hBr)⟩
end Go.Proofs.YtpklbchbldipnabDoor

/- Many slices of tokens of the call's own beside one another; an append, and who still reads what he read. -/
import Derived.Test.YtcdilcjgmcamcabTkPt
import Derived.Test.YtcdilcjgmcamcabFam
namespace Go.Proofs.Ytcdilcjgmcamcab
open Go.RowKit Go.Maps Classical

/-- Who still reads what he read behind an append to v, which reads l. -/
def SharesT (w w' : World) (v : Value) (l : List Tok) : Prop := ∀ B2 v2 zs, OwnT w B2 v2 zs → (v2.ownBlock = v.ownBlock → zs.length ≤ l.length) → OwnT w' B2 v2 zs
section
variable {ops : Array Oper} {rest : List Oper} {o : Oper} {a : Act} {Q : Exit → Act → World → Prop} {w : World} {K : Act → World → Prop} {E : Prop}
theorem wp_appTh (x y : Operand) (ho : o.op = .call { callee := .builtin .append, args := #[x, y], argTypes := #[22, 22] }) {B : Nat} {v : Value} {l m : List Tok} {ad : Addr} {n c : Nat} (hx : a.eval x = v) (hown : OwnT w B v l) (hy : a.eval y = .slice (some ad) n c) (hn : n = m.length)
    (hm : ∀ j u, (tkV m)[j]? = some u → w.cell? (ad.add j) = some u) (hl : l.length + m.length ≤ 1000000000000) (hB : B ≤ w.heap.size)
    (hk : ∀ v' w', OwnT w' B v' (l ++ m) → w.grownBy w' v.ownBlock → (v'.ownBlock = v.ownBlock ∨ v'.ownBlock = some w.heap.size) → SharesT w w' v l → K (a.put o.dst v') w') : o.wp Try.prog a w K Q := by
  obtain ⟨i0, hi, hz0, hz1, hz2⟩ := info_parts infoTk
  subst hn
  obtain ⟨v', w', hr, h2, h3, h4, h5⟩ := run_append_own_at (P := Try.prog) w B 22 o.type 26 i0 _ 4 40 Try.underlying22 hi hz0 hz1 hz2 rfl (by decide) v l.length (tkV l) hown ad m.length c (tkV m) (by rw [tkV_len]) hm (tkV_one m) (by unfold maxLen; omega) (by omega) hB
  have hsh : SharesT w w' v l := by
    intro B2 v2 zs hz2' hag
    have hown' := hown
    rcases hown.2 with ⟨rfl, _⟩ | ⟨g, cap, cur, rfl, hbg, hg, hnc, hcm, hcs, htake⟩
    · exact hz2'.kept h3 (Classical.em (v2.ownBlock = none))
    · by_cases hroom : l.length + m.length ≤ cap
      · have hfit : l.length * i0.size + (tkV m).length ≤ cur.size := by rw [hz1, hcs, tkV_len]; omega
        have hr2 := run_append_room (P := Try.prog) w 22 o.type 26 i0 Try.underlying22 hi g l.length cap cur hg ad m.length c (tkV m) (by rw [hz1, tkV_len]) hm (tkV_one m) hroom hfit
        rw [hr] at hr2
        injection hr2 with _ hw
        subst hw
        by_cases hgg : v2.ownBlock = some g
        · have hzl := hag hgg
          rcases hz2'.2 with ⟨rfl, _⟩ | ⟨g2, cap2, cur2, rfl, hb2, hg2, hnc2, hcm2, hcs2, htake2⟩
          · simp [Value.ownBlock] at hgg
          · simp only [Value.ownBlock, Option.some.injEq] at hgg
            subst hgg
            rw [hg] at hg2
            simp only [Option.some.injEq, Obj.cells.injEq, and_true] at hg2
            subst hg2
            have hcap : cap2 = cap := by omega
            subst hcap
            have hcl : cur.toList.length = cap2 * 4 := by simpa using hcs
            refine ⟨by rw [tkV_len], .inr ⟨g2, cap2, _, rfl, hb2, setRow_heap w g2 cur _ 26 _ hg, hnc2, hcm2, ?_, ?_⟩⟩
            · simp only [List.size_toArray, List.length_append, List.length_take, List.length_drop, hcl, hz1, tkV_len]
              omega
            · simp only [hz1]
              rw [List.append_assoc, List.take_append_of_le_length (by rw [List.length_take, hcl]; omega), List.take_take, Nat.min_eq_left (by omega)]
              exact htake2
        · exact hz2'.kept h3 (Or.inr hgg)
      · have holds : ∀ j u, (tkV l)[j]? = some u → w.cell? ((⟨g, 0, none⟩ : Addr).add j) = some u := World.ownsRow.cells (g := g) hown' rfl
        have hr2 := run_append_grow (P := Try.prog) w 22 o.type 26 i0 _ Try.underlying22 hi hz0 ⟨g, 0, none⟩ l.length cap (tkV l) (by rw [hz1, tkV_len]) holds ad m.length c (tkV m) (by rw [hz1, tkV_len]) hm (by omega) (by omega) (growslice_fits (by omega) (by rw [hz2]; omega))
        rw [hr] at hr2
        injection hr2 with _ hw
        subst hw
        exact hz2'.kept (grownBy_none w _) (by cases v2.ownBlock <;> simp)
  unfold Oper.wp execOp
  simp only [ho, resolve, invoke, builtin, Sem.run_bind, Sem.run_pure, Result.andThen_ok, List.map_toArray, List.map_cons, List.map_nil, hx, hy, hr]
  refine hk v' w' ?_ h3 h5 hsh
  unfold OwnT; rw [List.length_append, tkV_app]; exact h2
theorem wpList_appTh (hgd : o.guard = none) (x y : Operand) (ho : o.op = .call { callee := .builtin .append, args := #[x, y], argTypes := #[22, 22] }) {B : Nat} {v : Value} {l m : List Tok} {ad : Addr} {n c : Nat} (hx : a.eval x = v) (hown : OwnT w B v l) (hy : a.eval y = .slice (some ad) n c) (hn : n = m.length)
    (hm : ∀ j u, (tkV m)[j]? = some u → w.cell? (ad.add j) = some u) (hl : l.length + m.length ≤ 1000000000000) (hB : B ≤ w.heap.size)
    (hk : ∀ v' w', OwnT w' B v' (l ++ m) → w.grownBy w' v.ownBlock → (v'.ownBlock = v.ownBlock ∨ v'.ownBlock = some w.heap.size) → SharesT w w' v l → wpList Try.prog ops Q rest (a.put o.dst v') w') : wpList Try.prog ops Q (o :: rest) a w :=
  wpList_plain hgd fun _ hK => wp_appTh x y ho hx hown hy hn hm hl hB fun v' w' h1 h2 h3 h4 => hK _ _ (hk v' w' h1 h2 h3 h4)
end
theorem OwnT.lt {w : World} {B : Nat} {v : Value} {l : List Tok} (h : OwnT w B v l) : ∀ k, v.ownBlock = some k → B ≤ k ∧ k < w.heap.size := World.ownsRow.lt h
/-- Tokens lie in no row of something else. -/
theorem OwnT.apart {w : World} {b1 b2 : Nat} {t2 : TypeId} {v1 v2 : Value} {c1 : List Tok} {c2 : List Value} (h1 : OwnT w b1 v1 c1) (h2 : Row w b2 t2 v2 c2) (ht : 26 ≠ t2) : v1.ownBlock = none ∨ v1.ownBlock ≠ v2.ownBlock := by
  rcases h2.2 with ⟨rfl, _⟩ | ⟨g', cap', cur', rfl, _, hg', _⟩
  · cases v1.ownBlock with
    | none => exact Or.inl rfl
    | some x => exact Or.inr (by simp [Value.ownBlock])
  · exact h1.block hg' (fun e => ht e.symm)
theorem apartR {w : World} {b1 b2 : Nat} {t2 : TypeId} {v1 v2 : Value} {c1 : List Tok} {c2 : List Value} (h2 : Row w b2 t2 v2 c2) (h1 : OwnT w b1 v1 c1) (ht : 26 ≠ t2) : v2.ownBlock = none ∨ v2.ownBlock ≠ v1.ownBlock := by
  rcases h1.apart h2 ht with h | h
  · cases hv : v2.ownBlock with
    | none => exact Or.inl rfl
    | some x => exact Or.inr (by rw [h]; simp)
  · exact Or.inr fun e => h e.symm
theorem OwnT.front {w : World} {B : Nat} {v : Value} {l : List Tok} (h : OwnT w B v l) (hp : 0 < l.length) : ∃ g c, v = .slice (some ⟨g, 0, none⟩) l.length c ∧ l.length ≤ c ∧ c ≤ 9223372036854775807 ∧ B ≤ g ∧ g < w.heap.size := by
  rcases h.2 with ⟨rfl, h0⟩ | ⟨g, cap, cur, rfl, hb, hg, hle, hm, _⟩
  · omega
  · exact ⟨g, cap, rfl, hle, by simpa [maxLen] using hm, hb, (Array.getElem?_eq_some_iff.1 hg).1⟩
/-- n slices of tokens, each in a block of its own, from B on and below S. -/
structure LinesT (w : World) (B S : Nat) (U : Nat → Value) (R : Nat → List Tok) (n : Nat) : Prop where
  row : ∀ k, k < n → OwnT w B (U k) (R k)
  hi : ∀ k, k < n → ∀ g, (U k).ownBlock = some g → g < S
  apart : ∀ j k, j < n → k < n → j ≠ k → (U j).ownBlock = none ∨ (U j).ownBlock ≠ (U k).ownBlock
theorem LinesT.step {w w' : World} {B S : Nat} {U : Nat → Value} {R : Nat → List Tok} {n i : Nat} (h : LinesT w B S U R n) (hi : i < n) {ys : List Tok} (hg : w.grownBy w' (U i).ownBlock) (hr : OwnT w' B (U i) ys) : LinesT w' B S U (upd R i ys) n := by
  refine ⟨fun k hk => ?_, h.hi, h.apart⟩
  by_cases e : k = i
  · subst e; rw [upd_same]; exact hr
  · rw [upd_other _ _ e]
    exact (h.row k hk).kept hg (h.apart k i hk hi e)
theorem LinesT.below {w w' : World} {B S : Nat} {U : Nat → Value} {R : Nat → List Tok} {n : Nat} (h : LinesT w B S U R n) (hb : Below w.heap.size w w') : LinesT w' B S U R n :=
  ⟨fun k hk => (h.row k hk).below hb, h.hi, h.apart⟩
theorem LinesT.ext {w : World} {B S : Nat} {U : Nat → Value} {R R' : Nat → List Tok} {n : Nat} (h : LinesT w B S U R n) (he : ∀ k, k < n → R' k = R k) : LinesT w B S U R' n :=
  ⟨fun k hk => by rw [he k hk]; exact h.row k hk, h.hi, h.apart⟩
def mkdT (m : Tok) (j : Nat) (xs : List Tok) : List Tok := List.replicate j m ++ xs.drop j
theorem mkdT_len {m : Tok} {j : Nat} {xs : List Tok} (h : j ≤ xs.length) : (mkdT m j xs).length = xs.length := by simp [mkdT]; omega
theorem mkdT_zero (m : Tok) (xs : List Tok) : mkdT m 0 xs = xs := by simp [mkdT]
theorem mkdT_all (m : Tok) (xs : List Tok) : mkdT m xs.length xs = List.replicate xs.length m := by simp [mkdT]
theorem mkdT_set {m : Tok} {j : Nat} {xs : List Tok} (h : j < xs.length) : (mkdT m j xs).set j m = mkdT m (j + 1) xs := by
  unfold mkdT
  apply List.ext_getElem?
  intro k
  rw [List.getElem?_set]
  by_cases hk : j = k
  · subst hk
    rw [if_pos rfl, if_pos (by simp; omega), List.getElem?_append_left (by simp), List.getElem?_replicate, if_pos (by omega)]
  · rw [if_neg hk]
    by_cases h1 : k < j
    · rw [List.getElem?_append_left (by simpa using h1), List.getElem?_append_left (by simp; omega), List.getElem?_replicate, List.getElem?_replicate, if_pos h1, if_pos (by omega)]
    · rw [List.getElem?_append_right (by simp; omega), List.getElem?_append_right (by simp; omega), List.getElem?_drop, List.getElem?_drop]
      congr 1
      simp
      omega
theorem rep_get (m : Tok) {n j : Nat} (h : j < n) : (List.replicate n m).getD j .nul = m := by
  rw [List.getD_eq_getElem?_getD, List.getElem?_replicate, if_pos h]; rfl
end Go.Proofs.Ytcdilcjgmcamcab

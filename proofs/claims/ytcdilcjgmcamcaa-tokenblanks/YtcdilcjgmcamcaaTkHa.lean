/- Laid, Intact. -/
import Derived.Test.YtcdilcjgmcamcaaTkPp
import Derived.Test.YtcdilcjgmcamcaaTkRg
namespace Go.Proofs.Ytcdilcjgmcamcaa
open Go.RowKit Go.Maps Classical

section
variable {ops : Array Oper} {rest : List Oper} {o : Oper} {a : Act} {Q : Exit → Act → World → Prop} {w : World} {K : Act → World → Prop} {E : Prop}
theorem IsTk.cells {ad : Addr} {n c : Nat} {m : List Tok} (h : IsTk w (.slice (some ad) n c) m) : ∀ j u, (tkV m)[j]? = some u → w.cell? (ad.add j) = some u := by
  intro j u hu
  obtain ⟨a', c', hv, _, _, _, hc⟩ := h
  injection hv with e1 e2 e3
  subst e1
  have hj : j < (tkV m).length := (List.getElem?_eq_some_iff.1 hu).1
  rw [tkV_len] at hj
  obtain ⟨b, off, ha, hcell⟩ := hc (by omega)
  injection ha with ha
  subst ha
  have h1 := hcell (j / 4) (j % 4) (by omega) (by omega)
  have h2 := tkV_at m (j / 4) (j % 4) (by omega) (by omega)
  rw [show 4 * (j / 4) + j % 4 = j by omega] at h1 h2
  rw [Addr.add_lit, h1, ← h2, hu]
/-- Tokens, from wherever they lie, appended to a slice of the call's own. -/
theorem wp_appTs (x y : Operand) (ho : o.op = .call { callee := .builtin .append, args := #[x, y], argTypes := #[25, 25] }) {B : Nat} {v u : Value} {l m : List Tok} (hx : a.eval x = v) (hown : OwnT w B v l) (hy : a.eval y = u) (hu : IsTk w u m)
    (hl : l.length + m.length ≤ 1000000000000) (hB : B ≤ w.heap.size)
    (hk : ∀ v' w', OwnT w' B v' (l ++ m) → w.grownBy w' v.ownBlock → (v.ownBlock = none ∨ ∃ b, v.ownBlock = some b ∧ B ≤ b) → K (a.put o.dst v') w') : o.wp Try.prog a w K Q := by
  obtain ⟨ad, c, rfl, _, _, hz, hc⟩ := id hu
  cases ad with
  | none =>
    obtain ⟨i0, hi, hz0, hz1, hz2⟩ := info_parts infoTk
    have h0 : m = [] := by
      by_cases hp : 0 < m.length
      · obtain ⟨b2, off2, ha, _⟩ := hc hp
        cases ha
      · exact List.eq_nil_of_length_eq_zero (by omega)
    subst h0
    obtain rfl := hz rfl
    have hrun := run_append_owned_none (P := Try.prog) (w := w) B 25 o.type 27 i0 4 Try.underlying25 hi v _ _ hown
    have := hk v w (by rw [List.append_nil]; exact hown) ⟨rfl, rfl, rfl, Nat.le_refl _, fun _ _ _ => rfl⟩ (by
      cases hv : v.ownBlock with
      | none => exact Or.inl rfl
      | some b => exact Or.inr ⟨b, rfl, (World.ownsRow.lt hown b hv).1⟩)
    unfold Oper.wp
    simp [execOp, ho, resolve, invoke, builtin, hx, hy, hrun, Result.andThen]
    exact this
  | some ad => exact wp_appTk x y ho hx hown hy rfl hu.cells hl hB fun v' w' h1 h2 h3 _ => hk v' w' h1 h2 h3
theorem wpList_appTs (hgd : o.guard = none) (x y : Operand) (ho : o.op = .call { callee := .builtin .append, args := #[x, y], argTypes := #[25, 25] }) {B : Nat} {v u : Value} {l m : List Tok} (hx : a.eval x = v) (hown : OwnT w B v l) (hy : a.eval y = u) (hu : IsTk w u m)
    (hl : l.length + m.length ≤ 1000000000000) (hB : B ≤ w.heap.size)
    (hk : ∀ v' w', OwnT w' B v' (l ++ m) → w.grownBy w' v.ownBlock → (v.ownBlock = none ∨ ∃ b, v.ownBlock = some b ∧ B ≤ b) → wpList Try.prog ops Q rest (a.put o.dst v') w') : wpList Try.prog ops Q (o :: rest) a w :=
  wpList_plain hgd fun _ hK => wp_appTs x y ho hx hown hy hu hl hB fun v' w' h1 h2 h3 => hK _ _ (hk v' w' h1 h2 h3)
end
def mkT (k : Int) : Tok := ⟨k, ⟨#[]⟩, 0, 0⟩
def mks : List Tok := [mkT (-1), mkT (-2), mkT (-3)]
theorem tok_lit (w : World) (l : List Tok) : ∀ j u, (tkV l)[j]? = some u → (w.alloc (.cells (tkV l).toArray 27)).cell? ((⟨w.heap.size, 0, none⟩ : Addr).add j) = some u := by
  intro j u h
  rw [Addr.add_lit, Nat.zero_add]
  have := Arr.cell (Arr.new w (tkV l) 27) j
  rw [this]
  exact h
theorem isTk_lit (w : World) (l : List Tok) (hl : l.length ≤ 1000000) : IsTk (w.alloc (.cells (tkV l).toArray 27)) (.slice (some ⟨w.heap.size, 0, none⟩) l.length l.length) l := by
  refine ⟨_, _, rfl, Nat.le_refl _, by omega, fun h => (by cases h), fun _ => ⟨w.heap.size, 0, rfl, fun j k hj hk => ?_⟩⟩
  have e := tkV_at l j k hj hk
  have := Arr.cell (Arr.new w (tkV l) 27) (4 * j + k)
  rw [Nat.zero_add, this, e]
theorem OwnT.isTkPre {w : World} {B g c : Nat} {l m : List Tok} (h : OwnT w B (.slice (some ⟨g, 0, none⟩) (l.length + m.length) c) (l ++ m)) : IsTk w (.slice (some ⟨g, 0, none⟩) l.length c) l := by
  obtain ⟨a', c', hv, h1, h2, h3, h4⟩ := h.isTk
  rw [List.length_append] at hv h1 h4
  injection hv with e1 e2 e3
  subst e1 e3
  refine ⟨_, _, rfl, by omega, h2, fun h => (by cases h), fun hp => ?_⟩
  obtain ⟨b, o, ha, hc⟩ := h4 (by omega)
  refine ⟨b, o, ha, fun j k hj hk => ?_⟩
  rw [hc j k (by omega) hk, List.getD_eq_getElem?_getD, List.getD_eq_getElem?_getD, List.getElem?_append_left hj]
set_option maxRecDepth 100000 in
set_option maxHeartbeats 4000000 in
theorem laid_calls {w : World} {v : Value} {l : List Tok} (h : IsTk w v l) (hl : l.length ≤ 1000000000) : Calls Try.prog 27 #[v] w fun e w' => ∃ g c, e = .returned (.slice (some ⟨g, 0, none⟩) l.length c) ∧ OwnT w' w.heap.size (.slice (some ⟨g, 0, none⟩) (l.length + 3) c) (l ++ mks) ∧ Below w.heap.size w w' := by
  obtain ⟨a, c, rfl, hlc, hcm, _, _⟩ := id h
  have HT := hide h
  have HL0 : Hid (([] : List Tok).length + l.length ≤ 1000000000000) := by show _ ≤ _; simp; omega
  generalize hn : l.length = n at *
  have HN := hide hn
  have h0n := OwnT.nil w w.heap.size
  clear h hn
  go_enter Try.func27, Try.ntmps27
  have HL2 : Hid (l.length + mks.length ≤ 1000000000000) := by show _ ≤ _; rw [HN.out]; show n + 3 ≤ _; omega
  go_wp2_with (first
    | (at_builtin; refine wpList_appTs rfl (.tmp 4) (.tmp 5) rfl rfl h0n rfl HT.out (by rw [HN.out]; exact HL0.out) (Nat.le_refl _) ?_; intro v1 w1 hO1 hg1 hv1; (have hb1 : Below w.heap.size w w1 := below_app (Below.refl _ _) hg1 (Nat.le_refl _) hv1); rw [List.nil_append] at hO1; (have HO2 := hide (hO1.below ((Below.refl w1.heap.size w1).alloc (Nat.le_refl _) (.cells (tkV mks).toArray 27)))); (have hb2 := hb1.trans (((Below.refl w1.heap.size w1).alloc (Nat.le_refl _) (.cells (tkV mks).toArray 27)).mono hb1.size)); (have hsz2 := hb2.size); (have hnew := hide (tok_lit w1 mks)); (obtain ⟨a1, c1, hv1e⟩ := hO1.shape); subst hv1e; clear hO1 hg1 hv1)
    | (at_builtin; refine wpList_appTk rfl (.tmp 7) (.tmp 11) rfl rfl (l := l) (m := mks) HO2.out rfl rfl hnew.out HL2.out hsz2 ?_; intro v2 w2 hO2 hg2 hv2 hat2; (have hb3 := below_app hb2 hg2 hsz2 hv2); (obtain ⟨g2, c2, hv2e, _⟩ := hO2.head (by simp [mks])); subst hv2e; (have hcl := hO2.isTk); (obtain ⟨_, _, hcv, hcl1, hcl2, _, _⟩ := hcl); (injection hcv with e1 e2 e3); subst e3; rw [List.length_append, HN.out] at hcl1; (have hcl1 : n + 3 ≤ c2 := hcl1); (have hI1 : (n : Int) ≤ (c2 : Int) := by omega); (have HO3 := hide hO2); (have hlen3 : (l ++ mks).length = n + 3 := by rw [List.length_append, HN.out]; rfl); rw [hlen3] at *; clear hO2 hg2 hv2 hat2 e1 e2 hcl1 hlen3))
  go_ret
  refine ⟨g2, c2, rfl, ?_, hb3⟩
  have := HO3.out
  rw [show (l ++ mks).length = n + 3 by rw [List.length_append, HN.out]; rfl] at this
  exact this
theorem OwnT.mark {W : World} {B g n c : Nat} {l : List Tok} (hO : OwnT W B (.slice (some ⟨g, 0, none⟩) (n + 3) c) (l ++ mks)) (hn : l.length = n) {k : Nat} (hk : k < 3) : W.cell? ⟨g, n * 4 + k * 4, none⟩ = some (.int .i64 (mks.getD k .nul).kind) ∧ W.cell? ⟨g, n * 4 + k * 4 + 1, none⟩ = some (.string (mks.getD k .nul).text) ∧ W.cell? ⟨g, n * 4 + k * 4 + 2, none⟩ = some (.int .i64 (mks.getD k .nul).line) ∧ W.cell? ⟨g, n * 4 + k * 4 + 3, none⟩ = some (.int .i64 (mks.getD k .nul).place) := by
  obtain ⟨a', c', hv, h1, h2, h3, h4⟩ := hO.isTk
  have hlen : (l ++ mks).length = n + 3 := by rw [List.length_append, hn]; rfl
  rw [hlen] at hv h1 h4
  injection hv with e1 e2 e3
  subst e1 e3
  obtain ⟨b, o, ha, hc⟩ := h4 (by omega)
  injection ha with ha
  injection ha with e1 e2 _
  subst e1 e2
  have hg : (l ++ mks).getD (n + k) .nul = mks.getD k .nul := by
    rw [List.getD_eq_getElem?_getD, List.getElem?_append_right (by omega), hn, Nat.add_sub_cancel_left, List.getD_eq_getElem?_getD]
  have := tk_cells (W := W) (b := g) (o := 0) (j := n + k) (x := mks.getD k .nul) (fun q hq => by rw [hc (n + k) q (by omega) hq, hg])
  rw [Nat.zero_add, show (n + k) * 4 = n * 4 + k * 4 by omega] at this
  exact this
set_option maxRecDepth 100000 in
set_option maxHeartbeats 4000000 in
theorem intact_calls {W : World} {B g n c : Nat} {l : List Tok} {v' : Value} (hO : OwnT W B (.slice (some ⟨g, 0, none⟩) (n + 3) c) (l ++ mks)) (hn : l.length = n) (hv : IsTk W v' l) : Calls Try.prog 29 #[.slice (some ⟨g, 0, none⟩) n c, v'] W fun e w' => e = .returned (.bool true) ∧ Below W.heap.size W w' := by
  have hI : IsTk W (.slice (some ⟨g, 0, none⟩) n c) l := by
    have := OwnT.isTkPre (l := l) (m := mks) (by rw [hn]; exact hO)
    rw [hn] at this
    exact this
  have HS := hide (same_calls hI hv)
  rw [decide_eq_true rfl] at HS
  have HM : Hid (∀ W', Below W.heap.size W W' → ∀ k, k < 3 → _) := fun W' hb k hk => (hO.below hb).mark hn hk
  have hc3 : n + 3 ≤ c := by
    obtain ⟨a', c', hv, h1, _⟩ := hO.isTk
    have hlen : (l ++ mks).length = n + 3 := by rw [List.length_append, hn]; rfl
    rw [hlen] at hv h1
    injection hv with e1 e2 e3
    subst e3
    exact h1
  have hcm : c ≤ 9223372036854775807 := by
    obtain ⟨a', c', hv, _, h1, _⟩ := hO.isTk
    injection hv with e1 e2 e3
    subst e3
    exact h1
  obtain ⟨a', c', rfl, _⟩ := id hv
  have q1 := fun W' => tok_eql (mkT (-1)) (mkT (-1)) W'
  have q2 := fun W' => tok_eql (mkT (-2)) (mkT (-2)) W'
  have q3 := fun W' => tok_eql (mkT (-3)) (mkT (-3)) W'
  rw [decide_eq_true rfl] at q1 q2 q3
  unfold tkC mkT at q1 q2 q3
  simp only at q1 q2 q3
  have hgd := tok_guard .eql
  have hJ1 : (n : Int) + 3 ≤ (c : Int) := by omega
  have hJ2 : (n : Int) ≤ (n : Int) + 3 := by omega
  generalize l.length = ln at *
  clear hO hI hv hn
  go_enter Try.func29, Try.ntmps29
  go_wp2_with fail
  refine (unhide HS).mono ?_
  rintro e w2 ⟨rfl, hb2⟩
  obtain ⟨x0, x1, x2, x3⟩ := unhide HM w2 hb2 0 (by omega)
  obtain ⟨y0, y1, y2, y3⟩ := unhide HM w2 hb2 1 (by omega)
  obtain ⟨z0, z1, z2, z3⟩ := unhide HM w2 hb2 2 (by omega)
  simp [mks, mkT] at x0 x1 x2 x3 y0 y1 y2 y3 z0 z1 z2 z3
  go_wp2
  go_ret
  exact ⟨rfl, hb2⟩
end Go.Proofs.Ytcdilcjgmcamcaa

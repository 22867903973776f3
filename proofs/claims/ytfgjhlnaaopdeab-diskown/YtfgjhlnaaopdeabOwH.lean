/- DiskOwn, walked whole. -/
import Derived.Test.YtfgjhlnaaopdeabOwG
namespace Go.Proofs.Ytfgjhlnaaopdeab
open Go.RowKit Go.Maps

theorem Up.both {F F' : Nat → Prop} {w w' : World} (h : Up F w w') (k : Up F' w w') : Up (fun b => F b ∧ F' b) w w' := ⟨h.os, h.tape, h.output, h.size, fun b hb hn => by
  by_cases hF : F b
  · exact k.block b hb (fun e => hn ⟨hF, e⟩)
  · exact h.block b hb hF⟩
theorem dka_newO {A : Nat → Prop} {w wr : World} {B n m : Nat} {P G : Nat → Nat} {D : Nat → AD} (h : Dka A w wr B n P G D) (h2 : 2 ≤ m) (h6 : m ≤ 65536) :
    Calls Try.prog 24 #[.int .i64 (m : Int)] wr fun e w' => ∃ p, e = .returned (.tuple #[.pointer (some ⟨p, 0, none⟩), .int .i64 0]) ∧ (∃ gl, Dka A w w' B (n + 1) (updF P n p) (updF G n gl) (updF D n (zeroD m))) ∧ Below wr.heap.size wr w' := by
  refine (new_calls h2 h6).mono ?_
  rintro e w' ⟨p, gl, gm, V, rfl, hd, h1, h2, h3, hV, hb⟩
  refine ⟨p, rfl, ⟨gl, h.snoc hb hd ?_ ((Few.zero _).mono (Nat.zero_le _))⟩, hb⟩
  rintro b (rfl | rfl | rfl | ⟨i, hi⟩)
  · exact h1
  · exact h2
  · exact h3
  · rw [hV i] at hi; cases hi
theorem write_enterO (v u z : Value) (W : World) : (callFunc 10 #[v, u, z]).run Try.prog W = .ok (.enter 10 #[v, u, z]) W := by kernel_rfl
section
variable {w W w' : World} {B B' sp N M m p q i : Nat} {D D' E E' : AD} {gB gI : Nat → Nat} {Rb Ri : Nat → List Value} {vB vI : Value} {uB uI : List Value} {A : Nat → Prop} {G : Nat → Nat}
theorem So.stepD (hSh : Sh w W sp N M m gB gI Rb Ri vB vI (.slice none 0 0) (.slice none 0 0) uB uI [] []) (hA1 : ∀ b, b < w.heap.size → A b) (hA2 : ∀ k, k < N → A (gB k)) (hd : Dka A W w' B' 2 (two p q) G (two D' E')) (hk : Km W w') : So w w' B' sp N M m p q D' E' := by
  obtain ⟨F, hu, ht⟩ := hk
  have hu2 := hu.both hd.kp
  have far : ∀ {v : Value} {t' : TypeId} {us : List Value}, Row W w.heap.size t' v us → t' ≠ 77 → t' ≠ 75 → ∀ b, v.ownBlock = some b → ¬ (F b ∧ ¬ A b) := fun {v t' us} hr h1 h2 b hb e => by
    obtain ⟨cur, hcur, _⟩ := hr.blk3 hb
    exact (ht _ e.1 _ _ _ hcur).elim h1 h2
  refine ⟨gB, gI, Rb, Ri, vB, vI, uB, uI, A, G, hSh.up hu2 (fun b hb => ?_) (fun e => (ht _ e.1 _ _ _ hSh.sh).elim (by decide) (by decide)) (far hSh.rB (by decide) (by decide)) (far hSh.rI (by decide) (by decide)) (far hSh.rC (by decide) (by decide)) (far hSh.rJ (by decide) (by decide)) (fun k hk e => e.2 (hA2 k hk)) (fun k hk e => (ht _ e.1 _ _ _ (hSh.aI k hk).1).elim (by decide) (by decide)), hA1, hA2, ⟨hd.all, hd.few, Up.refl _ _, hd.lt⟩⟩
  rcases Nat.lt_or_ge b w.heap.size with h | h
  · exact absurd (hA1 b h) hb.2
  · exact h
theorem So.bel (h : So w W B sp N M m p q D E) : Below w.heap.size w W := by
  obtain ⟨gB, gI, Rb, Ri, vB, vI, uB, uI, A, G, hSh, _⟩ := h
  exact hSh.bel
theorem So.below (h : So w W B sp N M m p q D E) (hb : Below W.heap.size W w') : So w w' B sp N M m p q D E := by
  obtain ⟨gB, gI, Rb, Ri, vB, vI, uB, uI, A, G, hSh, hA1, hA2, hD⟩ := h
  exact ⟨gB, gI, Rb, Ri, vB, vI, uB, uI, A, G, hSh.below hb, hA1, hA2, hD.anew hb (fun b hb => Or.inl hb)⟩
theorem So.more (h : So w W B sp N M m p q D E) (hB : B ≤ B') : So w W B' sp N M m p q D E := by
  obtain ⟨gB, gI, Rb, Ri, vB, vI, uB, uI, A, G, hSh, hA1, hA2, hD⟩ := h
  exact ⟨gB, gI, Rb, Ri, vB, vI, uB, uI, A, G, hSh, hA1, hA2, hD.mono hB⟩
theorem So.lo (h : So w W B sp N M m p q D E) : w.heap.size ≤ p := by
  obtain ⟨gB, gI, Rb, Ri, vB, vI, uB, uI, A, G, hSh, hA1, hA2, hD⟩ := h
  obtain ⟨gm, V, h1, h2, h3⟩ := hD.all
  rcases Nat.lt_or_ge p w.heap.size with h | h
  · exact absurd (hA1 p h) (h2 0 (by decide) p (Or.inl rfl))
  · exact h
theorem So.write0 {u : Value} {s : List Int} (h : So w W B sp N M m p q D E) (hi : i < D.la.length) (hB : B ≤ 1000000000) (hu : Own8 W 0 u s) (hs : IsSec s) :
    Calls Try.prog 10 #[.pointer (some ⟨p, 0, none⟩), .int .i64 (i : Int), u] W fun e w' => e = .returned (.int .i64 0) ∧ So w w' (B + 1) sp N M m p q (D.write i s) E := by
  obtain ⟨gB, gI, Rb, Ri, vB, vI, uB, uI, A, G, hSh, hA1, hA2, hD⟩ := h
  refine (dka_write (k := 0) hD (by decide) rfl (i := i) hi hB hu hs).mono ?_
  rintro e w' ⟨h1, h2, h3⟩
  exact ⟨h1, So.stepD hSh hA1 hA2 (h2.congr (fun _ _ => rfl) (fun _ _ => rfl) (fun k hk => by rw [updF_two0]; rfl)) h3⟩
theorem So.write1 {u : Value} {s : List Int} (h : So w W B sp N M m p q D E) (hi : i < E.la.length) (hB : B ≤ 1000000000) (hu : Own8 W 0 u s) (hs : IsSec s) :
    Calls Try.prog 10 #[.pointer (some ⟨q, 0, none⟩), .int .i64 (i : Int), u] W fun e w' => e = .returned (.int .i64 0) ∧ So w w' (B + 1) sp N M m p q D (E.write i s) := by
  obtain ⟨gB, gI, Rb, Ri, vB, vI, uB, uI, A, G, hSh, hA1, hA2, hD⟩ := h
  refine (dka_write (k := 1) hD (by decide) rfl (i := i) hi hB hu hs).mono ?_
  rintro e w' ⟨h1, h2, h3⟩
  exact ⟨h1, So.stepD hSh hA1 hA2 (h2.congr (fun _ _ => rfl) (fun _ _ => rfl) (updF_two1 D E _)) h3⟩
theorem So.flush0 (h : So w W B sp N M m p q D E) (hB : B ≤ 1000000000) :
    Calls Try.prog 11 #[.pointer (some ⟨p, 0, none⟩)] W fun e w' => e = .returned (.tuple #[]) ∧ So w w' (B + 1) sp N M m p q D.flush E := by
  obtain ⟨gB, gI, Rb, Ri, vB, vI, uB, uI, A, G, hSh, hA1, hA2, hD⟩ := h
  refine (dka_flush (k := 0) hD (by decide) rfl hB).mono ?_
  rintro e w' ⟨h1, h2, h3⟩
  exact ⟨h1, So.stepD hSh hA1 hA2 (h2.congr (fun _ _ => rfl) (fun _ _ => rfl) (fun k hk => by rw [updF_two0]; rfl)) h3⟩
theorem So.flush1 (h : So w W B sp N M m p q D E) (hB : B ≤ 1000000000) :
    Calls Try.prog 11 #[.pointer (some ⟨q, 0, none⟩)] W fun e w' => e = .returned (.tuple #[]) ∧ So w w' (B + 1) sp N M m p q D E.flush := by
  obtain ⟨gB, gI, Rb, Ri, vB, vI, uB, uI, A, G, hSh, hA1, hA2, hD⟩ := h
  refine (dka_flush (k := 1) hD (by decide) rfl hB).mono ?_
  rintro e w' ⟨h1, h2, h3⟩
  exact ⟨h1, So.stepD hSh hA1 hA2 (h2.congr (fun _ _ => rfl) (fun _ _ => rfl) (updF_two1 D E _)) h3⟩
end
/-- Alike, but for what was counted. -/
def Al2 (m : Nat) (D E : AD) : Prop := D.la = E.la ∧ D.wr = E.wr ∧ D.la.length = m
theorem Al2.write {m : Nat} {D E : AD} (h : Al2 m D E) (i : Nat) (s : List Int) : Al2 m (D.write i s) (E.write i s) := ⟨h.1, by show updF D.wr i (D.wr i ++ [s]) = updF E.wr i (E.wr i ++ [s]); rw [h.2.1], h.2.2⟩
theorem laAfter_same {D E : AD} (h1 : D.la = E.la) (h2 : D.wr = E.wr) (fate : Nat → Int) : ∀ k, D.laAfter fate k = E.laAfter fate k
  | 0 => h1
  | k + 1 => by
    have hk : D.keys = E.keys := by unfold AD.keys; rw [h1, h2]
    rw [AD.laAfter, AD.laAfter, hk, h2, laAfter_same h1 h2 fate k]
theorem Al2.flush {m : Nat} {D E : AD} (h : Al2 m D E) : Al2 m D.flush E.flush := by
  have hk : D.keys = E.keys := by unfold AD.keys; rw [h.1, h.2.1]
  refine ⟨?_, rfl, by rw [flush_len]; exact h.2.2⟩
  show D.laAfter _ D.keys.length = E.laAfter _ E.keys.length
  rw [hk]
  exact laAfter_same h.1 h.2.1 _ _
theorem Al2.now {m : Nat} {D E : AD} (h : Al2 m D E) (i : Nat) : E.now i = D.now i := by unfold AD.now; rw [h.1, h.2.1]
/-- Behind k rounds. -/
def Mn (w W : World) (B sp N M m p q : Nat) : Prop := ∃ D E, Al2 m D E ∧ So w W B sp N M m p q D E
theorem So.okD {w W : World} {B sp N M m p q : Nat} {D E : AD} (h : So w W B sp N M m p q D E) : D.Ok := by
  obtain ⟨gB, gI, Rb, Ri, vB, vI, uB, uI, A, G, hSh, hA1, hA2, hD⟩ := h
  exact hD.ok (j := 0) (by decide)
theorem Mn.asked {w W : World} {B sp N M m p q n : Nat} {D E : AD} (ha : Al2 m D E) (h : So w W B sp N M m p q D E) (hn : n < m) (hm20 : m ≤ 20) (hB : B ≤ 100000) (hN : N ≤ 10000) (hM : M ≤ 1000) :
    Calls Try.prog 25 #[.pointer (some ⟨sp, 0, none⟩), .pointer (some ⟨p, 0, none⟩), .int .i64 (n : Int)] W fun e w' => e = .returned (.tuple #[]) ∧ Mn w w' (B + 2) sp (N + 2 + 2 * m) (M + 2) m p q := by
  refine (asked_calls ⟨D, rfl, rfl, h⟩ ha.2.2 hn hm20 hB hN hM h.lo).mono ?_
  rintro e w' ⟨h1, D', h2, h3, h4⟩
  exact ⟨h1, D', E, ⟨h2.trans ha.1, h3.trans ha.2.1, by rw [h2]; exact ha.2.2⟩, h4⟩
/-- Settled. -/
def Fk (w W : World) (B sp N M m p q : Nat) (D E : AD) : Prop := ∃ gB gI Rb Ri vB vI vC vJ uB uI uC uJ A G, Fz w W sp N M m gB gI Rb Ri vB vI vC vJ uB uI uC uJ N M N M A B p q G D E ∧ ∀ b, b < w.heap.size → A b
theorem Mn.settle {w W : World} {B sp N M m p q : Nat} (h : Mn w W B sp N M m p q) (hN0 : 0 < N) (hM0 : 0 < M) (hN : N ≤ 20000) (hM : M ≤ 2000) (hm : m ≤ 20) :
    Calls Try.prog 26 #[.pointer (some ⟨sp, 0, none⟩)] W fun e w' => e = .returned (.bool true) ∧ ∃ D E, Al2 m D E ∧ Fk w w' B sp N M m p q D E := by
  obtain ⟨D, E, ha, gB, gI, Rb, Ri, vB, vI, uB, uI, A, G, hSh, hA1, hA2, hD⟩ := h
  have hz : Fz w W sp N M m gB gI Rb Ri vB vI (.slice none 0 0) (.slice none 0 0) uB uI [] [] 0 0 0 0 A B p q G D E := ⟨hSh, ⟨fun k hk => by omega, fun k hk => by omega, rfl, fun k hk => by omega, rfl, fun k hk => by omega⟩, hD, hA2⟩
  refine (settled_calls hz hN0 hM0 hN hM hm).mono ?_
  rintro e w' ⟨h1, Rb', Ri', vB', vI', vC', vJ', uB', uI', uC', uJ', h2⟩
  exact ⟨h1, D, E, ha, gB, gI, Rb', Ri', vB', vI', vC', vJ', uB', uI', uC', uJ', A, G, h2, hA1⟩
theorem Fk.below {w W w' : World} {B sp N M m p q : Nat} {D E : AD} (h : Fk w W B sp N M m p q D E) (hb : Below W.heap.size W w') : Fk w w' B sp N M m p q D E := by
  obtain ⟨gB, gI, Rb, Ri, vB, vI, vC, vJ, uB, uI, uC, uJ, A, G, hz, hA⟩ := h
  exact ⟨gB, gI, Rb, Ri, vB, vI, vC, vJ, uB, uI, uC, uJ, A, G, hz.below hb, hA⟩
theorem Fk.more {w W : World} {B B' sp N M m p q : Nat} {D E : AD} (h : Fk w W B sp N M m p q D E) (hB : B ≤ B') : Fk w W B' sp N M m p q D E := by
  obtain ⟨gB, gI, Rb, Ri, vB, vI, vC, vJ, uB, uI, uC, uJ, A, G, hz, hA⟩ := h
  exact ⟨gB, gI, Rb, Ri, vB, vI, vC, vJ, uB, uI, uC, uJ, A, G, ⟨hz.sh, hz.x, hz.d.mono hB, hz.aB⟩, hA⟩
theorem own8_zero {w : World} {B : Nat} {v : Value} {xs : List Int} (h : Own8 w B v xs) : Own8 w 0 v xs := ⟨⟨h.1.1, h.1.2.imp_right (fun ⟨g, cap, cur, a, _, c⟩ => ⟨g, cap, cur, a, Nat.zero_le _, c⟩)⟩, h.2⟩
theorem Fk.bel {w W : World} {B sp N M m p q : Nat} {D E : AD} (h : Fk w W B sp N M m p q D E) : Below w.heap.size w W := by
  obtain ⟨gB, gI, Rb, Ri, vB, vI, vC, vJ, uB, uI, uC, uJ, A, G, hz, hA⟩ := h
  exact hz.sh.bel
theorem Fk.read0 {w W : World} {B sp N M m p q i : Nat} {D E : AD} (h : Fk w W B sp N M m p q D E) (hi : i < D.la.length) (hB : B ≤ 1000000000) :
    Calls Try.prog 20 #[.pointer (some ⟨p, 0, none⟩), .int .i64 (i : Int)] W fun e w' => ∃ g, e = .returned (.tuple #[.slice (some ⟨g, 0, none⟩) 512 512, .int .i64 0]) ∧ Arr w' g 77 (u8V (D.now i)) ∧ IsSec (D.now i) ∧ Fk w w' (B + 1) sp N M m p q (D.reads 1) E := by
  obtain ⟨gB, gI, Rb, Ri, vB, vI, vC, vJ, uB, uI, uC, uJ, A, G, hz, hA⟩ := h
  refine (dka_readN (k := 0) (i := i) hz.d (by decide) rfl hi hB).mono ?_
  rintro e w' ⟨g, h1, _, h2, h3, h4, ⟨cs, h5⟩, h6, h7⟩
  have hp : w.heap.size ≤ p := by
    rcases Nat.lt_or_ge p w.heap.size with h | h
    · exact absurd (hA p h) h6
    · exact h
  exact ⟨g, h1, h2, h3, gB, gI, Rb, Ri, vB, vI, vC, vJ, uB, uI, uC, uJ, A, G, hz.disk h5 h4 hp ((h7 A (fun b hb => Or.inl hb)).congr (fun _ _ => rfl) (fun _ _ => rfl) (fun k hk => by rw [updF_two0]; rfl)), hA⟩
theorem Fk.read1 {w W : World} {B sp N M m p q i : Nat} {D E : AD} (h : Fk w W B sp N M m p q D E) (hi : i < E.la.length) (hB : B ≤ 1000000000) :
    Calls Try.prog 20 #[.pointer (some ⟨q, 0, none⟩), .int .i64 (i : Int)] W fun e w' => ∃ g, e = .returned (.tuple #[.slice (some ⟨g, 0, none⟩) 512 512, .int .i64 0]) ∧ Arr w' g 77 (u8V (E.now i)) ∧ IsSec (E.now i) ∧ Fk w w' (B + 1) sp N M m p q D (E.reads 1) ∧ ∀ g' cs, Arr W g' 77 cs → Arr w' g' 77 cs := by
  obtain ⟨gB, gI, Rb, Ri, vB, vI, vC, vJ, uB, uI, uC, uJ, A, G, hz, hA⟩ := h
  refine (dka_readN (k := 1) (i := i) hz.d (by decide) rfl hi hB).mono ?_
  rintro e w' ⟨g, h1, _, h2, h3, h4, ⟨cs, h5⟩, h6, h7⟩
  have hp : w.heap.size ≤ q := by
    rcases Nat.lt_or_ge q w.heap.size with h | h
    · exact absurd (hA q h) h6
    · exact h
  refine ⟨g, h1, h2, h3, ⟨gB, gI, Rb, Ri, vB, vI, vC, vJ, uB, uI, uC, uJ, A, G, hz.disk h5 h4 hp ((h7 A (fun b hb => Or.inl hb)).congr (fun _ _ => rfl) (fun _ _ => rfl) (updF_two1 D E _)), hA⟩, fun g' cs' ha => ?_⟩
  exact ha.up3 (F := fun b => b = q) (Up.of_grown h4 (fun b hb => (Option.some.inj hb).symm)) (arr_ne3 ha h5 (by decide))
theorem Fk.image {w W : World} {B sp N M m p q n r : Nat} {D E : AD} (h : Fk w W B sp N M m p q D E) (LA : List (List Int)) (hr : (r = p ∧ D.la = LA) ∨ (r = q ∧ E.la = LA)) (hn : LA.length = n) :
    Calls Try.prog 13 #[.pointer (some ⟨r, 0, none⟩)] W fun e w' => ∃ (ga : Nat) (f : Nat → Nat), e = .returned (.slice (some ⟨ga, 0, none⟩) n n) ∧ (∀ j, j < n → w'.cell? ⟨ga, j, none⟩ = some (.slice (some ⟨f j, 0, none⟩) 512 512) ∧ (convert 23 9 (.slice (some ⟨f j, 0, none⟩) 512 512)).run Try.prog w' = .ok (.string (mkS (LA.getD j zsec))) w' ∧ ∀ w2, Below w'.heap.size w' w2 → (convert 23 9 (.slice (some ⟨f j, 0, none⟩) 512 512)).run Try.prog w2 = .ok (.string (mkS (LA.getD j zsec))) w2) ∧ Below W.heap.size W w' := by
  obtain ⟨gB, gI, Rb, Ri, vB, vI, vC, vJ, uB, uI, uC, uJ, A, G, hz, hA⟩ := h
  obtain ⟨gm, V, h1, _, _⟩ := hz.d.all
  have key : ∀ {p gl gm : Nat} {V : Nat → Value} {D : AD}, Dk W p gl gm V D → D.la = LA → Calls Try.prog 13 #[.pointer (some ⟨p, 0, none⟩)] W fun e w' => ∃ (ga : Nat) (f : Nat → Nat), e = .returned (.slice (some ⟨ga, 0, none⟩) n n) ∧ (∀ j, j < n → w'.cell? ⟨ga, j, none⟩ = some (.slice (some ⟨f j, 0, none⟩) 512 512) ∧ (convert 23 9 (.slice (some ⟨f j, 0, none⟩) 512 512)).run Try.prog w' = .ok (.string (mkS (LA.getD j zsec))) w' ∧ ∀ w2, Below w'.heap.size w' w2 → (convert 23 9 (.slice (some ⟨f j, 0, none⟩) 512 512)).run Try.prog w2 = .ok (.string (mkS (LA.getD j zsec))) w2) ∧ Below W.heap.size W w' := fun {p gl gm V D} hd hla => by
    have hsec := hd.ok.las
    refine (imageN_calls hd).mono ?_
    rintro e w' ⟨us, f, rfl, ha, hul, hf, _, hb⟩
    rw [hla, hn] at hf ⊢
    rw [hla] at hsec
    refine ⟨_, f, rfl, fun j hj => ?_, hb⟩
    obtain ⟨_, f2, f3⟩ := hf j hj
    have hs : IsSec (LA.getD j zsec) := by
      rw [List.getD_eq_getElem?_getD, List.getElem?_eq_getElem (by omega)]
      exact hsec _ (List.getElem_mem _)
    exact ⟨ha.cell_of f2, conv_isB (isB_arrS f3 hs), fun w2 hw2 => conv_isB (isB_arrS (f3.below hw2) hs)⟩
  rcases hr with ⟨rfl, hla⟩ | ⟨rfl, hla⟩
  · exact key (h1 0 (by decide)) hla
  · exact key (h1 1 (by decide)) hla
theorem Fk.stands {w W : World} {B sp N M m p q : Nat} {D E : AD} (h : Fk w W B sp N M m p q D E) (hN0 : 0 < N) (hM0 : 0 < M) (hN : N ≤ 20000) (hM : M ≤ 2000) (hm : m ≤ 20) :
    Calls Try.prog 27 #[.pointer (some ⟨sp, 0, none⟩)] W fun e w' => e = .returned (.bool true) ∧ Below w.heap.size w w' := by
  obtain ⟨gB, gI, Rb, Ri, vB, vI, vC, vJ, uB, uI, uC, uJ, A, G, hz, hA⟩ := h
  refine (stands_calls hz hN0 hM0 hN hM hm).mono ?_
  rintro e w' ⟨h1, h2⟩
  exact ⟨h1, hz.sh.bel.trans (h2.mono hz.sh.bel.size)⟩
set_option maxRecDepth 100000 in
set_option maxHeartbeats 8000000 in
theorem own_walk {w : World} {v : Value} {l : Ats} (x y : Int) (h : IsWr w v l) :
    Calls Try.prog 5 #[.int .i64 x, v, .int .i64 y] w fun e w' => e = .returned (.bool true) ∧ Below w.heap.size w w' := by
  have hx19 := modN_lt x (m := 19) (by decide)
  have HM0 := hide (mod_calls (w := w) (x := x) (m := 19) (by decide) (by decide))
  obtain ⟨m, hm⟩ : ∃ m, 2 + modN x 19 = m := ⟨_, rfl⟩
  have hm2 : IntKind.i64.wrap (2 + ((modN x 19 : Nat) : Int)) = (m : Int) := by
    rw [show 2 + ((modN x 19 : Nat) : Int) = (m : Int) by omega]
    exact IntWalk.i64_in _ (by omega)
  have hm3 : 2 + ((modN x 19 : Nat) : Int) = (m : Int) := by omega
  have hmlo : 2 ≤ m := by omega
  have hmhi : m ≤ 20 := by omega
  generalize modN x 19 = xm at *
  clear hm hx19
  have HNEW1 := hide (dka_newO (A := fun b => b < w.heap.size) (Dka.nil (w := w) (fun _ h => h) 0 (fun _ => 0) (fun _ => 0) (fun _ => zeroD 2)) hmlo (by omega))
  have HNEW2 : Hid (∀ W p gl, Dka (fun b => b < w.heap.size) w W 0 1 (updF (fun _ => 0) 0 p) (updF (fun _ => 0) 0 gl) (updF (fun _ => zeroD 2) 0 (zeroD m)) → Calls Try.prog 24 #[.int .i64 (m : Int)] W _) := hide (fun W p gl hD => dka_newO hD hmlo (by omega))
  have HMODm : Hid (∀ (z : Int) (W : World), Calls Try.prog 16 #[.int .i64 z, .int .i64 (m : Int)] W fun e w' => e = .returned (.int .i64 ((modN z m : Nat) : Int)) ∧ w' = W) := hide (fun z W => mod_calls (by omega) (by omega))
  have HML : Hid (∀ z, modN z m < m) := hide (fun z => modN_lt z (by omega))
  have HH := hide h
  obtain ⟨a, cap, rfl, hlc, hcm, hcells⟩ := h.val
  have HC := hide hcells
  clear h hcells
  generalize hL : l.length = L at *
  have HL := hide hL
  clear hL
  go_enter Try.func5, Try.ntmps5
  go_wp2_with fail
  refine (unhide HM0).mono ?_
  rintro e w0 ⟨rfl, hw0⟩
  obtain rfl := hw0.symm
  clear HM0
  go_wp2_with fail
  refine (unhide HNEW1).mono ?_
  rintro e w1 ⟨p, rfl, ⟨gl, hD⟩, hb1⟩
  have HN2 := hide (unhide HNEW2 w1 p gl hD)
  have HB1 := hide hb1
  clear HNEW1 HNEW2 hD hb1
  go_wp2_with fail
  refine (unhide HN2).mono ?_
  rintro e w2 ⟨q, rfl, ⟨gl2, hD⟩, hb2⟩
  have hbz := (Below.refl w2.heap.size w2).alloc (Nat.le_refl _) (.cells #[.slice none 0 0, .slice none 0 0, .slice none 0 0, .slice none 0 0] 56)
  have HT : Hid (Mn w (w2.alloc (.cells #[.slice none 0 0, .slice none 0 0, .slice none 0 0, .slice none 0 0] 56)) 0 w2.heap.size 0 0 m p q) := by
    have hl : (zeroD m).la.length = m := by simp [zeroD]
    have hbw := HB1.out.trans (hb2.mono HB1.out.size)
    have hbe := hbw.trans (hbz.mono hbw.size)
    refine ⟨zeroD m, zeroD m, ⟨rfl, rfl, hl⟩, fun _ => 0, fun _ => 0, fun _ => [], fun _ => [], .slice none 0 0, .slice none 0 0, [], [], fun b => b < w.heap.size, updF (updF (fun _ => 0) 0 gl) 1 gl2, ⟨hbe, Arr.new w2 [.slice none 0 0, .slice none 0 0, .slice none 0 0, .slice none 0 0] 56, Row.nil _ _ _, Row.nil _ _ _, Row.nil _ _ _, Row.nil _ _ _, rfl, rfl, fun k hk => by omega, fun k hk => by omega, fun k hk => by omega, fun k hk => by omega, fun j k hj => by omega, fun j k hj => by omega, fun k hk => by omega, fun k hk => by omega, fun b hb => (by cases hb), fun b hb => (by cases hb), hbw.size, fun k hk => by omega, fun k hk => by omega⟩, fun b hb => hb, fun k hk => by omega, ?_⟩
    have hD2 : Dka (fun b => b < w.heap.size) w w2 0 2 (two p q) (updF (updF (fun _ => 0) 0 gl) 1 gl2) (two (zeroD m) (zeroD m)) := hD.congr (fun j hj => by rcases (show j = 0 ∨ j = 1 by omega) with rfl | rfl <;> rfl) (fun _ _ => rfl) (fun j hj => by rcases (show j = 0 ∨ j = 1 by omega) with rfl | rfl <;> rfl)
    exact hD2.anew hbz (fun b hb => Or.inl hb)
  clear HN2 HB1 hD hb2 hbz
  go_wp2
  generalize hsp : w2.heap.size = sp at HT ⊢
  have HSP := hide hsp
  clear hsp
  go_loopw [13] (fun iv W => ∃ (k N M : Nat), k ≤ L ∧ k ≤ 10 ∧ iv = .int .i64 (k : Int) ∧ Hid (N ≤ 42 * k ∧ M ≤ 2 * k ∧ Mn w W (6 * k) sp N M m p q)) (fun iv _ => 10 - (intOf iv).toNat)
  case atStart => exact ⟨0, 0, 0, by omega, by omega, rfl, hide ⟨by omega, by omega, HT.out⟩⟩
  case round =>
    clear HT
    obtain ⟨k, N, M, hk, hk2, rfl, HT⟩ := hrel
    by_cases hlt : k < L
    · by_cases hlt2 : k < 10
      · obtain ⟨hNN, hMM, D, E, hal, hso⟩ := HT.out
        obtain ⟨b, off, rfl, hcell⟩ := unhide HC (by omega)
        obtain ⟨h1, u, h2, hu⟩ := hcell k hlt
        obtain ⟨ua, un, uc, rfl⟩ := hu.shape
        have hbw := World.block_lt_of_cell? w _ h1
        have HSW : Hid (∀ W, Below w.heap.size w W → W.cell? ⟨b, off + k * 2, none⟩ = some (.int .i64 (l.getD k dA).1) ∧ W.cell? ⟨b, off + (k * 2 + 1), none⟩ = some (.slice ua un uc)) := hide fun W hW =>
          ⟨(hW.cell (p := ⟨b, off + k * 2, none⟩) hbw).trans h1, (hW.cell (p := ⟨b, off + (k * 2 + 1), none⟩) hbw).trans h2⟩
        have hul : (l.getD k dA).2.length ≤ 9223372036854775807 := by
          obtain ⟨_, a', c', hv, h5, h6, _⟩ := hu
          omega
        have hsec : IsSec (secOf (l.getD k dA).2) := secOf_is hu.mem
        have HSEC : Hid (∀ W, Below w.heap.size w W → Calls Try.prog 17 #[.slice ua un uc] W fun e w' => ∃ g, e = .returned (.slice (some ⟨g, 0, none⟩) 512 512) ∧ Own8 w' W.heap.size (.slice (some ⟨g, 0, none⟩) 512 512) (secOf (l.getD k dA).2) ∧ Below W.heap.size W w') := hide fun W hW =>
          sector_calls (hu.below hW) hul
        clear hcell h1 h2 hu hul hbw
        generalize (l.getD k dA).1 = xn at *
        generalize secOf (l.getD k dA).2 = sec at *
        have HMOD := hide (unhide HMODm xn)
        have hml := unhide HML xn
        generalize modN xn m = i0 at *
        have hkB : 6 * k ≤ 60 := by omega
        have HW1 : Hid (∀ (W : World) (u : Value), Below wr.drew.heap.size wr.drew W → Own8 W wr.drew.heap.size u sec → Calls Try.prog 10 #[.pointer (some ⟨p, 0, none⟩), .int .i64 (i0 : Int), u] W fun e w' => e = .returned (.int .i64 0) ∧ So w w' (6 * k + 1) sp N M m p q (D.write i0 sec) E) := hide (fun W u hW ho => ((hso.below (Below.refl _ _).drew).below hW).write0 (by rw [hal.2.2]; exact hml) (by omega) (own8_zero ho) hsec)
        have HB1 := hide hso.bel
        have HAL := hide hal
        have HNM : Hid (N ≤ 42 * k ∧ M ≤ 2 * k) := hide ⟨hNN, hMM⟩
        have HSC := hide hsec
        have HMLI := hide hml
        have hd1 : decide ((k : Int) < (L : Int)) = true := by simpa using hlt
        have hd2 : decide ((k : Int) < 10) = true := by simp; omega
        clear hso hal HT hNN hMM hsec hml
        go_wp2_with fail
        refine wp_region_held_drew (S := fun W => W.cell? ⟨b, off + k * 2, none⟩ = some (.int .i64 xn) ∧ W.cell? ⟨b, off + (k * 2 + 1), none⟩ = some (.slice ua un uc)) (by kernel_rfl) (unhide HSW _ (HB1.out.drew)) (fun hHeld => ?_)
        refine wpAnyH_take (i := 0) (v := .pointer (some ⟨p, 0, none⟩)) rfl (by kernel_rfl) (by kernel_rfl) (by kernel_rfl) (fun _ _ _ h => h) (Or.inl ⟨by rfl, fun w hSw => by obtain ⟨hS1, hS2⟩ := hSw; go_simp⟩) (by assumption) ?_
        simp only [List.getElem_toArray, List.getElem_cons_zero, Act.put, List.setIfInBounds_toArray, List.set_cons_zero, List.set_cons_succ]
        refine wpAnyH_take (i := 1) (v := .slice (some ⟨b, off, none⟩) L cap) rfl (by kernel_rfl) (by kernel_rfl) (by kernel_rfl) (fun _ _ _ h => h) (Or.inl ⟨by rfl, fun w hSw => by obtain ⟨hS1, hS2⟩ := hSw; go_simp⟩) (by assumption) ?_
        simp only [List.getElem_toArray, List.getElem_cons_succ, List.getElem_cons_zero, Act.put, List.setIfInBounds_toArray, List.set_cons_zero, List.set_cons_succ]
        refine wpAnyH_take (i := 2) (v := .int .i64 (k : Int)) rfl (by kernel_rfl) (by kernel_rfl) (by kernel_rfl) (fun _ _ _ h => h) (Or.inl ⟨by rfl, fun w hSw => by obtain ⟨hS1, hS2⟩ := hSw; go_simp⟩) (by assumption) ?_
        simp only [List.getElem_toArray, List.getElem_cons_succ, List.getElem_cons_zero, Act.put, List.setIfInBounds_toArray, List.set_cons_zero, List.set_cons_succ]
        refine wpAnyH_take (i := 3) (v := .pointer (some ⟨b, off + k * 2, none⟩)) rfl (by kernel_rfl) (by kernel_rfl) (by kernel_rfl) (fun _ _ _ h => h) (Or.inl ⟨by rfl, fun w hSw => by obtain ⟨hS1, hS2⟩ := hSw; go_simp⟩) (by assumption) ?_
        simp only [List.getElem_toArray, List.getElem_cons_succ, List.getElem_cons_zero, Act.put, List.setIfInBounds_toArray, List.set_cons_zero, List.set_cons_succ]
        refine wpAnyH_take (i := 4) (v := .pointer (some ⟨b, off + k * 2, none⟩)) rfl (by kernel_rfl) (by kernel_rfl) (by kernel_rfl) (fun _ _ _ h => h) (Or.inl ⟨by rfl, fun w hSw => by obtain ⟨hS1, hS2⟩ := hSw; go_simp⟩) (by assumption) ?_
        simp only [List.getElem_toArray, List.getElem_cons_succ, List.getElem_cons_zero, Act.put, List.setIfInBounds_toArray, List.set_cons_zero, List.set_cons_succ]
        refine wpAnyH_take (i := 5) (v := .int .i64 xn) rfl (by kernel_rfl) (by kernel_rfl) (by kernel_rfl) (fun _ _ _ h => h) (Or.inl ⟨by rfl, fun w hSw => by obtain ⟨hS1, hS2⟩ := hSw; go_simp⟩) (by assumption) ?_
        simp only [List.getElem_toArray, List.getElem_cons_succ, List.getElem_cons_zero, Act.put, List.setIfInBounds_toArray, List.set_cons_zero, List.set_cons_succ]
        refine wpAnyH_take (i := 6) (v := .int .i64 (m : Int)) rfl (by kernel_rfl) (by kernel_rfl) (by kernel_rfl) (fun _ _ _ h => h) (Or.inl ⟨by rfl, fun w hSw => by obtain ⟨hS1, hS2⟩ := hSw; go_simp⟩) (by assumption) ?_
        simp only [List.getElem_toArray, List.getElem_cons_succ, List.getElem_cons_zero, Act.put, List.setIfInBounds_toArray, List.set_cons_zero, List.set_cons_succ]
        refine wpAnyH_take (i := 8) (v := .slice (some ⟨b, off, none⟩) L cap) rfl (by kernel_rfl) (by kernel_rfl) (by kernel_rfl) (fun _ _ _ h => h) (Or.inl ⟨by rfl, fun w hSw => by obtain ⟨hS1, hS2⟩ := hSw; go_simp⟩) (by assumption) ?_
        simp only [List.getElem_toArray, List.getElem_cons_succ, List.getElem_cons_zero, Act.put, List.setIfInBounds_toArray, List.set_cons_zero, List.set_cons_succ]
        refine wpAnyH_take (i := 9) (v := .int .i64 (k : Int)) rfl (by kernel_rfl) (by kernel_rfl) (by kernel_rfl) (fun _ _ _ h => h) (Or.inl ⟨by rfl, fun w hSw => by obtain ⟨hS1, hS2⟩ := hSw; go_simp⟩) (by assumption) ?_
        simp only [List.getElem_toArray, List.getElem_cons_succ, List.getElem_cons_zero, Act.put, List.setIfInBounds_toArray, List.set_cons_zero, List.set_cons_succ]
        refine wpAnyH_take (i := 10) (v := .pointer (some ⟨b, off + k * 2, none⟩)) rfl (by kernel_rfl) (by kernel_rfl) (by kernel_rfl) (fun _ _ _ h => h) (Or.inl ⟨by rfl, fun w hSw => by obtain ⟨hS1, hS2⟩ := hSw; go_simp⟩) (by assumption) ?_
        simp only [List.getElem_toArray, List.getElem_cons_succ, List.getElem_cons_zero, Act.put, List.setIfInBounds_toArray, List.set_cons_zero, List.set_cons_succ]
        refine wpAnyH_take (i := 11) (v := .pointer (some ⟨b, off + (k * 2 + 1), none⟩)) rfl (by kernel_rfl) (by kernel_rfl) (by kernel_rfl) (fun _ _ _ h => h) (Or.inl ⟨by rfl, fun w hSw => by obtain ⟨hS1, hS2⟩ := hSw; go_simp⟩) (by assumption) ?_
        simp only [List.getElem_toArray, List.getElem_cons_succ, List.getElem_cons_zero, Act.put, List.setIfInBounds_toArray, List.set_cons_zero, List.set_cons_succ]
        refine wpAnyH_take (i := 12) (v := .slice ua un uc) rfl (by kernel_rfl) (by kernel_rfl) (by kernel_rfl) (fun _ _ _ h => h) (Or.inl ⟨by rfl, fun w hSw => by obtain ⟨hS1, hS2⟩ := hSw; go_simp⟩) (by assumption) ?_
        simp only [List.getElem_toArray, List.getElem_cons_succ, List.getElem_cons_zero, Act.put, List.setIfInBounds_toArray, List.set_cons_zero, List.set_cons_succ]
        refine wpAnyH_ready (rs := [7]) (by kernel_rfl) (by simp) (AllReadyH.cons rfl (fun K hK => ?_) AllReadyH.nil)
        refine step_call2Gd (by rfl) 16 mod_enter (.tmp 66) (.tmp 67) _ rfl rfl rfl (unhide HMOD _) ?_
        rintro e w11 ⟨rfl, hw11⟩
        obtain rfl := hw11.symm
        refine ⟨_, rfl, ?_⟩
        refine hK.out _ _ (hHeld) (fun hHeld2 => ?_)
        clear hK K
        simp only [List.getElem_toArray, List.getElem_cons_succ, List.getElem_cons_zero, Act.put, List.setIfInBounds_toArray, List.set_cons_zero, List.set_cons_succ]
        refine wpAnyH_ready (rs := [13]) (by kernel_rfl) (by simp) (AllReadyH.cons rfl (fun K hK => ?_) AllReadyH.nil)
        refine step_call1Gd (by rfl) 17 sector_enter (.tmp 73) _ rfl rfl (unhide HSEC _ (HB1.out.drew)) ?_
        rintro e w12 ⟨g1, rfl, hown1, hb12⟩
        refine ⟨_, rfl, ?_⟩
        refine hK.out _ _ (unhide HSW _ (HB1.out.drew.trans (hb12.mono HB1.out.drew.size))) (fun hHeld3 => ?_)
        clear hK K
        simp only [List.getElem_toArray, List.getElem_cons_succ, List.getElem_cons_zero, Act.put, List.setIfInBounds_toArray, List.set_cons_zero, List.set_cons_succ]
        refine wpAnyH_ready (rs := [14]) (by kernel_rfl) (by simp) (AllReadyH.cons rfl (fun K hK => ?_) AllReadyH.nil)
        refine step_call3Gd (by rfl) 10 write_enterO (.tmp 61) (.tmp 68) (.tmp 74) _ rfl rfl rfl rfl (unhide HW1 _ _ hb12 hown1) ?_
        rintro e w13 ⟨rfl, hso1⟩
        refine ⟨_, rfl, ?_⟩
        refine hK.out _ _ (unhide HSW _ hso1.bel) (fun hHeld4 => ?_)
        clear hK K
        simp only [List.getElem_toArray, List.getElem_cons_succ, List.getElem_cons_zero, Act.put, List.setIfInBounds_toArray, List.set_cons_zero, List.set_cons_succ]
        refine wpAnyH_done (by kernel_rfl) ?_ _
        clear hHeld hHeld2 hHeld3 hHeld4 hown1 hb12 HW1
        have HW2 : Hid (∀ (W : World) (u : Value), Below w13.drew.heap.size w13.drew W → Own8 W w13.drew.heap.size u sec → Calls Try.prog 10 #[.pointer (some ⟨q, 0, none⟩), .int .i64 (i0 : Int), u] W fun e w' => e = .returned (.int .i64 0) ∧ So w w' (6 * k + 1 + 1) sp N M m p q (D.write i0 sec) (E.write i0 sec)) := hide (fun W u hW ho => ((hso1.below (Below.refl _ _).drew).below hW).write1 (by rw [← HAL.out.1, HAL.out.2.2]; exact HMLI.out) (by omega) (own8_zero ho) HSC.out)
        have HB2 := hide hso1.bel
        clear hso1 HB1
        go_wp2_with fail
        refine wp_region_held_drew (S := fun W => W.cell? ⟨b, off + k * 2, none⟩ = some (.int .i64 xn) ∧ W.cell? ⟨b, off + (k * 2 + 1), none⟩ = some (.slice ua un uc)) (by kernel_rfl) (unhide HSW _ (HB2.out.drew)) (fun hHeld => ?_)
        refine wpAnyH_take (i := 0) (v := .pointer (some ⟨q, 0, none⟩)) rfl (by kernel_rfl) (by kernel_rfl) (by kernel_rfl) (fun _ _ _ h => h) (Or.inl ⟨by rfl, fun w hSw => by obtain ⟨hS1, hS2⟩ := hSw; go_simp⟩) (by assumption) ?_
        simp only [List.getElem_toArray, List.getElem_cons_zero, Act.put, List.setIfInBounds_toArray, List.set_cons_zero, List.set_cons_succ]
        refine wpAnyH_take (i := 1) (v := .slice (some ⟨b, off, none⟩) L cap) rfl (by kernel_rfl) (by kernel_rfl) (by kernel_rfl) (fun _ _ _ h => h) (Or.inl ⟨by rfl, fun w hSw => by obtain ⟨hS1, hS2⟩ := hSw; go_simp⟩) (by assumption) ?_
        simp only [List.getElem_toArray, List.getElem_cons_succ, List.getElem_cons_zero, Act.put, List.setIfInBounds_toArray, List.set_cons_zero, List.set_cons_succ]
        refine wpAnyH_take (i := 2) (v := .int .i64 (k : Int)) rfl (by kernel_rfl) (by kernel_rfl) (by kernel_rfl) (fun _ _ _ h => h) (Or.inl ⟨by rfl, fun w hSw => by obtain ⟨hS1, hS2⟩ := hSw; go_simp⟩) (by assumption) ?_
        simp only [List.getElem_toArray, List.getElem_cons_succ, List.getElem_cons_zero, Act.put, List.setIfInBounds_toArray, List.set_cons_zero, List.set_cons_succ]
        refine wpAnyH_take (i := 3) (v := .pointer (some ⟨b, off + k * 2, none⟩)) rfl (by kernel_rfl) (by kernel_rfl) (by kernel_rfl) (fun _ _ _ h => h) (Or.inl ⟨by rfl, fun w hSw => by obtain ⟨hS1, hS2⟩ := hSw; go_simp⟩) (by assumption) ?_
        simp only [List.getElem_toArray, List.getElem_cons_succ, List.getElem_cons_zero, Act.put, List.setIfInBounds_toArray, List.set_cons_zero, List.set_cons_succ]
        refine wpAnyH_take (i := 4) (v := .pointer (some ⟨b, off + k * 2, none⟩)) rfl (by kernel_rfl) (by kernel_rfl) (by kernel_rfl) (fun _ _ _ h => h) (Or.inl ⟨by rfl, fun w hSw => by obtain ⟨hS1, hS2⟩ := hSw; go_simp⟩) (by assumption) ?_
        simp only [List.getElem_toArray, List.getElem_cons_succ, List.getElem_cons_zero, Act.put, List.setIfInBounds_toArray, List.set_cons_zero, List.set_cons_succ]
        refine wpAnyH_take (i := 5) (v := .int .i64 xn) rfl (by kernel_rfl) (by kernel_rfl) (by kernel_rfl) (fun _ _ _ h => h) (Or.inl ⟨by rfl, fun w hSw => by obtain ⟨hS1, hS2⟩ := hSw; go_simp⟩) (by assumption) ?_
        simp only [List.getElem_toArray, List.getElem_cons_succ, List.getElem_cons_zero, Act.put, List.setIfInBounds_toArray, List.set_cons_zero, List.set_cons_succ]
        refine wpAnyH_take (i := 6) (v := .int .i64 (m : Int)) rfl (by kernel_rfl) (by kernel_rfl) (by kernel_rfl) (fun _ _ _ h => h) (Or.inl ⟨by rfl, fun w hSw => by obtain ⟨hS1, hS2⟩ := hSw; go_simp⟩) (by assumption) ?_
        simp only [List.getElem_toArray, List.getElem_cons_succ, List.getElem_cons_zero, Act.put, List.setIfInBounds_toArray, List.set_cons_zero, List.set_cons_succ]
        refine wpAnyH_take (i := 8) (v := .slice (some ⟨b, off, none⟩) L cap) rfl (by kernel_rfl) (by kernel_rfl) (by kernel_rfl) (fun _ _ _ h => h) (Or.inl ⟨by rfl, fun w hSw => by obtain ⟨hS1, hS2⟩ := hSw; go_simp⟩) (by assumption) ?_
        simp only [List.getElem_toArray, List.getElem_cons_succ, List.getElem_cons_zero, Act.put, List.setIfInBounds_toArray, List.set_cons_zero, List.set_cons_succ]
        refine wpAnyH_take (i := 9) (v := .int .i64 (k : Int)) rfl (by kernel_rfl) (by kernel_rfl) (by kernel_rfl) (fun _ _ _ h => h) (Or.inl ⟨by rfl, fun w hSw => by obtain ⟨hS1, hS2⟩ := hSw; go_simp⟩) (by assumption) ?_
        simp only [List.getElem_toArray, List.getElem_cons_succ, List.getElem_cons_zero, Act.put, List.setIfInBounds_toArray, List.set_cons_zero, List.set_cons_succ]
        refine wpAnyH_take (i := 10) (v := .pointer (some ⟨b, off + k * 2, none⟩)) rfl (by kernel_rfl) (by kernel_rfl) (by kernel_rfl) (fun _ _ _ h => h) (Or.inl ⟨by rfl, fun w hSw => by obtain ⟨hS1, hS2⟩ := hSw; go_simp⟩) (by assumption) ?_
        simp only [List.getElem_toArray, List.getElem_cons_succ, List.getElem_cons_zero, Act.put, List.setIfInBounds_toArray, List.set_cons_zero, List.set_cons_succ]
        refine wpAnyH_take (i := 11) (v := .pointer (some ⟨b, off + (k * 2 + 1), none⟩)) rfl (by kernel_rfl) (by kernel_rfl) (by kernel_rfl) (fun _ _ _ h => h) (Or.inl ⟨by rfl, fun w hSw => by obtain ⟨hS1, hS2⟩ := hSw; go_simp⟩) (by assumption) ?_
        simp only [List.getElem_toArray, List.getElem_cons_succ, List.getElem_cons_zero, Act.put, List.setIfInBounds_toArray, List.set_cons_zero, List.set_cons_succ]
        refine wpAnyH_take (i := 12) (v := .slice ua un uc) rfl (by kernel_rfl) (by kernel_rfl) (by kernel_rfl) (fun _ _ _ h => h) (Or.inl ⟨by rfl, fun w hSw => by obtain ⟨hS1, hS2⟩ := hSw; go_simp⟩) (by assumption) ?_
        simp only [List.getElem_toArray, List.getElem_cons_succ, List.getElem_cons_zero, Act.put, List.setIfInBounds_toArray, List.set_cons_zero, List.set_cons_succ]
        refine wpAnyH_ready (rs := [7]) (by kernel_rfl) (by simp) (AllReadyH.cons rfl (fun K hK => ?_) AllReadyH.nil)
        refine step_call2Gd (by rfl) 16 mod_enter (.tmp 81) (.tmp 82) _ rfl rfl rfl (unhide HMOD _) ?_
        rintro e w21 ⟨rfl, hw21⟩
        obtain rfl := hw21.symm
        refine ⟨_, rfl, ?_⟩
        refine hK.out _ _ (hHeld) (fun hHeld2 => ?_)
        clear hK K
        simp only [List.getElem_toArray, List.getElem_cons_succ, List.getElem_cons_zero, Act.put, List.setIfInBounds_toArray, List.set_cons_zero, List.set_cons_succ]
        refine wpAnyH_ready (rs := [13]) (by kernel_rfl) (by simp) (AllReadyH.cons rfl (fun K hK => ?_) AllReadyH.nil)
        refine step_call1Gd (by rfl) 17 sector_enter (.tmp 88) _ rfl rfl (unhide HSEC _ (HB2.out.drew)) ?_
        rintro e w22 ⟨g2, rfl, hown2, hb22⟩
        refine ⟨_, rfl, ?_⟩
        refine hK.out _ _ (unhide HSW _ (HB2.out.drew.trans (hb22.mono HB2.out.drew.size))) (fun hHeld3 => ?_)
        clear hK K
        simp only [List.getElem_toArray, List.getElem_cons_succ, List.getElem_cons_zero, Act.put, List.setIfInBounds_toArray, List.set_cons_zero, List.set_cons_succ]
        refine wpAnyH_ready (rs := [14]) (by kernel_rfl) (by simp) (AllReadyH.cons rfl (fun K hK => ?_) AllReadyH.nil)
        refine step_call3Gd (by rfl) 10 write_enterO (.tmp 76) (.tmp 83) (.tmp 89) _ rfl rfl rfl rfl (unhide HW2 _ _ hb22 hown2) ?_
        rintro e w23 ⟨rfl, hso2⟩
        refine ⟨_, rfl, ?_⟩
        refine hK.out _ _ (unhide HSW _ hso2.bel) (fun hHeld4 => ?_)
        clear hK K
        simp only [List.getElem_toArray, List.getElem_cons_succ, List.getElem_cons_zero, Act.put, List.setIfInBounds_toArray, List.set_cons_zero, List.set_cons_succ]
        refine wpAnyH_done (by kernel_rfl) ?_ _
        clear hHeld hHeld2 hHeld3 hHeld4 hown2 hb22 HW2
        have HAL2 := hide (HAL.out.write i0 sec)
        have HSO := hide hso2
        clear hso2 HB2 HAL HSW HSEC HMOD HSC HMLI
        generalize D.write i0 sec = D2 at HAL2 HSO
        generalize E.write i0 sec = E2 at HAL2 HSO
        obtain ⟨z, hz⟩ : ∃ z, IntKind.i64.wrap (y + (k : Int)) = z := ⟨_, rfl⟩
        have HMZ := hide (unhide HMODm z)
        have hmz := unhide HML z
        generalize modN z m = iz at *
        by_cases hk3 : (k : Int) % 3 = 1
        · have HF0 := hide (HSO.out.flush0 (by omega))
          clear HSO
          go_wp2_with fail
          refine (unhide HF0).mono ?_
          rintro e w3 ⟨rfl, hso3⟩
          have HF1 := hide (hso3.flush1 (by omega))
          clear HF0 hso3
          go_wp2_with fail
          refine (unhide HF1).mono ?_
          rintro e w4 ⟨rfl, hso4⟩
          have HAS := hide (Mn.asked (HAL2.out.flush) hso4 hmz hmhi (by omega) (by have := HNM.out; omega) (by have := HNM.out; omega))
          clear HF1 hso4 hk3
          go_wp2_with fail
          refine (unhide HMZ _).mono ?_
          rintro e w5 ⟨rfl, hw5⟩
          obtain rfl := hw5.symm
          go_wp2_with fail
          refine (unhide HAS).mono ?_
          rintro e w6 ⟨rfl, hmn⟩
          have HMN := hide hmn
          clear hmn HAS HMZ
          go_wp2
          go_roundw
          case rel => exact ⟨k + 1, N + 2 + 2 * m, M + 2, by omega, by omega, by go_num, hide ⟨by have := HNM.out; omega, by have := HNM.out; omega, HMN.out⟩⟩
          case measure => simp [intOf]; omega
        · have HAS := hide (Mn.asked HAL2.out (HSO.out.more (B' := 6 * k + 4) (by omega)) hmz hmhi (by omega) (by have := HNM.out; omega) (by have := HNM.out; omega))
          clear HSO
          go_wp2_with fail
          refine (unhide HMZ _).mono ?_
          rintro e w5 ⟨rfl, hw5⟩
          obtain rfl := hw5.symm
          clear hk3
          go_wp2_with fail
          refine (unhide HAS).mono ?_
          rintro e w6 ⟨rfl, hmn⟩
          have HMN := hide hmn
          clear hmn HAS HMZ
          go_wp2
          go_roundw
          case rel => exact ⟨k + 1, N + 2 + 2 * m, M + 2, by omega, by omega, by go_num, hide ⟨by have := HNM.out; omega, by have := HNM.out; omega, HMN.out⟩⟩
          case measure => simp [intOf]; omega
      · have hd1 : decide ((k : Int) < (L : Int)) = true := by simpa using hlt
        have hd2 : decide ((k : Int) < 10) = false := by simp; omega
        have HNM : Hid (N ≤ 420 ∧ M ≤ 20) := hide ⟨by have := HT.out; omega, by have := HT.out; omega⟩
        obtain ⟨_, _, D, E, hal, hso⟩ := HT.out
        have HMZ := hide (unhide HMODm y)
        have hmz := unhide HML y
        generalize modN y m = iy at *
        have HAS := hide (Mn.asked hal hso hmz hmhi (by omega) (by have := HNM.out; omega) (by have := HNM.out; omega))
        clear hal hso HT
        go_wp2_with fail
        refine (unhide HMZ _).mono ?_
        rintro e w3 ⟨rfl, hw3⟩
        obtain rfl := hw3.symm
        go_wp2_with fail
        refine (unhide HAS).mono ?_
        rintro e w4 ⟨rfl, hmn⟩
        have HN0 : Hid (0 < N + 2 + 2 * m ∧ N + 2 + 2 * m ≤ 20000 ∧ 0 < M + 2 ∧ M + 2 ≤ 2000) := hide (by have := HNM.out; omega)
        have HST := hide (hmn.settle HN0.out.1 HN0.out.2.2.1 HN0.out.2.1 HN0.out.2.2.2 hmhi)
        clear hmn HAS HMZ
        go_wp2_with fail
        refine (unhide HST).mono ?_
        rintro e w5 ⟨rfl, D3, E3, hal3, hfk⟩
        generalize N + 2 + 2 * m = N3 at HN0 hfk
        generalize M + 2 = M3 at HN0 hfk
        have HFK : Hid (∃ D E, Al2 m D E ∧ Fk w w5 1000 sp N3 M3 m p q D E) := hide ⟨D3, E3, hal3, hfk.more (by omega)⟩
        clear HST hal3 hfk
        go_wp2
        clear hd1 hlt hk hk2 hmz HNM
        go_loopw [14] (fun iv W => ∃ k : Nat, k ≤ m ∧ iv = .int .i64 (k : Int) ∧ Hid (∃ D E, Al2 m D E ∧ Fk w W (1000 + 2 * k) sp N3 M3 m p q D E)) (fun iv _ => m - (intOf iv).toNat)
        case atStart => exact ⟨0, by omega, rfl, HFK⟩
        case round =>
          clear HFK
          obtain ⟨k, hk, rfl, HFK⟩ := hrel
          obtain ⟨D, E, hal, hfk⟩ := HFK.out
          by_cases hkm : k < m
          · have hkI : (k : Int) < (m : Int) := by omega
            have HR0 := hide (hfk.read0 (i := k) (by rw [hal.2.2]; exact hkm) (by omega))
            have HAL := hide hal
            clear hal hfk HFK
            go_wp2_with fail
            refine (unhide HR0).mono ?_
            rintro e w6 ⟨g1, rfl, ha1, hs1, hfk1⟩
            have HR1 := hide (hfk1.read1 (i := k) (by rw [← HAL.out.1, HAL.out.2.2]; exact hkm) (by omega))
            have HA1 := hide ha1
            have HS1 := hide hs1
            clear HR0 ha1 hs1 hfk1
            go_wp2_with fail
            refine (unhide HR1).mono ?_
            rintro e w7 ⟨g2, rfl, ha2, hs2, hfk2, hkeep⟩
            rw [HAL.out.now k] at ha2 hs2
            have hcv1 := conv_isB (isB_arrS (hkeep _ _ HA1.out) HS1.out)
            have hcv2 := conv_isB (isB_arrS ha2 hs2)
            generalize mkS (D.now k) = st at hcv1 hcv2
            have HF2 : Hid (∃ D E, Al2 m D E ∧ Fk w w7 (1000 + 2 * (k + 1)) sp N3 M3 m p q D E) := hide ⟨D.reads 1, E.reads 1, ⟨HAL.out.1, HAL.out.2.1, HAL.out.2.2⟩, hfk2⟩
            clear HR1 ha2 hs2 hfk2 hkeep HA1 HS1 HAL
            go_wp2
            go_roundw
            case rel => exact ⟨k + 1, by omega, by go_num, HF2⟩
            case measure => simp [intOf]; omega
          · have hkN : ¬ (k : Int) < (m : Int) := by omega
            have HI0 := hide (hfk.image (n := m) (r := p) D.la (Or.inl ⟨rfl, rfl⟩) hal.2.2)
            have HI1 : Hid (∀ W, Below wr.heap.size wr W → Calls Try.prog 13 #[.pointer (some ⟨q, 0, none⟩)] W _) := hide (fun W hW => (hfk.below hW).image (n := m) (r := q) D.la (Or.inr ⟨rfl, hal.1.symm⟩) hal.2.2)
            have HZ := hide hfk
            clear hal hfk HFK
            go_wp2_with fail
            refine (unhide HI0).mono ?_
            rintro e w6 ⟨ga, f1, rfl, hf1, hb6⟩
            have HI2 := hide (unhide HI1 w6 hb6)
            have HF1 := hide hf1
            have HB6 := hide hb6
            clear HI0 HI1 hf1 hb6
            go_wp2_with fail
            refine (unhide HI2).mono ?_
            rintro e w7 ⟨gb, f2, rfl, hf2, hb7⟩
            have HF2 := hide hf2
            have HB7 := hide hb7
            have HZ7 := hide ((HZ.out.below HB6.out).below hb7)
            clear HI2 hf2 hb7 HZ
            go_wp2
            clear hkN hkm hk
            go_loopw [21] (fun iv W => ∃ k : Nat, k ≤ m ∧ iv = .int .i64 (k : Int) ∧ Hid (Below w7.heap.size w7 W)) (fun iv _ => m - (intOf iv).toNat)
            case atStart => exact ⟨0, by omega, rfl, hide (Below.refl _ _)⟩
            case round =>
              obtain ⟨k, hk, rfl, HB⟩ := hrel
              by_cases hkm : k < m
              · have hkI : (k : Int) < (m : Int) := by omega
                obtain ⟨hc1, _, hv1⟩ := HF1.out k hkm
                obtain ⟨hc2, _, hv2⟩ := HF2.out k hkm
                have hc1b := bkept HB7.out hc1
                obtain ⟨xa, hxa⟩ : ∃ xa, f1 k = xa := ⟨_, rfl⟩
                obtain ⟨xb, hxb⟩ : ∃ xb, f2 k = xb := ⟨_, rfl⟩
                rw [hxa] at hc1b hv1
                rw [hxb] at hc2 hv2
                generalize mkS (D.la.getD k zsec) = st at hv1 hv2
                have HSS : Hid (∀ W, Below wr.heap.size wr W → (fun W => W.cell? ⟨ga, k, none⟩ = some (.slice (some ⟨xa, 0, none⟩) 512 512) ∧ W.cell? ⟨gb, k, none⟩ = some (.slice (some ⟨xb, 0, none⟩) 512 512) ∧ (convert 23 9 (.slice (some ⟨xa, 0, none⟩) 512 512)).run Try.prog W = .ok (.string st) W ∧ (convert 23 9 (.slice (some ⟨xb, 0, none⟩) 512 512)).run Try.prog W = .ok (.string st) W) W) := hide (fun W hW => by
                  have hb := HB.out.trans (hW.mono HB.out.size)
                  exact ⟨bkept hb hc1b, bkept hb hc2, hv1 W (HB7.out.trans (hb.mono HB7.out.size)), hv2 W hb⟩)
                have HB3 : Hid (Below w7.heap.size w7 wr.drew) := hide HB.out.drew
                clear hc1 hc2 hv1 hv2 hc1b hxa hxb HB
                go_wp2_with fail
                refine wp_region_held_drew (S := fun W => W.cell? ⟨ga, k, none⟩ = some (.slice (some ⟨xa, 0, none⟩) 512 512) ∧ W.cell? ⟨gb, k, none⟩ = some (.slice (some ⟨xb, 0, none⟩) 512 512) ∧ (convert 23 9 (.slice (some ⟨xa, 0, none⟩) 512 512)).run Try.prog W = .ok (.string st) W ∧ (convert 23 9 (.slice (some ⟨xb, 0, none⟩) 512 512)).run Try.prog W = .ok (.string st) W) (by kernel_rfl) (unhide HSS _ (Below.refl _ _).drew) (fun hHeld => ?_)
                refine wpAnyH_take (i := 0) (v := .slice (some ⟨ga, 0, none⟩) m m) rfl (by kernel_rfl) (by kernel_rfl) (by kernel_rfl) (fun _ _ _ h => h) (Or.inl ⟨by rfl, fun w hSw => by obtain ⟨hS1, hS2, hS3, hS4⟩ := hSw; go_simp⟩) (by assumption) ?_
                simp only [List.getElem_toArray, List.getElem_cons_zero, Act.put, List.setIfInBounds_toArray, List.set_cons_zero, List.set_cons_succ]
                refine wpAnyH_take (i := 1) (v := .int .i64 (m : Int)) rfl (by kernel_rfl) (by kernel_rfl) (by kernel_rfl) (fun _ _ _ h => h) (Or.inl ⟨by rfl, fun w hSw => by obtain ⟨hS1, hS2, hS3, hS4⟩ := hSw; go_simp⟩) (by assumption) ?_
                simp only [List.getElem_toArray, List.getElem_cons_succ, List.getElem_cons_zero, Act.put, List.setIfInBounds_toArray, List.set_cons_zero, List.set_cons_succ]
                refine wpAnyH_take (i := 2) (v := .int .i64 (m : Int)) rfl (by kernel_rfl) (by kernel_rfl) (by kernel_rfl) (fun _ _ _ h => h) (Or.inl ⟨by rfl, fun w hSw => by obtain ⟨hS1, hS2, hS3, hS4⟩ := hSw; go_simp⟩) (by assumption) ?_
                simp only [List.getElem_toArray, List.getElem_cons_succ, List.getElem_cons_zero, Act.put, List.setIfInBounds_toArray, List.set_cons_zero, List.set_cons_succ]
                refine wpAnyH_take (i := 3) (v := .bool false) rfl (by kernel_rfl) (by kernel_rfl) (by kernel_rfl) (fun _ _ _ h => h) (Or.inl ⟨by rfl, fun w hSw => by obtain ⟨hS1, hS2, hS3, hS4⟩ := hSw; go_simp⟩) (by assumption) ?_
                simp only [List.getElem_toArray, List.getElem_cons_succ, List.getElem_cons_zero, Act.put, List.setIfInBounds_toArray, List.set_cons_zero, List.set_cons_succ]
                refine wpAnyH_take (i := 4) (v := .bool false) rfl (by kernel_rfl) (by kernel_rfl) (by kernel_rfl) (fun _ _ _ h => h) (Or.inl ⟨by rfl, fun w hSw => by obtain ⟨hS1, hS2, hS3, hS4⟩ := hSw; go_simp⟩) (by assumption) ?_
                simp only [List.getElem_toArray, List.getElem_cons_succ, List.getElem_cons_zero, Act.put, List.setIfInBounds_toArray, List.set_cons_zero, List.set_cons_succ]
                refine wpAnyH_take (i := 5) (v := .slice (some ⟨gb, 0, none⟩) m m) rfl (by kernel_rfl) (by kernel_rfl) (by kernel_rfl) (fun _ _ _ h => h) (Or.inl ⟨by rfl, fun w hSw => by obtain ⟨hS1, hS2, hS3, hS4⟩ := hSw; go_simp⟩) (by assumption) ?_
                simp only [List.getElem_toArray, List.getElem_cons_succ, List.getElem_cons_zero, Act.put, List.setIfInBounds_toArray, List.set_cons_zero, List.set_cons_succ]
                refine wpAnyH_take (i := 6) (v := .int .i64 (m : Int)) rfl (by kernel_rfl) (by kernel_rfl) (by kernel_rfl) (fun _ _ _ h => h) (Or.inl ⟨by rfl, fun w hSw => by obtain ⟨hS1, hS2, hS3, hS4⟩ := hSw; go_simp⟩) (by assumption) ?_
                simp only [List.getElem_toArray, List.getElem_cons_succ, List.getElem_cons_zero, Act.put, List.setIfInBounds_toArray, List.set_cons_zero, List.set_cons_succ]
                refine wpAnyH_take (i := 7) (v := .int .i64 (m : Int)) rfl (by kernel_rfl) (by kernel_rfl) (by kernel_rfl) (fun _ _ _ h => h) (Or.inl ⟨by rfl, fun w hSw => by obtain ⟨hS1, hS2, hS3, hS4⟩ := hSw; go_simp⟩) (by assumption) ?_
                simp only [List.getElem_toArray, List.getElem_cons_succ, List.getElem_cons_zero, Act.put, List.setIfInBounds_toArray, List.set_cons_zero, List.set_cons_succ]
                refine wpAnyH_take (i := 8) (v := .bool false) rfl (by kernel_rfl) (by kernel_rfl) (by kernel_rfl) (fun _ _ _ h => h) (Or.inl ⟨by rfl, fun w hSw => by obtain ⟨hS1, hS2, hS3, hS4⟩ := hSw; go_simp⟩) (by assumption) ?_
                simp only [List.getElem_toArray, List.getElem_cons_succ, List.getElem_cons_zero, Act.put, List.setIfInBounds_toArray, List.set_cons_zero, List.set_cons_succ]
                refine wpAnyH_take (i := 9) (v := .bool false) rfl (by kernel_rfl) (by kernel_rfl) (by kernel_rfl) (fun _ _ _ h => h) (Or.inl ⟨by rfl, fun w hSw => by obtain ⟨hS1, hS2, hS3, hS4⟩ := hSw; go_simp⟩) (by assumption) ?_
                simp only [List.getElem_toArray, List.getElem_cons_succ, List.getElem_cons_zero, Act.put, List.setIfInBounds_toArray, List.set_cons_zero, List.set_cons_succ]
                refine wpAnyH_take (i := 10) (v := .bool false) rfl (by kernel_rfl) (by kernel_rfl) (by kernel_rfl) (fun _ _ _ h => h) (Or.inl ⟨by rfl, fun w hSw => by obtain ⟨hS1, hS2, hS3, hS4⟩ := hSw; go_simp⟩) (by assumption) ?_
                simp only [List.getElem_toArray, List.getElem_cons_succ, List.getElem_cons_zero, Act.put, List.setIfInBounds_toArray, List.set_cons_zero, List.set_cons_succ]
                refine wpAnyH_take (i := 11) (v := .slice (some ⟨ga, 0, none⟩) m m) rfl (by kernel_rfl) (by kernel_rfl) (by kernel_rfl) (fun _ _ _ h => h) (Or.inl ⟨by rfl, fun w hSw => by obtain ⟨hS1, hS2, hS3, hS4⟩ := hSw; go_simp⟩) (by assumption) ?_
                simp only [List.getElem_toArray, List.getElem_cons_succ, List.getElem_cons_zero, Act.put, List.setIfInBounds_toArray, List.set_cons_zero, List.set_cons_succ]
                refine wpAnyH_take (i := 12) (v := .int .i64 (k : Int)) rfl (by kernel_rfl) (by kernel_rfl) (by kernel_rfl) (fun _ _ _ h => h) (Or.inl ⟨by rfl, fun w hSw => by obtain ⟨hS1, hS2, hS3, hS4⟩ := hSw; go_simp⟩) (by assumption) ?_
                simp only [List.getElem_toArray, List.getElem_cons_succ, List.getElem_cons_zero, Act.put, List.setIfInBounds_toArray, List.set_cons_zero, List.set_cons_succ]
                refine wpAnyH_take (i := 13) (v := .pointer (some ⟨ga, k, none⟩)) rfl (by kernel_rfl) (by kernel_rfl) (by kernel_rfl) (fun _ _ _ h => h) (Or.inl ⟨by rfl, fun w hSw => by obtain ⟨hS1, hS2, hS3, hS4⟩ := hSw; go_simp⟩) (by assumption) ?_
                simp only [List.getElem_toArray, List.getElem_cons_succ, List.getElem_cons_zero, Act.put, List.setIfInBounds_toArray, List.set_cons_zero, List.set_cons_succ]
                refine wpAnyH_take (i := 14) (v := .slice (some ⟨xa, 0, none⟩) 512 512) rfl (by kernel_rfl) (by kernel_rfl) (by kernel_rfl) (fun _ _ _ h => h) (Or.inl ⟨by rfl, fun w hSw => by obtain ⟨hS1, hS2, hS3, hS4⟩ := hSw; go_simp⟩) (by assumption) ?_
                simp only [List.getElem_toArray, List.getElem_cons_succ, List.getElem_cons_zero, Act.put, List.setIfInBounds_toArray, List.set_cons_zero, List.set_cons_succ]
                refine wpAnyH_take (i := 15) (v := .string st) rfl (by kernel_rfl) (by kernel_rfl) (by kernel_rfl) (fun _ _ _ h => h) (Or.inl ⟨by rfl, fun w hSw => by obtain ⟨hS1, hS2, hS3, hS4⟩ := hSw; go_simp⟩) (by assumption) ?_
                simp only [List.getElem_toArray, List.getElem_cons_succ, List.getElem_cons_zero, Act.put, List.setIfInBounds_toArray, List.set_cons_zero, List.set_cons_succ]
                refine wpAnyH_take (i := 16) (v := .slice (some ⟨gb, 0, none⟩) m m) rfl (by kernel_rfl) (by kernel_rfl) (by kernel_rfl) (fun _ _ _ h => h) (Or.inl ⟨by rfl, fun w hSw => by obtain ⟨hS1, hS2, hS3, hS4⟩ := hSw; go_simp⟩) (by assumption) ?_
                simp only [List.getElem_toArray, List.getElem_cons_succ, List.getElem_cons_zero, Act.put, List.setIfInBounds_toArray, List.set_cons_zero, List.set_cons_succ]
                refine wpAnyH_take (i := 17) (v := .int .i64 (k : Int)) rfl (by kernel_rfl) (by kernel_rfl) (by kernel_rfl) (fun _ _ _ h => h) (Or.inl ⟨by rfl, fun w hSw => by obtain ⟨hS1, hS2, hS3, hS4⟩ := hSw; go_simp⟩) (by assumption) ?_
                simp only [List.getElem_toArray, List.getElem_cons_succ, List.getElem_cons_zero, Act.put, List.setIfInBounds_toArray, List.set_cons_zero, List.set_cons_succ]
                refine wpAnyH_take (i := 18) (v := .pointer (some ⟨gb, k, none⟩)) rfl (by kernel_rfl) (by kernel_rfl) (by kernel_rfl) (fun _ _ _ h => h) (Or.inl ⟨by rfl, fun w hSw => by obtain ⟨hS1, hS2, hS3, hS4⟩ := hSw; go_simp⟩) (by assumption) ?_
                simp only [List.getElem_toArray, List.getElem_cons_succ, List.getElem_cons_zero, Act.put, List.setIfInBounds_toArray, List.set_cons_zero, List.set_cons_succ]
                refine wpAnyH_take (i := 19) (v := .slice (some ⟨xb, 0, none⟩) 512 512) rfl (by kernel_rfl) (by kernel_rfl) (by kernel_rfl) (fun _ _ _ h => h) (Or.inl ⟨by rfl, fun w hSw => by obtain ⟨hS1, hS2, hS3, hS4⟩ := hSw; go_simp⟩) (by assumption) ?_
                simp only [List.getElem_toArray, List.getElem_cons_succ, List.getElem_cons_zero, Act.put, List.setIfInBounds_toArray, List.set_cons_zero, List.set_cons_succ]
                refine wpAnyH_take (i := 20) (v := .string st) rfl (by kernel_rfl) (by kernel_rfl) (by kernel_rfl) (fun _ _ _ h => h) (Or.inl ⟨by rfl, fun w hSw => by obtain ⟨hS1, hS2, hS3, hS4⟩ := hSw; go_simp⟩) (by assumption) ?_
                simp only [List.getElem_toArray, List.getElem_cons_succ, List.getElem_cons_zero, Act.put, List.setIfInBounds_toArray, List.set_cons_zero, List.set_cons_succ]
                refine wpAnyH_take (i := 21) (v := .bool false) rfl (by kernel_rfl) (by kernel_rfl) (by kernel_rfl) (fun _ _ _ h => h) (Or.inl ⟨by rfl, fun w hSw => by obtain ⟨hS1, hS2, hS3, hS4⟩ := hSw; go_simp⟩) (by assumption) ?_
                simp only [List.getElem_toArray, List.getElem_cons_succ, List.getElem_cons_zero, Act.put, List.setIfInBounds_toArray, List.set_cons_zero, List.set_cons_succ]
                refine wpAnyH_take (i := 22) (v := .bool false) rfl (by kernel_rfl) (by kernel_rfl) (by kernel_rfl) (fun _ _ _ h => h) (Or.inl ⟨by rfl, fun w hSw => by obtain ⟨hS1, hS2, hS3, hS4⟩ := hSw; go_simp⟩) (by assumption) ?_
                simp only [List.getElem_toArray, List.getElem_cons_succ, List.getElem_cons_zero, Act.put, List.setIfInBounds_toArray, List.set_cons_zero, List.set_cons_succ]
                refine wpAnyH_done (by kernel_rfl) ?_ _
                clear hHeld
                go_wp2
                go_roundw
                case rel => exact ⟨k + 1, by omega, by go_num, HB3⟩
                case measure => simp [intOf]; omega
              · have hkN : ¬ (k : Int) < (m : Int) := by omega
                have HSD := hide ((HZ7.out.below HB.out).stands HN0.out.1 HN0.out.2.2.1 HN0.out.2.1 HN0.out.2.2.2 hmhi)
                clear HB
                go_wp2_with fail
                refine (unhide HSD).mono ?_
                rintro e w8 ⟨rfl, hb8⟩
                have HB8 := hide hb8
                clear HSD hb8
                go_wp2
                go_ret
                exact ⟨rfl, HB8.out⟩
    · have hd1 : decide ((k : Int) < (L : Int)) = false := by simpa using hlt
      have HNM : Hid (N ≤ 420 ∧ M ≤ 20) := hide ⟨by have := HT.out; omega, by have := HT.out; omega⟩
      obtain ⟨_, _, D, E, hal, hso⟩ := HT.out
      have HMZ := hide (unhide HMODm y)
      have hmz := unhide HML y
      generalize modN y m = iy at *
      have HAS := hide (Mn.asked hal hso hmz hmhi (by omega) (by have := HNM.out; omega) (by have := HNM.out; omega))
      clear hal hso HT
      go_wp2_with fail
      refine (unhide HMZ _).mono ?_
      rintro e w3 ⟨rfl, hw3⟩
      obtain rfl := hw3.symm
      go_wp2_with fail
      refine (unhide HAS).mono ?_
      rintro e w4 ⟨rfl, hmn⟩
      have HN0 : Hid (0 < N + 2 + 2 * m ∧ N + 2 + 2 * m ≤ 20000 ∧ 0 < M + 2 ∧ M + 2 ≤ 2000) := hide (by have := HNM.out; omega)
      have HST := hide (hmn.settle HN0.out.1 HN0.out.2.2.1 HN0.out.2.1 HN0.out.2.2.2 hmhi)
      clear hmn HAS HMZ
      go_wp2_with fail
      refine (unhide HST).mono ?_
      rintro e w5 ⟨rfl, D3, E3, hal3, hfk⟩
      generalize N + 2 + 2 * m = N3 at HN0 hfk
      generalize M + 2 = M3 at HN0 hfk
      have HFK : Hid (∃ D E, Al2 m D E ∧ Fk w w5 1000 sp N3 M3 m p q D E) := hide ⟨D3, E3, hal3, hfk.more (by omega)⟩
      clear HST hal3 hfk
      go_wp2
      clear hd1 hlt hk hk2 hmz HNM
      go_loopw [14] (fun iv W => ∃ k : Nat, k ≤ m ∧ iv = .int .i64 (k : Int) ∧ Hid (∃ D E, Al2 m D E ∧ Fk w W (1000 + 2 * k) sp N3 M3 m p q D E)) (fun iv _ => m - (intOf iv).toNat)
      case atStart => exact ⟨0, by omega, rfl, HFK⟩
      case round =>
        clear HFK
        obtain ⟨k, hk, rfl, HFK⟩ := hrel
        obtain ⟨D, E, hal, hfk⟩ := HFK.out
        by_cases hkm : k < m
        · have hkI : (k : Int) < (m : Int) := by omega
          have HR0 := hide (hfk.read0 (i := k) (by rw [hal.2.2]; exact hkm) (by omega))
          have HAL := hide hal
          clear hal hfk HFK
          go_wp2_with fail
          refine (unhide HR0).mono ?_
          rintro e w6 ⟨g1, rfl, ha1, hs1, hfk1⟩
          have HR1 := hide (hfk1.read1 (i := k) (by rw [← HAL.out.1, HAL.out.2.2]; exact hkm) (by omega))
          have HA1 := hide ha1
          have HS1 := hide hs1
          clear HR0 ha1 hs1 hfk1
          go_wp2_with fail
          refine (unhide HR1).mono ?_
          rintro e w7 ⟨g2, rfl, ha2, hs2, hfk2, hkeep⟩
          rw [HAL.out.now k] at ha2 hs2
          have hcv1 := conv_isB (isB_arrS (hkeep _ _ HA1.out) HS1.out)
          have hcv2 := conv_isB (isB_arrS ha2 hs2)
          generalize mkS (D.now k) = st at hcv1 hcv2
          have HF2 : Hid (∃ D E, Al2 m D E ∧ Fk w w7 (1000 + 2 * (k + 1)) sp N3 M3 m p q D E) := hide ⟨D.reads 1, E.reads 1, ⟨HAL.out.1, HAL.out.2.1, HAL.out.2.2⟩, hfk2⟩
          clear HR1 ha2 hs2 hfk2 hkeep HA1 HS1 HAL
          go_wp2
          go_roundw
          case rel => exact ⟨k + 1, by omega, by go_num, HF2⟩
          case measure => simp [intOf]; omega
        · have hkN : ¬ (k : Int) < (m : Int) := by omega
          have HI0 := hide (hfk.image (n := m) (r := p) D.la (Or.inl ⟨rfl, rfl⟩) hal.2.2)
          have HI1 : Hid (∀ W, Below wr.heap.size wr W → Calls Try.prog 13 #[.pointer (some ⟨q, 0, none⟩)] W _) := hide (fun W hW => (hfk.below hW).image (n := m) (r := q) D.la (Or.inr ⟨rfl, hal.1.symm⟩) hal.2.2)
          have HZ := hide hfk
          clear hal hfk HFK
          go_wp2_with fail
          refine (unhide HI0).mono ?_
          rintro e w6 ⟨ga, f1, rfl, hf1, hb6⟩
          have HI2 := hide (unhide HI1 w6 hb6)
          have HF1 := hide hf1
          have HB6 := hide hb6
          clear HI0 HI1 hf1 hb6
          go_wp2_with fail
          refine (unhide HI2).mono ?_
          rintro e w7 ⟨gb, f2, rfl, hf2, hb7⟩
          have HF2 := hide hf2
          have HB7 := hide hb7
          have HZ7 := hide ((HZ.out.below HB6.out).below hb7)
          clear HI2 hf2 hb7 HZ
          go_wp2
          clear hkN hkm hk
          go_loopw [21] (fun iv W => ∃ k : Nat, k ≤ m ∧ iv = .int .i64 (k : Int) ∧ Hid (Below w7.heap.size w7 W)) (fun iv _ => m - (intOf iv).toNat)
          case atStart => exact ⟨0, by omega, rfl, hide (Below.refl _ _)⟩
          case round =>
            obtain ⟨k, hk, rfl, HB⟩ := hrel
            by_cases hkm : k < m
            · have hkI : (k : Int) < (m : Int) := by omega
              obtain ⟨hc1, _, hv1⟩ := HF1.out k hkm
              obtain ⟨hc2, _, hv2⟩ := HF2.out k hkm
              have hc1b := bkept HB7.out hc1
              obtain ⟨xa, hxa⟩ : ∃ xa, f1 k = xa := ⟨_, rfl⟩
              obtain ⟨xb, hxb⟩ : ∃ xb, f2 k = xb := ⟨_, rfl⟩
              rw [hxa] at hc1b hv1
              rw [hxb] at hc2 hv2
              generalize mkS (D.la.getD k zsec) = st at hv1 hv2
              have HSS : Hid (∀ W, Below wr.heap.size wr W → (fun W => W.cell? ⟨ga, k, none⟩ = some (.slice (some ⟨xa, 0, none⟩) 512 512) ∧ W.cell? ⟨gb, k, none⟩ = some (.slice (some ⟨xb, 0, none⟩) 512 512) ∧ (convert 23 9 (.slice (some ⟨xa, 0, none⟩) 512 512)).run Try.prog W = .ok (.string st) W ∧ (convert 23 9 (.slice (some ⟨xb, 0, none⟩) 512 512)).run Try.prog W = .ok (.string st) W) W) := hide (fun W hW => by
                have hb := HB.out.trans (hW.mono HB.out.size)
                exact ⟨bkept hb hc1b, bkept hb hc2, hv1 W (HB7.out.trans (hb.mono HB7.out.size)), hv2 W hb⟩)
              have HB3 : Hid (Below w7.heap.size w7 wr.drew) := hide HB.out.drew
              clear hc1 hc2 hv1 hv2 hc1b hxa hxb HB
              go_wp2_with fail
              refine wp_region_held_drew (S := fun W => W.cell? ⟨ga, k, none⟩ = some (.slice (some ⟨xa, 0, none⟩) 512 512) ∧ W.cell? ⟨gb, k, none⟩ = some (.slice (some ⟨xb, 0, none⟩) 512 512) ∧ (convert 23 9 (.slice (some ⟨xa, 0, none⟩) 512 512)).run Try.prog W = .ok (.string st) W ∧ (convert 23 9 (.slice (some ⟨xb, 0, none⟩) 512 512)).run Try.prog W = .ok (.string st) W) (by kernel_rfl) (unhide HSS _ (Below.refl _ _).drew) (fun hHeld => ?_)
              refine wpAnyH_take (i := 0) (v := .slice (some ⟨ga, 0, none⟩) m m) rfl (by kernel_rfl) (by kernel_rfl) (by kernel_rfl) (fun _ _ _ h => h) (Or.inl ⟨by rfl, fun w hSw => by obtain ⟨hS1, hS2, hS3, hS4⟩ := hSw; go_simp⟩) (by assumption) ?_
              simp only [List.getElem_toArray, List.getElem_cons_zero, Act.put, List.setIfInBounds_toArray, List.set_cons_zero, List.set_cons_succ]
              refine wpAnyH_take (i := 1) (v := .int .i64 (m : Int)) rfl (by kernel_rfl) (by kernel_rfl) (by kernel_rfl) (fun _ _ _ h => h) (Or.inl ⟨by rfl, fun w hSw => by obtain ⟨hS1, hS2, hS3, hS4⟩ := hSw; go_simp⟩) (by assumption) ?_
              simp only [List.getElem_toArray, List.getElem_cons_succ, List.getElem_cons_zero, Act.put, List.setIfInBounds_toArray, List.set_cons_zero, List.set_cons_succ]
              refine wpAnyH_take (i := 2) (v := .int .i64 (m : Int)) rfl (by kernel_rfl) (by kernel_rfl) (by kernel_rfl) (fun _ _ _ h => h) (Or.inl ⟨by rfl, fun w hSw => by obtain ⟨hS1, hS2, hS3, hS4⟩ := hSw; go_simp⟩) (by assumption) ?_
              simp only [List.getElem_toArray, List.getElem_cons_succ, List.getElem_cons_zero, Act.put, List.setIfInBounds_toArray, List.set_cons_zero, List.set_cons_succ]
              refine wpAnyH_take (i := 3) (v := .bool false) rfl (by kernel_rfl) (by kernel_rfl) (by kernel_rfl) (fun _ _ _ h => h) (Or.inl ⟨by rfl, fun w hSw => by obtain ⟨hS1, hS2, hS3, hS4⟩ := hSw; go_simp⟩) (by assumption) ?_
              simp only [List.getElem_toArray, List.getElem_cons_succ, List.getElem_cons_zero, Act.put, List.setIfInBounds_toArray, List.set_cons_zero, List.set_cons_succ]
              refine wpAnyH_take (i := 4) (v := .bool false) rfl (by kernel_rfl) (by kernel_rfl) (by kernel_rfl) (fun _ _ _ h => h) (Or.inl ⟨by rfl, fun w hSw => by obtain ⟨hS1, hS2, hS3, hS4⟩ := hSw; go_simp⟩) (by assumption) ?_
              simp only [List.getElem_toArray, List.getElem_cons_succ, List.getElem_cons_zero, Act.put, List.setIfInBounds_toArray, List.set_cons_zero, List.set_cons_succ]
              refine wpAnyH_take (i := 5) (v := .slice (some ⟨gb, 0, none⟩) m m) rfl (by kernel_rfl) (by kernel_rfl) (by kernel_rfl) (fun _ _ _ h => h) (Or.inl ⟨by rfl, fun w hSw => by obtain ⟨hS1, hS2, hS3, hS4⟩ := hSw; go_simp⟩) (by assumption) ?_
              simp only [List.getElem_toArray, List.getElem_cons_succ, List.getElem_cons_zero, Act.put, List.setIfInBounds_toArray, List.set_cons_zero, List.set_cons_succ]
              refine wpAnyH_take (i := 6) (v := .int .i64 (m : Int)) rfl (by kernel_rfl) (by kernel_rfl) (by kernel_rfl) (fun _ _ _ h => h) (Or.inl ⟨by rfl, fun w hSw => by obtain ⟨hS1, hS2, hS3, hS4⟩ := hSw; go_simp⟩) (by assumption) ?_
              simp only [List.getElem_toArray, List.getElem_cons_succ, List.getElem_cons_zero, Act.put, List.setIfInBounds_toArray, List.set_cons_zero, List.set_cons_succ]
              refine wpAnyH_take (i := 7) (v := .int .i64 (m : Int)) rfl (by kernel_rfl) (by kernel_rfl) (by kernel_rfl) (fun _ _ _ h => h) (Or.inl ⟨by rfl, fun w hSw => by obtain ⟨hS1, hS2, hS3, hS4⟩ := hSw; go_simp⟩) (by assumption) ?_
              simp only [List.getElem_toArray, List.getElem_cons_succ, List.getElem_cons_zero, Act.put, List.setIfInBounds_toArray, List.set_cons_zero, List.set_cons_succ]
              refine wpAnyH_take (i := 8) (v := .bool false) rfl (by kernel_rfl) (by kernel_rfl) (by kernel_rfl) (fun _ _ _ h => h) (Or.inl ⟨by rfl, fun w hSw => by obtain ⟨hS1, hS2, hS3, hS4⟩ := hSw; go_simp⟩) (by assumption) ?_
              simp only [List.getElem_toArray, List.getElem_cons_succ, List.getElem_cons_zero, Act.put, List.setIfInBounds_toArray, List.set_cons_zero, List.set_cons_succ]
              refine wpAnyH_take (i := 9) (v := .bool false) rfl (by kernel_rfl) (by kernel_rfl) (by kernel_rfl) (fun _ _ _ h => h) (Or.inl ⟨by rfl, fun w hSw => by obtain ⟨hS1, hS2, hS3, hS4⟩ := hSw; go_simp⟩) (by assumption) ?_
              simp only [List.getElem_toArray, List.getElem_cons_succ, List.getElem_cons_zero, Act.put, List.setIfInBounds_toArray, List.set_cons_zero, List.set_cons_succ]
              refine wpAnyH_take (i := 10) (v := .bool false) rfl (by kernel_rfl) (by kernel_rfl) (by kernel_rfl) (fun _ _ _ h => h) (Or.inl ⟨by rfl, fun w hSw => by obtain ⟨hS1, hS2, hS3, hS4⟩ := hSw; go_simp⟩) (by assumption) ?_
              simp only [List.getElem_toArray, List.getElem_cons_succ, List.getElem_cons_zero, Act.put, List.setIfInBounds_toArray, List.set_cons_zero, List.set_cons_succ]
              refine wpAnyH_take (i := 11) (v := .slice (some ⟨ga, 0, none⟩) m m) rfl (by kernel_rfl) (by kernel_rfl) (by kernel_rfl) (fun _ _ _ h => h) (Or.inl ⟨by rfl, fun w hSw => by obtain ⟨hS1, hS2, hS3, hS4⟩ := hSw; go_simp⟩) (by assumption) ?_
              simp only [List.getElem_toArray, List.getElem_cons_succ, List.getElem_cons_zero, Act.put, List.setIfInBounds_toArray, List.set_cons_zero, List.set_cons_succ]
              refine wpAnyH_take (i := 12) (v := .int .i64 (k : Int)) rfl (by kernel_rfl) (by kernel_rfl) (by kernel_rfl) (fun _ _ _ h => h) (Or.inl ⟨by rfl, fun w hSw => by obtain ⟨hS1, hS2, hS3, hS4⟩ := hSw; go_simp⟩) (by assumption) ?_
              simp only [List.getElem_toArray, List.getElem_cons_succ, List.getElem_cons_zero, Act.put, List.setIfInBounds_toArray, List.set_cons_zero, List.set_cons_succ]
              refine wpAnyH_take (i := 13) (v := .pointer (some ⟨ga, k, none⟩)) rfl (by kernel_rfl) (by kernel_rfl) (by kernel_rfl) (fun _ _ _ h => h) (Or.inl ⟨by rfl, fun w hSw => by obtain ⟨hS1, hS2, hS3, hS4⟩ := hSw; go_simp⟩) (by assumption) ?_
              simp only [List.getElem_toArray, List.getElem_cons_succ, List.getElem_cons_zero, Act.put, List.setIfInBounds_toArray, List.set_cons_zero, List.set_cons_succ]
              refine wpAnyH_take (i := 14) (v := .slice (some ⟨xa, 0, none⟩) 512 512) rfl (by kernel_rfl) (by kernel_rfl) (by kernel_rfl) (fun _ _ _ h => h) (Or.inl ⟨by rfl, fun w hSw => by obtain ⟨hS1, hS2, hS3, hS4⟩ := hSw; go_simp⟩) (by assumption) ?_
              simp only [List.getElem_toArray, List.getElem_cons_succ, List.getElem_cons_zero, Act.put, List.setIfInBounds_toArray, List.set_cons_zero, List.set_cons_succ]
              refine wpAnyH_take (i := 15) (v := .string st) rfl (by kernel_rfl) (by kernel_rfl) (by kernel_rfl) (fun _ _ _ h => h) (Or.inl ⟨by rfl, fun w hSw => by obtain ⟨hS1, hS2, hS3, hS4⟩ := hSw; go_simp⟩) (by assumption) ?_
              simp only [List.getElem_toArray, List.getElem_cons_succ, List.getElem_cons_zero, Act.put, List.setIfInBounds_toArray, List.set_cons_zero, List.set_cons_succ]
              refine wpAnyH_take (i := 16) (v := .slice (some ⟨gb, 0, none⟩) m m) rfl (by kernel_rfl) (by kernel_rfl) (by kernel_rfl) (fun _ _ _ h => h) (Or.inl ⟨by rfl, fun w hSw => by obtain ⟨hS1, hS2, hS3, hS4⟩ := hSw; go_simp⟩) (by assumption) ?_
              simp only [List.getElem_toArray, List.getElem_cons_succ, List.getElem_cons_zero, Act.put, List.setIfInBounds_toArray, List.set_cons_zero, List.set_cons_succ]
              refine wpAnyH_take (i := 17) (v := .int .i64 (k : Int)) rfl (by kernel_rfl) (by kernel_rfl) (by kernel_rfl) (fun _ _ _ h => h) (Or.inl ⟨by rfl, fun w hSw => by obtain ⟨hS1, hS2, hS3, hS4⟩ := hSw; go_simp⟩) (by assumption) ?_
              simp only [List.getElem_toArray, List.getElem_cons_succ, List.getElem_cons_zero, Act.put, List.setIfInBounds_toArray, List.set_cons_zero, List.set_cons_succ]
              refine wpAnyH_take (i := 18) (v := .pointer (some ⟨gb, k, none⟩)) rfl (by kernel_rfl) (by kernel_rfl) (by kernel_rfl) (fun _ _ _ h => h) (Or.inl ⟨by rfl, fun w hSw => by obtain ⟨hS1, hS2, hS3, hS4⟩ := hSw; go_simp⟩) (by assumption) ?_
              simp only [List.getElem_toArray, List.getElem_cons_succ, List.getElem_cons_zero, Act.put, List.setIfInBounds_toArray, List.set_cons_zero, List.set_cons_succ]
              refine wpAnyH_take (i := 19) (v := .slice (some ⟨xb, 0, none⟩) 512 512) rfl (by kernel_rfl) (by kernel_rfl) (by kernel_rfl) (fun _ _ _ h => h) (Or.inl ⟨by rfl, fun w hSw => by obtain ⟨hS1, hS2, hS3, hS4⟩ := hSw; go_simp⟩) (by assumption) ?_
              simp only [List.getElem_toArray, List.getElem_cons_succ, List.getElem_cons_zero, Act.put, List.setIfInBounds_toArray, List.set_cons_zero, List.set_cons_succ]
              refine wpAnyH_take (i := 20) (v := .string st) rfl (by kernel_rfl) (by kernel_rfl) (by kernel_rfl) (fun _ _ _ h => h) (Or.inl ⟨by rfl, fun w hSw => by obtain ⟨hS1, hS2, hS3, hS4⟩ := hSw; go_simp⟩) (by assumption) ?_
              simp only [List.getElem_toArray, List.getElem_cons_succ, List.getElem_cons_zero, Act.put, List.setIfInBounds_toArray, List.set_cons_zero, List.set_cons_succ]
              refine wpAnyH_take (i := 21) (v := .bool false) rfl (by kernel_rfl) (by kernel_rfl) (by kernel_rfl) (fun _ _ _ h => h) (Or.inl ⟨by rfl, fun w hSw => by obtain ⟨hS1, hS2, hS3, hS4⟩ := hSw; go_simp⟩) (by assumption) ?_
              simp only [List.getElem_toArray, List.getElem_cons_succ, List.getElem_cons_zero, Act.put, List.setIfInBounds_toArray, List.set_cons_zero, List.set_cons_succ]
              refine wpAnyH_take (i := 22) (v := .bool false) rfl (by kernel_rfl) (by kernel_rfl) (by kernel_rfl) (fun _ _ _ h => h) (Or.inl ⟨by rfl, fun w hSw => by obtain ⟨hS1, hS2, hS3, hS4⟩ := hSw; go_simp⟩) (by assumption) ?_
              simp only [List.getElem_toArray, List.getElem_cons_succ, List.getElem_cons_zero, Act.put, List.setIfInBounds_toArray, List.set_cons_zero, List.set_cons_succ]
              refine wpAnyH_done (by kernel_rfl) ?_ _
              clear hHeld
              go_wp2
              go_roundw
              case rel => exact ⟨k + 1, by omega, by go_num, HB3⟩
              case measure => simp [intOf]; omega
            · have hkN : ¬ (k : Int) < (m : Int) := by omega
              have HSD := hide ((HZ7.out.below HB.out).stands HN0.out.1 HN0.out.2.2.1 HN0.out.2.1 HN0.out.2.2.2 hmhi)
              clear HB
              go_wp2_with fail
              refine (unhide HSD).mono ?_
              rintro e w8 ⟨rfl, hb8⟩
              have HB8 := hide hb8
              clear HSD hb8
              go_wp2
              go_ret
              exact ⟨rfl, HB8.out⟩
end Go.Proofs.Ytfgjhlnaaopdeab

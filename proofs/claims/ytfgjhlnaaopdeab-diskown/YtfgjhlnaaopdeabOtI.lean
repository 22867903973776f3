/- Several disks beside one another, and blocks A that none of them touches. -/
import Derived.Test.YtfgjhlnaaopdeabOtH
namespace Go.Proofs.Ytfgjhlnaaopdeab
open Go.RowKit Go.Maps

/-- So many disks. -/
structure Dka (A : Nat → Prop) (w wr : World) (B n : Nat) (P G : Nat → Nat) (D : Nat → AD) : Prop where
  all : ∃ (gm : Nat → Nat) (V : Nat → Nat → Value), (∀ j, j < n → Dk wr (P j) (G j) (gm j) (V j) (D j)) ∧ (∀ j, j < n → ∀ b, Ft (P j) (G j) (gm j) (V j) b → ¬ A b) ∧
    (∀ i j, i < n → j < n → i ≠ j → ∀ b, Ft (P i) (G i) (gm i) (V i) b → ¬ Ft (P j) (G j) (gm j) (V j) b)
  few : ∀ j, j < n → Few B (D j)
  kp : Up (fun b => ¬ A b) w wr
  lt : ∀ b, A b → b < wr.heap.size
theorem Dka.nil {A : Nat → Prop} {w : World} (hA : ∀ b, A b → b < w.heap.size) (B : Nat) (P G : Nat → Nat) (D : Nat → AD) : Dka A w w B 0 P G D := ⟨⟨fun _ => 0, fun _ _ => .slice none 0 0, fun j hj => by omega, fun j hj => by omega, fun i j hi => by omega⟩, fun j hj => by omega, Up.refl _ _, hA⟩
theorem Dka.mono {A : Nat → Prop} {w wr : World} {B B' n : Nat} {P G : Nat → Nat} {D : Nat → AD} (h : Dka A w wr B n P G D) (hB : B ≤ B') : Dka A w wr B' n P G D := ⟨h.all, fun j hj => (h.few j hj).mono hB, h.kp, h.lt⟩
theorem Dka.below {A : Nat → Prop} {w wr w' : World} {B n : Nat} {P G : Nat → Nat} {D : Nat → AD} (h : Dka A w wr B n P G D) (hb : Below wr.heap.size wr w') : Dka A w w' B n P G D := by
  obtain ⟨gm, V, h1, h2, h3⟩ := h.all
  exact ⟨⟨gm, V, fun j hj => (h1 j hj).below hb, h2, h3⟩, h.few, h.kp.then_below hb, fun b hA => Nat.lt_of_lt_of_le (h.lt b hA) hb.size⟩
theorem Dka.ok {A : Nat → Prop} {w wr : World} {B n : Nat} {P G : Nat → Nat} {D : Nat → AD} (h : Dka A w wr B n P G D) {j : Nat} (hj : j < n) : (D j).Ok := by
  obtain ⟨gm, V, h1, _⟩ := h.all
  exact (h1 j hj).ok
/-- One more. -/
theorem Dka.snoc {A : Nat → Prop} {w wr w' : World} {B n p gl gm : Nat} {P G : Nat → Nat} {D : Nat → AD} {V : Nat → Value} {D' : AD} (h : Dka A w wr B n P G D) (hb : Below wr.heap.size wr w') (hd : Dk w' p gl gm V D') (hf : ∀ b, Ft p gl gm V b → wr.heap.size ≤ b) (hF : Few B D') :
    Dka A w w' B (n + 1) (updF P n p) (updF G n gl) (updF D n D') := by
  obtain ⟨gms, Vs, h1, h2, h3⟩ := h.all
  have old : ∀ j, j < n → j ≠ n := fun j hj => by omega
  refine ⟨⟨updF gms n gm, updF Vs n V, fun j hj => ?_, fun j hj b hb' => ?_, fun i j hi hj hne b hb' hb2 => ?_⟩, fun j hj => ?_, h.kp.then_below hb, fun b hA => Nat.lt_of_lt_of_le (h.lt b hA) hb.size⟩
  · by_cases e : j = n
    · subst e; simp only [updF_same]; exact hd
    · simp only [updF_other _ _ e]; exact (h1 j (by omega)).below hb
  · by_cases e : j = n
    · subst e
      simp only [updF_same] at hb'
      exact fun hA => by have := hf b hb'; have := h.lt b hA; omega
    · simp only [updF_other _ _ e] at hb'
      exact h2 j (by omega) b hb'
  · by_cases e : i = n
    · by_cases e2 : j = n
      · omega
      · subst e
        simp only [updF_same] at hb'
        simp only [updF_other _ _ e2] at hb2
        have := hf b hb'; have := (h1 j (by omega)).lt hb2; omega
    · by_cases e2 : j = n
      · subst e2
        simp only [updF_same] at hb2
        simp only [updF_other _ _ e] at hb'
        have := hf b hb2; have := (h1 i (by omega)).lt hb'; omega
      · simp only [updF_other _ _ e] at hb'
        simp only [updF_other _ _ e2] at hb2
        exact h3 i j (by omega) (by omega) hne b hb' hb2
  · by_cases e : j = n
    · subst e; simp only [updF_same]; exact hF
    · simp only [updF_other _ _ e]; exact h.few j (by omega)
/-- One of them is changed. -/
theorem Dka.upd {A : Nat → Prop} {w wr w' : World} {B n k gm' : Nat} {P G gm : Nat → Nat} {D : Nat → AD} {V : Nat → Nat → Value} {V' : Nat → Value} {D' : AD} (hk : k < n) (h1 : ∀ j, j < n → Dk wr (P j) (G j) (gm j) (V j) (D j)) (h2 : ∀ j, j < n → ∀ b, Ft (P j) (G j) (gm j) (V j) b → ¬ A b)
    (h3 : ∀ i j, i < n → j < n → i ≠ j → ∀ b, Ft (P i) (G i) (gm i) (V i) b → ¬ Ft (P j) (G j) (gm j) (V j) b) (hfew : ∀ j, j < n → Few B (D j)) (hkp : Up (fun b => ¬ A b) w wr) (hlt : ∀ b, A b → b < wr.heap.size)
    (hd : Dk w' (P k) (G k) gm' V' D') (hu : Up (Ft (P k) (G k) (gm k) (V k)) wr w') (hn : ∀ b, Ft (P k) (G k) gm' V' b → Ft (P k) (G k) (gm k) (V k) b ∨ wr.heap.size ≤ b) (hF : Few B D') : Dka A w w' B n P G (updF D k D') ∧ Km wr w' := by
  refine ⟨⟨⟨updF gm k gm', updF V k V', fun j hj => ?_, fun j hj b hb' => ?_, fun i j hi hj hne b hb' hb2 => ?_⟩, fun j hj => ?_, hkp.trans hu (fun x hx => Or.inl (h2 k hk x hx)), fun b hA => Nat.lt_of_lt_of_le (hlt b hA) hu.size⟩, ⟨_, hu, (h1 k hk).tm⟩⟩
  · by_cases e : j = k
    · subst e; simp only [updF_same]; exact hd
    · simp only [updF_other _ _ e]
      exact (h1 j hj).up hu (fun b hb => h3 j k hj hk e b hb)
  · by_cases e : j = k
    · subst e
      simp only [updF_same] at hb'
      rcases hn b hb' with hb' | hb'
      · exact h2 j hj b hb'
      · exact fun hA => by have := hlt b hA; omega
    · simp only [updF_other _ _ e] at hb'
      exact h2 j hj b hb'
  · by_cases e : i = k
    · have e2 : j ≠ k := fun h => hne (e.trans h.symm)
      subst e
      simp only [updF_same] at hb'
      simp only [updF_other _ _ e2] at hb2
      rcases hn b hb' with hb' | hb'
      · exact h3 i j hi hj hne b hb' hb2
      · have := (h1 j hj).lt hb2; omega
    · by_cases e2 : j = k
      · subst e2
        simp only [updF_same] at hb2
        simp only [updF_other _ _ e] at hb'
        rcases hn b hb2 with hb2 | hb2
        · exact h3 i j hi hj hne b hb' hb2
        · have := (h1 i hi).lt hb'; omega
      · simp only [updF_other _ _ e] at hb'
        simp only [updF_other _ _ e2] at hb2
        exact h3 i j hi hj hne b hb' hb2
  · by_cases e : j = k
    · subst e; simp only [updF_same]; exact hF
    · simp only [updF_other _ _ e]; exact hfew j hj
theorem dka_write {A : Nat → Prop} {w wr : World} {B n k i p : Nat} {P G : Nat → Nat} {D : Nat → AD} {u : Value} {s : List Int} (h : Dka A w wr B n P G D) (hk : k < n) (hp : P k = p) (hi : i < (D k).la.length) (hB : B ≤ 1000000000) (hu : Own8 wr 0 u s) (hs : IsSec s) :
    Calls Try.prog 10 #[.pointer (some ⟨p, 0, none⟩), .int .i64 (i : Int), u] wr fun e w' => e = .returned (.int .i64 0) ∧ Dka A w w' (B + 1) n P G (updF D k ((D k).write i s)) ∧ Km wr w' := by
  subst hp
  obtain ⟨gm, V, h1, h2, h3⟩ := h.all
  have hf := h.few k hk
  obtain ⟨g, c, rfl, hr, hg, hF⟩ := own8_at (h1 k hk) hu hs.1
  refine (write_good (h1 k hk) hi hf.wt.1 (by have := hf.wt; omega) (by have := hf.wr i; omega) hs hr hg hF).mono ?_
  rintro e w' ⟨rfl, V', hd, hn, hup⟩
  exact ⟨rfl, Dka.upd hk h1 h2 h3 (fun j hj => (h.few j hj).mono (by omega)) h.kp h.lt hd hup hn (hf.write i s)⟩
theorem dka_flush {A : Nat → Prop} {w wr : World} {B n k p : Nat} {P G : Nat → Nat} {D : Nat → AD} (h : Dka A w wr B n P G D) (hk : k < n) (hp : P k = p) (hB : B ≤ 1000000000) :
    Calls Try.prog 11 #[.pointer (some ⟨p, 0, none⟩)] wr fun e w' => e = .returned (.tuple #[]) ∧ Dka A w w' (B + 1) n P G (updF D k (D k).flush) ∧ Km wr w' := by
  subst hp
  obtain ⟨gm, V, h1, h2, h3⟩ := h.all
  have hf := h.few k hk
  refine (flush_calls (h1 k hk) (fun i => by have := hf.wr i; omega) hf.fl.1 (by have := hf.fl; omega)).mono ?_
  rintro e w' ⟨rfl, gm', hg, hd, hup⟩
  exact ⟨rfl, Dka.upd hk h1 h2 h3 (fun j hj => (h.few j hj).mono (by omega)) h.kp h.lt hd (hup.mono (fun x hx => hx.elim Or.inl (fun hx => Or.inr (Or.inl hx)))) (ft_nil hg) hf.flush⟩
theorem dka_crash {A : Nat → Prop} {w wr : World} {B n k p : Nat} {P G : Nat → Nat} {D : Nat → AD} {v : Value} {xs : List Int} (h : Dka A w wr B n P G D) (hk : k < n) (hp : P k = p) (hB : B ≤ 1000000000) (hi : IsI wr v xs) (hF : ∀ b, Value.inBlock v b → b ≠ G k) :
    Calls Try.prog 19 #[.pointer (some ⟨p, 0, none⟩), v] wr fun e w' => e = .returned (.tuple #[]) ∧ Dka A w w' B n P G (updF D k ((D k).settle fun k => xs.getD k 0)) ∧ Km wr w' := by
  subst hp
  obtain ⟨gm, V, h1, h2, h3⟩ := h.all
  have hf := h.few k hk
  refine (crash_calls (h1 k hk) (fun i => by have := hf.wr i; omega) hi hF).mono ?_
  rintro e w' ⟨rfl, gm', hg, hd, hup⟩
  exact ⟨rfl, Dka.upd hk h1 h2 h3 h.few h.kp h.lt hd (hup.mono (fun x hx => hx.elim Or.inl (fun hx => Or.inr (Or.inl hx)))) (ft_nil hg) (hf.settle _)⟩
theorem dka_read {A : Nat → Prop} {w wr : World} {B n k i p : Nat} {P G : Nat → Nat} {D : Nat → AD} (h : Dka A w wr B n P G D) (hk : k < n) (hp : P k = p) (hi : i < (D k).la.length) (hB : B ≤ 1000000000) :
    Calls Try.prog 20 #[.pointer (some ⟨p, 0, none⟩), .int .i64 (i : Int)] wr fun e w' => ∃ g, e = .returned (.tuple #[.slice (some ⟨g, 0, none⟩) 512 512, .int .i64 0]) ∧
      wr.heap.size ≤ g ∧ IsB w' (.slice (some ⟨g, 0, none⟩) 512 512) ((D k).now i) ∧ Arr w' g 77 (u8V ((D k).now i)) ∧ Dka A w w' (B + 1) n P G (updF D k ((D k).reads 1)) ∧ Km wr w' := by
  subst hp
  obtain ⟨gm, V, h1, h2, h3⟩ := h.all
  have hf := h.few k hk
  refine (read_calls (h1 k hk) hi hf.rd.1 (by have := hf.rd; omega)).mono ?_
  rintro e w' ⟨g, rfl, hg, hA, hd, hgr⟩
  refine ⟨g, rfl, hg, isB_arrS hA ((h1 k hk).ok.now hi), hA, ?_⟩
  have hd' : Dk w' (P k) (G k) (gm k) (V k) ((D k).reads 1) := hd
  exact Dka.upd hk h1 h2 h3 (fun j hj => (h.few j hj).mono (by omega)) h.kp h.lt hd' (Up.of_grown hgr (fun g hg => by injection hg with hg; exact Or.inl hg.symm)) (fun b hb => Or.inl hb) (hf.reads 1)
theorem dka_image {A : Nat → Prop} {w wr : World} {B n k p : Nat} {P G : Nat → Nat} {D : Nat → AD} (h : Dka A w wr B n P G D) (hk : k < n) (hp : P k = p) :
    Calls Try.prog 13 #[.pointer (some ⟨p, 0, none⟩)] wr fun e w' => ∃ v, e = .returned v ∧ Img w' wr.heap.size v (D k).la ∧ Dka A w w' B n P G D ∧ Below wr.heap.size wr w' := by
  subst hp
  obtain ⟨gm, V, h1, h2, h3⟩ := h.all
  refine (image_calls (h1 k hk)).mono ?_
  rintro e w' ⟨v, rfl, hI, hb⟩
  exact ⟨v, rfl, hI, h.below hb, hb⟩
theorem dka_tells {A : Nat → Prop} {w wr : World} {B n k m f p : Nat} {P G : Nat → Nat} {D : Nat → AD} {v : Value} {l : Ats} (h : Dka A w wr B n P G D) (hk : k < n) (hp : P k = p) (hB : B ≤ 1000000000) (hW : IsWs wr v l) (hf : f ≤ l.length) (hn : (D k).la.length = m) (hN : Nw (D k) (l.take f)) :
    Calls Try.prog 15 #[.pointer (some ⟨p, 0, none⟩), .int .i64 (m : Int), v, .int .i64 (f : Int)] wr fun e w' => e = .returned (.bool true) ∧ Dka A w w' (B + m) n P G (updF D k ((D k).reads m)) ∧ Km wr w' := by
  subst hp
  obtain ⟨gm, V, h1, h2, h3⟩ := h.all
  have hfw := h.few k hk
  refine (tells_calls (h1 k hk) hW hf hn hN hfw.rd.1 (by have := hfw.rd; omega)).mono ?_
  rintro e w' ⟨rfl, hd, hu⟩
  exact ⟨rfl, Dka.upd hk h1 h2 h3 (fun j hj => (h.few j hj).mono (by omega)) h.kp h.lt hd (hu.mono (fun x hx => Or.inl hx)) (fun b hb => Or.inl hb) (hfw.reads m)⟩
/-- made, beside what there is. -/
theorem dka_made {A : Nat → Prop} {w wr : World} {B n : Nat} {P G : Nat → Nat} {D : Nat → AD} {v : Value} {l : Ats} {x : Int} (h : Dka A w wr B n P G D) (hW : IsWr wr v l) :
    Calls Try.prog 9 #[.int .i64 x, v] wr fun e w' => ∃ p v', e = .returned (.tuple #[.pointer (some ⟨p, 0, none⟩), .int .i64 ((2 + modN x 63 : Nat) : Int), v']) ∧
      (∃ gl, Dka A w w' B (n + 1) (updF P n p) (updF G n gl) (updF D n (zeroD (2 + modN x 63)))) ∧ IsWs w' v' (madeL (2 + modN x 63) l) ∧ Below wr.heap.size wr w' := by
  refine (made_calls hW).mono ?_
  rintro e w' ⟨p, gl, gm, v', rfl, hd, h1, h2, h3, hws, hb⟩
  refine ⟨p, v', rfl, ⟨gl, h.snoc hb hd ?_ ((Few.zero _).mono (Nat.zero_le _))⟩, hws, hb⟩
  rintro b (rfl | rfl | rfl | ⟨i, hi⟩)
  · exact h1
  · exact h2
  · exact h3
  · cases hi

theorem Dka.congr {A : Nat → Prop} {w wr : World} {B n : Nat} {P G P' G' : Nat → Nat} {D D' : Nat → AD} (h : Dka A w wr B n P G D) (hP : ∀ j, j < n → P' j = P j) (hG : ∀ j, j < n → G' j = G j) (hD : ∀ j, j < n → D' j = D j) : Dka A w wr B n P' G' D' := by
  obtain ⟨gm, V, h1, h2, h3⟩ := h.all
  refine ⟨⟨gm, V, fun j hj => ?_, fun j hj => ?_, fun i j hi hj => ?_⟩, fun j hj => ?_, h.kp, h.lt⟩
  · rw [hP j hj, hG j hj, hD j hj]; exact h1 j hj
  · rw [hP j hj, hG j hj]; exact h2 j hj
  · rw [hP j hj, hG j hj, hP i hi, hG i hi]; exact h3 i j hi hj
  · rw [hD j hj]; exact h.few j hj
/-- What was made since w0 is not touched either. -/
def Plus (A : Nat → Prop) (w0 w1 : World) (b : Nat) : Prop := A b ∨ (w0.heap.size ≤ b ∧ b < w1.heap.size)
theorem Dka.plus {A : Nat → Prop} {w w0 w1 : World} {B n : Nat} {P G : Nat → Nat} {D : Nat → AD} (h : Dka A w w0 B n P G D) (hb : Below w0.heap.size w0 w1) : Dka (Plus A w0 w1) w1 w1 B n P G D := by
  obtain ⟨gm, V, h1, h2, h3⟩ := h.all
  refine ⟨⟨gm, V, fun j hj => (h1 j hj).below hb, fun j hj b hb' hA => ?_, h3⟩, h.few, Up.refl _ _, fun b hA => ?_⟩
  · rcases hA with hA | hA
    · exact h2 j hj b hb' hA
    · have := (h1 j hj).lt hb'; omega
  · rcases hA with hA | hA
    · exact Nat.lt_of_lt_of_le (h.lt b hA) hb.size
    · exact hA.2
theorem Dka.gl_not {A : Nat → Prop} {w wr : World} {B n : Nat} {P G : Nat → Nat} {D : Nat → AD} (h : Dka A w wr B n P G D) {j : Nat} (hj : j < n) : ¬ A (G j) := by
  obtain ⟨gm, V, h1, h2, h3⟩ := h.all
  exact h2 j hj (G j) (Or.inr (Or.inl rfl))
theorem img_kept {A : Nat → Prop} {w0 w1 wr : World} {v : Value} {xss : List (List Int)} (h : Img w1 w0.heap.size v xss) (hu : Up (fun b => ¬ Plus A w0 w1 b) w1 wr) : Img wr w0.heap.size v xss :=
  h.up hu (fun b hb => by
    by_cases h1 : b < w0.heap.size
    · exact Or.inl h1
    · by_cases h2 : b < w1.heap.size
      · exact absurd (Or.inr ⟨by omega, h2⟩) hb
      · exact Or.inr (by omega))
theorem up_plus {A : Nat → Prop} {w w0 w1 wr : World} (h : Up (fun b => ¬ A b) w w0) (hb : Below w0.heap.size w0 w1) (hu : Up (fun b => ¬ Plus A w0 w1 b) w1 wr) : Up (fun b => ¬ A b) w wr :=
  (h.then_below hb).trans hu (fun _ hx => Or.inl (fun hA => hx (Or.inl hA)))
theorem up_below {w wr : World} (h : Up (fun b => ¬ b < w.heap.size) w wr) : Below w.heap.size w wr := h.below (Nat.le_refl _) (fun _ hx => by omega)
/-- Two of them. -/
def two {α : Type} (a b : α) : Nat → α := fun j => if j = 0 then a else b
theorem two0 {α : Type} (a b : α) : two a b 0 = a := rfl
theorem two1 {α : Type} (a b : α) : two a b 1 = b := rfl
theorem updF_two0 {α : Type} (a b c : α) : updF (two a b) 0 c = two c b := by
  funext j
  by_cases e : j = 0
  · subst e; rfl
  · simp [updF, two, e]
theorem updF_two1 {α : Type} (a b c : α) : ∀ j, j < 2 → two a c j = updF (two a b) 1 c j := by
  intro j hj
  rcases (show j = 0 ∨ j = 1 by omega) with rfl | rfl
  · rfl
  · rfl
end Go.Proofs.Ytfgjhlnaaopdeab

/- Several disks beside one another, each with blocks of its own. -/
import Derived.Test.YtfgjhlnaaopdeabOtE
namespace Go.Proofs.Ytfgjhlnaaopdeab
open Go.RowKit Go.Maps

/-- Nothing is changed but blocks of sectors, of disks and of maps, and new ones. -/
def Km (w w' : World) : Prop := ∃ F, Up F w w' ∧ Tm w F
theorem Km.of_below {w w' : World} (h : Below w.heap.size w w') : Km w w' := ⟨fun _ => False, Up.of_below h, fun _ h => h.elim⟩
theorem Km.size {w w' : World} (h : Km w w') : w.heap.size ≤ w'.heap.size := by obtain ⟨F, hu, _⟩ := h; exact hu.size
theorem IsWs.km {w w' : World} {v : Value} {l : Ats} (h : IsWs w v l) (hk : Km w w') : IsWs w' v l := by
  obtain ⟨F, hu, ht⟩ := hk
  exact h.tm hu ht
theorem Own8.km {w w' : World} {B : Nat} {v : Value} {xs : List Int} (h : Own8 w B v xs) (hk : Km w w') : Own8 w' B v xs := by
  obtain ⟨F, hu, ht⟩ := hk
  exact h.tm hu ht
/-- What is counted stays small. -/
structure Few (B : Nat) (D : AD) : Prop where
  rd : 0 ≤ D.rd ∧ D.rd ≤ B
  wt : 0 ≤ D.wt ∧ D.wt ≤ B
  fl : 0 ≤ D.fl ∧ D.fl ≤ B
  wr : ∀ i, (D.wr i).length ≤ B
theorem Few.mono {B B' : Nat} {D : AD} (h : Few B D) (hB : B ≤ B') : Few B' D := ⟨by have := h.rd; omega, by have := h.wt; omega, by have := h.fl; omega, fun i => Nat.le_trans (h.wr i) hB⟩
theorem Few.write {B : Nat} {D : AD} (h : Few B D) (i : Nat) (s : List Int) : Few (B + 1) (D.write i s) := by
  refine ⟨by have := h.rd; exact ⟨this.1, by show D.rd ≤ _; omega⟩, by have := h.wt; exact ⟨by show 0 ≤ D.wt + 1; omega, by show D.wt + 1 ≤ _; omega⟩, by have := h.fl; exact ⟨this.1, by show D.fl ≤ _; omega⟩, fun j => ?_⟩
  by_cases e : j = i
  · subst e
    simp only [AD.write, updF_same, List.length_append, List.length_singleton]
    have := h.wr j
    omega
  · simp only [AD.write, updF_other _ _ e]
    have := h.wr j
    omega
theorem Few.settle {B : Nat} {D : AD} (h : Few B D) (fate : Nat → Int) : Few B (D.settle fate) := ⟨h.rd, h.wt, h.fl, fun i => by simp [AD.settle]⟩
theorem Few.flush {B : Nat} {D : AD} (h : Few B D) : Few (B + 1) D.flush := by
  refine ⟨by have := h.rd; exact ⟨this.1, by show D.rd ≤ _; omega⟩, by have := h.wt; exact ⟨this.1, by show D.wt ≤ _; omega⟩, by have := h.fl; exact ⟨by show 0 ≤ D.fl + 1; omega, by show D.fl + 1 ≤ _; omega⟩, fun i => by simp [AD.flush, AD.settle]⟩
theorem Few.reads {B : Nat} {D : AD} (h : Few B D) (k : Nat) : Few (B + k) (D.reads k) :=
  ⟨by have := h.rd; exact ⟨by show 0 ≤ D.rd + (k : Int); omega, by show D.rd + (k : Int) ≤ _; omega⟩, by have := h.wt; exact ⟨this.1, by show D.wt ≤ _; omega⟩, by have := h.fl; exact ⟨this.1, by show D.fl ≤ _; omega⟩, fun i => Nat.le_trans (h.wr i) (by omega)⟩
theorem Few.turn {B : Nat} {D : AD} (h : Few B D) (i bit : Nat) : Few B (D.turn i bit) := by
  refine ⟨h.rd, h.wt, h.fl, fun j => ?_⟩
  by_cases e : j = i
  · subst e
    simp only [AD.turn, updF_same, List.length_map]
    exact h.wr j
  · simp only [AD.turn, updF_other _ _ e]
    exact h.wr j
theorem Few.zero (n : Nat) : Few 0 (zeroD n) := ⟨⟨Int.le_refl _, Int.le_refl _⟩, ⟨Int.le_refl _, Int.le_refl _⟩, ⟨Int.le_refl _, Int.le_refl _⟩, fun _ => Nat.le_refl _⟩
/-- So many disks. -/
structure Dks (w wr : World) (B n : Nat) (P G : Nat → Nat) (D : Nat → AD) : Prop where
  all : ∃ (gm : Nat → Nat) (V : Nat → Nat → Value), (∀ j, j < n → Dk wr (P j) (G j) (gm j) (V j) (D j)) ∧ (∀ j, j < n → ∀ b, Ft (P j) (G j) (gm j) (V j) b → w.heap.size ≤ b) ∧
    (∀ i j, i < n → j < n → i ≠ j → ∀ b, Ft (P i) (G i) (gm i) (V i) b → ¬ Ft (P j) (G j) (gm j) (V j) b)
  few : ∀ j, j < n → Few B (D j)
  bel : Below w.heap.size w wr
theorem Dks.nil (w : World) (B : Nat) (P G : Nat → Nat) (D : Nat → AD) : Dks w w B 0 P G D := ⟨⟨fun _ => 0, fun _ _ => .slice none 0 0, fun j hj => by omega, fun j hj => by omega, fun i j hi => by omega⟩, fun j hj => by omega, Below.refl _ _⟩
theorem Dks.mono {w wr : World} {B B' n : Nat} {P G : Nat → Nat} {D : Nat → AD} (h : Dks w wr B n P G D) (hB : B ≤ B') : Dks w wr B' n P G D := ⟨h.all, fun j hj => (h.few j hj).mono hB, h.bel⟩
theorem Dks.below {w wr w' : World} {B n : Nat} {P G : Nat → Nat} {D : Nat → AD} (h : Dks w wr B n P G D) (hb : Below wr.heap.size wr w') : Dks w w' B n P G D := by
  obtain ⟨gm, V, h1, h2, h3⟩ := h.all
  exact ⟨⟨gm, V, fun j hj => (h1 j hj).below hb, h2, h3⟩, h.few, h.bel.trans (hb.mono h.bel.size)⟩
theorem Dks.ok {w wr : World} {B n : Nat} {P G : Nat → Nat} {D : Nat → AD} (h : Dks w wr B n P G D) {j : Nat} (hj : j < n) : (D j).Ok := by
  obtain ⟨gm, V, h1, _⟩ := h.all
  exact (h1 j hj).ok
/-- One more. -/
theorem Dks.snoc {w wr w' : World} {B n p gl gm : Nat} {P G : Nat → Nat} {D : Nat → AD} {V : Nat → Value} {D' : AD} (h : Dks w wr B n P G D) (hb : Below wr.heap.size wr w') (hd : Dk w' p gl gm V D') (hf : ∀ b, Ft p gl gm V b → wr.heap.size ≤ b) (hF : Few B D') :
    Dks w w' B (n + 1) (updF P n p) (updF G n gl) (updF D n D') := by
  obtain ⟨gms, Vs, h1, h2, h3⟩ := h.all
  have old : ∀ j, j < n → j ≠ n := fun j hj => by omega
  refine ⟨⟨updF gms n gm, updF Vs n V, fun j hj => ?_, fun j hj b hb' => ?_, fun i j hi hj hne b hb' hb2 => ?_⟩, fun j hj => ?_, h.bel.trans (hb.mono h.bel.size)⟩
  · by_cases e : j = n
    · subst e; simp only [updF_same]; exact hd
    · simp only [updF_other _ _ e]; exact (h1 j (by omega)).below hb
  · by_cases e : j = n
    · subst e
      simp only [updF_same] at hb'
      have := hf b hb'; have := h.bel.size; omega
    · simp only [updF_other _ _ e] at hb'
      exact h2 j (by omega) b hb'
  · by_cases e : i = n
    · by_cases e2 : j = n
      · omega
      · subst e
        simp only [updF_same] at hb'
        simp only [updF_other _ _ e2] at hb2
        have := hf b hb'; have := (h1 j (by omega)).lt hb2; omega
    · by_cases e2 : j = n
      · subst e2
        simp only [updF_same] at hb2
        simp only [updF_other _ _ e] at hb'
        have := hf b hb2; have := (h1 i (by omega)).lt hb'; omega
      · simp only [updF_other _ _ e] at hb'
        simp only [updF_other _ _ e2] at hb2
        exact h3 i j (by omega) (by omega) hne b hb' hb2
  · by_cases e : j = n
    · subst e; simp only [updF_same]; exact hF
    · simp only [updF_other _ _ e]; exact h.few j (by omega)
/-- One of them is changed. -/
theorem Dks.upd {w wr w' : World} {B n k gm' : Nat} {P G gm : Nat → Nat} {D : Nat → AD} {V : Nat → Nat → Value} {V' : Nat → Value} {D' : AD} (hk : k < n) (h1 : ∀ j, j < n → Dk wr (P j) (G j) (gm j) (V j) (D j)) (h2 : ∀ j, j < n → ∀ b, Ft (P j) (G j) (gm j) (V j) b → w.heap.size ≤ b)
    (h3 : ∀ i j, i < n → j < n → i ≠ j → ∀ b, Ft (P i) (G i) (gm i) (V i) b → ¬ Ft (P j) (G j) (gm j) (V j) b) (hfew : ∀ j, j < n → Few B (D j)) (hbel : Below w.heap.size w wr)
    (hd : Dk w' (P k) (G k) gm' V' D') (hu : Up (Ft (P k) (G k) (gm k) (V k)) wr w') (hn : ∀ b, Ft (P k) (G k) gm' V' b → Ft (P k) (G k) (gm k) (V k) b ∨ wr.heap.size ≤ b) (hF : Few B D') : Dks w w' B n P G (updF D k D') ∧ Km wr w' := by
  refine ⟨⟨⟨updF gm k gm', updF V k V', fun j hj => ?_, fun j hj b hb' => ?_, fun i j hi hj hne b hb' hb2 => ?_⟩, fun j hj => ?_, hbel.trans (hu.below hbel.size (fun x hx => h2 k hk x hx))⟩, ⟨_, hu, (h1 k hk).tm⟩⟩
  · by_cases e : j = k
    · subst e; simp only [updF_same]; exact hd
    · simp only [updF_other _ _ e]
      exact (h1 j hj).up hu (fun b hb => h3 j k hj hk e b hb)
  · by_cases e : j = k
    · subst e
      simp only [updF_same] at hb'
      rcases hn b hb' with hb' | hb'
      · exact h2 j hj b hb'
      · have := hbel.size; omega
    · simp only [updF_other _ _ e] at hb'
      exact h2 j hj b hb'
  · by_cases e : i = k
    · have e2 : j ≠ k := fun h => hne (e.trans h.symm)
      subst e
      simp only [updF_same] at hb'
      simp only [updF_other _ _ e2] at hb2
      rcases hn b hb' with hb' | hb'
      · exact h3 i j hi hj hne b hb' hb2
      · have := (h1 j hj).lt hb2; omega
    · by_cases e2 : j = k
      · subst e2
        simp only [updF_same] at hb2
        simp only [updF_other _ _ e] at hb'
        rcases hn b hb2 with hb2 | hb2
        · exact h3 i j hi hj hne b hb' hb2
        · have := (h1 i hi).lt hb'; omega
      · simp only [updF_other _ _ e] at hb'
        simp only [updF_other _ _ e2] at hb2
        exact h3 i j hi hj hne b hb' hb2
  · by_cases e : j = k
    · subst e; simp only [updF_same]; exact hF
    · simp only [updF_other _ _ e]; exact hfew j hj
theorem own8_at {w : World} {u : Value} {s : List Int} {p gl gm : Nat} {V : Nat → Value} {D : AD} (h : Dk w p gl gm V D) (hu : Own8 w 0 u s) (hs : s.length = 512) : ∃ g c, u = .slice (some ⟨g, 0, none⟩) 512 c ∧ w.rangeAt g 0 (u8V s) ∧ g < w.heap.size ∧ ¬ Ft p gl gm V g := by
  obtain ⟨g, c, rfl, _, hc⟩ := hu.head (by omega)
  rw [hs] at hu ⊢
  refine ⟨g, c, rfl, fun j v hv => ?_, (hu.1.lt g rfl).2, fun hf => ?_⟩
  · have := hc j v hv
    rw [Addr.add_lit] at this
    exact this
  · rcases hu.1.2 with ⟨hv, _⟩ | ⟨g', cap', cur, hv, _, hg, _⟩
    · cases hv
    · injection hv with e1
      injection e1 with e1
      injection e1 with e1
      subst e1
      exact (h.tm _ hf _ _ _ hg).elim (by decide) (by decide)
theorem dks_write {w wr : World} {B n k i p : Nat} {P G : Nat → Nat} {D : Nat → AD} {u : Value} {s : List Int} (h : Dks w wr B n P G D) (hk : k < n) (hp : P k = p) (hi : i < (D k).la.length) (hB : B ≤ 1000000000) (hu : Own8 wr 0 u s) (hs : IsSec s) :
    Calls Try.prog 10 #[.pointer (some ⟨p, 0, none⟩), .int .i64 (i : Int), u] wr fun e w' => e = .returned (.int .i64 0) ∧ Dks w w' (B + 1) n P G (updF D k ((D k).write i s)) ∧ Km wr w' := by
  subst hp
  obtain ⟨gm, V, h1, h2, h3⟩ := h.all
  have hf := h.few k hk
  obtain ⟨g, c, rfl, hr, hg, hF⟩ := own8_at (h1 k hk) hu hs.1
  refine (write_good (h1 k hk) hi hf.wt.1 (by have := hf.wt; omega) (by have := hf.wr i; omega) hs hr hg hF).mono ?_
  rintro e w' ⟨rfl, V', hd, hn, hup⟩
  exact ⟨rfl, Dks.upd hk h1 h2 h3 (fun j hj => (h.few j hj).mono (by omega)) h.bel hd hup hn (hf.write i s)⟩
theorem ft_nil {p gl gm gm' : Nat} {V : Nat → Value} {m : Nat} (hg : m ≤ gm') : ∀ b, Ft p gl gm' (fun _ => .slice none 0 0) b → Ft p gl gm V b ∨ m ≤ b := by
  rintro b (rfl | rfl | rfl | ⟨i, hi⟩)
  · exact Or.inl (Or.inl rfl)
  · exact Or.inl (Or.inr (Or.inl rfl))
  · exact Or.inr hg
  · cases hi
theorem dks_flush {w wr : World} {B n k p : Nat} {P G : Nat → Nat} {D : Nat → AD} (h : Dks w wr B n P G D) (hk : k < n) (hp : P k = p) (hB : B ≤ 1000000000) :
    Calls Try.prog 11 #[.pointer (some ⟨p, 0, none⟩)] wr fun e w' => e = .returned (.tuple #[]) ∧ Dks w w' (B + 1) n P G (updF D k (D k).flush) ∧ Km wr w' := by
  subst hp
  obtain ⟨gm, V, h1, h2, h3⟩ := h.all
  have hf := h.few k hk
  refine (flush_calls (h1 k hk) (fun i => by have := hf.wr i; omega) hf.fl.1 (by have := hf.fl; omega)).mono ?_
  rintro e w' ⟨rfl, gm', hg, hd, hup⟩
  exact ⟨rfl, Dks.upd hk h1 h2 h3 (fun j hj => (h.few j hj).mono (by omega)) h.bel hd (hup.mono (fun x hx => hx.elim Or.inl (fun hx => Or.inr (Or.inl hx)))) (ft_nil hg) hf.flush⟩
theorem dks_crash {w wr : World} {B n k p : Nat} {P G : Nat → Nat} {D : Nat → AD} {v : Value} {xs : List Int} (h : Dks w wr B n P G D) (hk : k < n) (hp : P k = p) (hB : B ≤ 1000000000) (hi : IsI wr v xs) (hF : ∀ b, Value.inBlock v b → b ≠ G k) :
    Calls Try.prog 19 #[.pointer (some ⟨p, 0, none⟩), v] wr fun e w' => e = .returned (.tuple #[]) ∧ Dks w w' B n P G (updF D k ((D k).settle fun k => xs.getD k 0)) ∧ Km wr w' := by
  subst hp
  obtain ⟨gm, V, h1, h2, h3⟩ := h.all
  have hf := h.few k hk
  refine (crash_calls (h1 k hk) (fun i => by have := hf.wr i; omega) hi hF).mono ?_
  rintro e w' ⟨rfl, gm', hg, hd, hup⟩
  exact ⟨rfl, Dks.upd hk h1 h2 h3 h.few h.bel hd (hup.mono (fun x hx => hx.elim Or.inl (fun hx => Or.inr (Or.inl hx)))) (ft_nil hg) (hf.settle _)⟩
theorem dks_read {w wr : World} {B n k i p : Nat} {P G : Nat → Nat} {D : Nat → AD} (h : Dks w wr B n P G D) (hk : k < n) (hp : P k = p) (hi : i < (D k).la.length) (hB : B ≤ 1000000000) :
    Calls Try.prog 20 #[.pointer (some ⟨p, 0, none⟩), .int .i64 (i : Int)] wr fun e w' => ∃ g, e = .returned (.tuple #[.slice (some ⟨g, 0, none⟩) 512 512, .int .i64 0]) ∧
      wr.heap.size ≤ g ∧ IsB w' (.slice (some ⟨g, 0, none⟩) 512 512) ((D k).now i) ∧ Arr w' g 77 (u8V ((D k).now i)) ∧ Dks w w' (B + 1) n P G (updF D k ((D k).reads 1)) ∧ Km wr w' := by
  subst hp
  obtain ⟨gm, V, h1, h2, h3⟩ := h.all
  have hf := h.few k hk
  refine (read_calls (h1 k hk) hi hf.rd.1 (by have := hf.rd; omega)).mono ?_
  rintro e w' ⟨g, rfl, hg, hA, hd, hgr⟩
  refine ⟨g, rfl, hg, isB_arrS hA ((h1 k hk).ok.now hi), hA, ?_⟩
  have hd' : Dk w' (P k) (G k) (gm k) (V k) ((D k).reads 1) := hd
  exact Dks.upd hk h1 h2 h3 (fun j hj => (h.few j hj).mono (by omega)) h.bel hd' (Up.of_grown hgr (fun g hg => by injection hg with hg; exact Or.inl hg.symm)) (fun b hb => Or.inl hb) (hf.reads 1)
theorem dks_image {w wr : World} {B n k p : Nat} {P G : Nat → Nat} {D : Nat → AD} (h : Dks w wr B n P G D) (hk : k < n) (hp : P k = p) :
    Calls Try.prog 13 #[.pointer (some ⟨p, 0, none⟩)] wr fun e w' => ∃ v, e = .returned v ∧ Img w' wr.heap.size v (D k).la ∧ Dks w w' B n P G D ∧ Below wr.heap.size wr w' := by
  subst hp
  obtain ⟨gm, V, h1, h2, h3⟩ := h.all
  refine (image_calls (h1 k hk)).mono ?_
  rintro e w' ⟨v, rfl, hI, hb⟩
  exact ⟨v, rfl, hI, h.below hb, hb⟩
theorem dks_tells {w wr : World} {B n k m f p : Nat} {P G : Nat → Nat} {D : Nat → AD} {v : Value} {l : Ats} (h : Dks w wr B n P G D) (hk : k < n) (hp : P k = p) (hB : B ≤ 1000000000) (hW : IsWs wr v l) (hf : f ≤ l.length) (hn : (D k).la.length = m) (hN : Nw (D k) (l.take f)) :
    Calls Try.prog 15 #[.pointer (some ⟨p, 0, none⟩), .int .i64 (m : Int), v, .int .i64 (f : Int)] wr fun e w' => e = .returned (.bool true) ∧ Dks w w' (B + m) n P G (updF D k ((D k).reads m)) ∧ Km wr w' := by
  subst hp
  obtain ⟨gm, V, h1, h2, h3⟩ := h.all
  have hfw := h.few k hk
  refine (tells_calls (h1 k hk) hW hf hn hN hfw.rd.1 (by have := hfw.rd; omega)).mono ?_
  rintro e w' ⟨rfl, hd, hu⟩
  exact ⟨rfl, Dks.upd hk h1 h2 h3 (fun j hj => (h.few j hj).mono (by omega)) h.bel hd (hu.mono (fun x hx => Or.inl hx)) (fun b hb => Or.inl hb) (hfw.reads m)⟩
/-- made, beside what there is. -/
theorem dks_made {w wr : World} {B n : Nat} {P G : Nat → Nat} {D : Nat → AD} {v : Value} {l : Ats} {x : Int} (h : Dks w wr B n P G D) (hW : IsWr wr v l) :
    Calls Try.prog 9 #[.int .i64 x, v] wr fun e w' => ∃ p v', e = .returned (.tuple #[.pointer (some ⟨p, 0, none⟩), .int .i64 ((2 + modN x 63 : Nat) : Int), v']) ∧
      (∃ gl, Dks w w' B (n + 1) (updF P n p) (updF G n gl) (updF D n (zeroD (2 + modN x 63)))) ∧ IsWs w' v' (madeL (2 + modN x 63) l) ∧ Below wr.heap.size wr w' := by
  refine (made_calls hW).mono ?_
  rintro e w' ⟨p, gl, gm, v', rfl, hd, h1, h2, h3, hws, hb⟩
  refine ⟨p, v', rfl, ⟨gl, h.snoc hb hd ?_ ((Few.zero _).mono (Nat.zero_le _))⟩, hws, hb⟩
  rintro b (rfl | rfl | rfl | ⟨i, hi⟩)
  · exact h1
  · exact h2
  · exact h3
  · cases hi
end Go.Proofs.Ytfgjhlnaaopdeab

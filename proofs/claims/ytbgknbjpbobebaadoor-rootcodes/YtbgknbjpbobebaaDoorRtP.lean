/- Slots in plain terms: their bytes, what bytes name, both ways. -/
import Derived.Test.YtbgknbjpbobebaaDoorKB
namespace Go.Proofs.YtbgknbjpbobebaaDoor
open Go.RowKit

/-- A slot. -/
structure SL where
  sc : Int
  j : Int
  t : Int
  g : Int
  s : Int
  k : List Int
  r : JF
  m : JF
def JF.zero : JF := ⟨List.replicate 32 0, 0, 0⟩
def SL.nul : SL := ⟨0, 0, 0, 0, 0, List.replicate 32 0, JF.zero, JF.zero⟩
structure SL.Ok (z : SL) : Prop where
  sc : i64I z.sc
  j : i64I z.j
  t : i64I z.t
  g : i64I z.g
  s : i64I z.s
  len : z.k.length = 32
  by8 : By8 z.k
  r : z.r.Ok
  m : z.m.Ok
theorem JF.zero_ok : JF.zero.Ok := ⟨by simp [JF.zero], By8.zero 32, ⟨by decide, by decide⟩, ⟨by decide, by decide⟩⟩
theorem SL.nul_ok : SL.nul.Ok := ⟨⟨by decide, by decide⟩, ⟨by decide, by decide⟩, ⟨by decide, by decide⟩, ⟨by decide, by decide⟩, ⟨by decide, by decide⟩, by simp [SL.nul], By8.zero 32, JF.zero_ok, JF.zero_ok⟩
def fitF (sc j : Int) (r : JF) : Prop := 2 + j ≤ r.f ∧ r.f ≤ sc - 1 ∧ 0 ≤ r.l ∧ r.l ≤ 1048576
def cntO (x : Int) : Prop := 0 ≤ x ∧ x ≤ 1099511627776
/-- A slot may be. -/
structure SL.May (z : SL) : Prop where
  sc0 : 2 ≤ z.sc
  sc1 : z.sc ≤ 65536
  j0 : 8 ≤ z.j
  j1 : z.j ≤ 1024
  js : 4 + z.j ≤ z.sc
  t : cntO z.t
  g : cntO z.g
  s : cntO z.s
  r : fitF z.sc z.j z.r
  m : fitF z.sc z.j z.m
open Classical in
noncomputable def SL.may (s : SL) : Bool := decide s.May
theorem SL.may_iff (s : SL) : s.may = true ↔ s.May := by unfold SL.may; simp
theorem SL.may_no {s : SL} (h : ¬ s.May) : s.may = false := by unfold SL.may; simp [h]
/-- Numbers, each in so many bytes. -/
def fBs (n : Nat) (l : List Int) : List Int := l.flatMap (fun v => fB v n)
theorem fBs_len (n : Nat) : ∀ (l : List Int), (fBs n l).length = n * l.length
  | [] => rfl
  | v :: l => by
    show (fB v n ++ fBs n l).length = _
    rw [List.length_append, fB_len, fBs_len n l, List.length_cons, Nat.mul_succ, Nat.add_comm]
theorem fBs_by (n : Nat) (l : List Int) : By8 (fBs n l) := fun x hx => by
  obtain ⟨v, _, hx⟩ := List.mem_flatMap.1 hx
  exact fB_bytes _ _ x hx
theorem fBs_snoc (n : Nat) (l : List Int) (v : Int) : fBs n (l ++ [v]) = fBs n l ++ fB v n := by simp [fBs]
def mk4 : List Int := [107, 105, 108, 110]
def sl12 (s : SL) : List Int := mk4 ++ fBs 4 [s.sc, s.j]
def sl36 (s : SL) : List Int := sl12 s ++ fBs 8 [s.t, s.g, s.s]
def sl68 (s : SL) : List Int := sl36 s ++ s.k
def sl100 (s : SL) : List Int := sl68 s ++ s.r.h
def sl108 (s : SL) : List Int := sl100 s ++ fBs 4 [s.r.f, s.r.l]
def sl140 (s : SL) : List Int := sl108 s ++ s.m.h
def sl148 (s : SL) : List Int := sl140 s ++ fBs 4 [s.m.f, s.m.l]
def slB (s : SL) : List Int := sl148 s ++ List.replicate 360 0
/-- The bytes of a slot. -/
def slL (s : SL) : List Int := slB s ++ fB (sumOf [slB s]) 4
theorem sl148_len {s : SL} (h : s.Ok) : (sl148 s).length = 148 := by
  simp [sl148, sl140, sl108, sl100, sl68, sl36, sl12, mk4, fBs_len, h.len, h.r.len, h.m.len]
theorem slB_len {s : SL} (h : s.Ok) : (slB s).length = 508 := by rw [slB, List.length_append, sl148_len h, List.length_replicate]
theorem slL_len {s : SL} (h : s.Ok) : (slL s).length = 512 := by rw [slL, List.length_append, slB_len h, fB_len]
theorem sl148_by {s : SL} (h : s.Ok) : By8 (sl148 s) := by
  refine (((((((?_ : By8 mk4).app (fBs_by _ _)).app (fBs_by _ _)).app h.by8).app h.r.by8).app (fBs_by _ _)).app h.m.by8).app (fBs_by _ _)
  intro x hx
  simp [mk4] at hx
  omega
theorem slB_by {s : SL} (h : s.Ok) : By8 (slB s) := (sl148_by h).app (By8.zero _)
theorem slL_by {s : SL} (h : s.Ok) : By8 (slL s) := (slB_by h).app (fun y hy => fB_bytes _ _ y hy)
/-- The reference that bytes name there. -/
def sfK (b : List Int) (k : Nat) : JF := ⟨(b.drop k).take 32, leN ((b.drop (k + 32)).take 4), leN ((b.drop (k + 36)).take 4)⟩
def w8 (b : List Int) (k : Nat) : Int := IntKind.i64.wrap (leN ((b.drop k).take 8))
def w4 (b : List Int) (k : Nat) : Int := leN ((b.drop k).take 4)
def nmS (b : List Int) : SL := ⟨w4 b 4, w4 b 8, w8 b 12, w8 b 20, w8 b 28, (b.drop 36).take 32, sfK b 68, sfK b 108⟩
open Classical in
/-- The slot that bytes are. -/
noncomputable def decS (b : List Int) : Option SL := if b.length = 512 ∧ (nmS b).May ∧ slL (nmS b) = b then some (nmS b) else none
theorem w4_rng {b : List Int} (hb : By8 b) (k : Nat) : i64I (w4 b k) := by
  have := jfour hb k
  unfold i64I w4
  omega
theorem sfK_ok {b : List Int} (hb : By8 b) {k : Nat} (hl : k + 40 ≤ b.length) : (sfK b k).Ok :=
  ⟨by simp [sfK]; omega, (hb.drop _).take _, w4_rng hb (k + 32), w4_rng hb (k + 36)⟩
theorem nmS_ok {b : List Int} (hb : By8 b) (hl : b.length = 512) : (nmS b).Ok :=
  ⟨w4_rng hb _, w4_rng hb _, wrap_rng _, wrap_rng _, wrap_rng _, by simp [nmS]; omega, (hb.drop _).take _, sfK_ok hb (by omega), sfK_ok hb (by omega)⟩
theorem four_back {v : Int} (h0 : 0 ≤ v) (h1 : v ≤ 1048576) (rest : List Int) : leN ((fB v 4 ++ rest).take 4) = v := by
  rw [take_app (fB_len _ _), jleN_fB 4 _ h0 (by show v < 4294967296; omega)]
theorem eight_back {v : Int} (h : cntO v) (rest : List Int) : IntKind.i64.wrap (leN ((fB v 8 ++ rest).take 8)) = v := by
  obtain ⟨h0, h1⟩ := h
  rw [take_app (fB_len _ _), jleN_fB 8 _ h0 (by show v < 18446744073709551616; omega)]
  exact IntWalk.i64_in _ (by omega)
theorem drop_more {b a c : List Int} {n k m : Nat} (h : b.drop n = a ++ c) (ha : a.length = k) (hm : m = n + k) : b.drop m = c := by
  rw [hm, ← List.drop_drop, h, drop_app ha]
theorem slB_app (s : SL) (x : List Int) : slB s ++ x = mk4 ++ (fB s.sc 4 ++ (fB s.j 4 ++ (fB s.t 8 ++ (fB s.g 8 ++ (fB s.s 8 ++ (s.k ++ (s.r.h ++ (fB s.r.f 4 ++ (fB s.r.l 4 ++ (s.m.h ++ (fB s.m.f 4 ++ (fB s.m.l 4 ++ (List.replicate 360 0 ++ x))))))))))))) := by
  simp only [slB, sl148, sl140, sl108, sl100, sl68, sl36, sl12, fBs, List.append_assoc, List.flatMap_cons, List.flatMap_nil, List.append_nil]
/-- What is written is what the bytes name. -/
theorem nm_sl {s : SL} (h : s.Ok) (hm : s.May) : nmS (slL s) = s := by
  obtain ⟨h0, h1, h2, h3, h4, ht, hg, hs, hr, hmm⟩ := hm
  have e : slL s = mk4 ++ (fB s.sc 4 ++ (fB s.j 4 ++ (fB s.t 8 ++ (fB s.g 8 ++ (fB s.s 8 ++ (s.k ++ (s.r.h ++ (fB s.r.f 4 ++ (fB s.r.l 4 ++ (s.m.h ++ (fB s.m.f 4 ++ (fB s.m.l 4 ++ (List.replicate 360 0 ++ fB (sumOf [slB s]) 4))))))))))))) := by
    exact slB_app s _
  have d4 := drop_more (b := slL s) (n := 0) (m := 4) (k := 4) (by rw [List.drop_zero]; exact e) rfl rfl
  have d8 := drop_more (m := 8) d4 (fB_len _ _) rfl
  have d12 := drop_more (m := 12) d8 (fB_len _ _) rfl
  have d20 := drop_more (m := 20) d12 (fB_len _ _) rfl
  have d28 := drop_more (m := 28) d20 (fB_len _ _) rfl
  have d36 := drop_more (m := 36) d28 (fB_len _ _) rfl
  have d68 := drop_more (m := 68) d36 h.len rfl
  have d100 := drop_more (m := 100) d68 h.r.len rfl
  have d104 := drop_more (m := 104) d100 (fB_len _ _) rfl
  have d108 := drop_more (m := 108) d104 (fB_len _ _) rfl
  have d140 := drop_more (m := 140) d108 h.m.len rfl
  have d144 := drop_more (m := 144) d140 (fB_len _ _) rfl
  obtain ⟨r0, r1, r2, r3⟩ := hr
  obtain ⟨m0, m1, m2, m3⟩ := hmm
  have e1 : w4 (slL s) 4 = s.sc := by unfold w4; rw [d4]; exact four_back (by omega) (by omega) _
  have e2 : w4 (slL s) 8 = s.j := by unfold w4; rw [d8]; exact four_back (by omega) (by omega) _
  have e3 : w8 (slL s) 12 = s.t := by unfold w8; rw [d12]; exact eight_back ht _
  have e4 : w8 (slL s) 20 = s.g := by unfold w8; rw [d20]; exact eight_back hg _
  have e5 : w8 (slL s) 28 = s.s := by unfold w8; rw [d28]; exact eight_back hs _
  have e6 : ((slL s).drop 36).take 32 = s.k := by rw [d36, take_app h.len]
  have e7 : sfK (slL s) 68 = s.r := by
    show JF.mk (((slL s).drop 68).take 32) (leN (((slL s).drop 100).take 4)) (leN (((slL s).drop 104).take 4)) = s.r
    rw [d68, d100, d104, take_app h.r.len, four_back (by omega) (by omega), four_back r2 r3]
  have e8 : sfK (slL s) 108 = s.m := by
    show JF.mk (((slL s).drop 108).take 32) (leN (((slL s).drop 140).take 4)) (leN (((slL s).drop 144).take 4)) = s.m
    rw [d108, d140, d144, take_app h.m.len, four_back (by omega) (by omega), four_back m2 m3]
  unfold nmS
  rw [e1, e2, e3, e4, e5, e6, e7, e8]
theorem decS_sl {s : SL} (h : s.Ok) (hm : s.May) : decS (slL s) = some s := by
  unfold decS
  rw [nm_sl h hm, if_pos ⟨slL_len h, hm, rfl⟩]
theorem decS_some {b : List Int} {s : SL} (h : decS b = some s) : b.length = 512 ∧ s = nmS b ∧ s.May ∧ slL s = b := by
  unfold decS at h
  split at h
  · rename_i hc
    have : nmS b = s := by simpa using h
    subst this
    exact ⟨hc.1, rfl, hc.2.1, hc.2.2⟩
  · simp at h
theorem decS_yes {b : List Int} (h1 : b.length = 512) (h2 : (nmS b).May) (h3 : slL (nmS b) = b) : decS b = some (nmS b) := by unfold decS; rw [if_pos ⟨h1, h2, h3⟩]
theorem decS_no {b : List Int} (h : ¬ (b.length = 512 ∧ (nmS b).May ∧ slL (nmS b) = b)) : decS b = none := by unfold decS; rw [if_neg h]
theorem decS_ok {b : List Int} {s : SL} (hb : By8 b) (h : decS b = some s) : s.Ok := by
  obtain ⟨h1, rfl, _, _⟩ := decS_some h
  exact nmS_ok hb h1
theorem decS_short {b : List Int} (h : b.length ≠ 512) : decS b = none := decS_no fun hc => h hc.1
theorem slL_head (s : SL) : (slL s)[0]? = some 107 := by
  rw [slL, slB_app]
  rfl
theorem decS_head {b : List Int} (h : b[0]? ≠ some 107) : decS b = none := decS_no fun hc => h (by rw [← hc.2.2]; exact slL_head _)
open Classical in
/-- What Encode answers. -/
noncomputable def encS (s : SL) : List Int := if s.May then slL s else []
open Classical in
noncomputable def encSE (s : SL) : Int := if s.May then 0 else 180
theorem encS_yes {s : SL} (h : s.May) : encS s = slL s ∧ encSE s = 0 := by unfold encS encSE; rw [if_pos h, if_pos h]; exact ⟨rfl, rfl⟩
theorem encS_no {s : SL} (h : ¬ s.May) : encS s = [] ∧ encSE s = 180 := by unfold encS encSE; rw [if_neg h, if_neg h]; exact ⟨rfl, rfl⟩
noncomputable def decSR (b : List Int) : SL := (decS b).getD .nul
noncomputable def decSE (b : List Int) : Int := if (decS b).isSome = true then 0 else 180
theorem decSR_none {b : List Int} (h : decS b = none) : decSR b = .nul ∧ decSE b = 180 := by unfold decSR decSE; rw [h]; exact ⟨rfl, rfl⟩
theorem decSR_some {b : List Int} {s : SL} (h : decS b = some s) : decSR b = s ∧ decSE b = 0 := by unfold decSR decSE; rw [h]; exact ⟨rfl, rfl⟩
theorem decSR_ok {b : List Int} (hb : By8 b) : (decSR b).Ok := by
  cases h : decS b with
  | none => rw [(decSR_none h).1]; exact SL.nul_ok
  | some s => rw [(decSR_some h).1]; exact decS_ok hb h
end Go.Proofs.YtbgknbjpbobebaaDoor

/- Slots in plain terms: their bytes, what bytes name, both ways. Slots in memory; what within, numbersOf and the four parts of the numbers answer. What addNumbers, chainMayBe and mayBe answer. What mayBe answers. What Encode answers. -/
import Derived.Test.YtpeopejnkbmcdaaDoorKB
import Derived.Test.YtpeopejnkbmcdaaDoorKC
import Derived.Test.YtpeopejnkbmcdaaDoorInts
import Derived.Deep.QuietTactic
import Derived.Deep.DeepCutAuto
import Derived.Deep.CutRange
namespace Go.Proofs.YtpeopejnkbmcdaaDoor
open Go.RowKit

/-- A slot. -/
structure SL where
  sc : Int
  j : Int
  t : Int
  g : Int
  s : Int
  k : List Int
  r : JF
  m : JF
def JF.zero : JF := ⟨List.replicate 32 0, 0, 0⟩
def SL.nul : SL := ⟨0, 0, 0, 0, 0, List.replicate 32 0, JF.zero, JF.zero⟩
structure SL.Ok (z : SL) : Prop where
  sc : i64I z.sc
  j : i64I z.j
  t : i64I z.t
  g : i64I z.g
  s : i64I z.s
  len : z.k.length = 32
  by8 : By8 z.k
  r : z.r.Ok
  m : z.m.Ok
theorem JF.zero_ok : JF.zero.Ok := ⟨by simp [JF.zero], By8.zero 32, ⟨by decide, by decide⟩, ⟨by decide, by decide⟩⟩
theorem SL.nul_ok : SL.nul.Ok := ⟨⟨by decide, by decide⟩, ⟨by decide, by decide⟩, ⟨by decide, by decide⟩, ⟨by decide, by decide⟩, ⟨by decide, by decide⟩, by simp [SL.nul], By8.zero 32, JF.zero_ok, JF.zero_ok⟩
def fitF (sc j : Int) (r : JF) : Prop := 2 + j ≤ r.f ∧ r.f ≤ sc - 1 ∧ 0 ≤ r.l ∧ r.l ≤ 1048576
def cntO (x : Int) : Prop := 0 ≤ x ∧ x ≤ 1099511627776
/-- A slot may be. -/
structure SL.May (z : SL) : Prop where
  sc0 : 2 ≤ z.sc
  sc1 : z.sc ≤ 65536
  j0 : 8 ≤ z.j
  j1 : z.j ≤ 1024
  js : 4 + z.j ≤ z.sc
  t : cntO z.t
  g : cntO z.g
  s : cntO z.s
  r : fitF z.sc z.j z.r
  m : fitF z.sc z.j z.m
def SL.may (s : SL) : Bool := decide (2 ≤ s.sc ∧ s.sc ≤ 65536 ∧ 8 ≤ s.j ∧ s.j ≤ 1024 ∧ 4 + s.j ≤ s.sc ∧ (0 ≤ s.t ∧ s.t ≤ 1099511627776) ∧ (0 ≤ s.g ∧ s.g ≤ 1099511627776) ∧ (0 ≤ s.s ∧ s.s ≤ 1099511627776) ∧ (2 + s.j ≤ s.r.f ∧ s.r.f ≤ s.sc - 1 ∧ 0 ≤ s.r.l ∧ s.r.l ≤ 1048576) ∧ (2 + s.j ≤ s.m.f ∧ s.m.f ≤ s.sc - 1 ∧ 0 ≤ s.m.l ∧ s.m.l ≤ 1048576))
theorem SL.may_iff (s : SL) : s.may = true ↔ s.May := by
  unfold SL.may
  rw [decide_eq_true_iff]
  exact ⟨fun ⟨a, b, c, d, e, f, g, h, i, j⟩ => ⟨a, b, c, d, e, f, g, h, i, j⟩, fun ⟨a, b, c, d, e, f, g, h, i, j⟩ => ⟨a, b, c, d, e, f, g, h, i, j⟩⟩
theorem SL.may_no {s : SL} (h : ¬ s.May) : s.may = false := by
  cases e : s.may with
  | false => rfl
  | true => exact absurd ((SL.may_iff s).1 e) h
/-- Numbers, each in so many bytes. -/
def fBs (n : Nat) (l : List Int) : List Int := l.flatMap (fun v => fB v n)
theorem fBs_len (n : Nat) : ∀ (l : List Int), (fBs n l).length = n * l.length
  | [] => rfl
  | v :: l => by
    show (fB v n ++ fBs n l).length = _
    rw [List.length_append, fB_len, fBs_len n l, List.length_cons, Nat.mul_succ, Nat.add_comm]
theorem fBs_by (n : Nat) (l : List Int) : By8 (fBs n l) := fun x hx => by
  obtain ⟨v, _, hx⟩ := List.mem_flatMap.1 hx
  exact fB_bytes _ _ x hx
theorem fBs_snoc (n : Nat) (l : List Int) (v : Int) : fBs n (l ++ [v]) = fBs n l ++ fB v n := by simp [fBs]
def mk4 : List Int := [107, 105, 108, 110]
def sl12 (s : SL) : List Int := mk4 ++ fBs 4 [s.sc, s.j]
def sl36 (s : SL) : List Int := sl12 s ++ fBs 8 [s.t, s.g, s.s]
def sl68 (s : SL) : List Int := sl36 s ++ s.k
def sl100 (s : SL) : List Int := sl68 s ++ s.r.h
def sl108 (s : SL) : List Int := sl100 s ++ fBs 4 [s.r.f, s.r.l]
def sl140 (s : SL) : List Int := sl108 s ++ s.m.h
def sl148 (s : SL) : List Int := sl140 s ++ fBs 4 [s.m.f, s.m.l]
def slB (s : SL) : List Int := sl148 s ++ List.replicate 360 0
/-- The bytes of a slot. -/
def slL (s : SL) : List Int := slB s ++ fB (sumOf [slB s]) 4
theorem sl148_len {s : SL} (h : s.Ok) : (sl148 s).length = 148 := by
  simp [sl148, sl140, sl108, sl100, sl68, sl36, sl12, mk4, fBs_len, h.len, h.r.len, h.m.len]
theorem slB_len {s : SL} (h : s.Ok) : (slB s).length = 508 := by rw [slB, List.length_append, sl148_len h, List.length_replicate]
theorem slL_len {s : SL} (h : s.Ok) : (slL s).length = 512 := by rw [slL, List.length_append, slB_len h, fB_len]
theorem sl148_by {s : SL} (h : s.Ok) : By8 (sl148 s) := by
  refine (((((((?_ : By8 mk4).app (fBs_by _ _)).app (fBs_by _ _)).app h.by8).app h.r.by8).app (fBs_by _ _)).app h.m.by8).app (fBs_by _ _)
  intro x hx
  simp [mk4] at hx
  omega
theorem slB_by {s : SL} (h : s.Ok) : By8 (slB s) := (sl148_by h).app (By8.zero _)
theorem slL_by {s : SL} (h : s.Ok) : By8 (slL s) := (slB_by h).app (fun y hy => fB_bytes _ _ y hy)
/-- The reference that bytes name there. -/
def sfK (b : List Int) (k : Nat) : JF := ⟨(b.drop k).take 32, leN ((b.drop (k + 32)).take 4), leN ((b.drop (k + 36)).take 4)⟩
def w8 (b : List Int) (k : Nat) : Int := IntKind.i64.wrap (leN ((b.drop k).take 8))
def w4 (b : List Int) (k : Nat) : Int := leN ((b.drop k).take 4)
def nmS (b : List Int) : SL := ⟨w4 b 4, w4 b 8, w8 b 12, w8 b 20, w8 b 28, (b.drop 36).take 32, sfK b 68, sfK b 108⟩
/-- The slot that bytes are. -/
def decS (b : List Int) : Option SL := if b.length = 512 ∧ (nmS b).may = true ∧ slL (nmS b) = b then some (nmS b) else none
theorem w4_rng {b : List Int} (hb : By8 b) (k : Nat) : i64I (w4 b k) := by
  have := jfour hb k
  unfold i64I w4
  omega
theorem sfK_ok {b : List Int} (hb : By8 b) {k : Nat} (hl : k + 40 ≤ b.length) : (sfK b k).Ok :=
  ⟨by simp [sfK]; omega, (hb.drop _).take _, w4_rng hb (k + 32), w4_rng hb (k + 36)⟩
theorem nmS_ok {b : List Int} (hb : By8 b) (hl : b.length = 512) : (nmS b).Ok :=
  ⟨w4_rng hb _, w4_rng hb _, wrap_rng _, wrap_rng _, wrap_rng _, by simp [nmS]; omega, (hb.drop _).take _, sfK_ok hb (by omega), sfK_ok hb (by omega)⟩
theorem four_back {v : Int} (h0 : 0 ≤ v) (h1 : v ≤ 1048576) (rest : List Int) : leN ((fB v 4 ++ rest).take 4) = v := by
  rw [take_app (fB_len _ _), jleN_fB 4 _ h0 (by show v < 4294967296; omega)]
theorem eight_back {v : Int} (h : cntO v) (rest : List Int) : IntKind.i64.wrap (leN ((fB v 8 ++ rest).take 8)) = v := by
  obtain ⟨h0, h1⟩ := h
  rw [take_app (fB_len _ _), jleN_fB 8 _ h0 (by show v < 18446744073709551616; omega)]
  exact IntWalk.i64_in _ (by omega)
theorem drop_more {b a c : List Int} {n k m : Nat} (h : b.drop n = a ++ c) (ha : a.length = k) (hm : m = n + k) : b.drop m = c := by
  rw [hm, ← List.drop_drop, h, drop_app ha]
theorem slB_app (s : SL) (x : List Int) : slB s ++ x = mk4 ++ (fB s.sc 4 ++ (fB s.j 4 ++ (fB s.t 8 ++ (fB s.g 8 ++ (fB s.s 8 ++ (s.k ++ (s.r.h ++ (fB s.r.f 4 ++ (fB s.r.l 4 ++ (s.m.h ++ (fB s.m.f 4 ++ (fB s.m.l 4 ++ (List.replicate 360 0 ++ x))))))))))))) := by
  simp only [slB, sl148, sl140, sl108, sl100, sl68, sl36, sl12, fBs, List.append_assoc, List.flatMap_cons, List.flatMap_nil, List.append_nil]
/-- What is written is what the bytes name. -/
theorem nm_sl {s : SL} (h : s.Ok) (hm : s.May) : nmS (slL s) = s := by
  obtain ⟨h0, h1, h2, h3, h4, ht, hg, hs, hr, hmm⟩ := hm
  have e : slL s = mk4 ++ (fB s.sc 4 ++ (fB s.j 4 ++ (fB s.t 8 ++ (fB s.g 8 ++ (fB s.s 8 ++ (s.k ++ (s.r.h ++ (fB s.r.f 4 ++ (fB s.r.l 4 ++ (s.m.h ++ (fB s.m.f 4 ++ (fB s.m.l 4 ++ (List.replicate 360 0 ++ fB (sumOf [slB s]) 4))))))))))))) := by
    exact slB_app s _
  have d4 := drop_more (b := slL s) (n := 0) (m := 4) (k := 4) (by rw [List.drop_zero]; exact e) rfl rfl
  have d8 := drop_more (m := 8) d4 (fB_len _ _) rfl
  have d12 := drop_more (m := 12) d8 (fB_len _ _) rfl
  have d20 := drop_more (m := 20) d12 (fB_len _ _) rfl
  have d28 := drop_more (m := 28) d20 (fB_len _ _) rfl
  have d36 := drop_more (m := 36) d28 (fB_len _ _) rfl
  have d68 := drop_more (m := 68) d36 h.len rfl
  have d100 := drop_more (m := 100) d68 h.r.len rfl
  have d104 := drop_more (m := 104) d100 (fB_len _ _) rfl
  have d108 := drop_more (m := 108) d104 (fB_len _ _) rfl
  have d140 := drop_more (m := 140) d108 h.m.len rfl
  have d144 := drop_more (m := 144) d140 (fB_len _ _) rfl
  obtain ⟨r0, r1, r2, r3⟩ := hr
  obtain ⟨m0, m1, m2, m3⟩ := hmm
  have e1 : w4 (slL s) 4 = s.sc := by unfold w4; rw [d4]; exact four_back (by omega) (by omega) _
  have e2 : w4 (slL s) 8 = s.j := by unfold w4; rw [d8]; exact four_back (by omega) (by omega) _
  have e3 : w8 (slL s) 12 = s.t := by unfold w8; rw [d12]; exact eight_back ht _
  have e4 : w8 (slL s) 20 = s.g := by unfold w8; rw [d20]; exact eight_back hg _
  have e5 : w8 (slL s) 28 = s.s := by unfold w8; rw [d28]; exact eight_back hs _
  have e6 : ((slL s).drop 36).take 32 = s.k := by rw [d36, take_app h.len]
  have e7 : sfK (slL s) 68 = s.r := by
    show JF.mk (((slL s).drop 68).take 32) (leN (((slL s).drop 100).take 4)) (leN (((slL s).drop 104).take 4)) = s.r
    rw [d68, d100, d104, take_app h.r.len, four_back (by omega) (by omega), four_back r2 r3]
  have e8 : sfK (slL s) 108 = s.m := by
    show JF.mk (((slL s).drop 108).take 32) (leN (((slL s).drop 140).take 4)) (leN (((slL s).drop 144).take 4)) = s.m
    rw [d108, d140, d144, take_app h.m.len, four_back (by omega) (by omega), four_back m2 m3]
  unfold nmS
  rw [e1, e2, e3, e4, e5, e6, e7, e8]
theorem decS_sl {s : SL} (h : s.Ok) (hm : s.May) : decS (slL s) = some s := by
  unfold decS
  rw [nm_sl h hm, if_pos ⟨slL_len h, (SL.may_iff s).2 hm, rfl⟩]
theorem decS_some {b : List Int} {s : SL} (h : decS b = some s) : b.length = 512 ∧ s = nmS b ∧ s.May ∧ slL s = b := by
  unfold decS at h
  split at h
  · rename_i hc
    have : nmS b = s := by simpa using h
    subst this
    exact ⟨hc.1, rfl, (SL.may_iff _).1 hc.2.1, hc.2.2⟩
  · simp at h
theorem decS_yes {b : List Int} (h1 : b.length = 512) (h2 : (nmS b).May) (h3 : slL (nmS b) = b) : decS b = some (nmS b) := by unfold decS; rw [if_pos ⟨h1, (SL.may_iff _).2 h2, h3⟩]
theorem decS_no {b : List Int} (h : ¬ (b.length = 512 ∧ (nmS b).May ∧ slL (nmS b) = b)) : decS b = none := by unfold decS; rw [if_neg (fun hc => h ⟨hc.1, (SL.may_iff _).1 hc.2.1, hc.2.2⟩)]
theorem decS_ok {b : List Int} {s : SL} (hb : By8 b) (h : decS b = some s) : s.Ok := by
  obtain ⟨h1, rfl, _, _⟩ := decS_some h
  exact nmS_ok hb h1
theorem decS_short {b : List Int} (h : b.length ≠ 512) : decS b = none := decS_no fun hc => h hc.1
theorem slL_head (s : SL) : (slL s)[0]? = some 107 := by
  rw [slL, slB_app]
  rfl
theorem decS_head {b : List Int} (h : b[0]? ≠ some 107) : decS b = none := decS_no fun hc => h (by rw [← hc.2.2]; exact slL_head _)
/-- What Encode answers. -/
def encS (s : SL) : List Int := if s.may = true then slL s else []
def encSE (s : SL) : Int := if s.may = true then 0 else 180
theorem encS_yes {s : SL} (h : s.May) : encS s = slL s ∧ encSE s = 0 := by unfold encS encSE; rw [(SL.may_iff s).2 h]; exact ⟨rfl, rfl⟩
theorem encS_no {s : SL} (h : ¬ s.May) : encS s = [] ∧ encSE s = 180 := by unfold encS encSE; rw [SL.may_no h]; exact ⟨rfl, rfl⟩
def decSR (b : List Int) : SL := (decS b).getD .nul
def decSE (b : List Int) : Int := if (decS b).isSome = true then 0 else 180
theorem decSR_none {b : List Int} (h : decS b = none) : decSR b = .nul ∧ decSE b = 180 := by unfold decSR decSE; rw [h]; exact ⟨rfl, rfl⟩
theorem decSR_some {b : List Int} {s : SL} (h : decS b = some s) : decSR b = s ∧ decSE b = 0 := by unfold decSR decSE; rw [h]; exact ⟨rfl, rfl⟩
theorem decSR_ok {b : List Int} (hb : By8 b) : (decSR b).Ok := by
  cases h : decS b with
  | none => rw [(decSR_none h).1]; exact SL.nul_ok
  | some s => rw [(decSR_some h).1]; exact decS_ok hb h
end Go.Proofs.YtpeopejnkbmcdaaDoor

namespace Go.Proofs.YtpeopejnkbmcdaaDoor
open Go.RowKit Go.Maps

/-- A slot's cells. -/
def slV (s : SL) : List Value := [.int .i64 s.sc, .int .i64 s.j, .int .i64 s.t, .int .i64 s.g, .int .i64 s.s] ++ (s.k.map (Value.int .u8) ++ (jfV s.r ++ jfV s.m))
/-- A slot's numbers. -/
def slN (s : SL) : List Int := [s.sc, s.j, s.t, s.g, s.s, s.r.f, s.r.l, s.m.f, s.m.l]
def nV (l : List Int) : List Value := l.map (Value.int .i64)
theorem nV_one (l : List Int) : ∀ u ∈ nV l, u.oneCell' = true := by
  intro u hu
  obtain ⟨x, _, rfl⟩ := List.mem_map.1 hu
  rfl
theorem slV_len {s : SL} (h : s.Ok) : (slV s).length = 105 := by
  unfold slV
  simp only [List.length_append, List.length_cons, List.length_nil, List.length_map, h.len, jfV_len h.r, jfV_len h.m]
theorem slV_one (s : SL) : ∀ u ∈ slV s, u.oneCell' = true := by
  intro u hu
  unfold slV at hu
  rcases List.mem_append.1 hu with hu | hu
  · simp only [List.mem_cons, List.not_mem_nil, or_false] at hu
    rcases hu with rfl | rfl | rfl | rfl | rfl <;> rfl
  · rcases List.mem_append.1 hu with hu | hu
    · obtain ⟨x, _, rfl⟩ := List.mem_map.1 hu; rfl
    · rcases List.mem_append.1 hu with hu | hu
      · exact jfV_one _ u hu
      · exact jfV_one _ u hu
def z105 : List Value := [.int .i64 0, .int .i64 0, .int .i64 0, .int .i64 0, .int .i64 0] ++ (List.replicate 32 (.int .u8 0) ++ (z34J ++ z34J))
theorem z105_nul : z105 = slV SL.nul := by
  unfold z105 slV SL.nul JF.zero jfV z34J
  simp only [List.map_replicate]
theorem infoSlo : (Tryd.prog.info? 32).map (fun i => (i.zero, i.size, i.bytes)) = some (some (.agg z105.toArray), 105, 168) := by kernel_rfl
theorem infoSz : (Tryd.prog.info? 32).map (·.size) = some 105 := by kernel_rfl
theorem infoSof {s : SL} (h : s.Ok) : (Tryd.prog.info? 32).map (·.size) = some (slV s).length := by rw [slV_len h]; exact infoSz
def z9 : List Value := List.replicate 9 (.int .i64 0)
theorem info9 : (Tryd.prog.info? 67).map (fun i => (i.zero, i.size, i.bytes)) = some (some (.agg z9.toArray), 9, 72) := by kernel_rfl
theorem info9z : (Tryd.prog.info? 67).map (·.size) = some 9 := by kernel_rfl
theorem bldS0 (W : World) : (Instr.build 32 #[]).run Tryd.prog W = .ok (.agg (slV SL.nul).toArray) W := by rw [← z105_nul]; kernel_rfl
theorem slV_at (s : SL) : (slV s)[0]? = some (.int .i64 s.sc) ∧ (slV s)[1]? = some (.int .i64 s.j) ∧ (slV s)[2]? = some (.int .i64 s.t) ∧ (slV s)[3]? = some (.int .i64 s.g) ∧ (slV s)[4]? = some (.int .i64 s.s) := ⟨rfl, rfl, rfl, rfl, rfl⟩
theorem slV_hi {s : SL} (h : s.Ok) : (slV s)[69]? = some (.int .i64 s.r.f) ∧ (slV s)[70]? = some (.int .i64 s.r.l) ∧ (slV s)[103]? = some (.int .i64 s.m.f) ∧ (slV s)[104]? = some (.int .i64 s.m.l) := by
  have hk : (s.k.map (Value.int .u8)).length = 32 := by rw [List.length_map, h.len]
  have hr := jfV_len h.r
  have hm := jfV_len h.m
  obtain ⟨r1, r2⟩ := jfV_f h.r.len
  obtain ⟨m1, m2⟩ := jfV_f h.m.len
  have e : ∀ i, (slV s)[5 + (32 + i)]? = (jfV s.r ++ jfV s.m)[i]? := fun i => by
    unfold slV
    rw [List.getElem?_append_right (by simp), List.getElem?_append_right (by rw [hk]; simp), hk]
    congr 1
    simp
  have e1 : ∀ i, i < 34 → (slV s)[5 + (32 + i)]? = (jfV s.r)[i]? := fun i hi => by rw [e, List.getElem?_append_left (by omega)]
  have e2 : ∀ i, (slV s)[5 + (32 + (34 + i))]? = (jfV s.m)[i]? := fun i => by rw [e, List.getElem?_append_right (by omega), hr, Nat.add_sub_cancel_left]
  exact ⟨(e1 32 (by omega)).trans r1, (e1 33 (by omega)).trans r2, (e2 32).trans m1, (e2 33).trans m2⟩
theorem slV_k {s : SL} (h : s.Ok) : (∀ j u, (s.k.map (Value.int .u8))[j]? = some u → (slV s)[5 + j]? = some u) ∧ (∀ j u, (s.r.h.map (Value.int .u8))[j]? = some u → (slV s)[37 + j]? = some u) ∧ (∀ j u, (s.m.h.map (Value.int .u8))[j]? = some u → (slV s)[71 + j]? = some u) := by
  have hk : (s.k.map (Value.int .u8)).length = 32 := by rw [List.length_map, h.len]
  have hr := jfV_len h.r
  have lt : ∀ {l : List Value} {j : Nat} {u : Value}, l[j]? = some u → j < l.length := fun hu => (List.getElem?_eq_some_iff.1 hu).1
  refine ⟨fun j u hu => ?_, fun j u hu => ?_, fun j u hu => ?_⟩
  · have hj := lt hu
    unfold slV
    rw [List.getElem?_append_right (by simp), List.getElem?_append_left (by simpa using hj)]
    rw [← hu]
    congr 1
    simp
  · have hj := lt hu
    rw [List.length_map, h.r.len] at hj
    have hj' := lt hu
    unfold slV
    rw [List.getElem?_append_right (by simp; omega), List.getElem?_append_right (by rw [hk]; simp; omega), hk, List.getElem?_append_left (by rw [hr]; simp; omega)]
    unfold jfV
    rw [List.getElem?_append_left (by simp at hj' ⊢; omega), ← hu]
    congr 1
    simp
    omega
  · have hj := lt hu
    rw [List.length_map, h.m.len] at hj
    have hj' := lt hu
    unfold slV
    rw [List.getElem?_append_right (by simp; omega), List.getElem?_append_right (by rw [hk]; simp; omega), hk, List.getElem?_append_right (by rw [hr]; simp; omega), hr]
    unfold jfV
    rw [List.getElem?_append_left (by simp at hj' ⊢; omega), ← hu]
    congr 1
    simp
    omega
set_option maxRecDepth 100000 in
set_option maxHeartbeats 1000000 in
theorem within_calls (w : World) (v lo hi : Int) : Calls Tryd.prog 40 #[.int .i64 v, .int .i64 lo, .int .i64 hi] w fun e w' => e = .returned (.bool (decide (lo ≤ v ∧ v ≤ hi))) ∧ w' = w := by
  by_cases h1 : lo ≤ v
  · by_cases h2 : v ≤ hi
    · have HR : Hid (decide (lo ≤ v ∧ v ≤ hi) = true) := hide (by simp [h1, h2])
      go_enter Tryd.func40, Tryd.ntmps40
      go_wp2
      go_ret
      exact ⟨by first | rfl | (rw [HR.out]; rfl), rfl⟩
    · have HR : Hid (decide (lo ≤ v ∧ v ≤ hi) = false) := hide (by simp [h2])
      have d2 : decide (v ≤ hi) = false := by simpa using h2
      go_enter Tryd.func40, Tryd.ntmps40
      go_wp2
      go_ret
      exact ⟨by first | rfl | (rw [HR.out]; rfl), rfl⟩
  · have HR : Hid (decide (lo ≤ v ∧ v ≤ hi) = false) := hide (by simp [h1])
    have d1 : decide (lo ≤ v) = false := by simpa using h1
    go_enter Tryd.func40, Tryd.ntmps40
    go_wp2
    go_ret
    exact ⟨by first | rfl | (rw [HR.out]; rfl), rfl⟩
section
variable {w : World} {g : Nat} {cs : List Value}
set_option maxRecDepth 100000 in
theorem sizes_calls (w : World) (g : Nat) : Calls Tryd.prog 25 #[.pointer (some ⟨g, 0, none⟩)] w fun e w' => e = .returned (.slice (some ⟨g, 0, none⟩) 2 9) ∧ w' = w := by
  go_enter Tryd.func25, Tryd.ntmps25
  go_wp2
  go_ret
  exact ⟨by rfl, rfl⟩
set_option maxRecDepth 100000 in
theorem counts_calls (w : World) (g : Nat) : Calls Tryd.prog 26 #[.pointer (some ⟨g, 0, none⟩)] w fun e w' => e = .returned (.slice (some ⟨g, 2, none⟩) 3 7) ∧ w' = w := by
  go_enter Tryd.func26, Tryd.ntmps26
  go_wp2
  go_ret
  exact ⟨by rfl, rfl⟩
set_option maxRecDepth 100000 in
theorem root_calls (w : World) (g : Nat) : Calls Tryd.prog 27 #[.pointer (some ⟨g, 0, none⟩)] w fun e w' => e = .returned (.slice (some ⟨g, 5, none⟩) 2 4) ∧ w' = w := by
  go_enter Tryd.func27, Tryd.ntmps27
  go_wp2
  go_ret
  exact ⟨by rfl, rfl⟩
set_option maxRecDepth 100000 in
theorem memo_calls (w : World) (g : Nat) : Calls Tryd.prog 28 #[.pointer (some ⟨g, 0, none⟩)] w fun e w' => e = .returned (.slice (some ⟨g, 7, none⟩) 2 2) ∧ w' = w := by
  go_enter Tryd.func28, Tryd.ntmps28
  go_wp2
  go_ret
  exact ⟨by rfl, rfl⟩
end
theorem bld9 (a0 a1 a2 a3 a4 a5 a6 a7 a8 : Int) (W : World) : (Instr.build 67 #[(0, .int .i64 a0), (1, .int .i64 a1), (2, .int .i64 a2), (3, .int .i64 a3), (4, .int .i64 a4), (5, .int .i64 a5), (6, .int .i64 a6), (7, .int .i64 a7), (8, .int .i64 a8)]).run Tryd.prog W = .ok (.agg (nV [a0, a1, a2, a3, a4, a5, a6, a7, a8]).toArray) W := by kernel_rfl
set_option maxRecDepth 100000 in
set_option maxHeartbeats 2000000 in
theorem numbersOf_calls {w : World} {s : SL} (hs : s.Ok) : Calls Tryd.prog 23 #[.agg (slV s).toArray] w fun e w' => e = .returned (.agg (nV (slN s)).toArray) ∧ Below w.heap.size w w' := by
  have HF : Hid (∀ w1, Arr w1 w.heap.size 32 (slV s) → Below w.heap.size w w1 → w1.heap.size = w.heap.size + 1 → (∀ i u, (slV s)[i]? = some u → (w1.alloc (.cells z9.toArray 67)).cell? ⟨w.heap.size, i, none⟩ = some u) ∧ Below w.heap.size w (w1.alloc (.cells z9.toArray 67))) := hide (fun w1 hA hb hsz => by
    have h2 := jalloc_below w1 (.cells z9.toArray 67)
    exact ⟨fun i u hu => ((hA.below h2).cell i).trans hu, below_then hb h2⟩)
  obtain ⟨e0, e1, e2, e3, e4⟩ := slV_at s
  obtain ⟨e5, e6, e7, e8⟩ := slV_hi hs
  have HE := hide (And.intro e0 (And.intro e1 (And.intro e2 (And.intro e3 (And.intro e4 (And.intro e5 (And.intro e6 (And.intro e7 e8))))))))
  have HN : Hid (slN s = [s.sc, s.j, s.t, s.g, s.s, s.r.f, s.r.l, s.m.f, s.m.l]) := hide rfl
  clear e0 e1 e2 e3 e4 e5 e6 e7 e8
  generalize slN s = NN at *
  generalize slV s = cs at *
  generalize s.sc = x0 at *
  generalize s.j = x1 at *
  generalize s.t = x2 at *
  generalize s.g = x3 at *
  generalize s.s = x4 at *
  generalize s.r.f = x5 at *
  generalize s.r.l = x6 at *
  generalize s.m.f = x7 at *
  generalize s.m.l = x8 at *
  clear hs
  have hbld := bld9 x0 x1 x2 x3 x4 x5 x6 x7 x8
  have hinf : (Tryd.prog.info? 67).map (·.size) = some (nV [x0, x1, x2, x3, x4, x5, x6, x7, x8]).length := info9z
  have hlen : z9.length = (nV [x0, x1, x2, x3, x4, x5, x6, x7, x8]).length := rfl
  have hone := nV_one [x0, x1, x2, x3, x4, x5, x6, x7, x8]
  go_enter Tryd.func23, Tryd.ntmps23
  go_wp2_with (first
    | (refine wpList_boxJ rfl 32 (.tmp 0) rfl rfl ?_; intro w1 hA hb hsz
       obtain ⟨hc, hb2⟩ := unhide HF w1 hA hb hsz
       obtain ⟨e0, e1, e2, e3, e4, e5, e6, e7, e8⟩ := HE.out
       have c0 := hc 0 _ e0
       have c1 := hc 1 _ e1
       have c2 := hc 2 _ e2
       have c3 := hc 3 _ e3
       have c4 := hc 4 _ e4
       have c5 := hc 69 _ e5
       have c6 := hc 70 _ e6
       have c7 := hc 103 _ e7
       have c8 := hc 104 _ e8
       have HB2 := hide hb2
       have HNW := hide (Arr.new w1 z9 67)
       have HSZ := hide hsz
       clear hA hb hc hb2 e0 e1 e2 e3 e4 e5 e6 e7 e8 hsz)
    | (refine wpList_allocJ rfl 67 rfl info9 ?_; generalize w1.alloc (.cells z9.toArray 67) = w2 at *)
    | (refine wpList_storeJ rfl (.tmp 2) (.tmp 25) 67 rfl rfl (ds := nV [x0, x1, x2, x3, x4, x5, x6, x7, x8]) rfl HNW.out hinf hlen hone ?_; intro w3 hA3 hg3)
    | fail)
  have HB3 := hide (jbelow_grown HB2.out hg3 HB2.out.size (by rw [HSZ.out]; exact Nat.le_succ _))
  have hA4 : Arr w3 w1.heap.size 67 (nV [x0, x1, x2, x3, x4, x5, x6, x7, x8]) := hA3
  refine bodyPost_ret (results_rowJ rfl rfl hA4 Tryd.underlying67 rfl hinf) rfl ?_
  exact ⟨by rw [HN.out], HB3.out⟩
end Go.Proofs.YtpeopejnkbmcdaaDoor

namespace Go.Proofs.YtpeopejnkbmcdaaDoor
open Go.RowKit Go.Maps

theorem E8.neT {w1 W : World} {B : Nat} {u : Value} {xs : List Int} (h : E8 w1 W B u xs) {g : Nat} {t : TypeId} {cs : List Value} (hA : Arr W g t cs) (ht : t ≠ 5) : some g ≠ u.ownBlock := fun e => by
  rcases h.1.1.2 with ⟨rfl, _⟩ | ⟨g', cap, cur, rfl, _, hgg, _⟩
  · cases e
  · simp only [Value.ownBlock, Option.some.injEq] at e
    subst e
    unfold Arr at hA
    rw [hgg] at hA
    simp only [Option.some.injEq, Obj.cells.injEq] at hA
    exact ht hA.2.1.symm
theorem sdrewN (w : World) (n : Nat) : Below w.heap.size w (w.drewN n) := ⟨rfl, rfl, rfl, Nat.le_refl _, fun _ _ => rfl⟩
theorem fBs_take {n k : Nat} {l : List Int} (hk : k < l.length) : fBs n (l.take (k + 1)) = fBs n (l.take k) ++ fB (l.getD k 0) n := by
  rw [List.take_succ_eq_append_getElem hk, fBs_snoc, List.getD_eq_getElem?_getD, List.getElem?_eq_getElem hk]
  rfl
set_option maxRecDepth 100000 in
set_option maxHeartbeats 2000000 in
theorem addNs_calls {w1 w : World} {B n g o c : Nat} {t : TypeId} {cs : List Value} {v : Value} {xs Vs : List Int} (h : E8 w1 w B v xs) (hA : Arr w g t cs) (ht : t ≠ 5) (hcs : ∀ j, j < Vs.length → cs[o + j]? = some (.int .i64 (Vs.getD j 0))) (hV : ∀ V ∈ Vs, 0 ≤ V ∧ V < 2 ^ (8 * n) ∧ V ≤ 9223372036854775807) (h1 : 1 ≤ n) (h8 : n ≤ 8) (hl : xs.length ≤ 100000) (hVl : Vs.length ≤ 16) (_hc : Vs.length ≤ c) (_hcm : c ≤ 1000000) :
    Calls Tryd.prog 24 #[v, .int .i64 (n : Int), .slice (some ⟨g, o, none⟩) Vs.length c] w fun e w' => ∃ v', e = .returned v' ∧ E8 w1 w' B v' (xs ++ fBs n Vs) ∧ Arr w' g t cs := by
  obtain ⟨va, vc, rfl⟩ := h.shape
  have HE0 : Hid (E8 w1 w B (.slice va xs.length vc) (xs ++ fBs n (Vs.take 0))) := hide (by rw [List.take_zero]; show E8 _ _ _ _ (xs ++ []); rw [List.append_nil]; exact h)
  have HA0 := hide hA
  have HCS := hide hcs
  have HV := hide hV
  have HALL : Hid (fBs n (Vs.take Vs.length) = fBs n Vs) := hide (by rw [List.take_length])
  have HST : Hid (∀ k, k < Vs.length → xs ++ fBs n (Vs.take k) ++ fB (Vs.getD k 0) n = xs ++ fBs n (Vs.take (k + 1))) := hide (fun k hk => by rw [fBs_take hk, List.append_assoc])
  have HLX : Hid (∀ k, (xs ++ fBs n (Vs.take k)).length ≤ 110000) := hide (fun k => by
    rw [List.length_append, fBs_len]
    have : (Vs.take k).length ≤ 16 := by rw [List.length_take]; omega
    have := Nat.mul_le_mul h8 this
    omega)
  have HM : Hid (∀ k, k < Vs.length → Vs.getD k 0 ∈ Vs) := hide (fun k hk => getD_mem hk)
  clear h hA hcs hV
  generalize hm : Vs.length = m at *
  generalize hxn : xs.length = xn at *
  clear hm hxn
  go_enter Tryd.func24, Tryd.ntmps24
  go_wp2_with fail
  go_loopw [0, 13] (fun bv i W => ∃ (k mm cc : Nat) (a : Option Addr), k ≤ m ∧ i = .int .i64 k ∧ bv = .slice a mm cc ∧ Hid (E8 w1 W B bv (xs ++ fBs n (Vs.take k))) ∧ Hid (Arr W g t cs)) (fun _ i _ => m - (intOf i).toNat)
  case atStart => exact ⟨0, _, _, _, Nat.zero_le _, rfl, rfl, HE0, HA0⟩
  case round =>
    clear HE0 HA0
    obtain ⟨k, mm, cc, a, hk, rfl, rfl, HE, HA⟩ := hrel
    by_cases hlt : k < m
    · have hcl : wr.cell? ⟨g, o + k, none⟩ = some (.int .i64 (Vs.getD k 0)) := (HA.out.cell _).trans (unhide HCS k hlt)
      obtain ⟨v0, v1, v2⟩ := unhide HV _ (unhide HM k hlt)
      have HSTK := hide (unhide HST k hlt)
      have HLK := hide (unhide HLX k)
      generalize Vs.getD k 0 = V at *
      generalize xs ++ fBs n (Vs.take k) = ys at *
      have hwv : IntKind.u64.wrap V = V := by rw [IntKind.wrap_u64]; omega
      have HF := hide (fixed_in V n wr v0 h1 h8 (fits_no v0 v1))
      clear v0 v1 v2
      go_wp2_with fail
      refine (unhide HF).mono ?_
      rintro e w2 ⟨u, rfl, hr, hb⟩
      have ho1 : Own8 w2 wr.heap.size u (fB V n) := ⟨by rw [fB_len]; exact hr, fun x hx => fB_bytes V n x hx⟩
      obtain ⟨ua, un, uc, rfl⟩ := ho1.shape
      have hE2 := HE.out.below hb
      have HI := hide ho1.isB
      have HA2 := hide (HA.out.below hb)
      have HE2 := hide hE2
      have hll : ys.length + (fB V n).length ≤ 140737488355328 := by rw [fB_len]; have := HLK.out; omega
      clear HF hr hb ho1 hE2 HE HA
      go_wp2_with (first
        | (at_builtin; refine wpList_appB rfl (.tmp 24) (.tmp 25) rfl rfl HE2.out.1 rfl HI.out hll HE2.out.2.1 ?_; intro v3 w3 ho3 hg3
           have HA3 := hide (arr_grown HA2.out hg3 (HE2.out.neT HA2.out ht))
           have hE3 := HE2.out.app ho3 hg3
           rw [HSTK.out] at hE3
           obtain ⟨a3, n3, c3, rfl⟩ := ho3.shape
           have HE3 := hide hE3
           clear ho3 hg3 hE3 HA2 HE2 HI)
        | fail)
      go_roundw
      case rel => exact ⟨k + 1, _, _, _, by omega, by go_num, rfl, HE3, HA3⟩
      case measure => simp [intOf]; omega
    · have HKM : Hid (k = m) := hide (by omega)
      have HE9 : Hid (E8 w1 wr B (.slice a mm cc) (xs ++ fBs n Vs)) := hide (by have := HE.out; rw [HKM.out, HALL.out] at this; exact this)
      clear HE
      go_wp2
      go_ret
      exact ⟨_, rfl, HE9.out, HA.out⟩
/-- May a chain's First and Len be? -/
def fitB (sc j f l : Int) : Bool := decide (2 + j ≤ f ∧ f ≤ sc - 1) && decide (0 ≤ l ∧ l ≤ 1048576)
set_option maxRecDepth 100000 in
set_option maxHeartbeats 2000000 in
theorem chainMay_calls {w : World} {s : SL} {g o c : Nat} {t : TypeId} {cs : List Value} {f l : Int} (h0 : 2 ≤ s.sc) (h1 : s.sc ≤ 65536) (h2 : 8 ≤ s.j) (h3 : s.j ≤ 1024) (hA : Arr w g t cs) (hf : cs[o]? = some (.int .i64 f)) (hl : cs[o + 1]? = some (.int .i64 l)) (_hc : 2 ≤ c) (_hcm : c ≤ 1000000) :
    Calls Tryd.prog 41 #[.agg (slV s).toArray, .slice (some ⟨g, o, none⟩) 2 c] w fun e w' => e = .returned (.bool (fitB s.sc s.j f l)) ∧ Below w.heap.size w w' := by
  have HF : Hid (∀ w1, Arr w1 w.heap.size 32 (slV s) → Below w.heap.size w w1 → (w1.cell? ⟨w.heap.size, 0, none⟩ = some (.int .i64 s.sc) ∧ w1.cell? ⟨w.heap.size, 1, none⟩ = some (.int .i64 s.j) ∧ w1.cell? ⟨g, o, none⟩ = some (.int .i64 f) ∧ w1.cell? ⟨g, o + 1, none⟩ = some (.int .i64 l))) := hide (fun w1 hA1 hb => by
    obtain ⟨e0, e1, _⟩ := slV_at s
    exact ⟨(hA1.cell 0).trans e0, (hA1.cell 1).trans e1, ((hA.below hb).cell _).trans hf, ((hA.below hb).cell _).trans hl⟩)
  have HR : Hid (fitB s.sc s.j f l = (decide (2 + s.j ≤ f ∧ f ≤ s.sc - 1) && decide (0 ≤ l ∧ l ≤ 1048576))) := hide rfl
  generalize fitB s.sc s.j f l = FB at *
  generalize slV s = cs1 at *
  generalize s.sc = x0 at *
  generalize s.j = x1 at *
  clear hA hf hl
  have ea : IntKind.i64.wrap (2 + x1) = 2 + x1 := IntWalk.i64_in _ (by omega)
  have eb : IntKind.i64.wrap (x0 - 1) = x0 - 1 := IntWalk.i64_in _ (by omega)
  obtain ⟨lo, hlo⟩ : ∃ lo, lo = 2 + x1 := ⟨_, rfl⟩
  obtain ⟨hi, hhi⟩ : ∃ lo, lo = x0 - 1 := ⟨_, rfl⟩
  rw [← hlo] at ea HR
  rw [← hhi] at eb HR
  have HW : Hid (∀ W, Calls Tryd.prog 40 #[.int .i64 f, .int .i64 lo, .int .i64 hi] W fun e w' => e = .returned (.bool (decide (lo ≤ f ∧ f ≤ hi))) ∧ w' = W) := hide (fun W => within_calls W f lo hi)
  have HW2 : Hid (∀ W, Calls Tryd.prog 40 #[.int .i64 l, .int .i64 0, .int .i64 1048576] W fun e w' => e = .returned (.bool (decide (0 ≤ l ∧ l ≤ 1048576))) ∧ w' = W) := hide (fun W => within_calls W l 0 1048576)
  rw [hlo] at ea
  rw [hhi] at eb
  have ea' : 2 + x1 = lo := hlo.symm
  have eb' : x0 - 1 = hi := hhi.symm
  clear hlo hhi
  generalize decide (lo ≤ f ∧ f ≤ hi) = p at *
  generalize decide (0 ≤ l ∧ l ≤ 1048576) = q at *
  go_enter Tryd.func41, Tryd.ntmps41
  go_wp2_with (first
    | (refine wpList_boxJ rfl 32 (.tmp 0) rfl rfl ?_; intro w1 hA1 hb1 hs1
       obtain ⟨c0, c1, c2, c3⟩ := unhide HF w1 hA1 hb1
       have HB1 := hide hb1
       clear hA1 hb1 hs1)
    | fail)
  go_quiet (fail)
  go_wp2_with fail
  have HB2 := hide (below_then HB1.out (sdrewN w1 nq))
  refine (unhide HW _).mono ?_
  rintro e w2 ⟨rfl, hw2⟩
  obtain rfl := hw2.symm
  clear hw2
  cases p with
  | false =>
    go_wp2
    go_ret
    exact ⟨by rw [HR.out]; rfl, HB2.out⟩
  | true =>
    go_wp2_with fail
    refine (unhide HW2 _).mono ?_
    rintro e w2 ⟨rfl, hw2⟩
    obtain rfl := hw2.symm
    clear hw2
    go_wp2
    go_ret
    exact ⟨by rw [HR.out]; rfl, HB2.out⟩
theorem fitB_iff (sc j : Int) (r : JF) : fitB sc j r.f r.l = true ↔ fitF sc j r := by
  unfold fitB fitF
  simp [and_assoc]
theorem smin_two {w : World} (ts : Array TypeId) (t : TypeId) (k k' : IntKind) (x y : Int) : (Builtin.min_ ts t #[.int k x, .int k' y]).run Tryd.prog w = .ok (.int k (min x y)) w := by
  have : (Builtin.min_ ts t #[.int k x, .int k' y]).run Tryd.prog w = .ok (.int k (if y < x then y else x)) w := by simp [Builtin.min_, Builtin.min2]
  rw [this]
  congr 2
  by_cases h : y < x
  · rw [if_pos h]; omega
  · rw [if_neg h]; omega
section
variable {s : SL}
theorem may_sc (h : ¬ (2 ≤ s.sc ∧ s.sc ≤ 65536)) : s.may = false := SL.may_no fun hm => h ⟨hm.sc0, hm.sc1⟩
theorem may_j (h : ¬ (8 ≤ s.j ∧ s.j ≤ min 1024 (s.sc - 4))) : s.may = false := SL.may_no fun hm => h ⟨hm.j0, by have := hm.j1; have := hm.js; omega⟩
theorem may_cnt {k : Nat} (hk : k < 3) (h : ¬ (0 ≤ [s.t, s.g, s.s].getD k 0 ∧ [s.t, s.g, s.s].getD k 0 ≤ 1099511627776)) : s.may = false := SL.may_no fun hm => h (by
  match k, hk with
  | 0, _ => exact hm.t
  | 1, _ => exact hm.g
  | 2, _ => exact hm.s)
theorem may_all (h0 : 2 ≤ s.sc ∧ s.sc ≤ 65536) (h1 : 8 ≤ s.j ∧ s.j ≤ min 1024 (s.sc - 4)) (h2 : ∀ k, k < 3 → 0 ≤ [s.t, s.g, s.s].getD k 0 ∧ [s.t, s.g, s.s].getD k 0 ≤ 1099511627776) : s.may = (fitB s.sc s.j s.r.f s.r.l && fitB s.sc s.j s.m.f s.m.l) := by
  have key : s.may = true ↔ (fitB s.sc s.j s.r.f s.r.l && fitB s.sc s.j s.m.f s.m.l) = true := by
    rw [SL.may_iff, Bool.and_eq_true, fitB_iff, fitB_iff]
    refine ⟨fun hm => ⟨hm.r, hm.m⟩, fun ⟨hr, hm⟩ => ⟨h0.1, h0.2, h1.1, by omega, by omega, h2 0 (by decide), h2 1 (by decide), h2 2 (by decide), hr, hm⟩⟩
  cases h : s.may with
  | true => exact ((key.1 h).symm)
  | false =>
    cases h' : (fitB s.sc s.j s.r.f s.r.l && fitB s.sc s.j s.m.f s.m.l) with
    | false => rfl
    | true => rw [key.2 h'] at h; cases h
end
end Go.Proofs.YtpeopejnkbmcdaaDoor

namespace Go.Proofs.YtpeopejnkbmcdaaDoor
open Go.RowKit Go.Maps

theorem nroot_enter (v : Value) (W : World) : (callFunc 27 #[v]).run Tryd.prog W = .ok (.enter 27 #[v]) W := by kernel_rfl
theorem nmemo_enter (v : Value) (W : World) : (callFunc 28 #[v]).run Tryd.prog W = .ok (.enter 28 #[v]) W := by kernel_rfl
theorem chmay_enter (v u : Value) (W : World) : (callFunc 41 #[v, u]).run Tryd.prog W = .ok (.enter 41 #[v, u]) W := by kernel_rfl
theorem nV_get (s : SL) {k : Nat} (hk : k < 3) : (nV (slN s))[2 + k]? = some (.int .i64 ([s.t, s.g, s.s].getD k 0)) := by
  match k, hk with
  | 0, _ => rfl
  | 1, _ => rfl
  | 2, _ => rfl
set_option maxRecDepth 100000 in
set_option maxHeartbeats 4000000 in
theorem mayBe_lo {w : World} {s : SL} (hs : s.Ok) (hcase : s.sc - 4 < 1024) : Calls Tryd.prog 22 #[.agg (slV s).toArray] w fun e w' => e = .returned (.bool s.may) ∧ Below w.heap.size w w' := by
  have HF : Hid (∀ w1, Arr w1 w.heap.size 32 (slV s) → (w1.cell? ⟨w.heap.size, 0, none⟩ = some (.int .i64 s.sc) ∧ w1.cell? ⟨w.heap.size, 1, none⟩ = some (.int .i64 s.j))) := hide (fun w1 hA1 => by
    obtain ⟨e0, e1, _⟩ := slV_at s
    exact ⟨(hA1.cell 0).trans e0, (hA1.cell 1).trans e1⟩)
  by_cases ha : 2 ≤ s.sc ∧ s.sc ≤ 65536
  case neg =>
    have HR := hide (may_sc ha)
    have HW : Hid (∀ W, Calls Tryd.prog 40 #[.int .i64 s.sc, .int .i64 2, .int .i64 65536] W fun e w' => e = .returned (.bool false) ∧ w' = W) := hide (fun W => by have := within_calls W s.sc 2 65536; rw [decide_eq_false ha] at this; exact this)
    generalize s.may = rr at *
    generalize slV s = cs1 at *
    generalize s.sc = x0 at *
    generalize s.j = x1 at *
    clear hs ha hcase
    go_enter Tryd.func22, Tryd.ntmps22
    go_wp2_with (first
      | (refine wpList_boxJ rfl 32 (.tmp 0) rfl rfl ?_; intro w1 hA1 hb1 hs1
         obtain ⟨c0, c1⟩ := unhide HF w1 hA1
         have HB1 := hide hb1
         clear hA1 hb1 hs1)
      | fail)
    refine (unhide HW _).mono ?_
    rintro e w2 ⟨rfl, hw2⟩
    obtain rfl := hw2.symm
    clear hw2
    go_wp2
    go_ret
    exact ⟨by rw [HR.out]; rfl, HB1.out⟩
  have HW0 : Hid (∀ W, Calls Tryd.prog 40 #[.int .i64 s.sc, .int .i64 2, .int .i64 65536] W fun e w' => e = .returned (.bool true) ∧ w' = W) := hide (fun W => by have := within_calls W s.sc 2 65536; rw [decide_eq_true ha] at this; exact this)
  obtain ⟨y0, hy0⟩ : ∃ y, s.sc - 2 = y := ⟨_, rfl⟩
  obtain ⟨y1, hy1⟩ : ∃ y, y0 - 2 = y := ⟨_, rfl⟩
  have ey0 : IntKind.i64.wrap y0 = y0 := IntWalk.i64_in _ (by omega)
  have ey1 : IntKind.i64.wrap y1 = y1 := IntWalk.i64_in _ (by omega)
  have hq : y1 < 1024 := by omega
  have hqd : decide (y1 < 1024) = true := by simp; omega
  have hmq : min 1024 (s.sc - 4) = y1 := by omega
  by_cases hj : 8 ≤ s.j ∧ s.j ≤ y1
  case neg =>
    have HR := hide (may_j (s := s) (by rw [hmq]; exact hj))
    have HW : Hid (∀ W, Calls Tryd.prog 40 #[.int .i64 s.j, .int .i64 8, .int .i64 y1] W fun e w' => e = .returned (.bool false) ∧ w' = W) := hide (fun W => by have := within_calls W s.j 8 y1; rw [decide_eq_false hj] at this; exact this)
    generalize s.may = rr at *
    generalize slV s = cs1 at *
    generalize s.sc = x0 at *
    generalize s.j = x1 at *
    clear hs ha hj hmq hcase
    go_enter Tryd.func22, Tryd.ntmps22
    go_wp2_with (first
      | (refine wpList_boxJ rfl 32 (.tmp 0) rfl rfl ?_; intro w1 hA1 hb1 hs1
         obtain ⟨c0, c1⟩ := unhide HF w1 hA1
         have HB1 := hide hb1
         clear hA1 hb1 hs1)
      | fail)
    refine (unhide HW0 _).mono ?_
    rintro e w2 ⟨rfl, hw2⟩
    obtain rfl := hw2.symm
    clear hw2
    go_wp2_with fail
    refine (unhide HW _).mono ?_
    rintro e w2 ⟨rfl, hw2⟩
    obtain rfl := hw2.symm
    clear hw2
    go_wp2
    go_ret
    exact ⟨by rw [HR.out]; rfl, HB1.out⟩
  have HW1 : Hid (∀ W, Calls Tryd.prog 40 #[.int .i64 s.j, .int .i64 8, .int .i64 y1] W fun e w' => e = .returned (.bool true) ∧ w' = W) := hide (fun W => by have := within_calls W s.j 8 y1; rw [decide_eq_true hj] at this; exact this)
  have HALL := hide (fun h2 => may_all (s := s) ha (by rw [hmq]; exact hj) h2)
  have HCNT := hide (fun (k : Nat) (hk : k < 3) => may_cnt (s := s) hk)
  have HNO : Hid (∀ W, Calls Tryd.prog 23 #[.agg (slV s).toArray] W fun e w' => e = .returned (.agg (nV (slN s)).toArray) ∧ Below W.heap.size W w') := hide (fun W => numbersOf_calls hs)
  have HGET := hide (fun k (hk : k < 3) => nV_get s hk)
  have HC1 : Hid (∀ W g, Arr W g 67 (nV (slN s)) → Calls Tryd.prog 41 #[.agg (slV s).toArray, .slice (some ⟨g, 5, none⟩) 2 4] W fun e w' => e = .returned (.bool (fitB s.sc s.j s.r.f s.r.l)) ∧ Below W.heap.size W w') := hide (fun W g hA => chainMay_calls ha.1 ha.2 hj.1 (by omega) hA rfl rfl (by decide) (by decide))
  have HC2 : Hid (∀ W g, Arr W g 67 (nV (slN s)) → Calls Tryd.prog 41 #[.agg (slV s).toArray, .slice (some ⟨g, 7, none⟩) 2 2] W fun e w' => e = .returned (.bool (fitB s.sc s.j s.m.f s.m.l)) ∧ Below W.heap.size W w') := hide (fun W g hA => chainMay_calls ha.1 ha.2 hj.1 (by omega) hA rfl rfl (by decide) (by decide))
  have hinfS := infoSof hs
  have hinf9 : (Tryd.prog.info? 67).map (·.size) = some (nV (slN s)).length := info9z
  have hlen9 : z9.length = (nV (slN s)).length := rfl
  have hone9 := nV_one (slN s)
  generalize s.may = rr at *
  generalize slV s = cs1 at *
  generalize nV (slN s) = ns at *
  generalize fitB s.sc s.j s.r.f s.r.l = p at *
  generalize fitB s.sc s.j s.m.f s.m.l = q at *
  generalize s.sc = x0 at *
  generalize s.j = x1 at *
  generalize [s.t, s.g, s.s] = cn at *
  clear hs ha hj hmq hcase
  go_enter Tryd.func22, Tryd.ntmps22
  go_wp2_with (first
    | (refine wpList_boxJ rfl 32 (.tmp 0) rfl rfl ?_; intro w1 hA1 hb1 hs1
       obtain ⟨c0, c1⟩ := unhide HF w1 hA1
       have hrg := hA1.rangeJ
       have HB1 := hide hb1
       have HA1 := hide hA1
       clear hA1 hb1 hs1)
    | fail)
  refine (unhide HW0 _).mono ?_
  rintro e w2 ⟨rfl, hw2⟩
  obtain rfl := hw2.symm
  clear hw2
  go_wp2_with fail
  refine (unhide HW1 _).mono ?_
  rintro e w2 ⟨rfl, hw2⟩
  obtain rfl := hw2.symm
  clear hw2
  go_wp2_with (first
    | (refine wpList_loadJ rfl 32 (.tmp 1) rfl _ 0 rfl cs1 _ hrg Tryd.underlying32 rfl hinfS ?_)
    | fail)
  refine (unhide HNO _).mono ?_
  rintro e w3 ⟨rfl, hb3⟩
  have hA3 := HA1.out.below hb3
  have hbw3 := below_then HB1.out hb3
  have HX : Hid (∀ w4, Arr w4 w3.heap.size 67 ns → (w3.alloc (.cells z9.toArray 67)).grownBy w4 (some w3.heap.size) → Arr w4 w.heap.size 32 cs1 ∧ Below w.heap.size w w4) := hide (fun w4 hA4 hg4 => by
    have hba := jalloc_below w3 (.cells z9.toArray 67)
    have hlt := hA3.lt
    exact ⟨arr_grown (hA3.below hba) hg4 (by simp; omega), jbelow_grown (below_then hbw3 hba) hg4 (Nat.le_trans hbw3.size hba.size) hbw3.size⟩)
  clear HNO HA1 HB1 hA3 hbw3 hrg hb3 c0 c1
  go_wp2_with (first
    | (refine wpList_allocJ rfl 67 rfl info9 ?_)
    | (refine wpList_storeJ rfl (.tmp 3) (.tmp 20) 67 rfl rfl rfl (Arr.new w3 z9 67) hinf9 hlen9 hone9 ?_; intro w4 hA4 hg4
       obtain ⟨hAs, hbw⟩ := unhide HX w4 hA4 hg4
       have HA4 := hide hA4
       have HAS := hide hAs
       have HBW := hide hbw
       have HCO := hide (counts_calls w4 w3.heap.size)
       clear hA4 hg4 hAs hbw HX)
    | fail)
  generalize w3.heap.size = g3 at *
  refine (unhide HCO).mono ?_
  rintro e w2 ⟨rfl, hw2⟩
  obtain rfl := hw2.symm
  clear hw2 HCO
  go_wp2_with fail
  go_loopw [23] (fun i W => ∃ k : Nat, k ≤ 3 ∧ i = .int .i64 k ∧ W = w4 ∧ Hid (∀ j, j < k → 0 ≤ cn.getD j 0 ∧ cn.getD j 0 ≤ 1099511627776)) (fun i _ => 3 - (intOf i).toNat)
  case atStart => exact ⟨0, by decide, rfl, rfl, hide (fun j hj => by omega)⟩
  case round =>
    obtain ⟨k, hk, rfl, rfl, HT⟩ := hrel
    by_cases hlt : k < 3
    · have hcl : wr.cell? ⟨g3, 2 + k, none⟩ = some (.int .i64 (cn.getD k 0)) := (HA4.out.cell _).trans (unhide HGET k hlt)
      by_cases hc : 0 ≤ cn.getD k 0 ∧ cn.getD k 0 ≤ 1099511627776
      · have HT2 : Hid (∀ j, j < k + 1 → 0 ≤ cn.getD j 0 ∧ cn.getD j 0 ≤ 1099511627776) := hide (fun j hj => by
          by_cases e : j = k
          · subst e; exact hc
          · exact unhide HT j (by omega))
        have HW : Hid (Calls Tryd.prog 40 #[.int .i64 (cn.getD k 0), .int .i64 0, .int .i64 1099511627776] wr fun e w' => e = .returned (.bool true) ∧ w' = wr) := hide (by have := within_calls wr (cn.getD k 0) 0 1099511627776; rw [decide_eq_true hc] at this; exact this)
        generalize cn.getD k 0 = V at *
        clear hc HT
        go_wp2_with fail
        refine (unhide HW).mono ?_
        rintro e w2 ⟨rfl, hw2⟩
        obtain rfl := hw2.symm
        clear hw2
        go_wp2
        go_roundw
        case rel => exact ⟨k + 1, by omega, by go_num, trivial, HT2⟩
        case measure => simp [intOf]; omega
      · have HR := hide (unhide HCNT k hlt hc)
        have HW : Hid (Calls Tryd.prog 40 #[.int .i64 (cn.getD k 0), .int .i64 0, .int .i64 1099511627776] wr fun e w' => e = .returned (.bool false) ∧ w' = wr) := hide (by have := within_calls wr (cn.getD k 0) 0 1099511627776; rw [decide_eq_false hc] at this; exact this)
        generalize cn.getD k 0 = V at *
        clear hc HT
        go_wp2_with fail
        refine (unhide HW).mono ?_
        rintro e w2 ⟨rfl, hw2⟩
        obtain rfl := hw2.symm
        clear hw2
        go_wp2
        go_ret
        exact ⟨by rw [HR.out]; rfl, HBW.out⟩
    · have HR := hide (unhide HALL (fun j hj => unhide HT j (by omega)))
      clear HT HALL HCNT HGET
      have HS : Hid (∀ W, Below wr.heap.size wr W → W.rangeAt w.heap.size 0 cs1 ∧ Arr W g3 67 ns) := hide (fun W hW => ⟨(HAS.out.below hW).rangeJ, HA4.out.below hW⟩)
      go_wp2_with fail
      cases p with
      | false =>
        have HBD := hide ((Below.refl wr.heap.size wr).drew)
        refine wp_region_held_drew (S := fun W => W.rangeAt w.heap.size 0 cs1 ∧ Arr W g3 67 ns) (by kernel_rfl) (unhide HS _ HBD.out) (fun hHeld => ?_)
        refine wpAnyH_take (i := 0) (v := .agg (cs1).toArray) rfl (by kernel_rfl) (by kernel_rfl) (by kernel_rfl) (fun _ _ _ h => h) (yieldsIf_load_mid (by rfl) _ _ rfl _ _ rfl _ _ (fun w hSw => hSw.1) Tryd.underlying32 rfl hinfS) (by assumption) ?_
        simp only [List.getElem_toArray, List.getElem_cons_zero, Act.put, List.setIfInBounds_toArray, List.set_cons_zero, List.set_cons_succ]
        refine wpAnyH_ready (rs := [1]) (by kernel_rfl) (by simp) (AllReadyH.cons rfl (fun K hK => ?_) AllReadyH.nil)
        refine step_call1J (by rfl) 27 nroot_enter (.tmp 3) _ rfl rfl (root_calls _ _) ?_
        rintro e wn ⟨rfl, hwn⟩
        obtain rfl := hwn.symm
        clear hwn
        refine ⟨_, rfl, ?_⟩
        refine hK.out _ _ (unhide HS _ HBD.out) (fun hJ1 => ?_)
        clear hK K
        simp only [List.getElem_toArray, List.getElem_cons_succ, List.getElem_cons_zero, Act.put, List.setIfInBounds_toArray, List.set_cons_zero, List.set_cons_succ]
        refine wpAnyH_ready (rs := [2]) (by kernel_rfl) (by simp) (AllReadyH.cons rfl (fun K hK => ?_) AllReadyH.nil)
        refine step_call2J (by rfl) 41 chmay_enter (.tmp 31) (.tmp 32) _ rfl rfl rfl (unhide HC1 _ _ (unhide HS _ HBD.out).2) ?_
        rintro e wa ⟨rfl, hbwa⟩
        have HBwa := hide (below_then HBD.out hbwa)
        clear hbwa
        refine ⟨_, rfl, ?_⟩
        refine hK.out _ _ (unhide HS _ HBwa.out) (fun hJ2 => ?_)
        clear hK K
        simp only [List.getElem_toArray, List.getElem_cons_succ, List.getElem_cons_zero, Act.put, List.setIfInBounds_toArray, List.set_cons_zero, List.set_cons_succ]
        refine wpAnyH_take (i := 3) (v := .bool false) rfl (by kernel_rfl) (by kernel_rfl) (by kernel_rfl) (fun _ _ _ h => h) (Or.inl ⟨by rfl, fun w hSw => by go_simp⟩) (by assumption) ?_
        simp only [List.getElem_toArray, List.getElem_cons_succ, List.getElem_cons_zero, Act.put, List.setIfInBounds_toArray, List.set_cons_zero, List.set_cons_succ]
        have HBZ := HBwa
        refine wpAnyH_take (i := 4) (v := undef) rfl (by kernel_rfl) (by kernel_rfl) (by kernel_rfl) (fun _ _ _ h => h) (Or.inr ⟨by rfl, rfl⟩) (by assumption) ?_
        simp only [List.getElem_toArray, List.getElem_cons_succ, List.getElem_cons_zero, Act.put, List.setIfInBounds_toArray, List.set_cons_zero, List.set_cons_succ]
        refine wpAnyH_take (i := 5) (v := undef) rfl (by kernel_rfl) (by kernel_rfl) (by kernel_rfl) (fun _ _ _ h => h) (Or.inr ⟨by rfl, rfl⟩) (by assumption) ?_
        simp only [List.getElem_toArray, List.getElem_cons_succ, List.getElem_cons_zero, Act.put, List.setIfInBounds_toArray, List.set_cons_zero, List.set_cons_succ]
        refine wpAnyH_take (i := 6) (v := undef) rfl (by kernel_rfl) (by kernel_rfl) (by kernel_rfl) (fun _ _ _ h => h) (Or.inr ⟨by rfl, rfl⟩) (by assumption) ?_
        simp only [List.getElem_toArray, List.getElem_cons_succ, List.getElem_cons_zero, Act.put, List.setIfInBounds_toArray, List.set_cons_zero, List.set_cons_succ]
        refine wpAnyH_take (i := 7) (v := .bool false) rfl (by kernel_rfl) (by kernel_rfl) (by kernel_rfl) (fun _ _ _ h => h) (Or.inl ⟨by rfl, fun w hSw => by go_simp⟩) (by assumption) ?_
        simp only [List.getElem_toArray, List.getElem_cons_succ, List.getElem_cons_zero, Act.put, List.setIfInBounds_toArray, List.set_cons_zero, List.set_cons_succ]
        refine wpAnyH_take (i := 8) (v := .bool false) rfl (by kernel_rfl) (by kernel_rfl) (by kernel_rfl) (fun _ _ _ h => h) (Or.inl ⟨by rfl, fun w hSw => by go_simp⟩) (by assumption) ?_
        simp only [List.getElem_toArray, List.getElem_cons_succ, List.getElem_cons_zero, Act.put, List.setIfInBounds_toArray, List.set_cons_zero, List.set_cons_succ]
        refine wpAnyH_done (by kernel_rfl) ?_ _
        go_wp2
        go_ret
        exact ⟨by rw [HR.out]; rfl, below_then HBW.out HBZ.out⟩
      | true =>
        have HBD := hide ((Below.refl wr.heap.size wr).drew)
        refine wp_region_held_drew (S := fun W => W.rangeAt w.heap.size 0 cs1 ∧ Arr W g3 67 ns) (by kernel_rfl) (unhide HS _ HBD.out) (fun hHeld => ?_)
        refine wpAnyH_take (i := 0) (v := .agg (cs1).toArray) rfl (by kernel_rfl) (by kernel_rfl) (by kernel_rfl) (fun _ _ _ h => h) (yieldsIf_load_mid (by rfl) _ _ rfl _ _ rfl _ _ (fun w hSw => hSw.1) Tryd.underlying32 rfl hinfS) (by assumption) ?_
        simp only [List.getElem_toArray, List.getElem_cons_zero, Act.put, List.setIfInBounds_toArray, List.set_cons_zero, List.set_cons_succ]
        refine wpAnyH_ready (rs := [1]) (by kernel_rfl) (by simp) (AllReadyH.cons rfl (fun K hK => ?_) AllReadyH.nil)
        refine step_call1J (by rfl) 27 nroot_enter (.tmp 3) _ rfl rfl (root_calls _ _) ?_
        rintro e wn ⟨rfl, hwn⟩
        obtain rfl := hwn.symm
        clear hwn
        refine ⟨_, rfl, ?_⟩
        refine hK.out _ _ (unhide HS _ HBD.out) (fun hJ1 => ?_)
        clear hK K
        simp only [List.getElem_toArray, List.getElem_cons_succ, List.getElem_cons_zero, Act.put, List.setIfInBounds_toArray, List.set_cons_zero, List.set_cons_succ]
        refine wpAnyH_ready (rs := [2]) (by kernel_rfl) (by simp) (AllReadyH.cons rfl (fun K hK => ?_) AllReadyH.nil)
        refine step_call2J (by rfl) 41 chmay_enter (.tmp 31) (.tmp 32) _ rfl rfl rfl (unhide HC1 _ _ (unhide HS _ HBD.out).2) ?_
        rintro e wa ⟨rfl, hbwa⟩
        have HBwa := hide (below_then HBD.out hbwa)
        clear hbwa
        refine ⟨_, rfl, ?_⟩
        refine hK.out _ _ (unhide HS _ HBwa.out) (fun hJ2 => ?_)
        clear hK K
        simp only [List.getElem_toArray, List.getElem_cons_succ, List.getElem_cons_zero, Act.put, List.setIfInBounds_toArray, List.set_cons_zero, List.set_cons_succ]
        refine wpAnyH_take (i := 3) (v := .bool true) rfl (by kernel_rfl) (by kernel_rfl) (by kernel_rfl) (fun _ _ _ h => h) (Or.inl ⟨by rfl, fun w hSw => by go_simp⟩) (by assumption) ?_
        simp only [List.getElem_toArray, List.getElem_cons_succ, List.getElem_cons_zero, Act.put, List.setIfInBounds_toArray, List.set_cons_zero, List.set_cons_succ]
        refine wpAnyH_take (i := 4) (v := .agg (cs1).toArray) rfl (by kernel_rfl) (by kernel_rfl) (by kernel_rfl) (fun _ _ _ h => h) (yieldsIf_load_mid (by rfl) _ _ rfl _ _ rfl _ _ (fun w hSw => hSw.1) Tryd.underlying32 rfl hinfS) (by assumption) ?_
        simp only [List.getElem_toArray, List.getElem_cons_succ, List.getElem_cons_zero, Act.put, List.setIfInBounds_toArray, List.set_cons_zero, List.set_cons_succ]
        refine wpAnyH_ready (rs := [5]) (by kernel_rfl) (by simp) (AllReadyH.cons rfl (fun K hK => ?_) AllReadyH.nil)
        refine step_call1J (by rfl) 28 nmemo_enter (.tmp 3) _ rfl rfl (memo_calls _ _) ?_
        rintro e wn ⟨rfl, hwn⟩
        obtain rfl := hwn.symm
        clear hwn
        refine ⟨_, rfl, ?_⟩
        refine hK.out _ _ (unhide HS _ HBwa.out) (fun hJ3 => ?_)
        clear hK K
        simp only [List.getElem_toArray, List.getElem_cons_succ, List.getElem_cons_zero, Act.put, List.setIfInBounds_toArray, List.set_cons_zero, List.set_cons_succ]
        refine wpAnyH_ready (rs := [6]) (by kernel_rfl) (by simp) (AllReadyH.cons rfl (fun K hK => ?_) AllReadyH.nil)
        refine step_call2J (by rfl) 41 chmay_enter (.tmp 35) (.tmp 36) _ rfl rfl rfl (unhide HC2 _ _ (unhide HS _ HBwa.out).2) ?_
        rintro e wb ⟨rfl, hbwb⟩
        have HBwb := hide (below_then HBwa.out hbwb)
        clear hbwb
        refine ⟨_, rfl, ?_⟩
        refine hK.out _ _ (unhide HS _ HBwb.out) (fun hJ4 => ?_)
        clear hK K
        simp only [List.getElem_toArray, List.getElem_cons_succ, List.getElem_cons_zero, Act.put, List.setIfInBounds_toArray, List.set_cons_zero, List.set_cons_succ]
        have HBZ := HBwb
        refine wpAnyH_take (i := 7) (v := .bool q) rfl (by kernel_rfl) (by kernel_rfl) (by kernel_rfl) (fun _ _ _ h => h) (Or.inl ⟨by rfl, fun w hSw => by go_simp⟩) (by assumption) ?_
        simp only [List.getElem_toArray, List.getElem_cons_succ, List.getElem_cons_zero, Act.put, List.setIfInBounds_toArray, List.set_cons_zero, List.set_cons_succ]
        refine wpAnyH_take (i := 8) (v := .bool q) rfl (by kernel_rfl) (by kernel_rfl) (by kernel_rfl) (fun _ _ _ h => h) (Or.inl ⟨by rfl, fun w hSw => by go_simp⟩) (by assumption) ?_
        simp only [List.getElem_toArray, List.getElem_cons_succ, List.getElem_cons_zero, Act.put, List.setIfInBounds_toArray, List.set_cons_zero, List.set_cons_succ]
        refine wpAnyH_done (by kernel_rfl) ?_ _
        go_wp2
        go_ret
        exact ⟨by rw [HR.out]; rfl, below_then HBW.out HBZ.out⟩
set_option maxRecDepth 100000 in
set_option maxHeartbeats 4000000 in
theorem mayBe_hi {w : World} {s : SL} (hs : s.Ok) (hcase : 1024 ≤ s.sc - 4) : Calls Tryd.prog 22 #[.agg (slV s).toArray] w fun e w' => e = .returned (.bool s.may) ∧ Below w.heap.size w w' := by
  have HF : Hid (∀ w1, Arr w1 w.heap.size 32 (slV s) → (w1.cell? ⟨w.heap.size, 0, none⟩ = some (.int .i64 s.sc) ∧ w1.cell? ⟨w.heap.size, 1, none⟩ = some (.int .i64 s.j))) := hide (fun w1 hA1 => by
    obtain ⟨e0, e1, _⟩ := slV_at s
    exact ⟨(hA1.cell 0).trans e0, (hA1.cell 1).trans e1⟩)
  by_cases ha : 2 ≤ s.sc ∧ s.sc ≤ 65536
  case neg =>
    have HR := hide (may_sc ha)
    have HW : Hid (∀ W, Calls Tryd.prog 40 #[.int .i64 s.sc, .int .i64 2, .int .i64 65536] W fun e w' => e = .returned (.bool false) ∧ w' = W) := hide (fun W => by have := within_calls W s.sc 2 65536; rw [decide_eq_false ha] at this; exact this)
    generalize s.may = rr at *
    generalize slV s = cs1 at *
    generalize s.sc = x0 at *
    generalize s.j = x1 at *
    clear hs ha hcase
    go_enter Tryd.func22, Tryd.ntmps22
    go_wp2_with (first
      | (refine wpList_boxJ rfl 32 (.tmp 0) rfl rfl ?_; intro w1 hA1 hb1 hs1
         obtain ⟨c0, c1⟩ := unhide HF w1 hA1
         have HB1 := hide hb1
         clear hA1 hb1 hs1)
      | fail)
    refine (unhide HW _).mono ?_
    rintro e w2 ⟨rfl, hw2⟩
    obtain rfl := hw2.symm
    clear hw2
    go_wp2
    go_ret
    exact ⟨by rw [HR.out]; rfl, HB1.out⟩
  have HW0 : Hid (∀ W, Calls Tryd.prog 40 #[.int .i64 s.sc, .int .i64 2, .int .i64 65536] W fun e w' => e = .returned (.bool true) ∧ w' = W) := hide (fun W => by have := within_calls W s.sc 2 65536; rw [decide_eq_true ha] at this; exact this)
  obtain ⟨y0, hy0⟩ : ∃ y, s.sc - 2 = y := ⟨_, rfl⟩
  obtain ⟨y1, hy1⟩ : ∃ y, y0 - 2 = y := ⟨_, rfl⟩
  have ey0 : IntKind.i64.wrap y0 = y0 := IntWalk.i64_in _ (by omega)
  have ey1 : IntKind.i64.wrap y1 = y1 := IntWalk.i64_in _ (by omega)
  have hq : 1024 ≤ y1 := by omega
  have hqd : decide (y1 < 1024) = false := by simp; omega
  have hmq : min 1024 (s.sc - 4) = 1024 := by omega
  by_cases hj : 8 ≤ s.j ∧ s.j ≤ 1024
  case neg =>
    have HR := hide (may_j (s := s) (by rw [hmq]; exact hj))
    have HW : Hid (∀ W, Calls Tryd.prog 40 #[.int .i64 s.j, .int .i64 8, .int .i64 1024] W fun e w' => e = .returned (.bool false) ∧ w' = W) := hide (fun W => by have := within_calls W s.j 8 1024; rw [decide_eq_false hj] at this; exact this)
    generalize s.may = rr at *
    generalize slV s = cs1 at *
    generalize s.sc = x0 at *
    generalize s.j = x1 at *
    clear hs ha hj hmq hcase
    go_enter Tryd.func22, Tryd.ntmps22
    go_wp2_with (first
      | (refine wpList_boxJ rfl 32 (.tmp 0) rfl rfl ?_; intro w1 hA1 hb1 hs1
         obtain ⟨c0, c1⟩ := unhide HF w1 hA1
         have HB1 := hide hb1
         clear hA1 hb1 hs1)
      | fail)
    refine (unhide HW0 _).mono ?_
    rintro e w2 ⟨rfl, hw2⟩
    obtain rfl := hw2.symm
    clear hw2
    go_wp2_with fail
    refine (unhide HW _).mono ?_
    rintro e w2 ⟨rfl, hw2⟩
    obtain rfl := hw2.symm
    clear hw2
    go_wp2
    go_ret
    exact ⟨by rw [HR.out]; rfl, HB1.out⟩
  have HW1 : Hid (∀ W, Calls Tryd.prog 40 #[.int .i64 s.j, .int .i64 8, .int .i64 1024] W fun e w' => e = .returned (.bool true) ∧ w' = W) := hide (fun W => by have := within_calls W s.j 8 1024; rw [decide_eq_true hj] at this; exact this)
  have HALL := hide (fun h2 => may_all (s := s) ha (by rw [hmq]; exact hj) h2)
  have HCNT := hide (fun (k : Nat) (hk : k < 3) => may_cnt (s := s) hk)
  have HNO : Hid (∀ W, Calls Tryd.prog 23 #[.agg (slV s).toArray] W fun e w' => e = .returned (.agg (nV (slN s)).toArray) ∧ Below W.heap.size W w') := hide (fun W => numbersOf_calls hs)
  have HGET := hide (fun k (hk : k < 3) => nV_get s hk)
  have HC1 : Hid (∀ W g, Arr W g 67 (nV (slN s)) → Calls Tryd.prog 41 #[.agg (slV s).toArray, .slice (some ⟨g, 5, none⟩) 2 4] W fun e w' => e = .returned (.bool (fitB s.sc s.j s.r.f s.r.l)) ∧ Below W.heap.size W w') := hide (fun W g hA => chainMay_calls ha.1 ha.2 hj.1 (by omega) hA rfl rfl (by decide) (by decide))
  have HC2 : Hid (∀ W g, Arr W g 67 (nV (slN s)) → Calls Tryd.prog 41 #[.agg (slV s).toArray, .slice (some ⟨g, 7, none⟩) 2 2] W fun e w' => e = .returned (.bool (fitB s.sc s.j s.m.f s.m.l)) ∧ Below W.heap.size W w') := hide (fun W g hA => chainMay_calls ha.1 ha.2 hj.1 (by omega) hA rfl rfl (by decide) (by decide))
  have hinfS := infoSof hs
  have hinf9 : (Tryd.prog.info? 67).map (·.size) = some (nV (slN s)).length := info9z
  have hlen9 : z9.length = (nV (slN s)).length := rfl
  have hone9 := nV_one (slN s)
  generalize s.may = rr at *
  generalize slV s = cs1 at *
  generalize nV (slN s) = ns at *
  generalize fitB s.sc s.j s.r.f s.r.l = p at *
  generalize fitB s.sc s.j s.m.f s.m.l = q at *
  generalize s.sc = x0 at *
  generalize s.j = x1 at *
  generalize [s.t, s.g, s.s] = cn at *
  clear hs ha hj hmq hcase
  go_enter Tryd.func22, Tryd.ntmps22
  go_wp2_with (first
    | (refine wpList_boxJ rfl 32 (.tmp 0) rfl rfl ?_; intro w1 hA1 hb1 hs1
       obtain ⟨c0, c1⟩ := unhide HF w1 hA1
       have hrg := hA1.rangeJ
       have HB1 := hide hb1
       have HA1 := hide hA1
       clear hA1 hb1 hs1)
    | fail)
  refine (unhide HW0 _).mono ?_
  rintro e w2 ⟨rfl, hw2⟩
  obtain rfl := hw2.symm
  clear hw2
  go_wp2_with fail
  refine (unhide HW1 _).mono ?_
  rintro e w2 ⟨rfl, hw2⟩
  obtain rfl := hw2.symm
  clear hw2
  go_wp2_with (first
    | (refine wpList_loadJ rfl 32 (.tmp 1) rfl _ 0 rfl cs1 _ hrg Tryd.underlying32 rfl hinfS ?_)
    | fail)
  refine (unhide HNO _).mono ?_
  rintro e w3 ⟨rfl, hb3⟩
  have hA3 := HA1.out.below hb3
  have hbw3 := below_then HB1.out hb3
  have HX : Hid (∀ w4, Arr w4 w3.heap.size 67 ns → (w3.alloc (.cells z9.toArray 67)).grownBy w4 (some w3.heap.size) → Arr w4 w.heap.size 32 cs1 ∧ Below w.heap.size w w4) := hide (fun w4 hA4 hg4 => by
    have hba := jalloc_below w3 (.cells z9.toArray 67)
    have hlt := hA3.lt
    exact ⟨arr_grown (hA3.below hba) hg4 (by simp; omega), jbelow_grown (below_then hbw3 hba) hg4 (Nat.le_trans hbw3.size hba.size) hbw3.size⟩)
  clear HNO HA1 HB1 hA3 hbw3 hrg hb3 c0 c1
  go_wp2_with (first
    | (refine wpList_allocJ rfl 67 rfl info9 ?_)
    | (refine wpList_storeJ rfl (.tmp 3) (.tmp 20) 67 rfl rfl rfl (Arr.new w3 z9 67) hinf9 hlen9 hone9 ?_; intro w4 hA4 hg4
       obtain ⟨hAs, hbw⟩ := unhide HX w4 hA4 hg4
       have HA4 := hide hA4
       have HAS := hide hAs
       have HBW := hide hbw
       have HCO := hide (counts_calls w4 w3.heap.size)
       clear hA4 hg4 hAs hbw HX)
    | fail)
  generalize w3.heap.size = g3 at *
  refine (unhide HCO).mono ?_
  rintro e w2 ⟨rfl, hw2⟩
  obtain rfl := hw2.symm
  clear hw2 HCO
  go_wp2_with fail
  go_loopw [23] (fun i W => ∃ k : Nat, k ≤ 3 ∧ i = .int .i64 k ∧ W = w4 ∧ Hid (∀ j, j < k → 0 ≤ cn.getD j 0 ∧ cn.getD j 0 ≤ 1099511627776)) (fun i _ => 3 - (intOf i).toNat)
  case atStart => exact ⟨0, by decide, rfl, rfl, hide (fun j hj => by omega)⟩
  case round =>
    obtain ⟨k, hk, rfl, rfl, HT⟩ := hrel
    by_cases hlt : k < 3
    · have hcl : wr.cell? ⟨g3, 2 + k, none⟩ = some (.int .i64 (cn.getD k 0)) := (HA4.out.cell _).trans (unhide HGET k hlt)
      by_cases hc : 0 ≤ cn.getD k 0 ∧ cn.getD k 0 ≤ 1099511627776
      · have HT2 : Hid (∀ j, j < k + 1 → 0 ≤ cn.getD j 0 ∧ cn.getD j 0 ≤ 1099511627776) := hide (fun j hj => by
          by_cases e : j = k
          · subst e; exact hc
          · exact unhide HT j (by omega))
        have HW : Hid (Calls Tryd.prog 40 #[.int .i64 (cn.getD k 0), .int .i64 0, .int .i64 1099511627776] wr fun e w' => e = .returned (.bool true) ∧ w' = wr) := hide (by have := within_calls wr (cn.getD k 0) 0 1099511627776; rw [decide_eq_true hc] at this; exact this)
        generalize cn.getD k 0 = V at *
        clear hc HT
        go_wp2_with fail
        refine (unhide HW).mono ?_
        rintro e w2 ⟨rfl, hw2⟩
        obtain rfl := hw2.symm
        clear hw2
        go_wp2
        go_roundw
        case rel => exact ⟨k + 1, by omega, by go_num, trivial, HT2⟩
        case measure => simp [intOf]; omega
      · have HR := hide (unhide HCNT k hlt hc)
        have HW : Hid (Calls Tryd.prog 40 #[.int .i64 (cn.getD k 0), .int .i64 0, .int .i64 1099511627776] wr fun e w' => e = .returned (.bool false) ∧ w' = wr) := hide (by have := within_calls wr (cn.getD k 0) 0 1099511627776; rw [decide_eq_false hc] at this; exact this)
        generalize cn.getD k 0 = V at *
        clear hc HT
        go_wp2_with fail
        refine (unhide HW).mono ?_
        rintro e w2 ⟨rfl, hw2⟩
        obtain rfl := hw2.symm
        clear hw2
        go_wp2
        go_ret
        exact ⟨by rw [HR.out]; rfl, HBW.out⟩
    · have HR := hide (unhide HALL (fun j hj => unhide HT j (by omega)))
      clear HT HALL HCNT HGET
      have HS : Hid (∀ W, Below wr.heap.size wr W → W.rangeAt w.heap.size 0 cs1 ∧ Arr W g3 67 ns) := hide (fun W hW => ⟨(HAS.out.below hW).rangeJ, HA4.out.below hW⟩)
      go_wp2_with fail
      cases p with
      | false =>
        have HBD := hide ((Below.refl wr.heap.size wr).drew)
        refine wp_region_held_drew (S := fun W => W.rangeAt w.heap.size 0 cs1 ∧ Arr W g3 67 ns) (by kernel_rfl) (unhide HS _ HBD.out) (fun hHeld => ?_)
        refine wpAnyH_take (i := 0) (v := .agg (cs1).toArray) rfl (by kernel_rfl) (by kernel_rfl) (by kernel_rfl) (fun _ _ _ h => h) (yieldsIf_load_mid (by rfl) _ _ rfl _ _ rfl _ _ (fun w hSw => hSw.1) Tryd.underlying32 rfl hinfS) (by assumption) ?_
        simp only [List.getElem_toArray, List.getElem_cons_zero, Act.put, List.setIfInBounds_toArray, List.set_cons_zero, List.set_cons_succ]
        refine wpAnyH_ready (rs := [1]) (by kernel_rfl) (by simp) (AllReadyH.cons rfl (fun K hK => ?_) AllReadyH.nil)
        refine step_call1J (by rfl) 27 nroot_enter (.tmp 3) _ rfl rfl (root_calls _ _) ?_
        rintro e wn ⟨rfl, hwn⟩
        obtain rfl := hwn.symm
        clear hwn
        refine ⟨_, rfl, ?_⟩
        refine hK.out _ _ (unhide HS _ HBD.out) (fun hJ1 => ?_)
        clear hK K
        simp only [List.getElem_toArray, List.getElem_cons_succ, List.getElem_cons_zero, Act.put, List.setIfInBounds_toArray, List.set_cons_zero, List.set_cons_succ]
        refine wpAnyH_ready (rs := [2]) (by kernel_rfl) (by simp) (AllReadyH.cons rfl (fun K hK => ?_) AllReadyH.nil)
        refine step_call2J (by rfl) 41 chmay_enter (.tmp 31) (.tmp 32) _ rfl rfl rfl (unhide HC1 _ _ (unhide HS _ HBD.out).2) ?_
        rintro e wa ⟨rfl, hbwa⟩
        have HBwa := hide (below_then HBD.out hbwa)
        clear hbwa
        refine ⟨_, rfl, ?_⟩
        refine hK.out _ _ (unhide HS _ HBwa.out) (fun hJ2 => ?_)
        clear hK K
        simp only [List.getElem_toArray, List.getElem_cons_succ, List.getElem_cons_zero, Act.put, List.setIfInBounds_toArray, List.set_cons_zero, List.set_cons_succ]
        refine wpAnyH_take (i := 3) (v := .bool false) rfl (by kernel_rfl) (by kernel_rfl) (by kernel_rfl) (fun _ _ _ h => h) (Or.inl ⟨by rfl, fun w hSw => by go_simp⟩) (by assumption) ?_
        simp only [List.getElem_toArray, List.getElem_cons_succ, List.getElem_cons_zero, Act.put, List.setIfInBounds_toArray, List.set_cons_zero, List.set_cons_succ]
        have HBZ := HBwa
        refine wpAnyH_take (i := 4) (v := undef) rfl (by kernel_rfl) (by kernel_rfl) (by kernel_rfl) (fun _ _ _ h => h) (Or.inr ⟨by rfl, rfl⟩) (by assumption) ?_
        simp only [List.getElem_toArray, List.getElem_cons_succ, List.getElem_cons_zero, Act.put, List.setIfInBounds_toArray, List.set_cons_zero, List.set_cons_succ]
        refine wpAnyH_take (i := 5) (v := undef) rfl (by kernel_rfl) (by kernel_rfl) (by kernel_rfl) (fun _ _ _ h => h) (Or.inr ⟨by rfl, rfl⟩) (by assumption) ?_
        simp only [List.getElem_toArray, List.getElem_cons_succ, List.getElem_cons_zero, Act.put, List.setIfInBounds_toArray, List.set_cons_zero, List.set_cons_succ]
        refine wpAnyH_take (i := 6) (v := undef) rfl (by kernel_rfl) (by kernel_rfl) (by kernel_rfl) (fun _ _ _ h => h) (Or.inr ⟨by rfl, rfl⟩) (by assumption) ?_
        simp only [List.getElem_toArray, List.getElem_cons_succ, List.getElem_cons_zero, Act.put, List.setIfInBounds_toArray, List.set_cons_zero, List.set_cons_succ]
        refine wpAnyH_take (i := 7) (v := .bool false) rfl (by kernel_rfl) (by kernel_rfl) (by kernel_rfl) (fun _ _ _ h => h) (Or.inl ⟨by rfl, fun w hSw => by go_simp⟩) (by assumption) ?_
        simp only [List.getElem_toArray, List.getElem_cons_succ, List.getElem_cons_zero, Act.put, List.setIfInBounds_toArray, List.set_cons_zero, List.set_cons_succ]
        refine wpAnyH_take (i := 8) (v := .bool false) rfl (by kernel_rfl) (by kernel_rfl) (by kernel_rfl) (fun _ _ _ h => h) (Or.inl ⟨by rfl, fun w hSw => by go_simp⟩) (by assumption) ?_
        simp only [List.getElem_toArray, List.getElem_cons_succ, List.getElem_cons_zero, Act.put, List.setIfInBounds_toArray, List.set_cons_zero, List.set_cons_succ]
        refine wpAnyH_done (by kernel_rfl) ?_ _
        go_wp2
        go_ret
        exact ⟨by rw [HR.out]; rfl, below_then HBW.out HBZ.out⟩
      | true =>
        have HBD := hide ((Below.refl wr.heap.size wr).drew)
        refine wp_region_held_drew (S := fun W => W.rangeAt w.heap.size 0 cs1 ∧ Arr W g3 67 ns) (by kernel_rfl) (unhide HS _ HBD.out) (fun hHeld => ?_)
        refine wpAnyH_take (i := 0) (v := .agg (cs1).toArray) rfl (by kernel_rfl) (by kernel_rfl) (by kernel_rfl) (fun _ _ _ h => h) (yieldsIf_load_mid (by rfl) _ _ rfl _ _ rfl _ _ (fun w hSw => hSw.1) Tryd.underlying32 rfl hinfS) (by assumption) ?_
        simp only [List.getElem_toArray, List.getElem_cons_zero, Act.put, List.setIfInBounds_toArray, List.set_cons_zero, List.set_cons_succ]
        refine wpAnyH_ready (rs := [1]) (by kernel_rfl) (by simp) (AllReadyH.cons rfl (fun K hK => ?_) AllReadyH.nil)
        refine step_call1J (by rfl) 27 nroot_enter (.tmp 3) _ rfl rfl (root_calls _ _) ?_
        rintro e wn ⟨rfl, hwn⟩
        obtain rfl := hwn.symm
        clear hwn
        refine ⟨_, rfl, ?_⟩
        refine hK.out _ _ (unhide HS _ HBD.out) (fun hJ1 => ?_)
        clear hK K
        simp only [List.getElem_toArray, List.getElem_cons_succ, List.getElem_cons_zero, Act.put, List.setIfInBounds_toArray, List.set_cons_zero, List.set_cons_succ]
        refine wpAnyH_ready (rs := [2]) (by kernel_rfl) (by simp) (AllReadyH.cons rfl (fun K hK => ?_) AllReadyH.nil)
        refine step_call2J (by rfl) 41 chmay_enter (.tmp 31) (.tmp 32) _ rfl rfl rfl (unhide HC1 _ _ (unhide HS _ HBD.out).2) ?_
        rintro e wa ⟨rfl, hbwa⟩
        have HBwa := hide (below_then HBD.out hbwa)
        clear hbwa
        refine ⟨_, rfl, ?_⟩
        refine hK.out _ _ (unhide HS _ HBwa.out) (fun hJ2 => ?_)
        clear hK K
        simp only [List.getElem_toArray, List.getElem_cons_succ, List.getElem_cons_zero, Act.put, List.setIfInBounds_toArray, List.set_cons_zero, List.set_cons_succ]
        refine wpAnyH_take (i := 3) (v := .bool true) rfl (by kernel_rfl) (by kernel_rfl) (by kernel_rfl) (fun _ _ _ h => h) (Or.inl ⟨by rfl, fun w hSw => by go_simp⟩) (by assumption) ?_
        simp only [List.getElem_toArray, List.getElem_cons_succ, List.getElem_cons_zero, Act.put, List.setIfInBounds_toArray, List.set_cons_zero, List.set_cons_succ]
        refine wpAnyH_take (i := 4) (v := .agg (cs1).toArray) rfl (by kernel_rfl) (by kernel_rfl) (by kernel_rfl) (fun _ _ _ h => h) (yieldsIf_load_mid (by rfl) _ _ rfl _ _ rfl _ _ (fun w hSw => hSw.1) Tryd.underlying32 rfl hinfS) (by assumption) ?_
        simp only [List.getElem_toArray, List.getElem_cons_succ, List.getElem_cons_zero, Act.put, List.setIfInBounds_toArray, List.set_cons_zero, List.set_cons_succ]
        refine wpAnyH_ready (rs := [5]) (by kernel_rfl) (by simp) (AllReadyH.cons rfl (fun K hK => ?_) AllReadyH.nil)
        refine step_call1J (by rfl) 28 nmemo_enter (.tmp 3) _ rfl rfl (memo_calls _ _) ?_
        rintro e wn ⟨rfl, hwn⟩
        obtain rfl := hwn.symm
        clear hwn
        refine ⟨_, rfl, ?_⟩
        refine hK.out _ _ (unhide HS _ HBwa.out) (fun hJ3 => ?_)
        clear hK K
        simp only [List.getElem_toArray, List.getElem_cons_succ, List.getElem_cons_zero, Act.put, List.setIfInBounds_toArray, List.set_cons_zero, List.set_cons_succ]
        refine wpAnyH_ready (rs := [6]) (by kernel_rfl) (by simp) (AllReadyH.cons rfl (fun K hK => ?_) AllReadyH.nil)
        refine step_call2J (by rfl) 41 chmay_enter (.tmp 35) (.tmp 36) _ rfl rfl rfl (unhide HC2 _ _ (unhide HS _ HBwa.out).2) ?_
        rintro e wb ⟨rfl, hbwb⟩
        have HBwb := hide (below_then HBwa.out hbwb)
        clear hbwb
        refine ⟨_, rfl, ?_⟩
        refine hK.out _ _ (unhide HS _ HBwb.out) (fun hJ4 => ?_)
        clear hK K
        simp only [List.getElem_toArray, List.getElem_cons_succ, List.getElem_cons_zero, Act.put, List.setIfInBounds_toArray, List.set_cons_zero, List.set_cons_succ]
        have HBZ := HBwb
        refine wpAnyH_take (i := 7) (v := .bool q) rfl (by kernel_rfl) (by kernel_rfl) (by kernel_rfl) (fun _ _ _ h => h) (Or.inl ⟨by rfl, fun w hSw => by go_simp⟩) (by assumption) ?_
        simp only [List.getElem_toArray, List.getElem_cons_succ, List.getElem_cons_zero, Act.put, List.setIfInBounds_toArray, List.set_cons_zero, List.set_cons_succ]
        refine wpAnyH_take (i := 8) (v := .bool q) rfl (by kernel_rfl) (by kernel_rfl) (by kernel_rfl) (fun _ _ _ h => h) (Or.inl ⟨by rfl, fun w hSw => by go_simp⟩) (by assumption) ?_
        simp only [List.getElem_toArray, List.getElem_cons_succ, List.getElem_cons_zero, Act.put, List.setIfInBounds_toArray, List.set_cons_zero, List.set_cons_succ]
        refine wpAnyH_done (by kernel_rfl) ?_ _
        go_wp2
        go_ret
        exact ⟨by rw [HR.out]; rfl, below_then HBW.out HBZ.out⟩
theorem mayBe_calls {w : World} {s : SL} (hs : s.Ok) : Calls Tryd.prog 22 #[.agg (slV s).toArray] w fun e w' => e = .returned (.bool s.may) ∧ Below w.heap.size w w' := by
  by_cases h : s.sc - 4 < 1024
  · exact mayBe_lo hs h
  · exact mayBe_hi hs (by omega)
end Go.Proofs.YtpeopejnkbmcdaaDoor

namespace Go.Proofs.YtpeopejnkbmcdaaDoor
open Go.RowKit Go.Maps

section
variable {s : SL} {w1 W : World} {B g : Nat} {v : Value}
theorem enc12 (hm : s.May) (h : E8 w1 W B v mk4) (hA : Arr W g 67 (nV (slN s))) : Calls Tryd.prog 24 #[v, .int .i64 4, .slice (some ⟨g, 0, none⟩) 2 9] W fun e w' => ∃ v', e = .returned v' ∧ E8 w1 w' B v' (sl12 s) := by
  refine (addNs_calls (n := 4) (o := 0) (c := 9) (Vs := [s.sc, s.j]) h hA (by decide) (fun j hj => ?_) (fun V hV => ?_) (by decide) (by decide) (by decide) (by simp) (by simp) (by decide)).mono fun _ _ ⟨v', h1, h2, _⟩ => ⟨v', h1, h2⟩
  · match j, hj with
    | 0, _ => rfl
    | 1, _ => rfl
  · have := hm.sc0; have := hm.sc1; have := hm.j0; have := hm.j1
    have e : (2 : Int) ^ (8 * 4) = 4294967296 := by decide
    rw [e]
    simp only [List.mem_cons, List.not_mem_nil, or_false] at hV
    rcases hV with rfl | rfl <;> omega
theorem enc36 (hm : s.May) (h : E8 w1 W B v (sl12 s)) (hA : Arr W g 67 (nV (slN s))) : Calls Tryd.prog 24 #[v, .int .i64 8, .slice (some ⟨g, 2, none⟩) 3 7] W fun e w' => ∃ v', e = .returned v' ∧ E8 w1 w' B v' (sl36 s) := by
  refine (addNs_calls (n := 8) (o := 2) (c := 7) (Vs := [s.t, s.g, s.s]) h hA (by decide) (fun j hj => ?_) (fun V hV => ?_) (by decide) (by decide) (by simp [sl12, mk4, fBs_len]) (by simp) (by simp) (by decide)).mono fun _ _ ⟨v', h1, h2, _⟩ => ⟨v', h1, h2⟩
  · match j, hj with
    | 0, _ => rfl
    | 1, _ => rfl
    | 2, _ => rfl
  · obtain ⟨a0, a1⟩ := hm.t; obtain ⟨b0, b1⟩ := hm.g; obtain ⟨c0, c1⟩ := hm.s
    have e : (2 : Int) ^ (8 * 8) = 18446744073709551616 := by decide
    rw [e]
    simp only [List.mem_cons, List.not_mem_nil, or_false] at hV
    rcases hV with rfl | rfl | rfl <;> omega
theorem enc108 (hs : s.Ok) (hm : s.May) (h : E8 w1 W B v (sl100 s)) (hA : Arr W g 67 (nV (slN s))) : Calls Tryd.prog 24 #[v, .int .i64 4, .slice (some ⟨g, 5, none⟩) 2 4] W fun e w' => ∃ v', e = .returned v' ∧ E8 w1 w' B v' (sl108 s) := by
  refine (addNs_calls (n := 4) (o := 5) (c := 4) (Vs := [s.r.f, s.r.l]) h hA (by decide) (fun j hj => ?_) (fun V hV => ?_) (by decide) (by decide) (by simp [sl100, sl68, sl36, sl12, mk4, fBs_len, hs.len, hs.r.len]) (by simp) (by simp) (by decide)).mono fun _ _ ⟨v', h1, h2, _⟩ => ⟨v', h1, h2⟩
  · match j, hj with
    | 0, _ => rfl
    | 1, _ => rfl
  · obtain ⟨a0, a1, a2, a3⟩ := hm.r
    have := hm.sc1; have := hm.j0
    have e : (2 : Int) ^ (8 * 4) = 4294967296 := by decide
    rw [e]
    simp only [List.mem_cons, List.not_mem_nil, or_false] at hV
    rcases hV with rfl | rfl <;> omega
theorem enc148 (hs : s.Ok) (hm : s.May) (h : E8 w1 W B v (sl140 s)) (hA : Arr W g 67 (nV (slN s))) : Calls Tryd.prog 24 #[v, .int .i64 4, .slice (some ⟨g, 7, none⟩) 2 2] W fun e w' => ∃ v', e = .returned v' ∧ E8 w1 w' B v' (sl148 s) := by
  refine (addNs_calls (n := 4) (o := 7) (c := 2) (Vs := [s.m.f, s.m.l]) h hA (by decide) (fun j hj => ?_) (fun V hV => ?_) (by decide) (by decide) (by simp [sl140, sl108, sl100, sl68, sl36, sl12, mk4, fBs_len, hs.len, hs.r.len, hs.m.len]) (by simp) (by simp) (by decide)).mono fun _ _ ⟨v', h1, h2, _⟩ => ⟨v', h1, h2⟩
  · match j, hj with
    | 0, _ => rfl
    | 1, _ => rfl
  · obtain ⟨a0, a1, a2, a3⟩ := hm.m
    have := hm.sc1; have := hm.j0
    have e : (2 : Int) ^ (8 * 4) = 4294967296 := by decide
    rw [e]
    simp only [List.mem_cons, List.not_mem_nil, or_false] at hV
    rcases hV with rfl | rfl <;> omega
theorem enc512 {xs : List Int} {V : Int} (h : E8 w1 W B v xs) (hl : xs.length ≤ 1000) (h0 : 0 ≤ V) (h1 : V < 4294967296) (hA : Arr W g 3 [.int .i64 V]) : Calls Tryd.prog 24 #[v, .int .i64 4, .slice (some ⟨g, 0, none⟩) 1 1] W fun e w' => ∃ v', e = .returned v' ∧ E8 w1 w' B v' (xs ++ fB V 4) := by
  refine (addNs_calls (n := 4) (o := 0) (c := 1) (Vs := [V]) h hA (by decide) (fun j hj => ?_) (fun U hU => ?_) (by decide) (by decide) (by omega) (by simp) (by simp) (by decide)).mono fun _ _ ⟨v', h1, h2, _⟩ => ⟨v', h1, ?_⟩
  · match j, hj with
    | 0, _ => rfl
  · have e : (2 : Int) ^ (8 * 4) = 4294967296 := by decide
    rw [e]
    simp only [List.mem_cons, List.not_mem_nil, or_false] at hU
    subst hU
    omega
  · have e : fBs 4 [V] = fB V 4 := by simp [fBs]
    rw [e] at h2
    exact h2
end
set_option maxRecDepth 100000 in
set_option maxHeartbeats 1000000 in
theorem senc_no {w : World} {s : SL} (hs : s.Ok) (hm : ¬ s.May) : Calls Tryd.prog 11 #[.agg (slV s).toArray] w fun e w' => e = .returned (.tuple #[.slice none 0 0, .int .i64 180]) ∧ Below w.heap.size w w' := by
  have HM : Hid (∀ W, Calls Tryd.prog 22 #[.agg (slV s).toArray] W fun e w' => e = .returned (.bool false) ∧ Below W.heap.size W w') := hide (fun W => by have := mayBe_calls (w := W) hs; rw [SL.may_no hm] at this; exact this)
  have hinfS := infoSof hs
  generalize slV s = cs1 at *
  clear hs hm
  go_enter Tryd.func11, Tryd.ntmps11
  go_wp2_with (first
    | (refine wpList_boxJ rfl 32 (.tmp 0) rfl rfl ?_; intro w1 hA1 hb1 hs1
       have hrg := hA1.rangeJ
       have HB1 := hide hb1
       clear hA1 hb1 hs1)
    | (refine wpList_loadJ rfl 32 (.tmp 1) rfl _ 0 rfl cs1 _ hrg Tryd.underlying32 rfl hinfS ?_)
    | fail)
  refine (unhide HM _).mono ?_
  rintro e w2 ⟨rfl, hb2⟩
  have HB2 := hide (below_then HB1.out hb2)
  clear hb2
  go_wp2
  go_ret2
  exact ⟨rfl, HB2.out⟩
set_option maxRecDepth 100000 in
set_option maxHeartbeats 4000000 in
theorem senc_good {w : World} {s : SL} (hs : s.Ok) (hm : s.May) (ht : Tab w) : Calls Tryd.prog 11 #[.agg (slV s).toArray] w fun e w' => ∃ u, e = .returned (.tuple #[u, .int .i64 0]) ∧ Own8 w' w.heap.size u (slL s) ∧ Below w.heap.size w w' := by
  obtain ⟨i0, hi, hz0, hz1, hz2⟩ := info_parts info8
  have HM : Hid (∀ W, Calls Tryd.prog 22 #[.agg (slV s).toArray] W fun e w' => e = .returned (.bool true) ∧ Below W.heap.size W w') := hide (fun W => by have := mayBe_calls (w := W) hs; rw [(SL.may_iff s).2 hm] at this; exact this)
  have HNO : Hid (∀ W, Calls Tryd.prog 23 #[.agg (slV s).toArray] W fun e w' => e = .returned (.agg (nV (slN s)).toArray) ∧ Below W.heap.size W w') := hide (fun W => numbersOf_calls hs)
  have H12 : Hid (∀ w1 W B g v, E8 w1 W B v mk4 → Arr W g 67 (nV (slN s)) → Calls Tryd.prog 24 #[v, .int .i64 4, .slice (some ⟨g, 0, none⟩) 2 9] W fun e w' => ∃ v', e = .returned v' ∧ E8 w1 w' B v' (sl12 s)) := hide (fun w1 W B g v h hA => enc12 hm h hA)
  have H36 : Hid (∀ w1 W B g v, E8 w1 W B v (sl12 s) → Arr W g 67 (nV (slN s)) → Calls Tryd.prog 24 #[v, .int .i64 8, .slice (some ⟨g, 2, none⟩) 3 7] W fun e w' => ∃ v', e = .returned v' ∧ E8 w1 w' B v' (sl36 s)) := hide (fun w1 W B g v h hA => enc36 hm h hA)
  have H108 : Hid (∀ w1 W B g v, E8 w1 W B v (sl100 s) → Arr W g 67 (nV (slN s)) → Calls Tryd.prog 24 #[v, .int .i64 4, .slice (some ⟨g, 5, none⟩) 2 4] W fun e w' => ∃ v', e = .returned v' ∧ E8 w1 w' B v' (sl108 s)) := hide (fun w1 W B g v h hA => enc108 hs hm h hA)
  have H148 : Hid (∀ w1 W B g v, E8 w1 W B v (sl140 s) → Arr W g 67 (nV (slN s)) → Calls Tryd.prog 24 #[v, .int .i64 4, .slice (some ⟨g, 7, none⟩) 2 2] W fun e w' => ∃ v', e = .returned v' ∧ E8 w1 w' B v' (sl148 s)) := hide (fun w1 W B g v h hA => enc148 hs hm h hA)
  have HPT : Hid (∀ W g, Arr W g 32 (slV s) → IsB W (.slice (some ⟨g, 5, none⟩) 32 32) s.k ∧ IsB W (.slice (some ⟨g, 37, none⟩) 32 32) s.r.h ∧ IsB W (.slice (some ⟨g, 71, none⟩) 32 32) s.m.h) := hide (fun W g hA => by
    obtain ⟨k1, k2, k3⟩ := slV_k hs
    have a1 := isB_part (c := 32) hA k1 hs.by8 (by have := hs.len; omega) (by omega)
    have a2 := isB_part (c := 32) hA k2 hs.r.by8 (by have := hs.r.len; omega) (by omega)
    have a3 := isB_part (c := 32) hA k3 hs.m.by8 (by have := hs.m.len; omega) (by omega)
    rw [hs.len] at a1
    rw [hs.r.len] at a2
    rw [hs.m.len] at a3
    exact ⟨a1, a2, a3⟩)
  have HL36 : Hid ((sl36 s).length = 36) := hide (by simp [sl36, sl12, mk4, fBs_len])
  have HL68 : Hid ((sl68 s).length = 68) := hide (by simp [sl68, sl36, sl12, mk4, fBs_len, hs.len])
  have HL108 : Hid ((sl108 s).length = 108) := hide (by simp [sl108, sl100, sl68, sl36, sl12, mk4, fBs_len, hs.len, hs.r.len])
  have HL148 := hide (sl148_len hs)
  have HLB := hide (slB_len hs)
  have HBY := hide (slB_by hs)
  have HLK := hide (And.intro hs.len (And.intro hs.r.len hs.m.len))
  have H68 : Hid (sl36 s ++ s.k = sl68 s) := hide rfl
  have H100 : Hid (sl68 s ++ s.r.h = sl100 s) := hide rfl
  have H140 : Hid (sl108 s ++ s.m.h = sl140 s) := hide rfl
  have HSB : Hid (sl148 s ++ List.replicate 360 0 = slB s) := hide rfl
  have HSL : Hid (slB s ++ fB (sumOf [slB s]) 4 = slL s) := hide rfl
  have hinfS := infoSof hs
  have hinf9 : (Tryd.prog.info? 67).map (·.size) = some (nV (slN s)).length := info9z
  have hlen9 : z9.length = (nV (slN s)).length := rfl
  have hone9 := nV_one (slN s)
  have HTB := hide ht
  have HMK : Hid ([] ++ [107, 105, 108, 110] = mk4) := hide rfl
  generalize slL s = SLL at *
  generalize slB s = SLB at *
  generalize sl148 s = S148 at *
  generalize sl140 s = S140 at *
  generalize sl108 s = S108 at *
  generalize sl100 s = S100 at *
  generalize sl68 s = S68 at *
  generalize sl36 s = S36 at *
  generalize sl12 s = S12 at *
  generalize mk4 = S4 at *
  generalize slV s = cs1 at *
  generalize nV (slN s) = ns at *
  generalize s.k = kk at *
  generalize s.r.h = rh at *
  generalize s.m.h = mh at *
  clear hs hm ht
  go_enter Tryd.func11, Tryd.ntmps11
  go_wp2_with (first
    | (refine wpList_boxJ rfl 32 (.tmp 0) rfl rfl ?_; intro w1 hA1 hb1 hs1
       have hrg := hA1.rangeJ
       have HB1 := hide hb1
       have HA1 := hide hA1
       clear hA1 hb1 hs1)
    | (refine wpList_loadJ rfl 32 (.tmp 1) rfl _ 0 rfl cs1 _ hrg Tryd.underlying32 rfl hinfS ?_)
    | fail)
  refine (unhide HM _).mono ?_
  rintro e w2 ⟨rfl, hb2⟩
  have hA2 := HA1.out.below hb2
  have HB2 := hide (below_then HB1.out hb2)
  have HA2 := hide hA2
  have hrg2 := hA2.rangeJ
  clear hb2 hrg HA1 HB1 hA2 HM
  go_wp2_with (first
    | (refine wpList_loadJ rfl 32 (.tmp 1) rfl _ 0 rfl cs1 _ hrg2 Tryd.underlying32 rfl hinfS ?_)
    | fail)
  refine (unhide HNO _).mono ?_
  rintro e w3 ⟨rfl, hb3⟩
  have hA3 := HA2.out.below hb3
  have hbw3 := below_then HB2.out hb3
  have HX : Hid (∀ w4, Arr w4 w3.heap.size 67 ns → (w3.alloc (.cells z9.toArray 67)).grownBy w4 (some w3.heap.size) → Arr w4 w.heap.size 32 cs1 ∧ Below w.heap.size w w4 ∧ ∀ W, Below w4.heap.size w4 W → Arr W w3.heap.size 67 ns ∧ IsB W (.slice (some ⟨w.heap.size, 5, none⟩) 32 32) kk ∧ IsB W (.slice (some ⟨w.heap.size, 37, none⟩) 32 32) rh ∧ IsB W (.slice (some ⟨w.heap.size, 71, none⟩) 32 32) mh ∧ Tab W) := hide (fun w4 hA4 hg4 => by
    have hba := jalloc_below w3 (.cells z9.toArray 67)
    have hlt := hA3.lt
    have hAs := arr_grown (hA3.below hba) hg4 (by simp; omega)
    have hbw4 := jbelow_grown (below_then hbw3 hba) hg4 (Nat.le_trans hbw3.size hba.size) hbw3.size
    refine ⟨hAs, hbw4, fun W hW => ?_⟩
    obtain ⟨p1, p2, p3⟩ := unhide HPT W w.heap.size (hAs.below hW)
    exact ⟨hA4.below hW, p1, p2, p3, (HTB.out.below hbw4).below hW⟩)
  clear HNO HA2 HB2 hA3 hbw3 hrg2 hb3 HPT HTB
  go_wp2_with (first
    | (refine wpList_allocJ rfl 67 rfl info9 ?_)
    | (refine wpList_storeJ rfl (.tmp 4) (.tmp 10) 67 rfl rfl rfl (Arr.new w3 z9 67) hinf9 hlen9 hone9 ?_; intro w4 hA4 hg4
       obtain ⟨_, hbw, hK⟩ := unhide HX w4 hA4 hg4
       have HBW := hide hbw
       have HK := hide hK
       clear hA4 hg4 hbw hK HX)
    | (at_make; refine wpList_make_own _ rfl _ _ 41 rfl w4.heap.size 5 i0 (.int .u8 0) 1 Tryd.underlying41 hi hz0 hz1 .i64 .i64 _ 512 rfl rfl rfl (by rw [hz2]; decide) (by unfold maxLen; decide) (Nat.le_refl _) ?_; intro w5 ho5 hg5
       have HE5 : Hid (E8 w4 w5 w4.heap.size (.slice (some ⟨w4.heap.size, 0, none⟩) 0 512) []) := hide ⟨⟨ho5, by simp⟩, hg5.size, (Below.refl _ _).grown hg5 (Nat.le_refl _) (fun j hj => by cases hj)⟩
       clear ho5 hg5)
    | (at_builtin; refine wpList_appT rfl (.tmp 11) _ rfl (ys := [107, 105, 108, 110]) rfl HE5.out.1 rfl rfl (by decide) (by decide) HE5.out.2.1 ?_; intro v6 w6 ho6 hg6
       have hE6 := HE5.out.app ho6 hg6
       rw [HMK.out] at hE6
       obtain ⟨a6, n6, c6, rfl⟩ := ho6.shape
       have HE6 := hide hE6
       clear ho6 hg6 hE6 HE5)
    | fail)
  generalize w3.heap.size = g4 at *
  refine (sizes_calls w6 g4).mono ?_
  rintro e wx ⟨rfl, hwx⟩
  obtain rfl := hwx.symm
  clear hwx
  go_wp2_with fail
  refine (unhide H12 _ _ _ _ _ HE6.out (unhide HK _ HE6.out.2.2).1).mono ?_
  rintro e w7 ⟨v7, rfl, hE7⟩
  obtain ⟨a7, n7, c7, rfl⟩ := hE7.1.shape
  have HE7 := hide hE7
  clear hE7 HE6 H12
  go_wp2_with fail
  refine (counts_calls w7 g4).mono ?_
  rintro e wx ⟨rfl, hwx⟩
  obtain rfl := hwx.symm
  clear hwx
  go_wp2_with fail
  refine (unhide H36 _ _ _ _ _ HE7.out (unhide HK _ HE7.out.2.2).1).mono ?_
  rintro e w8 ⟨v8, rfl, hE8⟩
  obtain ⟨a8, n8, c8, rfl⟩ := hE8.1.shape
  have HE8 := hide hE8
  clear hE8 HE7 H36
  have hl8 : S36.length + kk.length ≤ 140737488355328 := by rw [HL36.out, HLK.out.1]; decide
  have hl9 : S68.length + rh.length ≤ 140737488355328 := by rw [HL68.out, HLK.out.2.1]; decide
  have HI8 := hide (unhide HK _ HE8.out.2.2).2.1
  go_wp2_with (first
    | (at_builtin; refine wpList_appB rfl (.tmp 19) (.tmp 21) rfl rfl HE8.out.1 rfl HI8.out hl8 HE8.out.2.1 ?_; intro v9 w9 ho9 hg9
       have hE9 := HE8.out.app ho9 hg9
       rw [H68.out] at hE9
       obtain ⟨a9, n9, c9, rfl⟩ := ho9.shape
       have HI9 := hide (unhide HK _ hE9.2.2).2.2.1
       have HE9 := hide hE9
       clear ho9 hg9 hE9 HE8 HI8)
    | (at_builtin; refine wpList_appB rfl (.tmp 23) (.tmp 26) rfl rfl HE9.out.1 rfl HI9.out hl9 HE9.out.2.1 ?_; intro v10 w10 ho10 hg10
       have hE10 := HE9.out.app ho10 hg10
       rw [H100.out] at hE10
       obtain ⟨a10, n10, c10, rfl⟩ := ho10.shape
       have HE10 := hide hE10
       clear ho10 hg10 hE10 HE9 HI9)
    | fail)
  refine (root_calls w10 g4).mono ?_
  rintro e wx ⟨rfl, hwx⟩
  obtain rfl := hwx.symm
  clear hwx
  go_wp2_with fail
  refine (unhide H108 _ _ _ _ _ HE10.out (unhide HK _ HE10.out.2.2).1).mono ?_
  rintro e w11 ⟨v11, rfl, hE11⟩
  obtain ⟨a11, n11, c11, rfl⟩ := hE11.1.shape
  have HE11 := hide hE11
  clear hE11 HE10 H108
  have hl11 : S108.length + mh.length ≤ 140737488355328 := by rw [HL108.out, HLK.out.2.2]; decide
  have HI11 := hide (unhide HK _ HE11.out.2.2).2.2.2.1
  go_wp2_with (first
    | (at_builtin; refine wpList_appB rfl (.tmp 31) (.tmp 34) rfl rfl HE11.out.1 rfl HI11.out hl11 HE11.out.2.1 ?_; intro v12 w12 ho12 hg12
       have hE12 := HE11.out.app ho12 hg12
       rw [H140.out] at hE12
       obtain ⟨a12, n12, c12, rfl⟩ := ho12.shape
       have HE12 := hide hE12
       clear ho12 hg12 hE12 HE11 HI11)
    | fail)
  refine (memo_calls w12 g4).mono ?_
  rintro e wx ⟨rfl, hwx⟩
  obtain rfl := hwx.symm
  clear hwx
  go_wp2_with fail
  refine (unhide H148 _ _ _ _ _ HE12.out (unhide HK _ HE12.out.2.2).1).mono ?_
  rintro e w13 ⟨v13, rfl, hE13⟩
  obtain ⟨a13, c13, rfl⟩ := hE13.shapeN HL148.out
  have HE13 := hide hE13
  clear hE13 HE12 H148
  have hl13 : S148.length + 360 ≤ 1000000 := by rw [HL148.out]; decide
  have hsm : 0 ≤ sumOf [SLB] ∧ sumOf [SLB] < 4294967296 := by
    have h1 : crcAll 4294967295 [SLB] < 2 ^ 32 := crcAll_lt (by decide) (fun xs hxs => by rw [List.mem_singleton.1 hxs]; exact HBY.out)
    have h2 := Nat.xor_lt_two_pow (n := 32) (x := 4294967295) (by decide) h1
    unfold sumOf
    generalize 4294967295 ^^^ crcAll 4294967295 [SLB] = q at h2 ⊢
    omega
  go_wp2_with (first
    | (at_builtin; refine wpList_app0 rfl (.tmp 39) (.tmp 42) rfl (k := 360) rfl HE13.out.1 rfl (by decide) hl13 HE13.out.2.1 ?_; intro v14 w14 ho14 hg14
       have hE14 := HE13.out.app ho14 hg14
       rw [HSB.out] at hE14
       obtain ⟨a14, c14, rfl⟩ := hE14.shapeN HLB.out
       have hbl := jalloc_below w14 (.cells #[.slice a14 508 c14] 41)
       have HBBs := hide (isBB_one hE14.1.isB)
       have HT14 := hide ((unhide HK _ hE14.2.2).2.2.2.2.below hbl)
       have HE14 := hide (hE14.below hbl)
       clear ho14 hg14 hE14 hbl HE13)
    | fail)
  refine (sum_calls HBBs.out HT14.out).mono ?_
  rintro e w15 ⟨rfl, hw15⟩
  obtain rfl := hw15.symm
  clear hw15 HBBs HT14
  have hws : IntKind.i64.wrap (sumOf [SLB]) = sumOf [SLB] := IntWalk.i64_in _ (by omega)
  generalize sumOf [SLB] = sm at *
  have HLS : Hid (SLB.length ≤ 1000) := hide (by rw [HLB.out]; decide)
  obtain ⟨hs0, hs1⟩ := hsm
  go_wp2_with fail
  have hA15 := Arr.new (w14.alloc (.cells #[.slice a14 508 c14] 41)) [.int .i64 sm] 3
  rw [World.size_alloc] at hA15
  refine (enc512 (HE14.out.below (jalloc_below _ _)) HLS.out hs0 hs1 hA15).mono ?_
  rintro e w16 ⟨v16, rfl, hE16⟩
  rw [HSL.out] at hE16
  obtain ⟨a16, n16, c16, rfl⟩ := hE16.1.shape
  have HO16 := hide (hE16.1.mono HBW.out.size)
  have HB16 := hide (HBW.out.trans (hE16.2.2.mono HBW.out.size))
  clear hE16 hA15 HE14
  go_wp2
  go_ret2
  exact ⟨_, rfl, HO16.out, HB16.out⟩
/-- What Encode answers. -/
theorem senc_calls {w : World} {s : SL} (hs : s.Ok) (ht : Tab w) : Calls Tryd.prog 11 #[.agg (slV s).toArray] w fun e w' => ∃ u, e = .returned (.tuple #[u, .int .i64 (encSE s)]) ∧ Own8 w' w.heap.size u (encS s) ∧ Below w.heap.size w w' := by
  by_cases hm : s.May
  · rw [(encS_yes hm).1, (encS_yes hm).2]
    exact senc_good hs hm ht
  · rw [(encS_no hm).1, (encS_no hm).2]
    exact (senc_no hs hm).mono fun _ _ ⟨h1, h2⟩ => ⟨_, h1, Own8.nil _ _, h2⟩
end Go.Proofs.YtpeopejnkbmcdaaDoor

/- Records of a journal, in plain terms: their bytes, what bytes name, both ways. References and records in memory. Structs of 34 cells: made, written, read. Bytes put behind bytes: zeros by their number, a text. -/
import Derived.Test.YthhjlopgpmaokabDoorKA
import Derived.Deep.MidRow
import Derived.Lib.AppendStr
import Derived.Lib.AppendZerosOnto
import Derived.Deep.DeepAppendWide
namespace Go.Proofs.YthhjlopgpmaokabDoor
open Go.RowKit

/-- A reference. -/
structure JF where
  h : List Int
  f : Int
  l : Int
def JF.nul : JF := ⟨[], 0, 0⟩
/-- A record. -/
structure JR where
  n : Int
  p : List Int
  rs : List JF
def JR.nul : JR := ⟨0, List.replicate 32 0, []⟩
def By8 (l : List Int) : Prop := ∀ x ∈ l, 0 ≤ x ∧ x ≤ 255
theorem By8.app {a b : List Int} (h : By8 a) (k : By8 b) : By8 (a ++ b) := fun x hx => by
  rcases List.mem_append.1 hx with hx | hx
  · exact h x hx
  · exact k x hx
theorem By8.drop {l : List Int} (h : By8 l) (n : Nat) : By8 (l.drop n) := fun x hx => h x (List.mem_of_mem_drop hx)
theorem By8.take {l : List Int} (h : By8 l) (n : Nat) : By8 (l.take n) := fun x hx => h x (List.mem_of_mem_take hx)
theorem By8.zero (n : Nat) : By8 (List.replicate n 0) := fun x hx => by have := List.eq_of_mem_replicate hx; omega
def i64I (x : Int) : Prop := -9223372036854775808 ≤ x ∧ x ≤ 9223372036854775807
structure JF.Ok (r : JF) : Prop where
  len : r.h.length = 32
  by8 : By8 r.h
  fi : i64I r.f
  le : i64I r.l
structure JR.Ok (r : JR) : Prop where
  len : r.p.length = 32
  by8 : By8 r.p
  num : i64I r.n
  refs : ∀ x ∈ r.rs, x.Ok
theorem JR.nul_ok : JR.nul.Ok := ⟨by simp [JR.nul], By8.zero 32, ⟨by decide, by decide⟩, fun x hx => by simp [JR.nul] at hx⟩
def JF.may (r : JF) : Bool := decide (0 ≤ r.f ∧ r.f < 65536 ∧ 0 ≤ r.l ∧ r.l ≤ 262144)
/-- May a record have these references? -/
def mayRs (l : List JF) : Bool := decide (1 ≤ l.length ∧ l.length ≤ 8) && l.all JF.may
def rfB (r : JF) : List Int := r.h ++ (fB r.f 4 ++ fB r.l 4)
def hd12 (r : JR) : List Int := [119, 111, 114, 107] ++ fB r.n 8
def hd44 (r : JR) : List Int := hd12 r ++ r.p
def hd45 (r : JR) : List Int := hd44 r ++ [(r.rs.length : Int)]
def rfsB (l : List JF) : List Int := l.flatMap rfB
def bodyB (r : JR) : List Int := hd45 r ++ rfsB r.rs
def encB (r : JR) : List Int := bodyB r ++ List.replicate (508 - (bodyB r).length) 0
/-- The bytes of a record. -/
def encL (r : JR) : List Int := encB r ++ fB (sumOf [encB r]) 4
def encE (r : JR) : Int := if r.n < 0 ∨ 1099511627776 < r.n then 171 else if mayRs r.rs = true then 0 else 172

theorem rfB_len {r : JF} (h : r.h.length = 32) : (rfB r).length = 40 := by simp [rfB, h, fB_len]
theorem rfsB_len : ∀ {l : List JF}, (∀ r ∈ l, r.h.length = 32) → (rfsB l).length = 40 * l.length
  | [], _ => rfl
  | r :: l, h => by
    show (rfB r ++ rfsB l).length = _
    rw [List.length_append, rfB_len (h r (by simp)), rfsB_len (fun x hx => h x (by simp [hx])), List.length_cons]
    omega
theorem rfsB_snoc (l : List JF) (r : JF) : rfsB (l ++ [r]) = rfsB l ++ rfB r := by simp [rfsB]
theorem hd45_len {r : JR} (h : r.p.length = 32) : (hd45 r).length = 45 := by simp [hd45, hd44, hd12, fB_len, h]
theorem body_len {r : JR} (h : r.Ok) : (bodyB r).length = 45 + 40 * r.rs.length := by
  rw [bodyB, List.length_append, hd45_len h.len, rfsB_len (fun x hx => (h.refs x hx).len)]
theorem encE_ok {r : JR} (h : encE r = 0) : 0 ≤ r.n ∧ r.n ≤ 1099511627776 ∧ 1 ≤ r.rs.length ∧ r.rs.length ≤ 8 ∧ ∀ x ∈ r.rs, 0 ≤ x.f ∧ x.f < 65536 ∧ 0 ≤ x.l ∧ x.l ≤ 262144 := by
  unfold encE at h
  split at h
  · simp at h
  · rename_i hn
    split at h
    · rename_i hm
      unfold mayRs at hm
      simp only [Bool.and_eq_true, decide_eq_true_eq, List.all_eq_true] at hm
      refine ⟨by omega, by omega, hm.1.1, hm.1.2, fun x hx => ?_⟩
      have := hm.2 x hx
      unfold JF.may at this
      simpa using this
    · simp at h
theorem encB_len {r : JR} (h : r.Ok) (he : r.rs.length ≤ 8) : (encB r).length = 508 := by
  rw [encB, List.length_append, List.length_replicate, body_len h]
  omega
theorem encL_len {r : JR} (h : r.Ok) (he : r.rs.length ≤ 8) : (encL r).length = 512 := by
  rw [encL, List.length_append, encB_len h he, fB_len]
theorem rfsB_by {l : List JF} (h : ∀ x ∈ l, x.Ok) : By8 (rfsB l) := fun x hx => by
  obtain ⟨r, hr, hx⟩ := List.mem_flatMap.1 hx
  exact By8.app (h r hr).by8 (By8.app (fun y hy => fB_bytes _ _ y hy) (fun y hy => fB_bytes _ _ y hy)) x hx
theorem hd45_by {r : JR} (h : r.Ok) (hl : r.rs.length ≤ 8) : By8 (hd45 r) := by
  refine (((?_ : By8 _).app (fun y hy => fB_bytes _ _ y hy)).app h.by8).app ?_
  · intro x hx; simp at hx; omega
  · intro x hx; simp at hx; omega
theorem body_by {r : JR} (h : r.Ok) (hl : r.rs.length ≤ 8) : By8 (bodyB r) := (hd45_by h hl).app (rfsB_by h.refs)
theorem encB_by {r : JR} (h : r.Ok) (hl : r.rs.length ≤ 8) : By8 (encB r) := (body_by h hl).app (By8.zero _)
theorem encL_by {r : JR} (h : r.Ok) (hl : r.rs.length ≤ 8) : By8 (encL r) := (encB_by h hl).app (fun y hy => fB_bytes _ _ y hy)

/-- The reference that bytes name there. -/
def rfAt (b : List Int) (i : Nat) : JF := ⟨(b.drop (45 + 40 * i)).take 32, leN ((b.drop (45 + 40 * i + 32)).take 4), leN ((b.drop (45 + 40 * i + 36)).take 4)⟩
def cntB (b : List Int) : Nat := min (b.getD 44 0).toNat 8
def namB (b : List Int) : JR := ⟨IntKind.i64.wrap (leN ((b.drop 4).take 8)), (b.drop 12).take 32, (List.range (cntB b)).map (rfAt b)⟩
open Classical in
/-- The record that bytes are. -/
def decO (b : List Int) : Option JR := if b.length = 512 ∧ encE (namB b) = 0 ∧ encL (namB b) = b then some (namB b) else none

theorem jfB_succ (v : Int) (n : Nat) : fB v (n + 1) = v % 256 :: fB (v / 256) n := by
  unfold fB
  rw [List.range_succ_eq_map, List.map_cons, List.map_map]
  congr 1
  · simp
  · refine List.map_congr_left fun i _ => ?_
    simp only [Function.comp, Nat.succ_eq_add_one, pow8_succ]
    rw [Int.ediv_ediv_of_nonneg (by decide)]
theorem jleN_fB (n : Nat) : ∀ (v : Int), 0 ≤ v → v < 2 ^ (8 * n) → leN (fB v n) = v := by
  induction n with
  | zero => intro v h0 h1; simp at h1; simp [fB, leN]; omega
  | succ m ih =>
    intro v h0 h1
    rw [pow8_succ] at h1
    rw [jfB_succ, leN, ih (v / 256) (by omega) (by generalize (2 : Int) ^ (8 * m) = p at h1 ⊢; omega)]
    omega
theorem jleN_lt {l : List Int} (hl : By8 l) : 0 ≤ leN l ∧ leN l < 2 ^ (8 * l.length) := by
  induction l with
  | nil => simp [leN]
  | cons c t ih =>
    have hc := hl c (by simp)
    obtain ⟨i2, i3⟩ := ih (fun x hx => hl x (by simp [hx]))
    rw [List.length_cons, leN, pow8_succ]
    refine ⟨by omega, ?_⟩
    generalize (2 : Int) ^ (8 * t.length) = p at i3 ⊢
    omega
theorem jfour {b : List Int} (hb : By8 b) (k : Nat) : 0 ≤ leN ((b.drop k).take 4) ∧ leN ((b.drop k).take 4) < 4294967296 := by
  have h := jleN_lt ((hb.drop k).take 4)
  have hl : ((b.drop k).take 4).length ≤ 4 := by simp; omega
  refine ⟨h.1, Int.lt_of_lt_of_le h.2 ?_⟩
  have : (2 : Int) ^ (8 * ((b.drop k).take 4).length) ≤ 2 ^ 32 := by exact_mod_cast Nat.pow_le_pow_right (by decide : 0 < 2) (show 8 * ((b.drop k).take 4).length ≤ 32 by omega)
  exact this
theorem jeight {b : List Int} (hb : By8 b) (k : Nat) : 0 ≤ leN ((b.drop k).take 8) ∧ leN ((b.drop k).take 8) < 18446744073709551616 := by
  have h := jleN_lt ((hb.drop k).take 8)
  have hl : ((b.drop k).take 8).length ≤ 8 := by simp; omega
  refine ⟨h.1, Int.lt_of_lt_of_le h.2 ?_⟩
  have : (2 : Int) ^ (8 * ((b.drop k).take 8).length) ≤ 2 ^ 64 := by exact_mod_cast Nat.pow_le_pow_right (by decide : 0 < 2) (show 8 * ((b.drop k).take 8).length ≤ 64 by omega)
  exact this
theorem wrap_rng (x : Int) : i64I (IntKind.i64.wrap x) := by
  have := IntKind.wrap_i64 x
  unfold i64I
  omega
theorem rfAt_ok {b : List Int} (hb : By8 b) {i : Nat} (hl : 45 + 40 * i + 40 ≤ b.length) : (rfAt b i).Ok := by
  refine ⟨by simp [rfAt]; omega, (hb.drop _).take _, ?_, ?_⟩
  · have := jfour hb (45 + 40 * i + 32); show _ ≤ leN ((b.drop (45 + 40 * i + 32)).take 4) ∧ leN ((b.drop (45 + 40 * i + 32)).take 4) ≤ _; omega
  · have := jfour hb (45 + 40 * i + 36); show _ ≤ leN ((b.drop (45 + 40 * i + 36)).take 4) ∧ leN ((b.drop (45 + 40 * i + 36)).take 4) ≤ _; omega
theorem cnt_le (b : List Int) : cntB b ≤ 8 := Nat.min_le_right _ _
theorem namB_ok {b : List Int} (hb : By8 b) (hl : b.length = 512) : (namB b).Ok := by
  refine ⟨by simp [namB]; omega, (hb.drop _).take _, wrap_rng _, fun x hx => ?_⟩
  obtain ⟨i, hi, rfl⟩ := List.mem_map.1 hx
  have h1 := List.mem_range.1 hi
  have h2 := cnt_le b
  exact rfAt_ok hb (by omega)
theorem namB_cnt (b : List Int) : (namB b).rs.length = cntB b := by simp [namB]

theorem take_app {a b : List Int} {n : Nat} (h : a.length = n) : (a ++ b).take n = a := by subst h; exact List.take_left
theorem drop_app {a b : List Int} {n : Nat} (h : a.length = n) : (a ++ b).drop n = b := by subst h; exact List.drop_left
theorem drop_app2 {a b : List Int} {n k : Nat} (h : a.length = n) : (a ++ b).drop (n + k) = b.drop k := by subst h; exact List.drop_length_add_append _
/-- What is written is what the bytes name. -/
theorem rfAt_enc {pre rest : List Int} (hp : pre.length = 45) : ∀ {l : List JF} {i : Nat}, (∀ x ∈ l, x.Ok) → (∀ x ∈ l, 0 ≤ x.f ∧ x.f < 65536 ∧ 0 ≤ x.l ∧ x.l ≤ 262144) → i < l.length → rfAt (pre ++ (rfsB l ++ rest)) i = l.getD i .nul := by
  intro l i h1 h2 hi
  obtain ⟨a, r, c, rfl, ha⟩ : ∃ a r c, l = a ++ r :: c ∧ a.length = i := ⟨l.take i, l[i], l.drop (i + 1), by rw [← List.drop_eq_getElem_cons hi, List.take_append_drop], by simp; omega⟩
  have hr1 := h1 r (by simp)
  have hr2 := h2 r (by simp)
  have ea : (rfsB a).length = 40 * i := by rw [rfsB_len (fun x hx => (h1 x (by simp [hx])).len), ha]
  have e0 : rfsB (a ++ r :: c) ++ rest = rfsB a ++ (r.h ++ (fB r.f 4 ++ (fB r.l 4 ++ (rfsB c ++ rest)))) := by simp [rfsB, rfB]
  have eg : (a ++ r :: c).getD i .nul = r := by rw [List.getD_eq_getElem?_getD, List.getElem?_append_right (by omega), ha, Nat.sub_self]; rfl
  have d0 : (pre ++ (rfsB a ++ (r.h ++ (fB r.f 4 ++ (fB r.l 4 ++ (rfsB c ++ rest)))))).drop (45 + 40 * i) = r.h ++ (fB r.f 4 ++ (fB r.l 4 ++ (rfsB c ++ rest))) := by rw [drop_app2 hp, drop_app ea]
  have d1 : (pre ++ (rfsB a ++ (r.h ++ (fB r.f 4 ++ (fB r.l 4 ++ (rfsB c ++ rest)))))).drop (45 + 40 * i + 32) = fB r.f 4 ++ (fB r.l 4 ++ (rfsB c ++ rest)) := by rw [← List.drop_drop, d0, drop_app hr1.len]
  have d2 : (pre ++ (rfsB a ++ (r.h ++ (fB r.f 4 ++ (fB r.l 4 ++ (rfsB c ++ rest)))))).drop (45 + 40 * i + 36) = fB r.l 4 ++ (rfsB c ++ rest) := by rw [show 45 + 40 * i + 36 = (45 + 40 * i + 32) + 4 by omega, ← List.drop_drop, d1, drop_app (fB_len _ _)]
  rw [eg, e0, rfAt, d0, d1, d2, take_app hr1.len, take_app (fB_len _ _), take_app (fB_len _ _), jleN_fB 4 _ hr2.1 (by show r.f < 4294967296; omega), jleN_fB 4 _ hr2.2.2.1 (by show r.l < 4294967296; omega)]
theorem getD_map {l : List JF} (n : Nat) (hn : n = l.length) (f : Nat → JF) (h : ∀ i, i < n → f i = l.getD i .nul) : (List.range n).map f = l := by
  subst hn
  refine List.ext_getElem (by simp) fun i h1 h2 => ?_
  rw [List.getElem_map, List.getElem_range, h i h2, List.getD_eq_getElem?_getD, List.getElem?_eq_getElem h2]
  rfl
theorem nam_enc {r : JR} (h : r.Ok) (he : encE r = 0) : namB (encL r) = r := by
  obtain ⟨h0, h1, h2, h3, h4⟩ := encE_ok he
  have e : encL r = [119, 111, 114, 107] ++ (fB r.n 8 ++ (r.p ++ ((r.rs.length : Int) :: (rfsB r.rs ++ (List.replicate (508 - (bodyB r).length) 0 ++ fB (sumOf [encB r]) 4))))) := by
    simp [encL, encB, bodyB, hd45, hd44, hd12]
  have e2 : encL r = hd45 r ++ (rfsB r.rs ++ (List.replicate (508 - (bodyB r).length) 0 ++ fB (sumOf [encB r]) 4)) := by simp [encL, encB, bodyB]
  have d4 : (encL r).drop 4 = fB r.n 8 ++ (r.p ++ ((r.rs.length : Int) :: (rfsB r.rs ++ (List.replicate (508 - (bodyB r).length) 0 ++ fB (sumOf [encB r]) 4)))) := by rw [e]; exact drop_app rfl
  have d12 : (encL r).drop 12 = r.p ++ ((r.rs.length : Int) :: (rfsB r.rs ++ (List.replicate (508 - (bodyB r).length) 0 ++ fB (sumOf [encB r]) 4))) := by rw [show 12 = 4 + 8 from rfl, ← List.drop_drop, d4, drop_app (fB_len _ _)]
  have d44 : (encL r).drop 44 = (r.rs.length : Int) :: (rfsB r.rs ++ (List.replicate (508 - (bodyB r).length) 0 ++ fB (sumOf [encB r]) 4)) := by rw [show 44 = 12 + 32 from rfl, ← List.drop_drop, d12, drop_app h.len]
  have g44 : (encL r).getD 44 0 = (r.rs.length : Int) := by
    have : ((encL r).drop 44)[0]? = some (r.rs.length : Int) := by rw [d44]; rfl
    rw [List.getElem?_drop] at this
    rw [List.getD_eq_getElem?_getD, this]; rfl
  have hc : cntB (encL r) = r.rs.length := by rw [cntB, g44]; omega
  have hn : IntKind.i64.wrap (leN (((encL r).drop 4).take 8)) = r.n := by
    rw [d4, take_app (fB_len _ _), jleN_fB 8 _ h0 (by show r.n < 18446744073709551616; omega)]
    exact IntWalk.i64_in _ (by omega)
  have hp : ((encL r).drop 12).take 32 = r.p := by rw [d12, take_app h.len]
  have hr : (List.range (cntB (encL r))).map (rfAt (encL r)) = r.rs := getD_map _ hc _ (fun i hi => by rw [e2]; exact rfAt_enc (hd45_len h.len) h.refs h4 (by omega))
  show JR.mk (IntKind.i64.wrap (leN (((encL r).drop 4).take 8))) (((encL r).drop 12).take 32) ((List.range (cntB (encL r))).map (rfAt (encL r))) = r
  rw [hn, hp, hr]
theorem dec_enc {r : JR} (h : r.Ok) (he : encE r = 0) : decO (encL r) = some r := by
  obtain ⟨h0, h1, h2, h3, h4⟩ := encE_ok he
  unfold decO
  rw [nam_enc h he, if_pos ⟨encL_len h h3, he, rfl⟩]
theorem dec_some {b : List Int} {r : JR} (h : decO b = some r) : b.length = 512 ∧ r = namB b ∧ encE r = 0 ∧ encL r = b := by
  unfold decO at h
  split at h
  · rename_i hc
    have : namB b = r := by simpa using h
    subst this
    exact ⟨hc.1, rfl, hc.2.1, hc.2.2⟩
  · simp at h
theorem dec_yes {b : List Int} (h1 : b.length = 512) (h2 : encE (namB b) = 0) (h3 : encL (namB b) = b) : decO b = some (namB b) := by unfold decO; rw [if_pos ⟨h1, h2, h3⟩]
theorem dec_no {b : List Int} (h : ¬ (b.length = 512 ∧ encE (namB b) = 0 ∧ encL (namB b) = b)) : decO b = none := by unfold decO; rw [if_neg h]
/-- The byte of the count. -/
theorem enc44 {r : JR} (h : r.Ok) : (encL r)[44]? = some (r.rs.length : Int) := by
  have e : encL r = hd44 r ++ ((r.rs.length : Int) :: (rfsB r.rs ++ (List.replicate (508 - (bodyB r).length) 0 ++ fB (sumOf [encB r]) 4))) := by
    simp [encL, encB, bodyB, hd45]
  have hl : (hd44 r).length = 44 := by simp [hd44, hd12, fB_len, h.len]
  rw [e, List.getElem?_append_right (by omega), hl]
  rfl
theorem dec_cnt {b : List Int} (hb : By8 b) (hl : b.length = 512) (h : b.getD 44 0 < 1 ∨ 8 < b.getD 44 0) : decO b = none := by
  refine dec_no fun ⟨_, he, hE⟩ => ?_
  have hk := enc44 (namB_ok hb hl)
  rw [hE, namB_cnt] at hk
  have h44 : b.getD 44 0 = (cntB b : Int) := by rw [List.getD_eq_getElem?_getD, hk]; rfl
  obtain ⟨_, _, h2, _, _⟩ := encE_ok he
  rw [namB_cnt] at h2
  have h8 := cnt_le b
  omega
/-- A record that was read may be in memory. -/
theorem dec_ok {b : List Int} {r : JR} (hb : By8 b) (h : decO b = some r) : r.Ok := by
  obtain ⟨h1, rfl, _, _⟩ := dec_some h
  exact namB_ok hb h1
end Go.Proofs.YthhjlopgpmaokabDoor

namespace Go.Proofs.YthhjlopgpmaokabDoor
open Go.RowKit Go.Maps

/-- A reference's cells. -/
def jfV (r : JF) : List Value := r.h.map (Value.int .u8) ++ [.int .i64 r.f, .int .i64 r.l]
def jfsV (l : List JF) : List Value := l.flatMap jfV
theorem jfV_len {e : JF} (h : JF.Ok e) : (jfV e).length = 34 := by
  unfold jfV
  simp [h.len]
theorem jfsV_len {l : List JF} (h : ∀ e ∈ l, JF.Ok e) : (jfsV l).length = l.length * 34 := by
  induction l with
  | nil => rfl
  | cons e l ih =>
    rw [show jfsV (e :: l) = jfV e ++ jfsV l from rfl, List.length_append, ih (fun x hx => h x (by simp [hx])), jfV_len (h e (by simp)), List.length_cons]
    omega
theorem jfsV_app (l m : List JF) : jfsV (l ++ m) = jfsV l ++ jfsV m := by
  unfold jfsV; rw [List.flatMap_append]
theorem jfV_one (e : JF) : ∀ u ∈ jfV e, u.oneCell' = true := by
  intro u hu
  unfold jfV at hu
  simp only [List.mem_cons, List.mem_append, List.mem_map, List.not_mem_nil, or_false] at hu
  rcases hu with ⟨x, _, rfl⟩ | rfl | rfl <;> rfl
theorem jfsV_one (l : List JF) : ∀ u ∈ jfsV l, u.oneCell' = true := by
  intro u hu
  unfold jfsV at hu
  obtain ⟨e, _, h⟩ := List.mem_flatMap.1 hu
  exact jfV_one e u h
theorem jfsV_at {l : List JF} (h : ∀ e ∈ l, JF.Ok e) {j k : Nat} (hj : j < l.length) (hk : k < 34) : (jfsV l)[j * 34 + k]? = (jfV (l.getD j .nul))[k]? := by
  induction l generalizing j with
  | nil => simp at hj
  | cons t l ih =>
    rw [show jfsV (t :: l) = jfV t ++ jfsV l from rfl]
    have hl := jfV_len (h t (by simp))
    cases j with
    | zero => rw [List.getElem?_append_left (by omega)]; simp
    | succ j =>
      rw [List.getElem?_append_right (by omega), hl, show (j + 1) * 34 + k - 34 = j * 34 + k by omega, ih (fun x hx => h x (by simp [hx])) (by simpa using hj)]
      simp
theorem jf_get {l : List JF} {P : JF → Prop} (h : ∀ e ∈ l, P e) {j : Nat} (hj : j < l.length) : P (l.getD j .nul) := by
  rw [List.getD_eq_getElem?_getD, List.getElem?_eq_getElem hj]
  exact h _ (List.getElem_mem hj)
/-- A slice of entries: in this world it reads the list. -/
structure IsJ (w : World) (v : Value) (l : List JF) : Prop where
  ok : ∀ e ∈ l, JF.Ok e
  val : ∃ a c, v = .slice a l.length c ∧ l.length ≤ c ∧ c ≤ 9223372036854775807 ∧ (a = none → c = 0) ∧ (0 < l.length → ∃ b o, a = some ⟨b, o, none⟩ ∧ ∀ j, j < l.length → w.rangeAt b (o + j * 34) (jfV (l.getD j .nul)))
theorem jrange_kept {w w' : World} {b o : Nat} {cs : List Value} (h : w.rangeAt b o cs) (hb : Below w.heap.size w w') : w'.rangeAt b o cs := fun j v hv => by
  have := h j v hv
  exact (hb.cell (p := ⟨b, o + j, none⟩) (World.block_lt_of_cell? w _ this)).trans this
theorem IsJ.below {w w' : World} {v : Value} {l : List JF} (h : IsJ w v l) (hb : Below w.heap.size w w') : IsJ w' v l := by
  obtain ⟨h0, a, c, hv, hl, hm, hz, hc⟩ := h
  refine ⟨h0, a, c, hv, hl, hm, hz, fun hp => ?_⟩
  obtain ⟨b, o, ha, hcell⟩ := hc hp
  exact ⟨b, o, ha, fun j hj => jrange_kept (hcell j hj) hb⟩
theorem IsJ.nil (w : World) : IsJ w (.slice none 0 0) [] := ⟨by simp, none, 0, rfl, Nat.le_refl _, by decide, fun _ => rfl, fun h => absurd h (by simp)⟩
theorem IsJ.shape {w : World} {v : Value} {l : List JF} (h : IsJ w v l) : ∃ a c, v = .slice a l.length c := by
  obtain ⟨_, a, c, hv, _⟩ := h
  exact ⟨a, c, hv⟩
theorem IsJ.lenEq {w : World} {a : Option Addr} {n c : Nat} {l : List JF} (h : IsJ w (.slice a n c) l) : n = l.length ∧ n ≤ c ∧ c ≤ 9223372036854775807 := by
  obtain ⟨_, a', c', hv, h1, h2, _⟩ := h
  injection hv with e1 e2 e3
  omega
/-- A slice of entries of the call's own. -/
def OwnJ (w : World) (B : Nat) (v : Value) (l : List JF) : Prop := (∀ e ∈ l, JF.Ok e) ∧ w.ownsRow B 73 34 v l.length (jfsV l)
theorem OwnJ.nil (w : World) (B : Nat) : OwnJ w B (.slice none 0 0) [] := ⟨by simp, World.ownsRow_nil _ _ _ _⟩
theorem OwnJ.shape {w : World} {B : Nat} {v : Value} {l : List JF} (h : OwnJ w B v l) : ∃ a c, v = .slice a l.length c := by
  rcases h.2.2 with ⟨rfl, h0⟩ | ⟨g, cap, cur, rfl, _⟩
  · exact ⟨none, 0, by rw [h0]⟩
  · exact ⟨_, cap, rfl⟩
theorem OwnJ.below {w w' : World} {B : Nat} {v : Value} {l : List JF} (h : OwnJ w B v l) (hb : Below w.heap.size w w') : OwnJ w' B v l := ⟨h.1, owns_below h.2 hb⟩
theorem OwnJ.kept {w w' : World} {B : Nat} {v : Value} {l : List JF} {row : Option Nat} (h : OwnJ w B v l) (hg : w.grownBy w' row) (hne : v.ownBlock = none ∨ v.ownBlock ≠ row) : OwnJ w' B v l := ⟨h.1, h.2.kept hg hne⟩
theorem OwnJ.mono {w : World} {B B' : Nat} {v : Value} {l : List JF} (h : OwnJ w B v l) (hb : B' ≤ B) : OwnJ w B' v l := ⟨h.1, owns_mono h.2 hb⟩
theorem OwnJ.isJ {w : World} {B : Nat} {v : Value} {l : List JF} (h : OwnJ w B v l) : IsJ w v l := by
  have h' := h.2
  refine ⟨h.1, ?_⟩
  rcases h.2.2 with ⟨rfl, h0⟩ | ⟨g, cap, cur, rfl, hb, hg, hle, hm, hs, ht⟩
  · exact ⟨none, 0, by rw [h0], by omega, by decide, fun _ => rfl, fun hp => by omega⟩
  · refine ⟨some ⟨g, 0, none⟩, cap, rfl, hle, by simpa [maxLen] using hm, fun h => (by cases h), fun hp => ⟨g, 0, rfl, fun j hj k v hv => ?_⟩⟩
    have hk : k < 34 := by
      have := (List.getElem?_eq_some_iff.1 hv).1
      rw [jfV_len (jf_get (P := JF.Ok) h.1 hj)] at this
      exact this
    have e := jfsV_at h.1 hj hk
    rw [hv] at e
    have := World.ownsRow.cells (g := g) h' rfl (j * 34 + k) _ e
    rw [Addr.add_lit] at this
    rw [← this]
    congr 2
    omega
theorem OwnJ.block {w : World} {B : Nat} {v : Value} {l : List JF} (h : OwnJ w B v l) {g : Nat} {cs : Array Value} {t : TypeId} {m : Nat × Nat} (hc : w.heap[g]? = some (.cells cs t m)) (ht : t ≠ 73) : v.ownBlock = none ∨ v.ownBlock ≠ some g := by
  rcases h.2.2 with ⟨rfl, _⟩ | ⟨g', cap, cur, rfl, _, hgg, _⟩
  · exact Or.inl rfl
  · refine Or.inr fun e => ?_
    simp only [Value.ownBlock, Option.some.injEq] at e
    subst e
    rw [hgg] at hc
    simp only [Option.some.injEq, Obj.cells.injEq] at hc
    exact ht hc.2.1.symm
def z34J : List Value := List.replicate 32 (.int .u8 0) ++ [.int .i64 0, .int .i64 0]
theorem infoJ : (Tryd.prog.info? 73).map (fun i => (i.zero, i.size, i.bytes)) = some (some (.agg z34J.toArray), 34, 48) := by kernel_rfl
theorem infoJz : (Tryd.prog.info? 73).map (·.size) = some 34 := by kernel_rfl
theorem infoJk : (Tryd.prog.info? 33).map (·.size) = some 32 := by kernel_rfl
theorem IsJ.cells {w : World} {ad : Addr} {n c : Nat} {m : List JF} (h : IsJ w (.slice (some ad) n c) m) : ∀ j u, (jfsV m)[j]? = some u → w.cell? (ad.add j) = some u := by
  intro j u hu
  obtain ⟨h0, a', c', hv, _, _, _, hc⟩ := h
  injection hv with e1 e2 e3
  subst e1
  have hj : j < (jfsV m).length := (List.getElem?_eq_some_iff.1 hu).1
  rw [jfsV_len h0] at hj
  obtain ⟨b, off, ha, hcell⟩ := hc (by omega)
  injection ha with ha
  subst ha
  have h2 := jfsV_at h0 (j := j / 34) (k := j % 34) (by omega) (by omega)
  rw [show j / 34 * 34 + j % 34 = j by omega, hu] at h2
  have h1 := hcell (j / 34) (by omega) (j % 34) u h2.symm
  rw [Addr.add_lit, ← h1]
  congr 2
  omega
section
variable {ops : Array Oper} {rest : List Oper} {o : Oper} {a : Act} {Q : Exit → Act → World → Prop} {w : World} {K : Act → World → Prop} {E : Prop}
/-- JFries, from wherever they lie, appended to a slice of the call's own. -/
theorem wp_appJ (x y : Operand) (ho : o.op = .call { callee := .builtin .append, args := #[x, y], argTypes := #[34, 34] }) {B : Nat} {v u : Value} {l m : List JF} (hx : a.eval x = v) (hown : OwnJ w B v l) (hy : a.eval y = u) (hu : IsJ w u m)
    (hl : l.length + m.length ≤ 100000000000) (hB : B ≤ w.heap.size)
    (hk : ∀ v' w', OwnJ w' B v' (l ++ m) → w.grownBy w' v.ownBlock → (v.ownBlock = none ∨ ∃ b, v.ownBlock = some b ∧ B ≤ b) → K (a.put o.dst v') w') : o.wp Tryd.prog a w K Q := by
  obtain ⟨i0, hi, hz0, hz1, hz2⟩ := info_parts infoJ
  have hvb : v.ownBlock = none ∨ ∃ b, v.ownBlock = some b ∧ B ≤ b := by
    cases hv : v.ownBlock with
    | none => exact Or.inl rfl
    | some b => exact Or.inr ⟨b, rfl, (World.ownsRow.lt hown.2 b hv).1⟩
  obtain ⟨h0, ad, c, rfl, _, _, hz, hc⟩ := id hu
  cases ad with
  | none =>
    have hm0 : m = [] := by
      by_cases hp : 0 < m.length
      · obtain ⟨b2, off2, ha, _⟩ := hc hp
        cases ha
      · exact List.eq_nil_of_length_eq_zero (by omega)
    subst hm0
    obtain rfl := hz rfl
    have hrun := run_append_owned_none (P := Tryd.prog) (w := w) B 34 o.type 73 i0 34 Tryd.underlying34 hi v _ _ hown.2
    have := hk v w (by rw [List.append_nil]; exact hown) ⟨rfl, rfl, rfl, Nat.le_refl _, fun _ _ _ => rfl⟩ hvb
    unfold Oper.wp
    simp [execOp, ho, resolve, invoke, builtin, hx, hy, hrun, Result.andThen]
    exact this
  | some ad =>
    obtain ⟨v', w', hr, h2, h3, h4, h5⟩ := run_append_own_at (P := Tryd.prog) w B 34 o.type 73 i0 _ 34 48 Tryd.underlying34 hi hz0 hz1 hz2 rfl (by decide) v l.length (jfsV l) hown.2 ad m.length c (jfsV m) (by rw [jfsV_len h0]) hu.cells (jfsV_one m) (by unfold maxLen; omega) (by omega) hB
    unfold Oper.wp execOp
    simp only [ho, resolve, invoke, builtin, Sem.run_bind, Sem.run_pure, Result.andThen_ok, List.map_toArray, List.map_cons, List.map_nil, hx, hy, hr]
    refine hk v' w' ⟨fun e he => ?_, ?_⟩ h3 hvb
    · rcases List.mem_append.1 he with he | he
      · exact hown.1 e he
      · exact h0 e he
    · rw [List.length_append, jfsV_app]; exact h2
theorem wpList_appJ (hgd : o.guard = none) (x y : Operand) (ho : o.op = .call { callee := .builtin .append, args := #[x, y], argTypes := #[34, 34] }) {B : Nat} {v u : Value} {l m : List JF} (hx : a.eval x = v) (hown : OwnJ w B v l) (hy : a.eval y = u) (hu : IsJ w u m)
    (hl : l.length + m.length ≤ 100000000000) (hB : B ≤ w.heap.size)
    (hk : ∀ v' w', OwnJ w' B v' (l ++ m) → w.grownBy w' v.ownBlock → (v.ownBlock = none ∨ ∃ b, v.ownBlock = some b ∧ B ≤ b) → wpList Tryd.prog ops Q rest (a.put o.dst v') w') : wpList Tryd.prog ops Q (o :: rest) a w :=
  wpList_plain hgd fun _ hK => wp_appJ x y ho hx hown hy hu hl hB fun v' w' h1 h2 h3 => hK _ _ (hk v' w' h1 h2 h3)
theorem step_appJ (hw : Region.wanted o (yielded ops a.tmps) = true) (x y : Operand) (ho : o.op = .call { callee := .builtin .append, args := #[x, y], argTypes := #[34, 34] }) {B : Nat} {v u : Value} {l m : List JF} (hx : a.eval x = v) (hown : OwnJ w B v l) (hy : a.eval y = u) (hu : IsJ w u m)
    (hl : l.length + m.length ≤ 100000000000) (hB : B ≤ w.heap.size)
    (hk : ∀ v' w', OwnJ w' B v' (l ++ m) → w.grownBy w' v.ownBlock → (v.ownBlock = none ∨ ∃ b, v.ownBlock = some b ∧ B ≤ b) → K (a.put o.dst v') w') : if Region.wanted o (yielded ops a.tmps) = true then Oper.wp Tryd.prog o a w K Q else E := by
  rw [if_pos hw]
  exact wp_appJ x y ho hx hown hy hu hl hB hk
/-- One operation whose run is known. -/
theorem jstep_run (hw : Region.wanted o (yielded ops a.tmps) = true) {v : Value} {w' : World} (hrun : (execOp a.eval o).run Tryd.prog w = .ok (.value v) w') (hk : K (a.put o.dst v) w') : if Region.wanted o (yielded ops a.tmps) = true then Oper.wp Tryd.prog o a w K Q else E := by
  rw [if_pos hw]
  unfold Oper.wp
  rw [hrun]
  exact hk
/-- A struct or an array read behind a guard that holds. -/
theorem wpList_loadJ (hw : Region.wanted o (yielded ops a.tmps) = true) (ty : TypeId) (x : Operand) (ho : o.op = .load ty x) (b f : Nat) (hx : a.eval x = .pointer (some ⟨b, f, none⟩)) (cs : List Value) (d : TypeDesc) (hc : w.rangeAt b f cs)
    (hu : Tryd.prog.underlying ty = some d) (hd : d.isRow = true) (hi : (Tryd.prog.info? ty).map (·.size) = some cs.length) (h : wpList Tryd.prog ops Q rest (a.put o.dst (.agg cs.toArray)) w) : wpList Tryd.prog ops Q (o :: rest) a w :=
  wpList_on hw fun _ hK => wp_load_mid ty x ho b f hx cs d hc hu hd hi (hK _ _ h)
end
theorem jbelow_app {B : Nat} {a w w' : World} {v : Value} (h : Below B a w) (hg : w.grownBy w' v.ownBlock) (hB : B ≤ w.heap.size) (hv : v.ownBlock = none ∨ ∃ b, v.ownBlock = some b ∧ B ≤ b) : Below B a w' :=
  h.grown hg hB (fun j hj => by
    rcases hv with hv | ⟨b, hv, hb⟩
    · rw [hv] at hj; cases hj
    · rw [hv] at hj; injection hj with hj; omega)
/-- A new block's cells. -/
theorem jnew_range (w : World) (cs : List Value) (t : TypeId) : (w.alloc (.cells cs.toArray t)).rangeAt w.heap.size 0 cs := fun j v hv => by
  rw [Nat.zero_add, Arr.cell (Arr.new w cs t) j]
  exact hv
theorem jrange_part {w : World} {b o : Nat} {cs ds : List Value} {k : Nat} (h : w.rangeAt b o cs) (hp : ∀ j v, ds[j]? = some v → cs[k + j]? = some v) : w.rangeAt b (o + k) ds := fun j v hv => by
  rw [Nat.add_assoc]
  exact h (k + j) v (hp j v hv)

theorem jfV_h {e : JF} : ∀ j v, (e.h.map (Value.int .u8))[j]? = some v → (jfV e)[0 + j]? = some v := by
  intro j v hv
  have hj := (List.getElem?_eq_some_iff.1 hv).1
  rw [Nat.zero_add, jfV, List.getElem?_append_left hj]
  exact hv
theorem jfV_f {e : JF} (h : e.h.length = 32) : (jfV e)[32]? = some (.int .i64 e.f) ∧ (jfV e)[33]? = some (.int .i64 e.l) := by
  unfold jfV
  constructor
  · rw [List.getElem?_append_right (by simp [h])]; simp [h]
  · rw [List.getElem?_append_right (by simp [h])]; simp [h]
/-- A record's cells, its references in the slice v. -/
def jrV (r : JR) (v : Value) : List Value := .int .i64 r.n :: (r.p.map (Value.int .u8) ++ [v])
theorem jrV_len {r : JR} (h : r.p.length = 32) (v : Value) : (jrV r v).length = 34 := by simp [jrV, h]
theorem jrV_p {r : JR} {v : Value} : ∀ j u, (r.p.map (Value.int .u8))[j]? = some u → (jrV r v)[1 + j]? = some u := by
  intro j u hu
  have hj := (List.getElem?_eq_some_iff.1 hu).1
  rw [Nat.add_comm, jrV, List.getElem?_cons_succ, List.getElem?_append_left hj]
  exact hu
theorem jrV_v {r : JR} (h : r.p.length = 32) (v : Value) : (jrV r v)[33]? = some v := by
  rw [jrV, List.getElem?_cons_succ, List.getElem?_append_right (by simp [h])]
  simp [h]
/-- A value that is a record. -/
structure IsR (w : World) (V : Value) (r : JR) : Prop where
  ok : r.Ok
  val : ∃ v, V = .agg (jrV r v).toArray ∧ IsJ w v r.rs
theorem IsR.below {w w' : World} {V : Value} {r : JR} (h : IsR w V r) (hb : Below w.heap.size w w') : IsR w' V r := by
  obtain ⟨h1, v, hv, hj⟩ := h
  exact ⟨h1, v, hv, hj.below hb⟩
end Go.Proofs.YthhjlopgpmaokabDoor

namespace Go.Proofs.YthhjlopgpmaokabDoor
open Go.RowKit Go.Maps

/-- Cells written one behind the other. -/
def jputs : List Value → Nat → List Value → List Value
  | xs, _, [] => xs
  | xs, k, c :: cs => jputs (xs.set k c) (k + 1) cs
theorem jputs_len : ∀ (cs xs : List Value) (k : Nat), (jputs xs k cs).length = xs.length
  | [], _, _ => rfl
  | c :: cs, xs, k => by rw [jputs, jputs_len cs, List.length_set]
theorem jputs_app : ∀ (cs a x b : List Value) (j : Nat), j + cs.length ≤ x.length → jputs (a ++ (x ++ b)) (a.length + j) cs = a ++ (jputs x j cs ++ b)
  | [], a, x, b, j, _ => rfl
  | c :: cs, a, x, b, j, h => by
    rw [List.length_cons] at h
    rw [jputs, jputs, List.set_append_right _ _ (by omega), Nat.add_sub_cancel_left, List.set_append_left _ _ (by omega), Nat.add_assoc]
    exact jputs_app cs a (x.set j c) b (j + 1) (by rw [List.length_set]; omega)
theorem jputs_all : ∀ (cs x : List Value), cs.length = x.length → jputs x 0 cs = cs := by
  have : ∀ (cs a x : List Value), cs.length = x.length → jputs (a ++ x) a.length cs = a ++ cs := by
    intro cs
    induction cs with
    | nil => intro a x h; have : x = [] := List.eq_nil_of_length_eq_zero h.symm; subst this; rfl
    | cons c cs ih =>
      intro a x h
      cases x with
      | nil => simp at h
      | cons y x =>
        rw [jputs, List.set_append_right _ _ (Nat.le_refl _), Nat.sub_self, List.set_cons_zero]
        have := ih (a ++ [c]) x (by simpa using h)
        rw [List.length_append, List.append_assoc, List.append_assoc] at this
        exact this
  intro cs x h
  exact this cs [] x h
theorem jarr_puts {g : Nat} {t : TypeId} : ∀ (ds cs : List Value) (k : Nat) (w : World), Arr w g t cs → Arr (w.setCells g k ds) g t (jputs cs k ds) ∧ w.grownBy (w.setCells g k ds) (some g)
  | [], cs, k, w, h => ⟨h, rfl, rfl, rfl, Nat.le_refl _, fun _ _ _ => rfl⟩
  | u :: ds, cs, k, w, h => by
    have a1 : Arr (w.setCell ⟨g, k, none⟩ u) g t (cs.set k u) := by
      have := heap_setCell_same w g k cs.toArray t u h
      rw [List.setIfInBounds_toArray] at this
      exact this
    obtain ⟨a2, b2⟩ := jarr_puts ds (cs.set k u) (k + 1) _ a1
    exact ⟨a2, b2.os, b2.tape, b2.output, Nat.le_trans (by simp) b2.size, fun j hj hne => (b2.block j (by simpa using hj) hne).trans (heap_setCell_other w ⟨g, k, none⟩ j u (fun e => hne (by simp [e])))⟩
theorem jarr_there {g : Nat} {t : TypeId} {cs : List Value} {w : World} (h : Arr w g t cs) {k m : Nat} (hk : k + m ≤ cs.length) : w.there g k m := by
  intro i hi
  refine ⟨?_, h.frozen _⟩
  rw [h.cell, List.getElem?_eq_getElem (by omega)]
  rfl
theorem Arr.rangeJ {w : World} {g : Nat} {t : TypeId} {cs : List Value} (h : Arr w g t cs) : w.rangeAt g 0 cs := fun j v hv => by
  rw [Nat.zero_add, h.cell j]; exact hv
theorem jalloc_zero {t : TypeId} {z : List Value} {n b : Nat} (hi : (Tryd.prog.info? t).map (fun i => (i.zero, i.size, i.bytes)) = some (some (.agg z.toArray), n, b)) (W : World) : (Instr.alloc t true (.tuple #[])).run Tryd.prog W = .ok (.pointer (some ⟨W.heap.size, 0, none⟩)) (W.alloc (.cells z.toArray t)) := by
  obtain ⟨i0, hi0, hz0, hz1, hz2⟩ := info_parts hi
  have hzero : (zeroValue t).run Tryd.prog W = .ok (.agg z.toArray) W := by
    generalize z.toArray = zz at hz0
    simp [zeroValue, typeInfo, hi0, hz0]
  unfold Instr.alloc
  rw [Sem.run_bind, hzero]
  rfl
def z34R : List Value := .int .i64 0 :: (List.replicate 32 (.int .u8 0) ++ [.slice none 0 0])
theorem infoR : (Tryd.prog.info? 52).map (fun i => (i.zero, i.size, i.bytes)) = some (some (.agg z34R.toArray), 34, 64) := by kernel_rfl
theorem infoRz : (Tryd.prog.info? 52).map (·.size) = some 34 := by kernel_rfl
theorem z34R_nul : z34R = jrV JR.nul (.slice none 0 0) := by
  unfold z34R jrV JR.nul
  rw [List.map_replicate]
theorem infoJof {r : JF} (h : r.Ok) : (Tryd.prog.info? 73).map (·.size) = some (jfV r).length := by rw [jfV_len h]; exact infoJz
theorem infoRof {r : JR} (h : r.p.length = 32) (v : Value) : (Tryd.prog.info? 52).map (·.size) = some (jrV r v).length := by rw [jrV_len h]; exact infoRz
theorem infoKof {l : List Int} (h : l.length = 32) : (Tryd.prog.info? 33).map (·.size) = some (l.map (Value.int .u8)).length := by rw [List.length_map, h]; exact infoJk
theorem jrV_one (r : JR) {v : Value} (hv : v.oneCell' = true) : ∀ u ∈ jrV r v, u.oneCell' = true := by
  intro u hu
  unfold jrV at hu
  simp only [List.mem_cons, List.mem_append, List.mem_map, List.not_mem_nil, or_false] at hu
  rcases hu with rfl | ⟨x, _, rfl⟩ | rfl
  · rfl
  · rfl
  · exact hv
theorem IsJ.one {w : World} {v : Value} {l : List JF} (h : IsJ w v l) : v.oneCell' = true := by
  obtain ⟨_, a, c, rfl, _⟩ := h
  rfl
theorem jbox_run (t : TypeId) (cs : List Value) (W : World) : (Instr.box t (.agg cs.toArray)).run Tryd.prog W = .ok (.pointer (some ⟨W.heap.size, 0, none⟩)) (W.alloc (.cells cs.toArray t)) := rfl
section
variable {ops : Array Oper} {rest : List Oper} {o : Oper} {a : Act} {Q : Exit → Act → World → Prop} {w : World} {K : Act → World → Prop} {E : Prop}
theorem wpList_allocJ (hgd : o.guard = none) (t : TypeId) (ho : o.op = .alloc t) {z : List Value} {n b : Nat} (hi : (Tryd.prog.info? t).map (fun i => (i.zero, i.size, i.bytes)) = some (some (.agg z.toArray), n, b))
    (hk : wpList Tryd.prog ops Q rest (a.put o.dst (.pointer (some ⟨w.heap.size, 0, none⟩))) (w.alloc (.cells z.toArray t))) : wpList Tryd.prog ops Q (o :: rest) a w := by
  refine wpList_plain hgd fun K hK => ?_
  unfold Oper.wp execOp
  simp only [ho, Sem.run_bind, jalloc_zero hi w, Result.andThen_ok, Sem.run_pure]
  exact hK _ _ hk
theorem step_allocJ (hw : Region.wanted o (yielded ops a.tmps) = true) (t : TypeId) (ho : o.op = .alloc t) {z : List Value} {n b : Nat} (hi : (Tryd.prog.info? t).map (fun i => (i.zero, i.size, i.bytes)) = some (some (.agg z.toArray), n, b))
    (hk : K (a.put o.dst (.pointer (some ⟨w.heap.size, 0, none⟩))) (w.alloc (.cells z.toArray t))) : if Region.wanted o (yielded ops a.tmps) = true then Oper.wp Tryd.prog o a w K Q else E := by
  refine jstep_run hw ?_ hk
  have := jalloc_zero hi w
  unfold execOp
  simp only [ho, Sem.run_bind, this, Result.andThen_ok, Sem.run_pure]
/-- A struct is written into a block that it fills. -/
theorem wpList_storeJ (hgd : o.guard = none) (x y : Operand) (t : TypeId) (ho : o.op = .store t x y) {g : Nat} {t0 : TypeId} {cs ds : List Value} (hx : a.eval x = .pointer (some ⟨g, 0, none⟩)) (hy : a.eval y = .agg ds.toArray) (h : Arr w g t0 cs) (hi : (Tryd.prog.info? t).map (·.size) = some ds.length) (hl : cs.length = ds.length) (h1 : ∀ u ∈ ds, u.oneCell' = true)
    (hk : ∀ w', Arr w' g t0 ds → w.grownBy w' (some g) → wpList Tryd.prog ops Q rest (a.put o.dst undef) w') : wpList Tryd.prog ops Q (o :: rest) a w := by
  obtain ⟨a1, b1⟩ := jarr_puts ds cs 0 w h
  rw [jputs_all ds cs hl.symm] at a1
  exact wpList_store_mid hgd t x y ho g 0 ds.toArray hx hy (jarr_there h (by simp [hl])) (by simpa using hi) (all_oneCell_toArray h1) (hk _ (by simpa using a1) (by simpa using b1))
theorem step_storeJ (hw : Region.wanted o (yielded ops a.tmps) = true) (x y : Operand) (t : TypeId) (ho : o.op = .store t x y) {g : Nat} {t0 : TypeId} {cs ds : List Value} (hx : a.eval x = .pointer (some ⟨g, 0, none⟩)) (hy : a.eval y = .agg ds.toArray) (h : Arr w g t0 cs) (hi : (Tryd.prog.info? t).map (·.size) = some ds.length) (hl : cs.length = ds.length) (h1 : ∀ u ∈ ds, u.oneCell' = true)
    (hk : ∀ w', Arr w' g t0 ds → w.grownBy w' (some g) → K (a.put o.dst undef) w') : if Region.wanted o (yielded ops a.tmps) = true then Oper.wp Tryd.prog o a w K Q else E := by
  rw [if_pos hw]
  obtain ⟨a1, b1⟩ := jarr_puts ds cs 0 w h
  rw [jputs_all ds cs hl.symm] at a1
  exact wp_store_mid t x y ho g 0 ds.toArray hx hy (jarr_there h (by simp [hl])) (by simpa using hi) (all_oneCell_toArray h1) (hk _ (by simpa using a1) (by simpa using b1))
/-- A struct that is handed in is laid into a block of its own. -/
theorem wpList_boxJ (hgd : o.guard = none) (t : TypeId) (x : Operand) (ho : o.op = .box t x) {cs : List Value} (hx : a.eval x = .agg cs.toArray)
    (hk : ∀ w', Arr w' w.heap.size t cs → Below w.heap.size w w' → w'.heap.size = w.heap.size + 1 → wpList Tryd.prog ops Q rest (a.put o.dst (.pointer (some ⟨w.heap.size, 0, none⟩))) w') : wpList Tryd.prog ops Q (o :: rest) a w := by
  refine wpList_plain hgd fun K hK => ?_
  unfold Oper.wp execOp
  simp only [ho, Sem.run_bind, hx, jbox_run, Result.andThen_ok, Sem.run_pure]
  exact hK _ _ (hk _ (Arr.new w cs t) ((Below.refl _ _).alloc (Nat.le_refl _) _) (by simp))
/-- A literal without fields. -/
theorem wpList_bldJ (hgd : o.guard = none) (t : TypeId) (ho : o.op = .build t #[]) {u : Value} (hrun : ∀ W, (Instr.build t #[]).run Tryd.prog W = .ok u W)
    (hk : wpList Tryd.prog ops Q rest (a.put o.dst u) w) : wpList Tryd.prog ops Q (o :: rest) a w := by
  refine wpList_plain hgd fun K hK => ?_
  unfold Oper.wp execOp
  simp only [ho, List.map_toArray, List.map_nil, Sem.run_bind, hrun w, Result.andThen_ok, Sem.run_pure]
  exact hK _ _ hk
end
theorem bldR0 (W : World) : (Instr.build 52 #[]).run Tryd.prog W = .ok (.agg (jrV JR.nul (.slice none 0 0)).toArray) W := by rw [← z34R_nul]; kernel_rfl
theorem jbelow_grown {B g : Nat} {a w w' : World} (h : Below B a w) (hg : w.grownBy w' (some g)) (hB : B ≤ w.heap.size) (hb : B ≤ g) : Below B a w' :=
  h.grown hg hB (fun j hj => by injection hj with hj; omega)
theorem jalloc_below (w : World) (o : Obj) : Below w.heap.size w (w.alloc o) := (Below.refl _ _).alloc (Nat.le_refl _) o
end Go.Proofs.YthhjlopgpmaokabDoor

namespace Go.Proofs.YthhjlopgpmaokabDoor
open Go.RowKit Go.Maps

/-- So many zero bytes as a text. -/
def zS (k : Nat) : ByteArray := ⟨(List.replicate k (0 : UInt8)).toArray⟩
theorem zS_size (k : Nat) : (zS k).size = k := by simp [zS, ByteArray.size]
theorem zS_cells (k : Nat) : Lib.strCells (zS k) = (List.replicate k (0 : Int)).map (Value.int .u8) := by
  simp [Lib.strCells, zS]
theorem zero_cells (n : Nat) : (Builtin.zeroCells (Value.int .u8 0).cells n) = (Lib.strCells (zS n)).toArray := by
  have h : (Value.int .u8 0).cells = #[.int .u8 0] := rfl
  apply Array.ext'
  simp [Builtin.zeroCells, h, Nat.mod_one, List.map_const', zS_cells]
/-- Zeros by their number are zeros. -/
theorem app_num (w : World) (ty : TypeId) (base : Option Addr) (n c k : Nat) (hk0 : 0 < k) (hk : k ≤ 1000000) (hn : n ≤ 1000000) :
    (Builtin.append_ #[48, 3] ty #[.slice base n c, .int .i64 (k : Int)]).run Tryd.prog w = (Builtin.append_ #[48, 9] ty #[.slice base n c, .string (zS k)]).run Tryd.prog w := by
  obtain ⟨i0, hi, hz0, hz1, hz2⟩ := info_parts info8
  have hw : IntKind.i64.wrap (k : Int) = k := by rw [IntKind.wrap_i64]; omega
  have hneg : ¬ ((k : Int) < 0) := by omega
  have h48i : ¬ (281474976710656 < (k : Int)) := by omega
  have h63 : ¬ (9223372036854775807 < ((n : Int) + (k : Int))) := by omega
  have h0 : ¬ k = 0 := by omega
  have hf : ∀ W : World, (Builtin.firstCells 1 k (.string (zS k))).run Tryd.prog W = .ok (Builtin.zeroCells (Value.int .u8 0).cells k) W := fun W => by
    have := Lib.run_firstCells_string (P := Tryd.prog) W 1 (zS k)
    rw [zS_size] at this
    rw [this, zero_cells]
  by_cases hc : n + k ≤ c
  · simp [Builtin.append_, run_underlying Tryd.underlying48, run_underlying Tryd.underlying3, run_underlying Tryd.underlying9, sizeOf, typeInfo, zeroValue, hi, hz0, hz1, hz2, asInt, asIntOf, hw, hneg, h48i, Builtin.lenOf, zS_size, hf, h0, hc]
  · have hfit := growslice_fits_wide (need := n + k) (old := c) (bytes := 1) (by omega) (by omega)
    have h48' : ¬ (281474976710656 < Builtin.nextslicecap (n + k) c) := by omega
    simp [Builtin.append_, run_underlying Tryd.underlying48, run_underlying Tryd.underlying3, run_underlying Tryd.underlying9, sizeOf, typeInfo, zeroValue, hi, hz0, hz1, hz2, asInt, asIntOf, hw, hneg, h48i, Builtin.lenOf, zS_size, hf, h0, hc, h63, h48']
section
variable {ops : Array Oper} {rest : List Oper} {o : Oper} {a : Act} {Q : Exit → Act → World → Prop} {w : World} {K : Act → World → Prop} {E : Prop}
theorem app_text (w : World) (ty : TypeId) {B : Nat} {v : Value} {xs ys : List Int} {s : ByteArray} (hown : Own8 w B v xs) (hs : Lib.strCells s = ys.map (Value.int .u8)) (hy : ∀ y ∈ ys, 0 ≤ y ∧ y ≤ 255) (hl : xs.length + ys.length ≤ 1000000) (hB : B ≤ w.heap.size) :
    ∃ v' w', (Builtin.append_ #[48, 9] ty #[v, .string s]).run Tryd.prog w = .ok v' w' ∧ Own8 w' B v' (xs ++ ys) ∧ w.grownBy w' v.ownBlock := by
  obtain ⟨i0, hi, hz0, hz1, hz2⟩ := info_parts info8
  have hsz : s.size = ys.length := by have := congrArg List.length hs; rw [Lib.strCells_length, List.length_map] at this; exact this
  obtain ⟨v', w', hr, h2, h3, h4⟩ := Lib.run_append_own_string (P := Tryd.prog) w B 48 9 ty 5 i0 Tryd.underlying48 Tryd.underlying9 hi hz0 hz1 hz2 v xs.length (xs.map (Value.int .u8)) hown.1 s (by unfold maxLen; omega) (by omega) hB
  refine ⟨v', w', hr, ⟨?_, fun x hx => ?_⟩, h3⟩
  · rw [List.length_append, List.map_append, ← hs, ← hsz]; exact h2
  · rcases List.mem_append.1 hx with hx | hx
    · exact hown.2 x hx
    · exact hy x hx
theorem wpList_appT (hgd : o.guard = none) (x y : Operand) (ho : o.op = .call { callee := .builtin .append, args := #[x, y], argTypes := #[48, 9] }) {B : Nat} {v : Value} {xs ys : List Int} {s : ByteArray} (hx : a.eval x = v) (hown : Own8 w B v xs) (hy : a.eval y = .string s)
    (hs : Lib.strCells s = ys.map (Value.int .u8)) (hyb : ∀ y ∈ ys, 0 ≤ y ∧ y ≤ 255) (hl : xs.length + ys.length ≤ 1000000) (hB : B ≤ w.heap.size) (hk : ∀ v' w', Own8 w' B v' (xs ++ ys) → w.grownBy w' v.ownBlock → wpList Tryd.prog ops Q rest (a.put o.dst v') w') : wpList Tryd.prog ops Q (o :: rest) a w := by
  refine wpList_plain hgd fun K hK => ?_
  obtain ⟨v', w', hr, h2, h3⟩ := app_text w o.type hown hs hyb hl hB
  unfold Oper.wp execOp
  simp only [ho, resolve, invoke, builtin, Sem.run_bind, Sem.run_pure, Result.andThen_ok, List.map_toArray, List.map_cons, List.map_nil, hx, hy, hr]
  exact hK _ _ (hk v' w' h2 h3)
theorem wpList_app0 (hgd : o.guard = none) (x y : Operand) (ho : o.op = .call { callee := .builtin .append, args := #[x, y], argTypes := #[48, 3] }) {B k : Nat} {v : Value} {xs : List Int} (hx : a.eval x = v) (hown : Own8 w B v xs) (hy : a.eval y = .int .i64 (k : Int))
    (hk0 : 0 < k) (hl : xs.length + k ≤ 1000000) (hB : B ≤ w.heap.size) (hk : ∀ v' w', Own8 w' B v' (xs ++ List.replicate k 0) → w.grownBy w' v.ownBlock → wpList Tryd.prog ops Q rest (a.put o.dst v') w') : wpList Tryd.prog ops Q (o :: rest) a w := by
  refine wpList_plain hgd fun K hK => ?_
  obtain ⟨v', w', hr, h2, h3⟩ := app_text w o.type hown (zS_cells k) (By8.zero k) (by rw [List.length_replicate]; exact hl) hB
  obtain ⟨va, n, c, rfl⟩ := hown.shape
  have hn := hown.isB.lenEq
  rw [← app_num w o.type va n c k hk0 (by omega) (by omega)] at hr
  unfold Oper.wp execOp
  simp only [ho, resolve, invoke, builtin, Sem.run_bind, Sem.run_pure, Result.andThen_ok, List.map_toArray, List.map_cons, List.map_nil, hx, hy, hr]
  exact hK _ _ (hk v' w' h2 h3)
end
end Go.Proofs.YthhjlopgpmaokabDoor

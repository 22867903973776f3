/- Directories as rows of bytes: what Check, Encode, Decode, KeyOf tell. Nothing of a program. Directories as rows of bytes: what is read is written just so; no beginning is a node. Nothing of a program. Entries in memory. Steps of a region; new structs. Keys (arrays of bytes) held against one another. -/
import Derived.Test.YtpklbchbldipnabDoorNA
import Derived.Deep.MidRow
import Derived.Laws.StructEq
namespace Go.Proofs.YtpklbchbldipnabDoor
open Go.RowKit

/-- An entry: its name's bytes, is it a directory, its key, its hash, its first sector, its length. -/
structure Ent where
  nm : List Int
  dir : Bool
  key : List Int
  hash : List Int
  fi : Int
  ln : Int
def Ent.nul : Ent := ⟨[], false, [], [], 0, 0⟩
/-- Byte by byte: is one ahead of the other? -/
def ahd : List Int → List Int → Bool
  | _, [] => false
  | [], _ :: _ => true
  | a :: x, b :: y => if a = b then ahd x y else decide (a < b)
def sndE (e : Ent) : Bool := decide (0 ≤ e.fi ∧ e.fi ≤ 65535 ∧ 0 ≤ e.ln ∧ e.ln ≤ (if e.dir then 1048576 else 262144)) && (e.dir || decide (e.key = e.hash))
/-- Doesn't it come behind the one ahead? -/
def late : Option (List Int) → List Int → Bool
  | none, _ => false
  | some a, b => !ahd a b
/-- One entry behind another one: 0, or why not. (nb: may this be a name?) -/
def chk1 (nb : List Int → Bool) (ah : Option (List Int)) (e : Ent) : Int :=
  if nb e.nm = false then 81 else if late ah e.nm = true then 83 else if sndE e = false then 80 else 0
def chkF (nb : List Int → Bool) : Option (List Int) → List Ent → Int
  | _, [] => 0
  | ah, e :: r => if chk1 nb ah e ≠ 0 then chk1 nb ah e else chkF nb (some e.nm) r
def chkL (nb : List Int → Bool) (l : List Ent) : Int := if 1024 < l.length then 82 else chkF nb none l
def headB (e : Ent) : List Int := (bB e.nm ++ [if e.dir then 1 else 0]) ++ e.key
def entB (e : Ent) : List Int := ((headB e ++ e.hash) ++ fB e.fi 4) ++ fB e.ln 4
def encL (l : List Ent) : List Int := (1 :: uBytes l.length) ++ l.flatMap entB
def keyL (l : List Ent) : List Int := 1 :: l.flatMap fun e => headB e ++ (if e.dir then [] else uBytes e.ln)
/-- Behind an entry's name: 73 bytes. -/
def restE (nm : List Int) (b : List Int) : Ent := ⟨nm, decide (b.headD 0 = 1), (b.drop 1).take 32, (b.drop 33).take 32, leN ((b.drop 65).take 4), leN ((b.drop 69).take 4)⟩
/-- One entry out of what is left: the entry and what is left behind it, or why not. -/
def decE (nb : List Int → Bool) (ah : Option (List Int)) (b : List Int) : Ent × List Int × Int :=
  let r := rU 0 0 b
  if r.2.2 ≠ 0 then (.nul, [], 80)
  else if 64 < r.1 then (.nul, [], 81)
  else if ((b.drop r.2.1).length : Int) < r.1 then (.nul, [], 80)
  else
    let nm := (b.drop r.2.1).take r.1.toNat
    let t := (b.drop r.2.1).drop r.1.toNat
    if nb nm = false then (.nul, [], 81)
    else if late ah nm = true then (.nul, [], 83)
    else if t.length < 73 ∨ 1 < t.headD 0 then (.nul, [], 80)
    else if sndE (restE nm t) = false then (.nul, [], 80)
    else (restE nm t, t.drop 73, 0)
def decF (nb : List Int → Bool) : Nat → Option (List Int) → List Ent → List Int → List Ent × Int
  | 0, _, l, b => if b = [] then (l, 0) else ([], 80)
  | n + 1, ah, l, b => if (decE nb ah b).2.2 ≠ 0 then ([], (decE nb ah b).2.2) else decF nb n (some (decE nb ah b).1.nm) (l ++ [(decE nb ah b).1]) (decE nb ah b).2.1
def decL (nb : List Int → Bool) (b : List Int) : List Ent × Int :=
  if 1048576 < b.length then ([], 2)
  else if b.headD 0 ≠ 1 then ([], 80)
  else if (rU 0 0 b.tail).2.2 ≠ 0 then ([], 80)
  else if 1024 < (rU 0 0 b.tail).1 then ([], 82)
  else decF nb (rU 0 0 b.tail).1.toNat none [] (b.tail.drop (rU 0 0 b.tail).2.1)
/-- An entry that can be written. -/
structure EntOk (e : Ent) : Prop where
  nm : ∀ c ∈ e.nm, 0 ≤ c ∧ c ≤ 255
  key : e.key.length = 32 ∧ ∀ c ∈ e.key, 0 ≤ c ∧ c ≤ 255
  hash : e.hash.length = 32 ∧ ∀ c ∈ e.hash, 0 ≤ c ∧ c ≤ 255
theorem headB_len {e : Ent} (h : EntOk e) : (headB e).length = (bB e.nm).length + 33 := by
  unfold headB
  simp only [List.length_append, List.length_cons, List.length_nil, h.key.1]
theorem entB_len {e : Ent} (h : EntOk e) : (entB e).length = (bB e.nm).length + 73 := by
  unfold entB
  simp only [List.length_append, headB_len h, h.hash.1, fB_len]
theorem fB4 (V : Int) : fB V 4 = [V % 256, V / 256 % 256, V / 65536 % 256, V / 16777216 % 256] := by
  unfold fB
  rw [show List.range 4 = [0, 1, 2, 3] by decide]
  simp
theorem leN_fB4 {V : Int} (h0 : 0 ≤ V) (h1 : V < 4294967296) : leN (fB V 4) = V := by
  rw [fB4]
  simp only [leN]
  omega
/-- Behind the name. -/
def tailB (e : Ent) : List Int := (if e.dir then 1 else 0) :: (e.key ++ (e.hash ++ (fB e.fi 4 ++ fB e.ln 4)))
theorem entB_tail (e : Ent) : entB e = uBytes e.nm.length ++ (e.nm ++ tailB e) := by
  unfold entB headB bB tailB
  simp
theorem tailB_len {e : Ent} (h : EntOk e) : (tailB e).length = 73 := by
  unfold tailB
  simp only [List.length_append, List.length_cons, h.key.1, h.hash.1, fB_len]
theorem app_drop {a b : List Int} {n : Nat} (h : a.length = n) : (a ++ b).drop n = b := by subst h; simp
theorem app_take {a b : List Int} {n : Nat} (h : a.length = n) : (a ++ b).take n = a := by subst h; simp
theorem restE_tail {e : Ent} (h : EntOk e) (hs : sndE e = true) (r : List Int) : restE e.nm (tailB e ++ r) = e := by
  have hb : 0 ≤ e.fi ∧ e.fi ≤ 65535 ∧ 0 ≤ e.ln ∧ e.ln ≤ 1048576 := by
    unfold sndE at hs
    have := of_decide_eq_true (Bool.and_eq_true_iff.1 hs).1
    obtain ⟨h1, h2, h3, h4⟩ := this
    split at h4 <;> omega
  have hk := h.key.1
  have hh := h.hash.1
  have d1 : (tailB e ++ r).drop 1 = e.key ++ (e.hash ++ (fB e.fi 4 ++ (fB e.ln 4 ++ r))) := by unfold tailB; simp
  have d33 : (tailB e ++ r).drop 33 = e.hash ++ (fB e.fi 4 ++ (fB e.ln 4 ++ r)) := by
    rw [show 33 = 1 + 32 from rfl, ← List.drop_drop, d1, app_drop hk]
  have d65 : (tailB e ++ r).drop 65 = fB e.fi 4 ++ (fB e.ln 4 ++ r) := by
    rw [show 65 = 33 + 32 from rfl, ← List.drop_drop, d33, app_drop hh]
  have d69 : (tailB e ++ r).drop 69 = fB e.ln 4 ++ r := by
    rw [show 69 = 65 + 4 from rfl, ← List.drop_drop, d65, app_drop (fB_len _ _)]
  have hd : (tailB e ++ r).headD 0 = if e.dir then 1 else 0 := by unfold tailB; rfl
  unfold restE
  rw [hd, d1, d33, d65, d69, app_take hk, app_take hh, app_take (fB_len _ _), app_take (fB_len _ _), leN_fB4 hb.1 (by omega), leN_fB4 hb.2.2.1 (by omega)]
  obtain ⟨nm, dir, key, hash, fi, ln⟩ := e
  cases dir <;> rfl
/-- What was written is read. -/
theorem decE_ent {nb : List Int → Bool} (hnb : ∀ x, nb x = true → x.length ≤ 64) {ah : Option (List Int)} {e : Ent} (h : EntOk e) (hc : chk1 nb ah e = 0) (r : List Int) : decE nb ah (entB e ++ r) = (e, r, 0) := by
  have h1 : nb e.nm = true := by
    cases hn : nb e.nm with
    | true => rfl
    | false => unfold chk1 at hc; rw [if_pos hn] at hc; cases hc
  have hn := hnb _ h1
  unfold chk1 at hc
  rw [if_neg (by rw [h1]; decide)] at hc
  have h2 : ¬ late ah e.nm = true := fun hx => by rw [if_pos hx] at hc; cases hc
  rw [if_neg h2] at hc
  have h3 : sndE e = true := by
    cases hs : sndE e with
    | true => rfl
    | false => rw [if_pos hs] at hc; cases hc
  have hU : rU 0 0 (entB e ++ r) = ((e.nm.length : Int), (uBytes e.nm.length).length, 0) := by
    rw [entB_tail, List.append_assoc]
    exact rU_uBytes (by omega) (top9 (by omega))
  have hD : (entB e ++ r).drop (uBytes (e.nm.length : Int)).length = e.nm ++ (tailB e ++ r) := by
    rw [entB_tail, List.append_assoc, app_drop rfl, List.append_assoc]
  unfold decE
  simp only [hU, hD]
  rw [if_neg (by simp), if_neg (by omega), if_neg (by simp; omega)]
  rw [show (e.nm.length : Int).toNat = e.nm.length by simp, app_take rfl, app_drop rfl, if_neg (by rw [h1]; decide), if_neg h2, restE_tail h h3 r]
  rw [if_neg (by
    have hl := tailB_len h
    have hd : (tailB e ++ r).headD 0 = if e.dir then 1 else 0 := by unfold tailB; rfl
    rw [hd, List.length_append]
    cases e.dir <;> simp <;> omega), if_neg (by rw [h3]; decide), app_drop (tailB_len h)]
theorem decF_ents {nb : List Int → Bool} (hnb : ∀ x, nb x = true → x.length ≤ 64) : ∀ (m l : List Ent) (ah : Option (List Int)), (∀ e ∈ m, EntOk e) → chkF nb ah m = 0 → decF nb m.length ah l (m.flatMap entB) = (l ++ m, 0)
  | [], l, ah, _, _ => by simp [decF]
  | e :: m, l, ah, hok, hc => by
    have h1 : chk1 nb ah e = 0 := by
      by_cases h : chk1 nb ah e = 0
      · exact h
      · rw [chkF, if_pos h] at hc; exact hc
    rw [chkF, if_neg (by rw [h1]; simp)] at hc
    have hd := decE_ent hnb (hok e (by simp)) h1 (m.flatMap entB)
    rw [List.flatMap_cons, List.length_cons, decF, hd, if_neg (by simp), decF_ents hnb m (l ++ [e]) (some e.nm) (fun x hx => hok x (by simp [hx])) hc]
    simp
theorem entB_le {e : Ent} (h : EntOk e) (hn : e.nm.length ≤ 64) : (entB e).length ≤ 147 := by
  rw [entB_len h]; have := bB_len e.nm; omega
theorem flat_le {nb : List Int → Bool} (hnb : ∀ x, nb x = true → x.length ≤ 64) : ∀ (m : List Ent) (ah : Option (List Int)), (∀ e ∈ m, EntOk e) → chkF nb ah m = 0 → (m.flatMap entB).length ≤ 147 * m.length
  | [], _, _, _ => by simp
  | e :: m, ah, hok, hc => by
    have h1 : chk1 nb ah e = 0 := by
      by_cases h : chk1 nb ah e = 0
      · exact h
      · rw [chkF, if_pos h] at hc; exact hc
    rw [chkF, if_neg (by rw [h1]; simp)] at hc
    have hn : e.nm.length ≤ 64 := by
      refine hnb _ ?_
      cases hn : nb e.nm with
      | true => rfl
      | false => unfold chk1 at h1; rw [if_pos hn] at h1; cases h1
    have h2 := entB_le (hok e (by simp)) hn
    have h3 := flat_le hnb m (some e.nm) (fun x hx => hok x (by simp [hx])) hc
    rw [List.flatMap_cons, List.length_append, List.length_cons]
    omega
/-- A directory that was written is read. -/
theorem dec_enc {nb : List Int → Bool} (hnb : ∀ x, nb x = true → x.length ≤ 64) {l : List Ent} (hok : ∀ e ∈ l, EntOk e) (hc : chkL nb l = 0) : decL nb (encL l) = (l, 0) := by
  have hl : ¬ 1024 < l.length := fun h => by unfold chkL at hc; rw [if_pos h] at hc; cases hc
  unfold chkL at hc
  rw [if_neg hl] at hc
  have h1 := flat_le hnb l none hok hc
  have h2 := uBytes_le (l.length : Int)
  have hU : rU 0 0 (uBytes (l.length : Int) ++ l.flatMap entB) = ((l.length : Int), (uBytes (l.length : Int)).length, 0) := rU_uBytes (by omega) (top9 (by omega))
  have ht : (encL l).tail = uBytes (l.length : Int) ++ l.flatMap entB := rfl
  unfold decL
  rw [ht, hU, if_neg (by unfold encL; simp only [List.length_append, List.length_cons]; omega), if_neg (by unfold encL; simp), if_neg (by simp), if_neg (by simp only; omega)]
  simp only
  rw [app_drop rfl, show (l.length : Int).toNat = l.length by simp, decF_ents hnb l [] none hok hc]
  rfl
end Go.Proofs.YtpklbchbldipnabDoor

namespace Go.Proofs.YtpklbchbldipnabDoor
open Go.RowKit

theorem top_small {f : Nat} {x : Int} (h : x < 128) (hf : f = 0 → x ≤ 1) : x < 2 * 128 ^ f := by
  cases f with
  | zero => have := hf rfl; simp; omega
  | succ g =>
    have hp : (0 : Int) < 128 ^ g := Int.pow_pos (by decide)
    rw [Int.pow_succ]
    omega
theorem top_up {f : Nat} {x y : Int} (h : y < 2 * 128 ^ f) (hx : x < 128) : x + 128 * y < 2 * 128 ^ (f + 1) := by
  rw [Int.pow_succ]
  generalize (128 : Int) ^ f = p at h ⊢
  omega
theorem rU_one {l : List Int} {i : Nat} {acc : Int} (hl : ∀ x ∈ l, 0 ≤ x ∧ x ≤ 255) (hi : i ≤ 9) (h : (rU i acc l).2.2 = 0) :
    ∃ x, 0 ≤ x ∧ x < 2 * 128 ^ (9 - i) ∧ (0 < i → x ≠ 0) ∧ (rU i acc l).1 = acc + x * 128 ^ i ∧ (rU i acc l).2.1 = i + (uB (9 - i) x).length ∧ ∃ rest, l = uB (9 - i) x ++ rest := by
  induction l generalizing i acc with
  | nil => simp [rU] at h
  | cons c t ih =>
    have hc := hl c (by simp)
    rw [rU] at h ⊢
    by_cases h1 : i = 9 ∧ 1 < c
    · rw [if_pos h1] at h; simp at h
    rw [if_neg h1] at h ⊢
    by_cases h2 : c = 0 ∧ 0 < i
    · rw [if_pos h2] at h; simp at h
    rw [if_neg h2] at h ⊢
    by_cases h3 : c < 128
    · rw [if_pos h3]
      refine ⟨c, hc.1, top_small h3 (by omega), by omega, rfl, ?_, t, ?_⟩
      · rw [uB_last h3]; rfl
      · rw [uB_last h3]; rfl
    · rw [if_neg h3] at h ⊢
      have hi8 : i ≤ 8 := by omega
      obtain ⟨y, hy0, hy1, hyn, e1, e2, rest, e3⟩ := ih (fun x hx => hl x (by simp [hx])) (by omega) h
      have hyn' := hyn (by omega)
      have hfi : 9 - i = (9 - (i + 1)) + 1 := by omega
      have hge : ¬ (c - 128) + 128 * y < 128 := by omega
      have hm : ((c - 128) + 128 * y) % 128 + 128 = c := by omega
      have hd : ((c - 128) + 128 * y) / 128 = y := by omega
      refine ⟨(c - 128) + 128 * y, by omega, ?_, by omega, ?_, ?_, rest, ?_⟩
      · rw [hfi]; exact top_up hy1 (by omega)
      · rw [e1, Int.pow_succ, Int.add_mul, Int.add_assoc]
        congr 2
        rw [Int.mul_comm (128 ^ i) 128, ← Int.mul_assoc, Int.mul_comm y 128]
      · rw [e2, hfi, uB_more hge, List.length_cons, hd]; omega
      · rw [hfi, uB_more hge, hm, hd, List.cons_append, ← e3]
/-- A number that was read stands there as it is written. -/
theorem fB_succ (v : Int) (n : Nat) : fB v (n + 1) = v % 256 :: fB (v / 256) n := by
  unfold fB
  rw [List.range_succ_eq_map, List.map_cons, List.map_map]
  congr 1
  · simp
  · refine List.map_congr_left fun i _ => ?_
    simp only [Function.comp, Nat.succ_eq_add_one, pow8_succ]
    rw [Int.ediv_ediv_of_nonneg (by decide)]
theorem fB_leN {l : List Int} (hl : ∀ x ∈ l, 0 ≤ x ∧ x ≤ 255) : fB (leN l) l.length = l ∧ 0 ≤ leN l ∧ leN l < 2 ^ (8 * l.length) := by
  induction l with
  | nil => simp [fB, leN]
  | cons c t ih =>
    have hc := hl c (by simp)
    obtain ⟨i1, i2, i3⟩ := ih (fun x hx => hl x (by simp [hx]))
    rw [List.length_cons, fB_succ, leN, pow8_succ]
    have e1 : (c + 256 * leN t) % 256 = c := by omega
    have e2 : (c + 256 * leN t) / 256 = leN t := by omega
    rw [e1, e2, i1]
    refine ⟨rfl, by omega, ?_⟩
    generalize (2 : Int) ^ (8 * t.length) = p at i3 ⊢
    omega
def Byt (l : List Int) : Prop := ∀ x ∈ l, 0 ≤ x ∧ x ≤ 255
theorem Byt.drop {l : List Int} (h : Byt l) (n : Nat) : Byt (l.drop n) := fun x hx => h x (List.mem_of_mem_drop hx)
theorem Byt.take {l : List Int} (h : Byt l) (n : Nat) : Byt (l.take n) := fun x hx => h x (List.mem_of_mem_take hx)
theorem tail_rest {nm t : List Int} (h : Byt t) (hl : 73 ≤ t.length) (h1 : ¬ 1 < t.headD 0) : tailB (restE nm t) = t.take 73 ∧ (restE nm t).key.length = 32 ∧ (restE nm t).hash.length = 32 := by
  cases t with
  | nil => simp at hl
  | cons c t =>
    have hc := h c (by simp)
    have hcc : (if (restE nm (c :: t)).dir = true then (1 : Int) else 0) = c := by
      show (if decide (c = 1) = true then (1 : Int) else 0) = c
      have : ¬ 1 < c := h1
      by_cases e : c = 1
      · simp [e]
      · simp [e]; omega
    have f4 : ∀ n, n + 4 ≤ (c :: t).length → fB (leN (((c :: t).drop n).take 4)) 4 = ((c :: t).drop n).take 4 := fun n hn => by
      have := (fB_leN (l := ((c :: t).drop n).take 4) ((h.drop n).take 4)).1
      rw [List.length_take, List.length_drop, Nat.min_eq_left (by omega)] at this
      exact this
    refine ⟨?_, ?_, ?_⟩
    · unfold tailB
      rw [hcc]
      show c :: (((c :: t).drop 1).take 32 ++ (((c :: t).drop 33).take 32 ++ (fB (leN (((c :: t).drop 65).take 4)) 4 ++ fB (leN (((c :: t).drop 69).take 4)) 4))) = _
      rw [f4 65 (by omega), f4 69 (by omega)]
      have e1 : (c :: t).take 73 = (c :: t).take 1 ++ (((c :: t).drop 1).take 32 ++ (((c :: t).drop 33).take 32 ++ (((c :: t).drop 65).take 4 ++ ((c :: t).drop 69).take 4))) := by
        rw [show 73 = 1 + (32 + (32 + (4 + 4))) from rfl, List.take_add, List.take_add, List.take_add, List.take_add, List.drop_drop, List.drop_drop, List.drop_drop]
      rw [e1]
      rfl
    · unfold restE
      simp only [List.length_take, List.length_drop]
      omega
    · unfold restE
      simp only [List.length_take, List.length_drop]
      omega
/-- What is read of one entry was written so. -/
theorem decE_one {nb : List Int → Bool} {ah : Option (List Int)} {b r : List Int} {e : Ent} (hb : Byt b) (h : decE nb ah b = (e, r, 0)) : b = entB e ++ r ∧ EntOk e ∧ chk1 nb ah e = 0 := by
  unfold decE at h
  simp only at h
  by_cases c1 : (rU 0 0 b).2.2 ≠ 0
  · rw [if_pos c1] at h; simp at h
  rw [if_neg c1] at h
  by_cases c2 : 64 < (rU 0 0 b).1
  · rw [if_pos c2] at h; simp at h
  rw [if_neg c2] at h
  obtain ⟨x, hx0, _, _, hx1, hx2, rest, hx3⟩ := rU_one hb (by omega) (Classical.not_not.1 c1)
  rw [Int.pow_zero, Int.mul_one, Int.zero_add] at hx1
  rw [Nat.zero_add] at hx2
  have hd : b.drop (rU 0 0 b).2.1 = rest := by rw [hx2, hx3]; exact app_drop rfl
  rw [hd, hx1] at h
  by_cases c3 : ((rest.length : Nat) : Int) < x
  · rw [if_pos c3] at h; simp at h
  rw [if_neg c3] at h
  by_cases c4 : nb (rest.take x.toNat) = false
  · rw [if_pos c4] at h; simp at h
  rw [if_neg c4] at h
  by_cases c5 : late ah (rest.take x.toNat) = true
  · rw [if_pos c5] at h; simp at h
  rw [if_neg c5] at h
  by_cases c6 : (rest.drop x.toNat).length < 73 ∨ 1 < (rest.drop x.toNat).headD 0
  · rw [if_pos c6] at h; simp at h
  rw [if_neg c6] at h
  by_cases c7 : sndE (restE (rest.take x.toNat) (rest.drop x.toNat)) = false
  · rw [if_pos c7] at h; simp at h
  rw [if_neg c7] at h
  have hrb : Byt rest := fun y hy => hb y (by rw [hx3]; exact List.mem_append_right _ hy)
  obtain ⟨t1, t2, t3⟩ := tail_rest (nm := rest.take x.toNat) (hrb.drop x.toNat) (by omega) (by omega)
  injection h with h1 h2
  injection h2 with h2 _
  subst h1 h2
  have hnl : (rest.take x.toNat).length = x.toNat := by rw [List.length_take]; omega
  have hnm : (restE (rest.take x.toNat) (rest.drop x.toNat)).nm = rest.take x.toNat := rfl
  refine ⟨?_, ⟨(hrb.take _), ⟨t2, fun c hc => ?_⟩, ⟨t3, fun c hc => ?_⟩⟩, ?_⟩
  · rw [entB_tail, t1, hnm, hnl, Int.toNat_of_nonneg hx0, List.append_assoc, List.append_assoc, List.take_append_drop, List.take_append_drop, hx3]
    rfl
  · exact (((hrb.drop _).drop 1).take 32) c hc
  · exact (((hrb.drop _).drop 33).take 32) c hc
  · unfold chk1
    rw [hnm, if_neg c4, if_neg c5, if_neg c7]
theorem decF_one {nb : List Int → Bool} : ∀ (n : Nat) (ah : Option (List Int)) (l : List Ent) (b : List Int) (m : List Ent), Byt b → decF nb n ah l b = (m, 0) → ∃ q, m = l ++ q ∧ q.length = n ∧ b = q.flatMap entB ∧ (∀ e ∈ q, EntOk e) ∧ chkF nb ah q = 0
  | 0, ah, l, b, m, _, h => by
    rw [decF] at h
    by_cases c : b = []
    · rw [if_pos c] at h
      injection h with h _
      exact ⟨[], by simp [h], rfl, by simp [c], by simp, rfl⟩
    · rw [if_neg c] at h; simp at h
  | n + 1, ah, l, b, m, hb, h => by
    rw [decF] at h
    by_cases c : (decE nb ah b).2.2 ≠ 0
    · rw [if_pos c] at h
      injection h with _ h
      exact absurd h c
    · rw [if_neg c] at h
      obtain ⟨h1, h2, h3⟩ := decE_one (e := (decE nb ah b).1) (r := (decE nb ah b).2.1) hb (by
        have : (decE nb ah b).2.2 = 0 := Classical.not_not.1 c
        rw [← this])
      generalize (decE nb ah b).1 = e at *
      generalize (decE nb ah b).2.1 = r at *
      obtain ⟨q, q1, q2, q3, q4, q5⟩ := decF_one n (some e.nm) (l ++ [e]) r m (fun y hy => hb y (by rw [h1]; exact List.mem_append_right _ hy)) h
      refine ⟨e :: q, by rw [q1]; simp, by simp [q2], by rw [h1, q3]; simp, fun y hy => ?_, by rw [chkF, if_neg (by rw [h3]; simp)]; exact q5⟩
      rcases List.mem_cons.1 hy with rfl | hy
      · exact h2
      · exact q4 y hy
/-- What is read is written just so. -/
theorem enc_dec {nb : List Int → Bool} {b : List Int} {l : List Ent} (hb : Byt b) (h : decL nb b = (l, 0)) : encL l = b ∧ chkL nb l = 0 ∧ ∀ e ∈ l, EntOk e := by
  unfold decL at h
  by_cases c1 : 1048576 < b.length
  · rw [if_pos c1] at h; simp at h
  rw [if_neg c1] at h
  by_cases c2 : b.headD 0 ≠ 1
  · rw [if_pos c2] at h; simp at h
  rw [if_neg c2] at h
  by_cases c3 : (rU 0 0 b.tail).2.2 ≠ 0
  · rw [if_pos c3] at h; simp at h
  rw [if_neg c3] at h
  by_cases c4 : 1024 < (rU 0 0 b.tail).1
  · rw [if_pos c4] at h; simp at h
  rw [if_neg c4] at h
  have hbt : Byt b.tail := fun y hy => hb y (List.mem_of_mem_tail hy)
  obtain ⟨x, hx0, _, _, hx1, hx2, rest, hx3⟩ := rU_one hbt (by omega) (Classical.not_not.1 c3)
  rw [Int.pow_zero, Int.mul_one, Int.zero_add] at hx1
  rw [Nat.zero_add] at hx2
  have hd : b.tail.drop (rU 0 0 b.tail).2.1 = rest := by rw [hx2, hx3]; exact app_drop rfl
  rw [hd, hx1] at h
  obtain ⟨q, q1, q2, q3, q4, q5⟩ := decF_one _ _ _ _ _ (fun y hy => hbt y (by rw [hx3]; exact List.mem_append_right _ hy)) h
  rw [List.nil_append] at q1
  subst q1
  have hxl : ((l.length : Nat) : Int) = x := by rw [q2, Int.toNat_of_nonneg hx0]
  refine ⟨?_, ?_, q4⟩
  · unfold encL
    rw [← q3, hxl]
    cases b with
    | nil => simp at c2
    | cons c b =>
      have : c = 1 := Classical.not_not.1 c2
      subst this
      show 1 :: (uBytes x ++ rest) = 1 :: b
      rw [show b = uBytes x ++ rest from hx3]
  · unfold chkL
    rw [if_neg (by omega)]
    exact q5
theorem chkF_cons {nb : List Int → Bool} {ah : Option (List Int)} {e : Ent} {m : List Ent} (h : chkF nb ah (e :: m) = 0) : chk1 nb ah e = 0 ∧ chkF nb (some e.nm) m = 0 := by
  have h1 : chk1 nb ah e = 0 := by
    by_cases h1 : chk1 nb ah e = 0
    · exact h1
    · rw [chkF, if_pos h1] at h; exact h
  rw [chkF, if_neg (by rw [h1]; simp)] at h
  exact ⟨h1, h⟩
theorem chkL_zero {nb : List Int → Bool} {l : List Ent} (h : chkL nb l = 0) : l.length ≤ 1024 ∧ chkF nb none l = 0 := by
  unfold chkL at h
  by_cases hl : 1024 < l.length
  · rw [if_pos hl] at h; cases h
  · rw [if_neg hl] at h; exact ⟨by omega, h⟩
/-- Bytes behind a node. -/
theorem decF_more {nb : List Int → Bool} (hnb : ∀ x, nb x = true → x.length ≤ 64) : ∀ (m l : List Ent) (ah : Option (List Int)) (r : List Int), (∀ e ∈ m, EntOk e) → chkF nb ah m = 0 → r ≠ [] → decF nb m.length ah l (m.flatMap entB ++ r) = ([], 80)
  | [], l, ah, r, _, _, hr => by
    show (if ([] : List Ent).flatMap entB ++ r = [] then (l, (0 : Int)) else ([], 80)) = _
    rw [if_neg (by simpa using hr)]
  | e :: m, l, ah, r, hok, hc, hr => by
    obtain ⟨h1, h2⟩ := chkF_cons hc
    have hd := decE_ent hnb (hok e (by simp)) h1 (m.flatMap entB ++ r)
    rw [List.flatMap_cons, List.append_assoc, List.length_cons, decF, hd, if_neg (by simp), decF_more hnb m (l ++ [e]) (some e.nm) r (fun x hx => hok x (by simp [hx])) h2 hr]
theorem dec_more {nb : List Int → Bool} (hnb : ∀ x, nb x = true → x.length ≤ 64) {l : List Ent} (hok : ∀ e ∈ l, EntOk e) (hc : chkL nb l = 0) {r : List Int} (hr : r ≠ []) (hl : r.length ≤ 800000) : decL nb (encL l ++ r) = ([], 80) := by
  obtain ⟨h0, hF⟩ := chkL_zero hc
  have h1 := flat_le hnb l none hok hF
  have h2 := uBytes_le (l.length : Int)
  have hU : rU 0 0 (uBytes (l.length : Int) ++ (l.flatMap entB ++ r)) = ((l.length : Int), (uBytes (l.length : Int)).length, 0) := rU_uBytes (by omega) (top9 (by omega))
  have ht : (encL l ++ r).tail = uBytes (l.length : Int) ++ (l.flatMap entB ++ r) := by
    show (uBytes (l.length : Int) ++ l.flatMap entB) ++ r = _
    rw [List.append_assoc]
  have hh : (encL l ++ r).headD 0 = 1 := rfl
  have hz : (encL l ++ r).length ≤ 1048576 := by unfold encL; simp only [List.length_append, List.length_cons]; omega
  unfold decL
  rw [ht, hU, hh, if_neg (by omega), if_neg (by simp), if_neg (by simp), if_neg (by simp only; omega)]
  simp only
  rw [app_drop rfl, show (l.length : Int).toNat = l.length by simp]
  exact decF_more hnb l [] none r hok hF hr
/-- No beginning of a node is one. -/
theorem enc_free {nb : List Int → Bool} (hnb : ∀ x, nb x = true → x.length ≤ 64) {l m : List Ent} (hl : ∀ e ∈ l, EntOk e) (hm : ∀ e ∈ m, EntOk e) (cl : chkL nb l = 0) (cm : chkL nb m = 0) {s : List Int} (h : encL m ++ s = encL l) : s = [] := by
  have hs : s.length ≤ 800000 := by
    obtain ⟨h0, hF⟩ := chkL_zero cl
    have h1 := flat_le hnb l none hl hF
    have h2 := uBytes_le (l.length : Int)
    have h3 : (encL m ++ s).length = (encL l).length := by rw [h]
    have h4 : (encL l).length ≤ 11 + 147 * 1024 := by unfold encL; simp only [List.length_append, List.length_cons]; omega
    rw [List.length_append] at h3
    omega
  by_cases e : s = []
  · exact e
  · have h1 := dec_more hnb hm cm e hs
    rw [h, dec_enc hnb hl cl] at h1
    exact absurd (congrArg Prod.snd h1) (by show ¬ (0 : Int) = 80; decide)
/-- Two directories of one writing are one. -/
theorem enc_inj {nb : List Int → Bool} (hnb : ∀ x, nb x = true → x.length ≤ 64) {l m : List Ent} (hl : ∀ e ∈ l, EntOk e) (hm : ∀ e ∈ m, EntOk e) (cl : chkL nb l = 0) (cm : chkL nb m = 0) (h : encL l = encL m) : l = m := by
  have h1 := dec_enc hnb hl cl
  have h2 := dec_enc hnb hm cm
  rw [h, h2] at h1
  exact (congrArg Prod.fst h1).symm
end Go.Proofs.YtpklbchbldipnabDoor

namespace Go.Proofs.YtpklbchbldipnabDoor
open Go.RowKit Go.Maps

/-- An entry's cells. -/
def enV (e : Ent) : List Value := .string (mkS e.nm) :: .bool e.dir :: (e.key.map (Value.int .u8) ++ (e.hash.map (Value.int .u8) ++ [.int .i64 e.fi, .int .i64 e.ln]))
/-- An entry of a program. -/
structure EnOk (e : Ent) : Prop where
  ok : EntOk e
  nl : e.nm.length ≤ 140737488360000
  fi : -9223372036854775808 ≤ e.fi ∧ e.fi ≤ 9223372036854775807
  ln : -9223372036854775808 ≤ e.ln ∧ e.ln ≤ 9223372036854775807
def ensV (l : List Ent) : List Value := l.flatMap enV
theorem enV_len {e : Ent} (h : EntOk e) : (enV e).length = 68 := by
  unfold enV
  simp [h.key.1, h.hash.1]
theorem ensV_len {l : List Ent} (h : ∀ e ∈ l, EnOk e) : (ensV l).length = l.length * 68 := by
  induction l with
  | nil => rfl
  | cons e l ih =>
    rw [show ensV (e :: l) = enV e ++ ensV l from rfl, List.length_append, ih (fun x hx => h x (by simp [hx])), enV_len (h e (by simp)).ok, List.length_cons]
    omega
theorem ensV_app (l m : List Ent) : ensV (l ++ m) = ensV l ++ ensV m := by
  unfold ensV; rw [List.flatMap_append]
theorem enV_one (e : Ent) : ∀ u ∈ enV e, u.oneCell' = true := by
  intro u hu
  unfold enV at hu
  simp only [List.mem_cons, List.mem_append, List.mem_map, List.not_mem_nil, or_false] at hu
  rcases hu with rfl | rfl | ⟨x, _, rfl⟩ | ⟨x, _, rfl⟩ | rfl | rfl <;> rfl
theorem ensV_one (l : List Ent) : ∀ u ∈ ensV l, u.oneCell' = true := by
  intro u hu
  unfold ensV at hu
  obtain ⟨e, _, h⟩ := List.mem_flatMap.1 hu
  exact enV_one e u h
theorem ensV_at {l : List Ent} (h : ∀ e ∈ l, EnOk e) {j k : Nat} (hj : j < l.length) (hk : k < 68) : (ensV l)[j * 68 + k]? = (enV (l.getD j .nul))[k]? := by
  induction l generalizing j with
  | nil => simp at hj
  | cons t l ih =>
    rw [show ensV (t :: l) = enV t ++ ensV l from rfl]
    have hl := enV_len (h t (by simp)).ok
    cases j with
    | zero => rw [List.getElem?_append_left (by omega)]; simp
    | succ j =>
      rw [List.getElem?_append_right (by omega), hl, show (j + 1) * 68 + k - 68 = j * 68 + k by omega, ih (fun x hx => h x (by simp [hx])) (by simpa using hj)]
      simp
theorem en_get {l : List Ent} {P : Ent → Prop} (h : ∀ e ∈ l, P e) {j : Nat} (hj : j < l.length) : P (l.getD j .nul) := by
  rw [List.getD_eq_getElem?_getD, List.getElem?_eq_getElem hj]
  exact h _ (List.getElem_mem hj)
/-- A slice of entries: in this world it reads the list. -/
structure IsEn (w : World) (v : Value) (l : List Ent) : Prop where
  ok : ∀ e ∈ l, EnOk e
  val : ∃ a c, v = .slice a l.length c ∧ l.length ≤ c ∧ c ≤ 9223372036854775807 ∧ (a = none → c = 0) ∧ (0 < l.length → ∃ b o, a = some ⟨b, o, none⟩ ∧ ∀ j, j < l.length → w.rangeAt b (o + j * 68) (enV (l.getD j .nul)))
theorem range_kept {w w' : World} {b o : Nat} {cs : List Value} (h : w.rangeAt b o cs) (hb : Below w.heap.size w w') : w'.rangeAt b o cs := fun j v hv => by
  have := h j v hv
  exact (hb.cell (p := ⟨b, o + j, none⟩) (World.block_lt_of_cell? w _ this)).trans this
theorem IsEn.below {w w' : World} {v : Value} {l : List Ent} (h : IsEn w v l) (hb : Below w.heap.size w w') : IsEn w' v l := by
  obtain ⟨h0, a, c, hv, hl, hm, hz, hc⟩ := h
  refine ⟨h0, a, c, hv, hl, hm, hz, fun hp => ?_⟩
  obtain ⟨b, o, ha, hcell⟩ := hc hp
  exact ⟨b, o, ha, fun j hj => range_kept (hcell j hj) hb⟩
theorem IsEn.nil (w : World) : IsEn w (.slice none 0 0) [] := ⟨by simp, none, 0, rfl, Nat.le_refl _, by decide, fun _ => rfl, fun h => absurd h (by simp)⟩
theorem IsEn.shape {w : World} {v : Value} {l : List Ent} (h : IsEn w v l) : ∃ a c, v = .slice a l.length c := by
  obtain ⟨_, a, c, hv, _⟩ := h
  exact ⟨a, c, hv⟩
theorem IsEn.lenEq {w : World} {a : Option Addr} {n c : Nat} {l : List Ent} (h : IsEn w (.slice a n c) l) : n = l.length ∧ n ≤ c ∧ c ≤ 9223372036854775807 := by
  obtain ⟨_, a', c', hv, h1, h2, _⟩ := h
  injection hv with e1 e2 e3
  omega
/-- A slice of entries of the call's own. -/
def OwnE (w : World) (B : Nat) (v : Value) (l : List Ent) : Prop := (∀ e ∈ l, EnOk e) ∧ w.ownsRow B 38 68 v l.length (ensV l)
theorem OwnE.nil (w : World) (B : Nat) : OwnE w B (.slice none 0 0) [] := ⟨by simp, World.ownsRow_nil _ _ _ _⟩
theorem OwnE.shape {w : World} {B : Nat} {v : Value} {l : List Ent} (h : OwnE w B v l) : ∃ a c, v = .slice a l.length c := by
  rcases h.2.2 with ⟨rfl, h0⟩ | ⟨g, cap, cur, rfl, _⟩
  · exact ⟨none, 0, by rw [h0]⟩
  · exact ⟨_, cap, rfl⟩
theorem OwnE.below {w w' : World} {B : Nat} {v : Value} {l : List Ent} (h : OwnE w B v l) (hb : Below w.heap.size w w') : OwnE w' B v l := ⟨h.1, owns_below h.2 hb⟩
theorem OwnE.kept {w w' : World} {B : Nat} {v : Value} {l : List Ent} {row : Option Nat} (h : OwnE w B v l) (hg : w.grownBy w' row) (hne : v.ownBlock = none ∨ v.ownBlock ≠ row) : OwnE w' B v l := ⟨h.1, h.2.kept hg hne⟩
theorem OwnE.mono {w : World} {B B' : Nat} {v : Value} {l : List Ent} (h : OwnE w B v l) (hb : B' ≤ B) : OwnE w B' v l := ⟨h.1, owns_mono h.2 hb⟩
theorem OwnE.isEn {w : World} {B : Nat} {v : Value} {l : List Ent} (h : OwnE w B v l) : IsEn w v l := by
  have h' := h.2
  refine ⟨h.1, ?_⟩
  rcases h.2.2 with ⟨rfl, h0⟩ | ⟨g, cap, cur, rfl, hb, hg, hle, hm, hs, ht⟩
  · exact ⟨none, 0, by rw [h0], by omega, by decide, fun _ => rfl, fun hp => by omega⟩
  · refine ⟨some ⟨g, 0, none⟩, cap, rfl, hle, by simpa [maxLen] using hm, fun h => (by cases h), fun hp => ⟨g, 0, rfl, fun j hj k v hv => ?_⟩⟩
    have hk : k < 68 := by
      have := (List.getElem?_eq_some_iff.1 hv).1
      rw [enV_len (en_get (P := EnOk) h.1 hj).ok] at this
      exact this
    have e := ensV_at h.1 hj hk
    rw [hv] at e
    have := World.ownsRow.cells (g := g) h' rfl (j * 68 + k) _ e
    rw [Addr.add_lit] at this
    rw [← this]
    congr 2
    omega
theorem OwnE.block {w : World} {B : Nat} {v : Value} {l : List Ent} (h : OwnE w B v l) {g : Nat} {cs : Array Value} {t : TypeId} {m : Nat × Nat} (hc : w.heap[g]? = some (.cells cs t m)) (ht : t ≠ 38) : v.ownBlock = none ∨ v.ownBlock ≠ some g := by
  rcases h.2.2 with ⟨rfl, _⟩ | ⟨g', cap, cur, rfl, _, hgg, _⟩
  · exact Or.inl rfl
  · refine Or.inr fun e => ?_
    simp only [Value.ownBlock, Option.some.injEq] at e
    subst e
    rw [hgg] at hc
    simp only [Option.some.injEq, Obj.cells.injEq] at hc
    exact ht hc.2.1.symm
def z68 : List Value := .string ByteArray.empty :: .bool false :: (List.replicate 64 (.int .u8 0) ++ [.int .i64 0, .int .i64 0])
theorem infoEn : (Tryd.prog.info? 38).map (fun i => (i.zero, i.size, i.bytes)) = some (some (.agg z68.toArray), 68, 104) := by kernel_rfl
theorem infoEz : (Tryd.prog.info? 38).map (·.size) = some 68 := by kernel_rfl
theorem infoKz : (Tryd.prog.info? 32).map (·.size) = some 32 := by kernel_rfl
theorem IsEn.cells {w : World} {ad : Addr} {n c : Nat} {m : List Ent} (h : IsEn w (.slice (some ad) n c) m) : ∀ j u, (ensV m)[j]? = some u → w.cell? (ad.add j) = some u := by
  intro j u hu
  obtain ⟨h0, a', c', hv, _, _, _, hc⟩ := h
  injection hv with e1 e2 e3
  subst e1
  have hj : j < (ensV m).length := (List.getElem?_eq_some_iff.1 hu).1
  rw [ensV_len h0] at hj
  obtain ⟨b, off, ha, hcell⟩ := hc (by omega)
  injection ha with ha
  subst ha
  have h2 := ensV_at h0 (j := j / 68) (k := j % 68) (by omega) (by omega)
  rw [show j / 68 * 68 + j % 68 = j by omega, hu] at h2
  have h1 := hcell (j / 68) (by omega) (j % 68) u h2.symm
  rw [Addr.add_lit, ← h1]
  congr 2
  omega
section
variable {ops : Array Oper} {rest : List Oper} {o : Oper} {a : Act} {Q : Exit → Act → World → Prop} {w : World} {K : Act → World → Prop} {E : Prop}
/-- Entries, from wherever they lie, appended to a slice of the call's own. -/
theorem wp_appEn (x y : Operand) (ho : o.op = .call { callee := .builtin .append, args := #[x, y], argTypes := #[22, 22] }) {B : Nat} {v u : Value} {l m : List Ent} (hx : a.eval x = v) (hown : OwnE w B v l) (hy : a.eval y = u) (hu : IsEn w u m)
    (hl : l.length + m.length ≤ 100000000000) (hB : B ≤ w.heap.size)
    (hk : ∀ v' w', OwnE w' B v' (l ++ m) → w.grownBy w' v.ownBlock → (v.ownBlock = none ∨ ∃ b, v.ownBlock = some b ∧ B ≤ b) → K (a.put o.dst v') w') : o.wp Tryd.prog a w K Q := by
  obtain ⟨i0, hi, hz0, hz1, hz2⟩ := info_parts infoEn
  have hvb : v.ownBlock = none ∨ ∃ b, v.ownBlock = some b ∧ B ≤ b := by
    cases hv : v.ownBlock with
    | none => exact Or.inl rfl
    | some b => exact Or.inr ⟨b, rfl, (World.ownsRow.lt hown.2 b hv).1⟩
  obtain ⟨h0, ad, c, rfl, _, _, hz, hc⟩ := id hu
  cases ad with
  | none =>
    have hm0 : m = [] := by
      by_cases hp : 0 < m.length
      · obtain ⟨b2, off2, ha, _⟩ := hc hp
        cases ha
      · exact List.eq_nil_of_length_eq_zero (by omega)
    subst hm0
    obtain rfl := hz rfl
    have hrun := run_append_owned_none (P := Tryd.prog) (w := w) B 22 o.type 38 i0 68 Tryd.underlying22 hi v _ _ hown.2
    have := hk v w (by rw [List.append_nil]; exact hown) ⟨rfl, rfl, rfl, Nat.le_refl _, fun _ _ _ => rfl⟩ hvb
    unfold Oper.wp
    simp [execOp, ho, resolve, invoke, builtin, hx, hy, hrun, Result.andThen]
    exact this
  | some ad =>
    obtain ⟨v', w', hr, h2, h3, h4, h5⟩ := run_append_own_at (P := Tryd.prog) w B 22 o.type 38 i0 _ 68 104 Tryd.underlying22 hi hz0 hz1 hz2 rfl (by decide) v l.length (ensV l) hown.2 ad m.length c (ensV m) (by rw [ensV_len h0]) hu.cells (ensV_one m) (by unfold maxLen; omega) (by omega) hB
    unfold Oper.wp execOp
    simp only [ho, resolve, invoke, builtin, Sem.run_bind, Sem.run_pure, Result.andThen_ok, List.map_toArray, List.map_cons, List.map_nil, hx, hy, hr]
    refine hk v' w' ⟨fun e he => ?_, ?_⟩ h3 hvb
    · rcases List.mem_append.1 he with he | he
      · exact hown.1 e he
      · exact h0 e he
    · rw [List.length_append, ensV_app]; exact h2
theorem wpList_appEn (hgd : o.guard = none) (x y : Operand) (ho : o.op = .call { callee := .builtin .append, args := #[x, y], argTypes := #[22, 22] }) {B : Nat} {v u : Value} {l m : List Ent} (hx : a.eval x = v) (hown : OwnE w B v l) (hy : a.eval y = u) (hu : IsEn w u m)
    (hl : l.length + m.length ≤ 100000000000) (hB : B ≤ w.heap.size)
    (hk : ∀ v' w', OwnE w' B v' (l ++ m) → w.grownBy w' v.ownBlock → (v.ownBlock = none ∨ ∃ b, v.ownBlock = some b ∧ B ≤ b) → wpList Tryd.prog ops Q rest (a.put o.dst v') w') : wpList Tryd.prog ops Q (o :: rest) a w :=
  wpList_plain hgd fun _ hK => wp_appEn x y ho hx hown hy hu hl hB fun v' w' h1 h2 h3 => hK _ _ (hk v' w' h1 h2 h3)
theorem step_appEn (hw : Region.wanted o (yielded ops a.tmps) = true) (x y : Operand) (ho : o.op = .call { callee := .builtin .append, args := #[x, y], argTypes := #[22, 22] }) {B : Nat} {v u : Value} {l m : List Ent} (hx : a.eval x = v) (hown : OwnE w B v l) (hy : a.eval y = u) (hu : IsEn w u m)
    (hl : l.length + m.length ≤ 100000000000) (hB : B ≤ w.heap.size)
    (hk : ∀ v' w', OwnE w' B v' (l ++ m) → w.grownBy w' v.ownBlock → (v.ownBlock = none ∨ ∃ b, v.ownBlock = some b ∧ B ≤ b) → K (a.put o.dst v') w') : if Region.wanted o (yielded ops a.tmps) = true then Oper.wp Tryd.prog o a w K Q else E := by
  rw [if_pos hw]
  exact wp_appEn x y ho hx hown hy hu hl hB hk
/-- One operation whose run is known. -/
theorem step_run (hw : Region.wanted o (yielded ops a.tmps) = true) {v : Value} {w' : World} (hrun : (execOp a.eval o).run Tryd.prog w = .ok (.value v) w') (hk : K (a.put o.dst v) w') : if Region.wanted o (yielded ops a.tmps) = true then Oper.wp Tryd.prog o a w K Q else E := by
  rw [if_pos hw]
  unfold Oper.wp
  rw [hrun]
  exact hk
/-- A struct or an array read behind a guard that holds. -/
theorem wpList_load_on (hw : Region.wanted o (yielded ops a.tmps) = true) (ty : TypeId) (x : Operand) (ho : o.op = .load ty x) (b f : Nat) (hx : a.eval x = .pointer (some ⟨b, f, none⟩)) (cs : List Value) (d : TypeDesc) (hc : w.rangeAt b f cs)
    (hu : Tryd.prog.underlying ty = some d) (hd : d.isRow = true) (hi : (Tryd.prog.info? ty).map (·.size) = some cs.length) (h : wpList Tryd.prog ops Q rest (a.put o.dst (.agg cs.toArray)) w) : wpList Tryd.prog ops Q (o :: rest) a w :=
  wpList_on hw fun _ hK => wp_load_mid ty x ho b f hx cs d hc hu hd hi (hK _ _ h)
end
theorem below_app {B : Nat} {a w w' : World} {v : Value} (h : Below B a w) (hg : w.grownBy w' v.ownBlock) (hB : B ≤ w.heap.size) (hv : v.ownBlock = none ∨ ∃ b, v.ownBlock = some b ∧ B ≤ b) : Below B a w' :=
  h.grown hg hB (fun j hj => by
    rcases hv with hv | ⟨b, hv, hb⟩
    · rw [hv] at hj; cases hj
    · rw [hv] at hj; injection hj with hj; omega)
/-- A new block's cells. -/
theorem new_range (w : World) (cs : List Value) (t : TypeId) : (w.alloc (.cells cs.toArray t)).rangeAt w.heap.size 0 cs := fun j v hv => by
  rw [Nat.zero_add, Arr.cell (Arr.new w cs t) j]
  exact hv
theorem range_part {w : World} {b o : Nat} {cs ds : List Value} {k : Nat} (h : w.rangeAt b o cs) (hp : ∀ j v, ds[j]? = some v → cs[k + j]? = some v) : w.rangeAt b (o + k) ds := fun j v hv => by
  rw [Nat.add_assoc]
  exact h (k + j) v (hp j v hv)
/-- The parts of an entry's cells. -/
theorem enV_key (e : Ent) : ∀ j v, (e.key.map (Value.int .u8))[j]? = some v → (enV e)[2 + j]? = some v := by
  intro j v hv
  unfold enV
  have hj := (List.getElem?_eq_some_iff.1 hv).1
  rw [show 2 + j = j + 1 + 1 by omega, List.getElem?_cons_succ, List.getElem?_cons_succ, List.getElem?_append_left hj]
  exact hv
theorem enV_hash {e : Ent} (h : EntOk e) : ∀ j v, (e.hash.map (Value.int .u8))[j]? = some v → (enV e)[34 + j]? = some v := by
  intro j v hv
  unfold enV
  have hj := (List.getElem?_eq_some_iff.1 hv).1
  have hk := h.key.1
  rw [show 34 + j = (32 + j) + 1 + 1 by omega, List.getElem?_cons_succ, List.getElem?_cons_succ, List.getElem?_append_right (by simp [hk]), List.getElem?_append_left (by simp [hk] at hj ⊢; omega)]
  simp only [List.length_map, hk, Nat.add_sub_cancel_left]
  exact hv
theorem enV_fi {e : Ent} (h : EntOk e) : (enV e)[66]? = some (.int .i64 e.fi) ∧ (enV e)[67]? = some (.int .i64 e.ln) := by
  unfold enV
  have h1 := h.key.1
  have h2 := h.hash.1
  constructor
  · rw [show (66 : Nat) = 64 + 1 + 1 from rfl, List.getElem?_cons_succ, List.getElem?_cons_succ, List.getElem?_append_right (by simp [h1]), List.getElem?_append_right (by simp [h1, h2])]
    simp [h1, h2]
  · rw [show (67 : Nat) = 65 + 1 + 1 from rfl, List.getElem?_cons_succ, List.getElem?_cons_succ, List.getElem?_append_right (by simp [h1]), List.getElem?_append_right (by simp [h1, h2])]
    simp [h1, h2]
end Go.Proofs.YtpklbchbldipnabDoor

namespace Go.Proofs.YtpklbchbldipnabDoor
open Go.RowKit Go.Maps

section
variable {ops : Array Oper} {rest : List Oper} {o : Oper} {a : Act} {Q : Exit → Act → World → Prop} {w : World} {K : Act → World → Prop} {E : Prop}
theorem step_call0C (hw : Region.wanted o (yielded ops a.tmps) = true) (f : Nat) (hf : ∀ (W : World), (callFunc f #[]).run Tryd.prog W = .ok (.enter f #[]) W) (ts : Array TypeId) (ho : o.op = .call { callee := .value (.func f), args := #[], argTypes := ts }) 
    {Post : Ending → World → Prop} (hc : Calls Tryd.prog f #[] w Post) (hk : ∀ e w2, Post e w2 → ∃ r, e = .returned r ∧ K (a.put o.dst r) w2) :
    if Region.wanted o (yielded ops a.tmps) = true then Oper.wp Tryd.prog o a w K Q else E := by
  rw [if_pos hw]
  have hrun : (execOp a.eval o).run Tryd.prog w = .ok (.enter f #[]) w := by
    have h1 := hf w
    unfold execOp
    have hfv : a.eval (.func f) = .func (.func f) #[] #[] := rfl
    simp [ho, hfv, resolve, invoke, Deferred.ofValue, h1]
  unfold Oper.wp
  rw [hrun]
  refine hc.mono ?_
  intro e w2 hp
  obtain ⟨r, rfl, hK⟩ := hk e w2 hp
  exact hK
theorem step_call1GC (hw : Region.wanted o (yielded ops a.tmps) = true) (f : Nat) (hf : ∀ (v : Value) (W : World), (callFunc f #[v]).run Tryd.prog W = .ok (.enter f #[v]) W) (x : Operand) (ts : Array TypeId) (ho : o.op = .call { callee := .value (.func f), args := #[x], argTypes := ts }) {v : Value} (hx : a.eval x = v)
    {Post : Ending → World → Prop} (hc : Calls Tryd.prog f #[v] w Post) (hk : ∀ e w2, Post e w2 → ∃ r, e = .returned r ∧ K (a.put o.dst r) w2) :
    if Region.wanted o (yielded ops a.tmps) = true then Oper.wp Tryd.prog o a w K Q else E := by
  rw [if_pos hw]
  have hrun : (execOp a.eval o).run Tryd.prog w = .ok (.enter f #[v]) w := by
    have h1 := hf v w
    unfold execOp
    have hfv : a.eval (.func f) = .func (.func f) #[] #[] := rfl
    simp [ho, hx, hfv, resolve, invoke, Deferred.ofValue, h1]
  unfold Oper.wp
  rw [hrun]
  refine hc.mono ?_
  intro e w2 hp
  obtain ⟨r, rfl, hK⟩ := hk e w2 hp
  exact hK
theorem step_call2GC (hw : Region.wanted o (yielded ops a.tmps) = true) (f : Nat) (hf : ∀ (v u : Value) (W : World), (callFunc f #[v, u]).run Tryd.prog W = .ok (.enter f #[v, u]) W) (x y : Operand) (ts : Array TypeId) (ho : o.op = .call { callee := .value (.func f), args := #[x, y], argTypes := ts }) {v u : Value} (hx : a.eval x = v) (hy : a.eval y = u)
    {Post : Ending → World → Prop} (hc : Calls Tryd.prog f #[v, u] w Post) (hk : ∀ e w2, Post e w2 → ∃ r, e = .returned r ∧ K (a.put o.dst r) w2) :
    if Region.wanted o (yielded ops a.tmps) = true then Oper.wp Tryd.prog o a w K Q else E := by
  rw [if_pos hw]
  have hrun : (execOp a.eval o).run Tryd.prog w = .ok (.enter f #[v, u]) w := by
    have h1 := hf v u w
    unfold execOp
    have hfv : a.eval (.func f) = .func (.func f) #[] #[] := rfl
    simp [ho, hx, hy, hfv, resolve, invoke, Deferred.ofValue, h1]
  unfold Oper.wp
  rw [hrun]
  refine hc.mono ?_
  intro e w2 hp
  obtain ⟨r, rfl, hK⟩ := hk e w2 hp
  exact hK
theorem step_call3GC (hw : Region.wanted o (yielded ops a.tmps) = true) (f : Nat) (hf : ∀ (v u z : Value) (W : World), (callFunc f #[v, u, z]).run Tryd.prog W = .ok (.enter f #[v, u, z]) W) (x y t : Operand) (ts : Array TypeId) (ho : o.op = .call { callee := .value (.func f), args := #[x, y, t], argTypes := ts }) {v u z : Value} (hx : a.eval x = v) (hy : a.eval y = u) (ht : a.eval t = z)
    {Post : Ending → World → Prop} (hc : Calls Tryd.prog f #[v, u, z] w Post) (hk : ∀ e w2, Post e w2 → ∃ r, e = .returned r ∧ K (a.put o.dst r) w2) :
    if Region.wanted o (yielded ops a.tmps) = true then Oper.wp Tryd.prog o a w K Q else E := by
  rw [if_pos hw]
  have hrun : (execOp a.eval o).run Tryd.prog w = .ok (.enter f #[v, u, z]) w := by
    have h1 := hf v u z w
    unfold execOp
    have hfv : a.eval (.func f) = .func (.func f) #[] #[] := rfl
    simp [ho, hx, hy, ht, hfv, resolve, invoke, Deferred.ofValue, h1]
  unfold Oper.wp
  rw [hrun]
  refine hc.mono ?_
  intro e w2 hp
  obtain ⟨r, rfl, hK⟩ := hk e w2 hp
  exact hK
/-- A new struct or array of zeros, by its type's zero. -/
theorem alloc_zero {t : TypeId} {z : List Value} {n b : Nat} (hi : (Tryd.prog.info? t).map (fun i => (i.zero, i.size, i.bytes)) = some (some (.agg z.toArray), n, b)) (W : World) : (Instr.alloc t true (.tuple #[])).run Tryd.prog W = .ok (.pointer (some ⟨W.heap.size, 0, none⟩)) (W.alloc (.cells z.toArray t)) := by
  obtain ⟨i0, hi0, hz0, hz1, hz2⟩ := info_parts hi
  have hzero : (zeroValue t).run Tryd.prog W = .ok (.agg z.toArray) W := by
    generalize z.toArray = zz at hz0
    simp [zeroValue, typeInfo, hi0, hz0]
  unfold Instr.alloc
  rw [Sem.run_bind, hzero]
  rfl
theorem wpList_allocZ (hgd : o.guard = none) (t : TypeId) (ho : o.op = .alloc t) {z : List Value} {n b : Nat} (hi : (Tryd.prog.info? t).map (fun i => (i.zero, i.size, i.bytes)) = some (some (.agg z.toArray), n, b))
    (hk : wpList Tryd.prog ops Q rest (a.put o.dst (.pointer (some ⟨w.heap.size, 0, none⟩))) (w.alloc (.cells z.toArray t))) : wpList Tryd.prog ops Q (o :: rest) a w := by
  refine wpList_plain hgd fun K hK => ?_
  unfold Oper.wp execOp
  simp only [ho, Sem.run_bind, alloc_zero hi w, Result.andThen_ok, Sem.run_pure]
  exact hK _ _ hk
/-- A whole struct is written into a block that it fills. -/
theorem wpList_storeAll (hgd : o.guard = none) (x y : Operand) (t : TypeId) (ho : o.op = .store t x y) {g : Nat} {cs cs' : List Value} (hx : a.eval x = .pointer (some ⟨g, 0, none⟩)) (hy : a.eval y = .agg cs'.toArray) (h : Arr w g t cs)
    (hi : (Tryd.prog.info? t).map (·.size) = some cs'.length) (hl : cs.length = cs'.length) (h1 : ∀ u ∈ cs', u.oneCell' = true) (hk : ∀ w', Arr w' g t cs' → Wrote w w' g → wpList Tryd.prog ops Q rest (a.put o.dst undef) w') : wpList Tryd.prog ops Q (o :: rest) a w :=
  wpList_storeArr2 hgd x y t ho hx hy h hi hl h1 hk
end
def z32 : List Value := List.replicate 32 (.int .u8 0)
theorem z32_len : z32.length = 32 := List.length_replicate
theorem z68_len : z68.length = 68 := by decide
theorem infoK : (Tryd.prog.info? 32).map (fun i => (i.zero, i.size, i.bytes)) = some (some (.agg z32.toArray), 32, 32) := by kernel_rfl
theorem Arr.range {w : World} {g : Nat} {t : TypeId} {cs : List Value} (h : Arr w g t cs) : w.rangeAt g 0 cs := fun j v hv => by
  rw [Nat.zero_add, h.cell j]; exact hv
theorem infoEof {e : Ent} (h : EntOk e) : (Tryd.prog.info? 38).map (·.size) = some (enV e).length := by rw [enV_len h]; exact infoEz
theorem infoKof {l : List Int} (h : l.length = 32) : (Tryd.prog.info? 32).map (·.size) = some (l.map (Value.int .u8)).length := by rw [List.length_map, h]; exact infoKz
end Go.Proofs.YtpklbchbldipnabDoor

namespace Go.Proofs.YtpklbchbldipnabDoor
open Go.RowKit

theorem all_range_int : ∀ (xs ys : List Int), xs.length = ys.length → ((List.range xs.length).all fun i => decide (xs.getD i 0 = ys.getD i 0)) = decide (xs = ys)
  | [], [], _ => rfl
  | x :: xs, y :: ys, h => by
    have ih := all_range_int xs ys (by simpa using h)
    rw [List.length_cons, List.range_succ_eq_map, List.all_cons, List.all_map]
    simp only [List.getD_cons_zero, Function.comp_def, List.getD_cons_succ, ih]
    rw [Bool.eq_iff_iff]
    simp
  | [], _ :: _, h => by simp at h
  | _ :: _, [], h => by simp at h
section
variable {P : Program} (w : World)
theorem run_equalIn_ints (d : Nat) (k : IntKind) (t e : TypeId) (n : Nat) (ht : P.underlying t = some (.array n e)) (he : P.underlying e = some (.int k)) (hsz : ∀ w, (sizeOf e).run P w = .ok 1 w) (xs ys : List Int) (hx : xs.length = n) (hy : ys.length = n) :
    (Op.equalIn (d + 2) t (.agg (xs.map (Value.int k)).toArray) (.agg (ys.map (Value.int k)).toArray)).run P w = .ok (decide (xs = ys)) w := by
  rw [← all_range_int xs ys (hx.trans hy.symm), hx, List.range_eq_range', Op.equalIn]
  simp only [Sem.run_bind, run_underlying ht, Result.andThen_ok, hsz, Std.Legacy.Range.forIn_eq_forIn_range', Std.Legacy.Range.size, Nat.sub_zero, Nat.add_sub_cancel, Nat.div_one]
  have hl : ∀ i ∈ List.range' 0 n 1, i < n := fun i hi => by simpa using (List.mem_range'_1.1 hi).2
  generalize List.range' 0 n 1 = l at hl ⊢
  induction l with
  | nil => simp
  | cons i l ih =>
    have hi : i < n := hl i (by simp)
    have px : (part e (xs.map (Value.int k)).toArray (i * 1)).run P w = .ok (.int k (xs.getD i 0)) w := by
      simp [part, isAgg, run_underlying he, List.getD, List.getElem?_eq_getElem (show i < xs.length by omega)]
    have py : (part e (ys.map (Value.int k)).toArray (i * 1)).run P w = .ok (.int k (ys.getD i 0)) w := by
      simp [part, isAgg, run_underlying he, List.getD, List.getElem?_eq_getElem (show i < ys.length by omega)]
    have pe : (Op.equalIn (d + 1) e (.int k (xs.getD i 0)) (.int k (ys.getD i 0))).run P w = .ok (decide (xs.getD i 0 = ys.getD i 0)) w := by
      rw [run_equalIn_int w d e k k _ _ he]
      congr 1
    simp only [List.forIn_cons, Sem.run_bind, px, py, pe, Result.andThen_ok, List.all_cons]
    cases hb : decide (xs.getD i 0 = ys.getD i 0)
    · simp
    · simp only [Bool.not_true, Bool.false_eq_true, if_false, Sem.run_pure, Result.andThen_ok, Bool.true_and]
      exact ih fun j hj => hl j (by simp [hj])
end
theorem size8 (w : World) : (sizeOf 5).run Tryd.prog w = .ok 1 w := by kernel_rfl
theorem key_eql (xs ys : List Int) (hx : xs.length = 32) (hy : ys.length = 32) (w : World) : (binOp .eql 32 (.agg (xs.map (Value.int .u8)).toArray) (.agg (ys.map (Value.int .u8)).toArray)).run Tryd.prog w = .ok (.bool (decide (xs = ys))) w := by
  rw [run_eql_struct, run_equalIn_ints w 9998 .u8 32 5 32 Tryd.underlying32 Tryd.underlying5 size8 xs ys hx hy]
  rfl
theorem key_neq (xs ys : List Int) (hx : xs.length = 32) (hy : ys.length = 32) (w : World) : (binOp .neq 32 (.agg (xs.map (Value.int .u8)).toArray) (.agg (ys.map (Value.int .u8)).toArray)).run Tryd.prog w = .ok (.bool (!decide (xs = ys))) w := by
  rw [run_neq_struct, run_equalIn_ints w 9998 .u8 32 5 32 Tryd.underlying32 Tryd.underlying5 size8 xs ys hx hy]
  rfl
theorem key_guard (op : BinOp) (x y : Operand) (xs ys : Array Value) (w : World) : (eqGuard op 32 x y (.agg xs) (.agg ys)).run Tryd.prog w = .ok () w := run_eqGuard_agg w op 32 x y xs ys (by kernel_rfl)
end Go.Proofs.YtpklbchbldipnabDoor

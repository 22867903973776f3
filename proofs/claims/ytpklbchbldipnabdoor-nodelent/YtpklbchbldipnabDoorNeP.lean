/- An entry of a slice of the call's own, changed in place. -/
import Derived.Test.YtpklbchbldipnabDoorNAl
namespace Go.Proofs.YtpklbchbldipnabDoor
open Go.RowKit Go.Maps

/-- Cells put into a row. -/
def putsV : List Value → Nat → List Value → List Value
  | xs, _, [] => xs
  | xs, k, c :: cs => putsV (xs.set k c) (k + 1) cs
theorem putsV_len : ∀ (cs xs : List Value) (k : Nat), (putsV xs k cs).length = xs.length
  | [], _, _ => rfl
  | c :: cs, xs, k => by rw [putsV, putsV_len cs, List.length_set]
theorem owns_puts {B g n c s : Nat} {t : TypeId} : ∀ (cs xs : List Value) (k : Nat) (W : World), W.ownsRow B t s (.slice (some ⟨g, 0, none⟩) n c) n xs → (W.setCells g k cs).ownsRow B t s (.slice (some ⟨g, 0, none⟩) n c) n (putsV xs k cs) ∧ W.grownBy (W.setCells g k cs) (some g)
  | [], xs, k, W, h => ⟨h, rfl, rfl, rfl, Nat.le_refl _, fun _ _ _ => rfl⟩
  | u :: cs, xs, k, W, h => by
    obtain ⟨a1, b1⟩ := World.ownsRow.stored h k u
    obtain ⟨a2, b2⟩ := owns_puts cs (xs.set k u) (k + 1) _ a1
    exact ⟨a2, b2.os.trans b1.os, b2.tape.trans b1.tape, b2.output.trans b1.output, Nat.le_trans b1.size b2.size, fun j hj hne => (b2.block j (Nat.lt_of_lt_of_le hj b1.size) hne).trans (b1.block j hj hne)⟩
theorem putsV_app : ∀ (cs a x b : List Value) (j : Nat), j + cs.length ≤ x.length → putsV (a ++ (x ++ b)) (a.length + j) cs = a ++ (putsV x j cs ++ b)
  | [], a, x, b, j, _ => rfl
  | c :: cs, a, x, b, j, h => by
    rw [List.length_cons] at h
    rw [putsV, putsV, List.set_append_right _ _ (by omega), Nat.add_sub_cancel_left, List.set_append_left _ _ (by omega), Nat.add_assoc]
    exact putsV_app cs a (x.set j c) b (j + 1) (by rw [List.length_set]; omega)
theorem putsV_all : ∀ (cs x : List Value), cs.length = x.length → putsV x 0 cs = cs := by
  have : ∀ (cs a x : List Value), cs.length = x.length → putsV (a ++ x) a.length cs = a ++ cs := by
    intro cs
    induction cs with
    | nil => intro a x h; have : x = [] := List.eq_nil_of_length_eq_zero h.symm; subst this; rfl
    | cons c cs ih =>
      intro a x h
      cases x with
      | nil => simp at h
      | cons y x =>
        rw [putsV, List.set_append_right _ _ (Nat.le_refl _), Nat.sub_self, List.set_cons_zero]
        have := ih (a ++ [c]) x (by simpa using h)
        rw [List.length_append, List.append_assoc, List.append_assoc] at this
        exact this
  intro cs x h
  exact this cs [] x h
theorem ensV_split {l : List Ent} {k : Nat} (hk : k < l.length) (e : Ent) : ensV (l.set k e) = ensV (l.take k) ++ (enV e ++ ensV (l.drop (k + 1))) := by
  rw [List.set_eq_take_append_cons_drop, if_pos hk, ensV_app]
  rfl
theorem set_getD {l : List Ent} {k : Nat} (hk : k < l.length) : l.set k (l.getD k .nul) = l := by
  rw [List.getD_eq_getElem?_getD, List.getElem?_eq_getElem hk]
  exact List.set_getElem_self hk
theorem ensV_puts {l : List Ent} (hok : ∀ e ∈ l, EnOk e) {k j : Nat} (hk : k < l.length) {cs : List Value} {e' : Ent} (hj : j + cs.length ≤ 68) (he : putsV (enV (l.getD k .nul)) j cs = enV e') : putsV (ensV l) (k * 68 + j) cs = ensV (l.set k e') := by
  have hl : (ensV (l.take k)).length = k * 68 := by
    rw [ensV_len (fun e he => hok e (List.mem_of_mem_take he)), List.length_take, Nat.min_eq_left (Nat.le_of_lt hk)]
  have h0 : ensV l = ensV (l.take k) ++ (enV (l.getD k .nul) ++ ensV (l.drop (k + 1))) := by
    have := ensV_split hk (l.getD k .nul)
    rw [set_getD hk] at this
    exact this
  rw [h0, ensV_split hk, ← he, ← hl]
  exact putsV_app cs _ _ _ j (by rw [enV_len (en_get (P := EnOk) hok hk).ok]; exact hj)
theorem en_set {l : List Ent} (hok : ∀ e ∈ l, EnOk e) {k : Nat} {e' : Ent} (h : EnOk e') : ∀ e ∈ l.set k e', EnOk e := fun e he => by
  rcases List.mem_or_eq_of_mem_set he with he | he
  · exact hok e he
  · rw [he]; exact h
/-- Some cells of an entry are other ones. -/
theorem OwnE.put {W : World} {B g n c : Nat} {l : List Ent} (h : OwnE W B (.slice (some ⟨g, 0, none⟩) n c) l) (hn : l.length = n) {k j : Nat} (hk : k < n) {cs : List Value} {e' : Ent} (hj : j + cs.length ≤ 68) (he : putsV (enV (l.getD k .nul)) j cs = enV e') (hok : EnOk e') :
    OwnE (W.setCells g (k * 68 + j) cs) B (.slice (some ⟨g, 0, none⟩) n c) (l.set k e') ∧ W.grownBy (W.setCells g (k * 68 + j) cs) (some g) := by
  subst hn
  obtain ⟨h1, h2⟩ := owns_puts cs (ensV l) (k * 68 + j) W h.2
  rw [ensV_puts h.1 hk hj he] at h1
  refine ⟨⟨en_set h.1 hok, ?_⟩, h2⟩
  rw [List.length_set]
  exact h1
theorem OwnE.room {W : World} {B g n c : Nat} {l : List Ent} (h : OwnE W B (.slice (some ⟨g, 0, none⟩) n c) l) (hn : l.length = n) {k j m : Nat} (hk : k < n) (hj : j + m ≤ 68) : W.there g (k * 68 + j) m := by
  subst hn
  intro i hi
  refine ⟨?_, World.ownsRow.frozenAt h.2 _⟩
  have hb : (k + 1) * 68 ≤ l.length * 68 := Nat.mul_le_mul_right _ hk
  have hx : k * 68 + j + i < (ensV l).length := by rw [ensV_len h.1]; omega
  rw [World.ownsRow.cellAt h.2 _ (by omega), List.getElem?_eq_getElem hx]
  rfl
theorem OwnE.cellE {W : World} {B g n c : Nat} {l : List Ent} (h : OwnE W B (.slice (some ⟨g, 0, none⟩) n c) l) (hn : l.length = n) {k j : Nat} (hk : k < n) (hj : j < 68) : W.cell? ⟨g, k * 68 + j, none⟩ = (enV (l.getD k .nul))[j]? ∧ W.frozen? ⟨g, k * 68 + j, none⟩ = false := by
  subst hn
  have hb : (k + 1) * 68 ≤ l.length * 68 := Nat.mul_le_mul_right _ hk
  exact ⟨by rw [World.ownsRow.cellAt h.2 _ (by omega), ensV_at h.1 hk hj], World.ownsRow.frozenAt h.2 _⟩
theorem OwnE.rangeE {W : World} {B g n c : Nat} {l : List Ent} (h : OwnE W B (.slice (some ⟨g, 0, none⟩) n c) l) (hn : l.length = n) {k : Nat} (hk : k < n) : W.rangeAt g (k * 68) (enV (l.getD k .nul)) := fun j v hv => by
  have hj : j < 68 := by
    have := (List.getElem?_eq_some_iff.1 hv).1
    subst hn
    rw [enV_len (en_get (P := EnOk) h.1 hk).ok] at this
    exact this
  rw [(h.cellE hn hk hj).1, hv]
theorem OwnE.base {W : World} {B g n c : Nat} {l : List Ent} (h : OwnE W B (.slice (some ⟨g, 0, none⟩) n c) l) : B ≤ g ∧ g < W.heap.size := World.ownsRow.lt h.2 g rfl
/-- The fields. -/
theorem put_nm (e : Ent) (s : List Int) : putsV (enV e) 0 [.string (mkS s)] = enV { e with nm := s } := rfl
theorem put_dir (e : Ent) (d : Bool) : putsV (enV e) 1 [.bool d] = enV { e with dir := d } := rfl
theorem put_key {e : Ent} (h : EntOk e) {i : Nat} (hi : i < 32) (x : Int) : putsV (enV e) (2 + i) [.int .u8 x] = enV { e with key := e.key.set i x } := by
  show (enV e).set (2 + i) _ = _
  unfold enV
  rw [show 2 + i = i + 1 + 1 by omega, List.set_cons_succ, List.set_cons_succ, List.set_append_left _ _ (by rw [List.length_map, h.key.1]; exact hi)]
  simp only
  rw [List.map_set]
theorem put_hash {e : Ent} (h : EntOk e) {i : Nat} (hi : i < 32) (x : Int) : putsV (enV e) (34 + i) [.int .u8 x] = enV { e with hash := e.hash.set i x } := by
  show (enV e).set (34 + i) _ = _
  unfold enV
  rw [show 34 + i = 32 + i + 1 + 1 by omega, List.set_cons_succ, List.set_cons_succ, List.set_append_right _ _ (by rw [List.length_map, h.key.1]; omega), List.length_map, h.key.1, Nat.add_sub_cancel_left, List.set_append_left _ _ (by rw [List.length_map, h.hash.1]; exact hi)]
  simp only
  rw [List.map_set]
theorem put_fi {e : Ent} (h : EntOk e) (x : Int) : putsV (enV e) 66 [.int .i64 x] = enV { e with fi := x } := by
  show (enV e).set 66 _ = _
  unfold enV
  rw [show (66 : Nat) = 64 + 1 + 1 from rfl, List.set_cons_succ, List.set_cons_succ, List.set_append_right _ _ (by rw [List.length_map, h.key.1]; omega), List.length_map, h.key.1, List.set_append_right _ _ (by rw [List.length_map, h.hash.1]; omega), List.length_map, h.hash.1]
  rfl
theorem put_ln {e : Ent} (h : EntOk e) (x : Int) : putsV (enV e) 67 [.int .i64 x] = enV { e with ln := x } := by
  show (enV e).set 67 _ = _
  unfold enV
  rw [show (67 : Nat) = 65 + 1 + 1 from rfl, List.set_cons_succ, List.set_cons_succ, List.set_append_right _ _ (by rw [List.length_map, h.key.1]; omega), List.length_map, h.key.1, List.set_append_right _ _ (by rw [List.length_map, h.hash.1]; omega), List.length_map, h.hash.1]
  rfl
/-- A ref's cells. -/
def rfV (hs : List Int) (f n : Int) : List Value := hs.map (Value.int .u8) ++ [.int .i64 f, .int .i64 n]
theorem rfV_len {hs : List Int} {f n : Int} (h : hs.length = 32) : (rfV hs f n).length = 34 := by unfold rfV; simp [h]
theorem rfV_one (hs : List Int) (f n : Int) : ∀ u ∈ rfV hs f n, u.oneCell' = true := by
  intro u hu
  unfold rfV at hu
  simp only [List.mem_append, List.mem_map, List.mem_cons, List.not_mem_nil, or_false] at hu
  rcases hu with ⟨x, _, rfl⟩ | rfl | rfl <;> rfl
theorem enV_rf (e : Ent) : enV e = .string (mkS e.nm) :: .bool e.dir :: (e.key.map (Value.int .u8) ++ rfV e.hash e.fi e.ln) := rfl
theorem put_rf {e : Ent} (h : EntOk e) {hs : List Int} {f n : Int} (hh : hs.length = 32) : putsV (enV e) 34 (rfV hs f n) = enV { e with hash := hs, fi := f, ln := n } := by
  have h1 := putsV_app (rfV hs f n) (.string (mkS e.nm) :: .bool e.dir :: e.key.map (Value.int .u8)) (rfV e.hash e.fi e.ln) [] 0 (by rw [rfV_len hh, rfV_len h.hash.1]; omega)
  have hl : (Value.string (mkS e.nm) :: .bool e.dir :: e.key.map (Value.int .u8)).length = 34 := by simp [h.key.1]
  rw [hl, List.append_nil, List.append_nil, putsV_all _ _ (by rw [rfV_len hh, rfV_len h.hash.1])] at h1
  exact h1
theorem put_en {e e' : Ent} (h : EntOk e) (h' : EntOk e') : putsV (enV e) 0 (enV e') = enV e' := putsV_all _ _ (by rw [enV_len h, enV_len h'])
end Go.Proofs.YtpklbchbldipnabDoor

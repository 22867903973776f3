/- What a directory's key hangs on: refs that are other ones, one entry that is another one. Refs in memory. NodeKey: the walk. -/
import Derived.Test.YtpklbchbldipnaaDoorNAt
import Derived.Test.YtpklbchbldipnaaDoorNAo
import Derived.Test.YtpklbchbldipnaaDoorNAp
import Derived.Test.YtpklbchbldipnaaDoorNmW
namespace Go.Proofs.YtpklbchbldipnaaDoor
open Go.RowKit Go.Maps

/-- A ref. -/
structure Rf where
  hash : List Int
  fi : Int
  ln : Int
def Rf.nul : Rf := ⟨[], 0, 0⟩
structure RfOk (r : Rf) : Prop where
  hash : r.hash.length = 32 ∧ ∀ c ∈ r.hash, 0 ≤ c ∧ c ≤ 255
  fi : -9223372036854775808 ≤ r.fi ∧ r.fi ≤ 9223372036854775807
  ln : -9223372036854775808 ≤ r.ln ∧ r.ln ≤ 9223372036854775807
def chgE (e : Ent) (r : Rf) : Ent := if e.dir then { e with hash := r.hash, fi := r.fi, ln := r.ln } else { e with fi := r.fi }
theorem chgE_ok {e : Ent} {r : Rf} (h : EnOk e) (hr : RfOk r) : EnOk (chgE e r) := by
  unfold chgE
  cases e.dir with
  | true => exact ⟨⟨h.ok.nm, h.ok.key, hr.hash⟩, h.nl, hr.fi, hr.ln⟩
  | false => exact ⟨⟨h.ok.nm, h.ok.key, h.ok.hash⟩, h.nl, hr.fi, h.ln⟩
theorem chgE_nm (e : Ent) (r : Rf) : (chgE e r).nm = e.nm := by unfold chgE; cases e.dir <;> rfl
theorem chgE_prj (e : Ent) (r : Rf) : prj (chgE e r) = prj e := by
  unfold chgE
  cases hd : e.dir with
  | true => unfold prj; simp [hd]
  | false => unfold prj; simp [hd]
def refsF : List Ent → List Rf → List Ent
  | e :: l, r :: rs => chgE e r :: refsF l rs
  | l, _ => l
theorem refsF_nil (l : List Ent) : refsF l [] = l := by cases l <;> rfl
theorem refsF_len : ∀ (l : List Ent) (rs : List Rf), (refsF l rs).length = l.length
  | [], _ => rfl
  | e :: l, [] => rfl
  | e :: l, r :: rs => by rw [refsF, List.length_cons, List.length_cons, refsF_len l rs]
theorem refsF_prj : ∀ (l : List Ent) (rs : List Rf), (refsF l rs).map prj = l.map prj
  | [], _ => rfl
  | e :: l, [] => rfl
  | e :: l, r :: rs => by rw [refsF, List.map_cons, List.map_cons, refsF_prj l rs, chgE_prj]
theorem refsF_nm : ∀ (l : List Ent) (rs : List Rf), (refsF l rs).map Ent.nm = l.map Ent.nm
  | [], _ => rfl
  | e :: l, [] => rfl
  | e :: l, r :: rs => by rw [refsF, List.map_cons, List.map_cons, refsF_nm l rs, chgE_nm]
theorem refsF_at : ∀ (l : List Ent) (rs : List Rf) (k : Nat), (refsF l (rs.take k)).getD k .nul = l.getD k .nul
  | [], _, _ => rfl
  | e :: l, [], k => by rw [List.take_nil]; rfl
  | e :: l, r :: rs, 0 => rfl
  | e :: l, r :: rs, k + 1 => by
    rw [List.take_succ_cons, refsF]
    have := refsF_at l rs k
    simpa using this
theorem refsF_step : ∀ (l : List Ent) (rs : List Rf) (k : Nat), k < l.length → k < rs.length → refsF l (rs.take (k + 1)) = (refsF l (rs.take k)).set k (chgE (l.getD k .nul) (rs.getD k .nul))
  | [], _, _, h, _ => absurd h (by simp)
  | e :: l, [], k, _, h => absurd h (by simp)
  | e :: l, r :: rs, 0, _, _ => by
    show chgE e r :: refsF l (rs.take 0) = (e :: l).set 0 _
    rw [List.take_zero, refsF_nil]
    rfl
  | e :: l, r :: rs, k + 1, h1, h2 => by
    rw [List.take_succ_cons, List.take_succ_cons, refsF, refsF, List.set_cons_succ, refsF_step l rs k (by simpa using h1) (by simpa using h2)]
    rfl
theorem refsF_end (l : List Ent) (rs : List Rf) {k : Nat} (h : l.length ≤ k ∨ rs.length ≤ k) : refsF l (rs.take k) = refsF l rs := by
  induction l generalizing rs k with
  | nil => rfl
  | cons e l ih =>
    cases rs with
    | nil => rw [List.take_nil]
    | cons r rs =>
      cases k with
      | zero => simp at h
      | succ k => rw [List.take_succ_cons, refsF, refsF, ih rs (by simpa using h)]
/-- The same names: no other fault than a ref's. -/
theorem chkF_nm {nb : List Int → Bool} : ∀ (l m : List Ent) (ah : Option (List Int)), m.map Ent.nm = l.map Ent.nm → chkF nb ah l = 0 → chkF nb ah m = 0 ∨ chkF nb ah m = 80
  | [], [], _, _, _ => Or.inl rfl
  | [], _ :: _, _, h, _ => by simp at h
  | _ :: _, [], _, h, _ => by simp at h
  | e :: l, f :: m, ah, h, hc => by
    rw [List.map_cons, List.map_cons] at h
    injection h with h1 h2
    obtain ⟨c1, c2⟩ := chkF_cons hc
    have h3 : chk1 nb ah f = 0 ∨ chk1 nb ah f = 80 := by
      unfold chk1 at c1 ⊢
      rw [h1]
      by_cases q1 : nb e.nm = false
      · rw [if_pos q1] at c1; cases c1
      rw [if_neg q1] at c1 ⊢
      by_cases q2 : late ah e.nm = true
      · rw [if_pos q2] at c1; cases c1
      rw [if_neg q2]
      by_cases q3 : sndE f = false
      · rw [if_pos q3]; exact Or.inr rfl
      · rw [if_neg q3]; exact Or.inl rfl
    rw [chkF]
    rcases h3 with h3 | h3
    · rw [if_neg (by rw [h3]; simp), h1]
      exact chkF_nm l m (some e.nm) h2 c2
    · rw [if_pos (by rw [h3]; decide)]
      exact Or.inr h3
theorem chkL_nm {nb : List Int → Bool} {l m : List Ent} (h : m.map Ent.nm = l.map Ent.nm) (hc : chkL nb l = 0) : chkL nb m = 0 ∨ chkL nb m = 80 := by
  obtain ⟨h1, h2⟩ := chkL_zero hc
  have h3 : m.length = l.length := by have := congrArg List.length h; simpa using this
  unfold chkL
  rw [if_neg (by omega)]
  exact chkF_nm l m none h h2
theorem keyL_prj {a b : List Ent} (h : a.map prj = b.map prj) : keyL a = keyL b := by
  rw [keyL_eqB, keyL_eqB]
  congr 1
  induction a generalizing b with
  | nil =>
    cases b with
    | nil => rfl
    | cons f b => simp at h
  | cons e a ih =>
    cases b with
    | nil => simp at h
    | cons f b =>
      have h1 : prj e = prj f := (List.cons.inj h).1
      have h2 : a.map prj = b.map prj := (List.cons.inj h).2
      rw [List.flatMap_cons, List.flatMap_cons, kB_prj h1, ih h2]
theorem keyR_prj {l m : List Ent} (hc : chkL nbL l = 0) (hm : chkL nbL m = 0) (h : m.map prj = l.map prj) : keyR m = keyR l := by
  unfold keyR
  rw [if_pos hc, if_pos hm, keyL_prj h]
theorem set_prj {l : List Ent} {i : Nat} (hi : i < l.length) (e : Ent) : (l.set i e).map prj = l.map prj ↔ prj e = prj (l.getD i .nul) := by
  rw [List.map_set]
  have hg : (l.map prj)[i]? = some (prj (l.getD i .nul)) := by
    rw [List.getElem?_map, List.getD_eq_getElem?_getD, List.getElem?_eq_getElem hi]
    rfl
  constructor
  · intro h
    have h1 : ((l.map prj).set i (prj e))[i]? = (l.map prj)[i]? := by rw [h]
    rw [hg, List.getElem?_set_self (by simpa using hi)] at h1
    exact Option.some.inj h1
  · intro h
    rw [h]
    apply List.ext_getElem?
    intro j
    by_cases hj : i = j
    · subst hj
      rw [List.getElem?_set_self (by simpa using hi), hg]
    · rw [List.getElem?_set_ne hj]
theorem entIn_of {l : List Ent} (hok : ∀ e ∈ l, EnOk e) (hc : chkL nbL l = 0) : ∀ e ∈ l, EntIn e := by
  have hf := fine_all hok hc
  intro e he
  have := hf e he
  exact ⟨(hok e he).ok, this.nl, this.ln⟩
/-- The key of a list with one entry changed. -/
theorem key_set {l : List Ent} {i : Nat} (hi : i < l.length) {e : Ent} (hok : ∀ e ∈ l, EnOk e) (he : EnOk e) (hc : chkL nbL l = 0) (hm : chkL nbL (l.set i e) = 0) : keyL l = keyL (l.set i e) ↔ prj e = prj (l.getD i .nul) := by
  rw [key_iff (entIn_of hok hc) (entIn_of (en_set hok he) hm), ← set_prj hi e]
  exact eq_comm
end Go.Proofs.YtpklbchbldipnaaDoor

namespace Go.Proofs.YtpklbchbldipnaaDoor
open Go.RowKit Go.Maps

/-- A slice of refs: in this world it reads the list. -/
structure IsRf (w : World) (v : Value) (l : List Rf) : Prop where
  ok : ∀ r ∈ l, RfOk r
  val : ∃ a c, v = .slice a l.length c ∧ l.length ≤ c ∧ c ≤ 9223372036854775807 ∧ (0 < l.length → ∃ b o, a = some ⟨b, o, none⟩ ∧ ∀ j, j < l.length → w.rangeAt b (o + j * 34) (rfV (l.getD j .nul).hash (l.getD j .nul).fi (l.getD j .nul).ln))
theorem IsRf.below {w w' : World} {v : Value} {l : List Rf} (h : IsRf w v l) (hb : Below w.heap.size w w') : IsRf w' v l := by
  obtain ⟨h0, a, c, hv, hl, hm, hc⟩ := h
  refine ⟨h0, a, c, hv, hl, hm, fun hp => ?_⟩
  obtain ⟨b, o, ha, hcell⟩ := hc hp
  exact ⟨b, o, ha, fun j hj => range_kept (hcell j hj) hb⟩
theorem rf_get {l : List Rf} {P : Rf → Prop} (h : ∀ e ∈ l, P e) {j : Nat} (hj : j < l.length) : P (l.getD j .nul) := by
  rw [List.getD_eq_getElem?_getD, List.getElem?_eq_getElem hj]
  exact h _ (List.getElem_mem hj)
theorem rfV_fi {hs : List Int} {f n : Int} (h : hs.length = 32) : (rfV hs f n)[32]? = some (.int .i64 f) ∧ (rfV hs f n)[33]? = some (.int .i64 n) := by
  unfold rfV
  constructor
  · rw [List.getElem?_append_right (by rw [List.length_map, h]; omega), List.length_map, h]; rfl
  · rw [List.getElem?_append_right (by rw [List.length_map, h]; omega), List.length_map, h]; rfl
theorem infoRof {hs : List Int} {f n : Int} (h : hs.length = 32) : (Tryd.prog.info? 50).map (·.size) = some (rfV hs f n).length := by rw [rfV_len h]; exact infoRz
end Go.Proofs.YtpklbchbldipnaaDoor

namespace Go.Proofs.YtpklbchbldipnaaDoor
open Go.RowKit Go.Maps Classical

theorem store8k_run {W : World} {b o : Nat} {x : Int} {u : Value} (h : W.cell? ⟨b, o, none⟩ = some u) (hf : W.frozen? ⟨b, o, none⟩ = false) : (Instr.storeAt 5 (.pointer (some ⟨b, o, none⟩)) (.int .u8 x)).run Tryd.prog W = .ok () (W.setCell ⟨b, o, none⟩ (.int .u8 x)) := by
  have hu := Tryd.underlying5
  go_simp
section
variable {ops : Array Oper} {rest : List Oper} {o : Oper} {a : Act} {Q : Exit → Act → World → Prop} {w : World} {K : Act → World → Prop} {E : Prop}
theorem step_store8k (hgd : o.guard = none) (x y : Operand) (ho : o.op = .store 5 x y) {b of : Nat} {z : Int} {u : Value} (hx : a.eval x = .pointer (some ⟨b, of, none⟩)) (hy : a.eval y = .int .u8 z) (hc : w.cell? ⟨b, of, none⟩ = some u) (hf : w.frozen? ⟨b, of, none⟩ = false) (hk : K (a.put o.dst undef) (w.setCell ⟨b, of, none⟩ (.int .u8 z))) : if Region.wanted o (yielded ops a.tmps) = true then Oper.wp Tryd.prog o a w K Q else E := by
  rw [if_pos (by simp [Region.wanted, hgd])]
  unfold Oper.wp execOp
  simp only [ho, hx, hy, Sem.run_bind, store8k_run hc hf, Result.andThen_ok, Sem.run_pure]
  exact hk
theorem wpList_putE (hgd : o.guard = none) (x y : Operand) (t : TypeId) (ho : o.op = .store t x y) {B g n c k j : Nat} {l : List Ent} {ds : List Value} {e' : Ent} (hx : a.eval x = .pointer (some ⟨g, k * 68 + j, none⟩)) (hy : a.eval y = .agg ds.toArray) (h : OwnE w B (.slice (some ⟨g, 0, none⟩) n c) l) (hn : l.length = n) (hk : k < n) (hi : (Tryd.prog.info? t).map (·.size) = some ds.length) (hj : j + ds.length ≤ 68) (h1 : ∀ u ∈ ds, u.oneCell' = true)
    (he : putsV (enV (l.getD k .nul)) j ds = enV e') (hok : EnOk e')
    (hq : ∀ w', OwnE w' B (.slice (some ⟨g, 0, none⟩) n c) (l.set k e') → w.grownBy w' (some g) → wpList Tryd.prog ops Q rest (a.put o.dst undef) w') : wpList Tryd.prog ops Q (o :: rest) a w := by
  obtain ⟨a1, b1⟩ := h.put hn hk hj he hok
  exact wpList_store_mid hgd t x y ho g (k * 68 + j) ds.toArray hx hy (by simpa using h.room hn hk hj) (by simpa using hi) (all_oneCell_toArray h1) (hq _ (by simpa using a1) (by simpa using b1))
end
theorem mkS_snoc (x : List Int) (b : Nat) : mkS x ++ ⟨#[UInt8.ofNat b]⟩ = mkS (x ++ [((b : Nat) : Int)]) := by
  refine toL_inj ?_
  rw [toL_mkS, List.map_append]
  show (mkS x ++ ⟨#[UInt8.ofNat b]⟩ : ByteArray).data.toList = _
  rw [ByteArray.data_append, Array.toList_append]
  have h : (mkS x).data.toList = _ := toL_mkS x
  rw [h]
  simp
theorem bK0z (W : World) : (Instr.build 31 #[]).run Tryd.prog W = .ok (.agg (zK.map (Value.int .u8)).toArray) W := by rw [← z32_zK]; exact bK0 W
theorem zK_len : zK.length = 32 := by unfold zK; simp
theorem IsEn.tail0 {w : World} {a : Option Addr} {m c : Nat} {l : List Ent} (h : IsEn w (.slice a m c) l) (hm : m = 0) : l = [] := List.eq_nil_of_length_eq_zero (by have := h.lenEq.1; omega)
end Go.Proofs.YtpklbchbldipnaaDoor

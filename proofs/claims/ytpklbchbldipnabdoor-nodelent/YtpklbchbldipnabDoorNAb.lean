/- reader.entry. -/
import Derived.Test.YtpklbchbldipnabDoorNZ
namespace Go.Proofs.YtpklbchbldipnabDoor
open Go.RowKit Go.Maps

/-- Cells written one behind the other. -/
def setAll : List Value → Nat → List Value → List Value
  | cs, _, [] => cs
  | cs, o, v :: r => setAll (cs.set o v) (o + 1) r
theorem setAll_mid : ∀ (vs pre mid post : List Value), mid.length = vs.length → setAll (pre ++ (mid ++ post)) pre.length vs = pre ++ (vs ++ post)
  | [], pre, mid, post, h => by
    have : mid = [] := List.eq_nil_of_length_eq_zero h
    subst this
    rfl
  | v :: r, pre, [], post, h => by simp at h
  | v :: r, pre, m :: mid, post, h => by
    have ih := setAll_mid r (pre ++ [v]) mid post (by simpa using h)
    rw [setAll]
    have e : (pre ++ (m :: mid ++ post)).set pre.length v = pre ++ [v] ++ (mid ++ post) := by simp
    rw [e]
    rw [List.length_append] at ih
    simpa using ih
theorem Arr.setCells {g : Nat} {t : TypeId} : ∀ (vs : List Value) {w : World} {cs : List Value} (o : Nat), Arr w g t cs → Arr (w.setCells g o vs) g t (setAll cs o vs)
  | [], _, _, _, h => h
  | v :: r, w, cs, o, h => by
    rw [World.setCells, setAll]
    exact Arr.setCells r (o + 1) (h.set o v)
theorem wrote_setCell (w : World) (g j : Nat) (v : Value) : Wrote w (w.setCell ⟨g, j, none⟩ v) g :=
  ⟨fun k hk => Below.heap_setCell w ⟨g, j, none⟩ v k hk, by simp, fun _ _ hb hB => hb.setCell (p := ⟨g, j, none⟩) hB v⟩
theorem Wrote.trans {a b c : World} {g : Nat} (h : Wrote a b g) (k : Wrote b c g) : Wrote a c g :=
  ⟨fun i hi => (k.other i hi).trans (h.other i hi), k.size.trans h.size, fun B x hb hB => k.below B x (h.below B x hb hB) hB⟩
theorem wrote_setCells (g : Nat) : ∀ (vs : List Value) (w : World) (o : Nat), Wrote w (w.setCells g o vs) g
  | [], w, _ => ⟨fun _ _ => rfl, rfl, fun _ _ hb _ => hb⟩
  | v :: r, w, o => by
    rw [World.setCells]
    exact (wrote_setCell w g o v).trans (wrote_setCells g r _ (o + 1))
def z64 : List Int := List.replicate 32 0
/-- An entry of zeros. -/
def zEn : Ent := ⟨[], false, z64, z64, 0, 0⟩
theorem zEn_V : enV zEn = z68 := rfl
theorem enV_nm (e : Ent) (nm : List Int) : (enV e).set 0 (.string (mkS nm)) = enV { e with nm := nm } := rfl
theorem enV_dir (e : Ent) (d : Bool) : (enV e).set 1 (.bool d) = enV { e with dir := d } := rfl
theorem enV_setKey {e : Ent} {k : List Int} (h1 : e.key.length = 32) (h2 : k.length = 32) : setAll (enV e) 2 (k.map (Value.int .u8)) = enV { e with key := k } := by
  have := setAll_mid (k.map (Value.int .u8)) [.string (mkS e.nm), .bool e.dir] (e.key.map (Value.int .u8)) (e.hash.map (Value.int .u8) ++ [.int .i64 e.fi, .int .i64 e.ln]) (by simp [h1, h2])
  exact this
theorem enV_setHash {e : Ent} {k : List Int} (h0 : e.key.length = 32) (h1 : e.hash.length = 32) (h2 : k.length = 32) : setAll (enV e) 34 (k.map (Value.int .u8)) = enV { e with hash := k } := by
  have := setAll_mid (k.map (Value.int .u8)) (.string (mkS e.nm) :: .bool e.dir :: e.key.map (Value.int .u8)) (e.hash.map (Value.int .u8)) [.int .i64 e.fi, .int .i64 e.ln] (by simp [h1, h2])
  simp only [List.length_cons, List.length_map, h0] at this
  exact this
theorem enV_setFi {e : Ent} (h0 : e.key.length = 32) (h1 : e.hash.length = 32) (x : Int) : (enV e).set 66 (.int .i64 x) = enV { e with fi := x } := by
  unfold enV
  rw [show (66 : Nat) = 64 + 1 + 1 from rfl, List.set_cons_succ, List.set_cons_succ, List.set_append_right _ _ (by simp [h0]), List.set_append_right _ _ (by simp [h0, h1])]
  simp [h0, h1]
theorem enV_setLn {e : Ent} (h0 : e.key.length = 32) (h1 : e.hash.length = 32) (x : Int) : (enV e).set 67 (.int .i64 x) = enV { e with ln := x } := by
  unfold enV
  rw [show (67 : Nat) = 65 + 1 + 1 from rfl, List.set_cons_succ, List.set_cons_succ, List.set_append_right _ _ (by simp [h0]), List.set_append_right _ _ (by simp [h0, h1])]
  simp [h0, h1]
/-- Where an entry's reading stands. -/
structure Est (w W wk : World) (g g4 g5 : Nat) (v : Value) (p : Nat) (e : Ent) : Prop where
  rd : Rdr w wk g v p
  en : Arr wk g5 38 (enV e)
  re : Arr wk g4 38 z68
  gr : W.grownBy wk (some g)
  n4 : g ≠ g4
  n5 : g ≠ g5
  n45 : g4 ≠ g5
  h4 : W.heap.size ≤ g4
  h5 : W.heap.size ≤ g5
  hw : w.heap.size ≤ W.heap.size
theorem Est.call {w W wk w' : World} {g g4 g5 p p' : Nat} {v : Value} {e : Ent} (h : Est w W wk g g4 g5 v p e) (hg : wk.grownBy w' (some g)) (hr : Rdr w w' g v p') : Est w W w' g g4 g5 v p' e :=
  ⟨hr, h.en.keep (hg.block g5 h.en.lt (fun x => h.n5 (by injection x with x; exact x.symm))), h.re.keep (hg.block g4 h.re.lt (fun x => h.n4 (by injection x with x; exact x.symm))), grown_then h.gr hg, h.n4, h.n5, h.n45, h.h4, h.h5, h.hw⟩
theorem Est.wrote {w W wk w' : World} {g g4 g5 p : Nat} {v : Value} {e e' : Ent} (h : Est w W wk g g4 g5 v p e) (hw : Wrote wk w' g5) (ha : Arr w' g5 38 (enV e')) : Est w W w' g g4 g5 v p e' := by
  have hz := hw.below 0 _ (Below.refl 0 _) (Nat.zero_le _)
  exact ⟨⟨h.rd.blk.wrote hw h.n5, hw.below _ _ h.rd.old (Nat.le_trans h.hw h.h5), h.rd.new⟩, ha, h.re.wrote hw h.n45,
    ⟨hz.os.trans h.gr.os, hz.tape.trans h.gr.tape, hz.output.trans h.gr.output, Nat.le_trans h.gr.size hz.size, fun k hk hne => (hw.other k (by have := h.h5; omega)).trans (h.gr.block k hk hne)⟩, h.n4, h.n5, h.n45, h.h4, h.h5, h.hw⟩
theorem Est.set {w W wk : World} {g g4 g5 p : Nat} {v : Value} {e e' : Ent} (h : Est w W wk g g4 g5 v p e) (j : Nat) (u : Value) (he : (enV e).set j u = enV e') : Est w W (wk.setCell ⟨g5, j, none⟩ u) g g4 g5 v p e' :=
  h.wrote (wrote_setCell _ _ _ _) (by rw [← he]; exact h.en.set j u)
theorem Est.sets {w W wk : World} {g g4 g5 p : Nat} {v : Value} {e e' : Ent} (h : Est w W wk g g4 g5 v p e) (o : Nat) (vs : List Value) (he : setAll (enV e) o vs = enV e') : Est w W (wk.setCells g5 o vs) g g4 g5 v p e' :=
  h.wrote (wrote_setCells _ _ _ _) (by rw [← he]; exact h.en.setCells vs o)
theorem Est.there {w W wk : World} {g g4 g5 p : Nat} {v : Value} {e : Ent} (h : Est w W wk g g4 g5 v p e) (hk : EntOk e) {o n : Nat} (ho : o + n ≤ 68) : wk.there g5 o n := fun j hj =>
  ⟨by rw [h.en.cell (o + j), List.getElem?_eq_getElem (by rw [enV_len hk]; omega)]; rfl, h.en.frozen (o + j)⟩
theorem Est.cellS {w W wk : World} {g g4 g5 p : Nat} {v : Value} {e : Ent} (h : Est w W wk g g4 g5 v p e) (hk : EntOk e) {j : Nat} (hj : j < 68) : ∃ u, wk.cell? ⟨g5, j, none⟩ = some u :=
  ⟨_, by rw [h.en.cell j]; exact List.getElem?_eq_getElem (by rw [enV_len hk]; omega)⟩
theorem results_row {fn : Func} {p : Tmp} {t : TypeId} {d : TypeDesc} {g : Nat} {tmps : Array Value} {w : World} {cs : List Value} (h : fn.results = #[.cell p t]) (ha : tmps.getD p undef = .pointer (some ⟨g, 0, none⟩)) (hA : Arr w g t cs) (hu : Tryd.prog.underlying t = some d) (hd : d.isRow = true) (hi : (Tryd.prog.info? t).map (·.size) = some cs.length) :
    (results fn tmps).run Tryd.prog w = .ok (.agg cs.toArray) w := by
  have h1 := run_loadVar_mid (P := Tryd.prog) w g 0 t cs d hA.range hu hd hi
  have ha' : tmps[p]?.getD undef = .pointer (some ⟨g, 0, none⟩) := by simpa using ha
  simp [results, h, asAddr, ha', h1]
/-- An entry's reading in two parts. -/
theorem decE_nm (nb : List Int → Bool) (ah : Option (List Int)) (b : List Int) : decE nb ah b = if nmE nb ah b ≠ 0 then (.nul, [], nmE nb ah b) else if (b.drop (nmK b)).length < 73 ∨ 1 < (b.drop (nmK b)).headD 0 then (.nul, [], 80) else if sndE (restE (nmB b) (b.drop (nmK b))) = false then (.nul, [], 80) else (restE (nmB b) (b.drop (nmK b)), (b.drop (nmK b)).drop 73, 0) := by
  by_cases h1 : (rU 0 0 b).2.2 ≠ 0
  · have hE : nmE nb ah b = 80 := by unfold nmE; rw [if_pos h1]
    rw [hE, if_pos (by decide)]
    unfold decE
    simp only
    rw [if_pos h1]
  by_cases h2 : 64 < (rU 0 0 b).1
  · have hE : nmE nb ah b = 81 := by unfold nmE; rw [if_neg h1, if_pos h2]
    rw [hE, if_pos (by decide)]
    unfold decE
    simp only
    rw [if_neg h1, if_pos h2]
  by_cases h3 : ((b.drop (rU 0 0 b).2.1).length : Int) < (rU 0 0 b).1
  · have hE : nmE nb ah b = 80 := by unfold nmE; rw [if_neg h1, if_neg h2, if_pos h3]
    rw [hE, if_pos (by decide)]
    unfold decE
    simp only
    rw [if_neg h1, if_neg h2, if_pos h3]
  have hN : nmE nb ah b = chkN nb ah (nmB b) := by unfold nmE nmB; rw [if_neg h1, if_neg h2, if_neg h3]
  have e : (b.drop (rU 0 0 b).2.1).drop (rU 0 0 b).1.toNat = b.drop (nmK b) := by unfold nmK; rw [List.drop_drop]
  have e2 : (b.drop (rU 0 0 b).2.1).take (rU 0 0 b).1.toNat = nmB b := rfl
  by_cases h4 : nb (nmB b) = false
  · have hE : nmE nb ah b = 81 := by rw [hN]; unfold chkN; rw [if_pos h4]
    rw [hE, if_pos (by decide)]
    unfold decE
    simp only
    rw [if_neg h1, if_neg h2, if_neg h3, e2, if_pos h4]
  by_cases h5 : late ah (nmB b) = true
  · have hE : nmE nb ah b = 83 := by rw [hN]; unfold chkN; rw [if_neg h4, if_pos h5]
    rw [hE, if_pos (by decide)]
    unfold decE
    simp only
    rw [if_neg h1, if_neg h2, if_neg h3, e2, if_neg h4, if_pos h5]
  have hE : nmE nb ah b = 0 := by rw [hN]; unfold chkN; rw [if_neg h4, if_neg h5]
  rw [hE, if_neg (by decide)]
  unfold decE
  simp only
  rw [if_neg h1, if_neg h2, if_neg h3, e2, if_neg h4, if_neg h5, e]
theorem restE_parts {nm t : List Int} (h : Byt t) (hl : 73 ≤ t.length) : leN (t.take 1) = t.headD 0 ∧ (restE nm t).key = (t.drop 1).take 32 ∧ (restE nm t).hash = (t.drop 33).take 32 ∧ ((t.drop 1).take 32).length = 32 ∧ ((t.drop 33).take 32).length = 32 ∧ EnOk { restE nm t with nm := [] } := by
  have hk : ((t.drop 1).take 32).length = 32 := by rw [List.length_take, List.length_drop]; omega
  have hh : ((t.drop 33).take 32).length = 32 := by rw [List.length_take, List.length_drop]; omega
  have f4 : ∀ k, 0 ≤ leN ((t.drop k).take 4) ∧ leN ((t.drop k).take 4) ≤ 4294967296 := fun k => by
    have h1 := fB_leN (l := (t.drop k).take 4) (fun x hx => h x (List.mem_of_mem_drop (List.mem_of_mem_take hx)))
    have hl : ((t.drop k).take 4).length ≤ 4 := by rw [List.length_take]; omega
    have h2 : (2 : Int) ^ (8 * ((t.drop k).take 4).length) ≤ 2 ^ 32 := by exact_mod_cast Nat.pow_le_pow_right (by decide : 0 < 2) (show 8 * ((t.drop k).take 4).length ≤ 32 by omega)
    have e : (2 : Int) ^ 32 = 4294967296 := by decide
    omega
  refine ⟨?_, rfl, rfl, hk, hh, ⟨⟨by simp, ⟨hk, (h.drop 1).take 32⟩, ⟨hh, (h.drop 33).take 32⟩⟩, by simp, ?_, ?_⟩⟩
  · cases t with
    | nil => simp at hl
    | cons c t => simp [leN]
  · have := f4 65
    show _ ≤ leN _ ∧ leN _ ≤ _
    omega
  · have := f4 69
    show _ ≤ leN _ ∧ leN _ ≤ _
    omega
set_option maxRecDepth 100000 in
set_option maxHeartbeats 4000000 in
theorem entry_walk {w W : World} {g n c p na ca : Nat} {a aa : Option Addr} {xs : List Int} {la : List Ent} (hr : Rdr w W g (.slice a n c) p) (hb : IsB w (.slice a n c) xs) (hp : p ≤ n) (hnl : n ≤ 1048576) (hEn : ∀ W', W.grownBy W' (some g) → IsEn W' (.slice aa na ca) la) (D : Ent × List Int × Int) (hD : decE nbL (ahN la na) (xs.drop p) = D) :
    Calls Tryd.prog 60 #[.pointer (some ⟨g, 0, none⟩), .slice aa na ca] W fun e w' => W.grownBy w' (some g) ∧ (D.2.2 = 0 → e = .returned (.agg (enV D.1).toArray) ∧ ∃ p', p' ≤ n ∧ xs.drop p' = D.2.1 ∧ Rdr w w' g (.slice a n c) p') ∧ (D.2.2 ≠ 0 → e = gaveUp D.2.2) := by
  have hgl := hr.blk.lt
  have hn := hb.lenEq
  have hbt : Byt xs := hb.mem
  rw [decE_nm] at hD
  have hb1 := lit_blw W (.cells z68.toArray 38)
  have hb2 := lit_blw (W.alloc (.cells z68.toArray 38)) (.cells z68.toArray 38)
  have hbb := below_then hb1 hb2
  have hA1 := (Arr.new W z68 38).below hb2
  have hA2 := Arr.new (W.alloc (.cells z68.toArray 38)) z68 38
  rw [size_alloc] at hA2
  have HE2 : Hid (Est w W ((W.alloc (.cells z68.toArray 38)).alloc (.cells z68.toArray 38)) g W.heap.size (W.heap.size + 1) (.slice a n c) p zEn) :=
    ⟨hr.below hbb, by rw [zEn_V]; exact hA2, hA1, grown_belowS g hbb, by omega, by omega, by omega, Nat.le_refl _, Nat.le_succ _, hr.old.size⟩
  have HEN := hide hEn
  have HB := hide hb
  have HBT := hide hbt
  have HN := hide hn
  have HD := hide hD
  have hkp : nmE nbL (ahN la na) (xs.drop p) = 0 → p + nmK (xs.drop p) ≤ n := fun h => by
    rcases nmC hbt hn hp with ⟨er, h0, h13, he, hq⟩ | ⟨he, hq⟩ | ⟨he, hq, hk, hl⟩
    · rw [hq] at h; cases h
    · rw [hq] at h; cases h
    · exact hk
  have HKP := hide hkp
  clear hr hb hEn hb1 hb2 hbb hA1 hA2 hbt hgl hD hn hkp
  go_enter Tryd.func60, Tryd.ntmps60
  go_wp2_with (refine wpList_allocZ rfl 38 rfl infoEn ?_)
  try simp only [size_alloc]
  generalize (W.alloc (.cells z68.toArray 38)).alloc (.cells z68.toArray 38) = w2 at *
  obtain ⟨g4, hg4⟩ : ∃ g4, W.heap.size = g4 := ⟨_, rfl⟩
  obtain ⟨g5, hg5⟩ : ∃ g5, W.heap.size + 1 = g5 := ⟨_, rfl⟩
  rw [hg5, hg4] at HE2
  rw [hg5, hg4]
  clear hg4 hg5
  have HNM := hide (rname_walk HE2.out.rd HB.out hp hnl (fun W' h => unhide HEN W' (grown_then HE2.out.gr h)))
  refine (unhide HNM).mono ?_
  rintro e w3 ⟨hg3, hok3, hno3⟩
  by_cases hq : nmE nbL (ahN la na) (xs.drop p) = 0
  · obtain ⟨rfl, hr3⟩ := hok3 hq
    rw [if_neg (by simpa using hq)] at HD
    have hp1 := unhide HKP hq
    obtain ⟨p1, hp1e⟩ : ∃ p1, p + nmK (xs.drop p) = p1 := ⟨_, rfl⟩
    have ht : (xs.drop p).drop (nmK (xs.drop p)) = xs.drop p1 := by rw [List.drop_drop, hp1e]
    rw [ht] at HD
    rw [hp1e] at hr3 hp1
    have HBN : Hid (Byt (nmB (xs.drop p))) := fun x hx => HBT.out x (List.mem_of_mem_drop (List.mem_of_mem_drop (List.mem_of_mem_take hx)))
    generalize nmB (xs.drop p) = nm at *
    have HE3 := hide (HE2.out.call hg3 hr3)
    clear hq hg3 hr3 hok3 hno3 HNM HE2 HKP hp1e ht
    have hxl : (xs.drop p1).length = n - p1 := by rw [List.length_drop, HN.out]
    have HBX : Hid (Byt (xs.drop p1)) := HBT.out.drop p1
    have HF80 : Hid (n < p1 + 73 → D = (.nul, [], 80)) := fun h => by rw [← HD.out, if_pos (Or.inl (by omega))]
    have hlE : xs.length = n := HN.out.symm
    have ok0 : EntOk zEn := ⟨by decide, ⟨by decide, by decide⟩, ⟨by decide, by decide⟩⟩
    have ok1 : EntOk { zEn with nm := nm } := ⟨HBN.out, ok0.key, ok0.hash⟩
    have HE4 := hide (HE3.out.set 0 _ (enV_nm zEn nm))
    obtain ⟨u0, hu0⟩ := HE3.out.cellS ok0 (j := 0) (by decide)
    have hf0 := HE3.out.en.frozen 0
    go_wp2_with fail
    clear hu0 hf0 HE3
    generalize w3.setCell ⟨g5, 0, none⟩ (.string (mkS nm)) = w4 at *
    by_cases h1 : p1 + 1 ≤ n
    · refine (number_ok HE4.out.rd HB.out (size := 1) (by decide) (by decide) h1).mono ?_
      rintro e w5 ⟨rfl, hr5, hg5⟩
      have HE5 := hide (HE4.out.call hg5 hr5)
      have HM : Hid (leN ((xs.drop p1).take 1) = (xs.drop p1).headD 0) := by
        show _ = _
        cases hx : xs.drop p1 with
        | nil => rw [hx] at hxl; simp at hxl; omega
        | cons c t => simp [leN]
      generalize leN ((xs.drop p1).take 1) = m at *
      have ok2 : EntOk { ({ zEn with nm := nm } : Ent) with dir := (m == 1) } := ⟨ok1.nm, ok1.key, ok1.hash⟩
      have HE6 := hide (HE5.out.set 1 _ (enV_dir { zEn with nm := nm } (m == 1)))
      obtain ⟨u1, hu1⟩ := HE5.out.cellS ok1 (j := 1) (by decide)
      have hf1 := HE5.out.en.frozen 1
      clear hr5 hg5 HE4
      go_wp2_with fail
      clear hu1 hf1 HE5
      generalize w5.setCell ⟨g5, 1, none⟩ (.bool (m == 1)) = w6 at *
      refine (key_walk HE6.out.rd HB.out h1 _ rfl).mono ?_
      rintro e w7 ⟨hg7, hok7, hno7⟩
      by_cases h2 : p1 + 1 + 32 ≤ n
      · have hkl : ((xs.drop (p1 + 1)).take 32).length = 32 := by rw [List.length_take, List.length_drop]; omega
        obtain ⟨rfl, hr7⟩ := hok7 (by rw [List.length_map]; exact hkl)
        have HE7 := hide (HE6.out.call hg7 hr7)
        have HKB : Hid (Byt ((xs.drop (p1 + 1)).take 32)) := (HBT.out.drop _).take _
        have HKE : Hid ((xs.drop (p1 + 1)).take 32 = ((xs.drop p1).drop 1).take 32) := by show _ = _; rw [List.drop_drop]
        have HIK := hide (infoKof hkl)
        generalize (xs.drop (p1 + 1)).take 32 = ky at *
        have ok3 : EntOk { ({ ({ zEn with nm := nm } : Ent) with dir := (m == 1) } : Ent) with key := ky } := ⟨ok1.nm, ⟨hkl, HKB.out⟩, ok1.hash⟩
        have HE8 := hide (HE7.out.sets 2 (ky.map (Value.int .u8)) (enV_setKey ok2.key.1 hkl))
        have HTH := hide (HE7.out.there ok2 (o := 2) (n := 32) (by decide))
        have HKL := hide hkl
        clear hg7 hok7 hno7 hr7 HE6 hkl
        go_wp2_with (refine wpList_store_mid rfl 32 (.tmp 18) (.tmp 17) rfl g5 2 _ rfl rfl (by rw [List.size_toArray, List.length_map, HKL.out]; exact HTH.out) (by rw [List.size_toArray]; exact HIK.out) (all_oneCell_toArray (u8_one ky)) ?_)
        generalize w7.setCells g5 2 (ky.map (Value.int .u8)) = w8 at *
        refine (key_walk HE8.out.rd HB.out h2 _ rfl).mono ?_
        rintro e w9 ⟨hg9, hok9, hno9⟩
        by_cases h3 : p1 + 1 + 32 + 32 ≤ n
        · have hhl : ((xs.drop (p1 + 1 + 32)).take 32).length = 32 := by rw [List.length_take, List.length_drop]; omega
          obtain ⟨rfl, hr9⟩ := hok9 (by rw [List.length_map]; exact hhl)
          have HE9 := hide (HE8.out.call hg9 hr9)
          have HHB : Hid (Byt ((xs.drop (p1 + 1 + 32)).take 32)) := (HBT.out.drop _).take _
          have HHE : Hid ((xs.drop (p1 + 1 + 32)).take 32 = ((xs.drop p1).drop 33).take 32) := by show _ = _; rw [List.drop_drop]
          have HIH := hide (infoKof hhl)
          generalize (xs.drop (p1 + 1 + 32)).take 32 = hy at *
          obtain ⟨e3, he3⟩ : ∃ e3, ({ ({ ({ zEn with nm := nm } : Ent) with dir := (m == 1) } : Ent) with key := ky } : Ent) = e3 := ⟨_, rfl⟩
          rw [he3] at HE9 ok3
          have HE3' := hide he3
          have ok4 : EntOk { e3 with hash := hy } := ⟨ok3.nm, ok3.key, ⟨hhl, HHB.out⟩⟩
          have HE10 := hide (HE9.out.sets 34 (hy.map (Value.int .u8)) (enV_setHash ok3.key.1 ok3.hash.1 hhl))
          have HTH2 := hide (HE9.out.there ok3 (o := 34) (n := 32) (by decide))
          have HHL := hide hhl
          clear hg9 hok9 hno9 hr9 HE8 hhl he3
          go_wp2_with (refine wpList_store_mid rfl 32 (.tmp 22) (.tmp 20) rfl g5 34 _ rfl rfl (by rw [List.size_toArray, List.length_map, HHL.out]; exact HTH2.out) (by rw [List.size_toArray]; exact HIH.out) (all_oneCell_toArray (u8_one hy)) ?_)
          generalize w9.setCells g5 34 (hy.map (Value.int .u8)) = w10 at *
          by_cases h4 : p1 + 1 + 32 + 32 + 4 ≤ n
          · refine (number_ok HE10.out.rd HB.out (size := 4) (by decide) (by decide) h4).mono ?_
            rintro e w11 ⟨rfl, hr11, hg11⟩
            have HE11 := hide (HE10.out.call hg11 hr11)
            have HFE : Hid (leN ((xs.drop (p1 + 1 + 32 + 32)).take 4) = leN (((xs.drop p1).drop 65).take 4)) := by show _ = _; rw [List.drop_drop]
            generalize leN ((xs.drop (p1 + 1 + 32 + 32)).take 4) = fi at *
            have ok5 : EntOk { ({ e3 with hash := hy } : Ent) with fi := fi } := ⟨ok4.nm, ok4.key, ok4.hash⟩
            have HE12 := hide (HE11.out.set 66 _ (enV_setFi ok4.key.1 ok4.hash.1 fi))
            obtain ⟨u2, hu2⟩ := HE11.out.cellS ok4 (j := 66) (by decide)
            have hf2 := HE11.out.en.frozen 66
            clear hr11 hg11 HE10
            go_wp2_with fail
            clear hu2 hf2 HE11
            generalize w11.setCell ⟨g5, 66, none⟩ (.int .i64 fi) = w12 at *
            by_cases h5 : p1 + 1 + 32 + 32 + 4 + 4 ≤ n
            · refine (number_ok HE12.out.rd HB.out (size := 4) (by decide) (by decide) h5).mono ?_
              rintro e w13 ⟨rfl, hr13, hg13⟩
              have HE13 := hide (HE12.out.call hg13 hr13)
              have HLE : Hid (leN ((xs.drop (p1 + 1 + 32 + 32 + 4)).take 4) = leN (((xs.drop p1).drop 69).take 4)) := by show _ = _; rw [List.drop_drop]
              generalize leN ((xs.drop (p1 + 1 + 32 + 32 + 4)).take 4) = ln at *
              have HRE : Hid (({ ({ ({ e3 with hash := hy } : Ent) with fi := fi } : Ent) with ln := ln } : Ent) = restE nm (xs.drop p1)) := by
                show _ = _
                rw [← HE3'.out]
                unfold restE
                rw [← HM.out, ← HKE.out, ← HHE.out, ← HFE.out, ← HLE.out]
                rfl
              have HE14 := hide (HE13.out.set 67 _ (enV_setLn ok5.key.1 ok5.hash.1 ln))
              obtain ⟨u3, hu3⟩ := HE13.out.cellS ok5 (j := 67) (by decide)
              have hf3 := HE13.out.en.frozen 67
              have ok6 : EntOk { ({ ({ e3 with hash := hy } : Ent) with fi := fi } : Ent) with ln := ln } := ⟨ok5.nm, ok5.key, ok5.hash⟩
              rw [HRE.out] at HE14 ok6
              have hm1 : (w13.setCell ⟨g5, 67, none⟩ (.int .i64 ln)).cell? ⟨g5, 1, none⟩ = some (.bool (m == 1)) := by
                rw [HE14.out.en.cell 1, ← HRE.out, ← HE3'.out]
                rfl
              clear hr13 hg13 HE12
              have HD2 : Hid (1 < m → D = (.nul, [], 80)) := fun h => by rw [← HD.out, if_pos (Or.inr (by rw [← HM.out]; exact h))]
              have HD3 : Hid (¬ 1 < m → sndE (restE nm (xs.drop p1)) = false → D = (.nul, [], 80)) := fun h hs => by rw [← HD.out, if_neg (fun hx => hx.elim (fun hx => by omega) (fun hx => h (by rw [HM.out]; exact hx))), if_pos hs]
              have HD4 : Hid (¬ 1 < m → sndE (restE nm (xs.drop p1)) = true → D = (restE nm (xs.drop p1), (xs.drop p1).drop 73, 0)) := fun h hs => by rw [← HD.out, if_neg (fun hx => hx.elim (fun hx => by omega) (fun hx => h (by rw [HM.out]; exact hx))), if_neg (by rw [hs]; decide)]
              have HM0 : Hid (0 ≤ m) := by
                show _ ≤ _
                rw [HM.out]
                cases hx : xs.drop p1 with
                | nil => decide
                | cons c t => exact (HBX.out c (by rw [hx]; simp)).1
              generalize restE nm (xs.drop p1) = x at *
              have HSD := hide (sound_calls ok6)
              by_cases hm : 1 < m
              · have b1 : (m == 1) = false := by simp; omega
                have b0 : (m == 0) = false := by simp; omega
                rw [b1] at hm1
                go_wp2_with fail
                refine (demand_no 80 _).mono ?_
                rintro e w15 ⟨rfl, hw15⟩
                obtain rfl := hw15.symm
                exact ⟨rfl, HE14.out.gr, fun h => absurd h (by rw [HD2.out hm]; decide), fun _ => by rw [HD2.out hm]; rfl⟩
              · have hpk : Hid (∀ w', w' = w13.setCell ⟨g5, 67, none⟩ (.int .i64 ln) → Calls Tryd.prog 57 #[.bool true, .int .i64 80] w' fun e w'' => e = .returned (.tuple #[]) ∧ w'' = w') := fun w' _ => demand_ok 80 w'
                have hmm : (m == 1) = true ∨ ((m == 1) = false ∧ (m == 0) = true) := by
                  have := HM0.out
                  by_cases h : m = 1
                  · exact Or.inl (by rw [h]; rfl)
                  · exact Or.inr ⟨by simpa using h, by simp; omega⟩
                rcases hmm with b1 | ⟨b1, b0⟩
                · rw [b1] at hm1
                  go_wp2_with fail
                  refine (demand_ok 80 _).mono ?_
                  rintro e w15 ⟨rfl, hw15⟩
                  obtain rfl := hw15.symm
                  clear hw15 hu3 hf3 hm1 HE13
                  generalize w13.setCell ⟨g5, 67, none⟩ (.int .i64 ln) = w14 at *
                  go_wp2_with (first
                    | (refine wpList_load_mid rfl 38 (.tmp 5) rfl g5 0 rfl (enV x) _ HE14.out.en.range Tryd.underlying38 rfl (infoEof ok6) ?_)
                    | (go_at_call 35; refine (unhide HSD _).mono ?_; rintro e w16 ⟨rfl, hb16⟩))
                  have HE16 := hide (HE14.out.call (grown_belowS g hb16) (HE14.out.rd.below hb16))
                  clear hb16
                  cases hs : sndE x with
                  | false =>
                    refine (demand_no 80 _).mono ?_
                    rintro e w17 ⟨rfl, hw17⟩
                    obtain rfl := hw17.symm
                    exact ⟨rfl, HE16.out.gr, fun h => absurd h (by rw [HD3.out hm hs]; decide), fun _ => by rw [HD3.out hm hs]; rfl⟩
                  | true =>
                    have HDF := hide (HD4.out hm hs)
                    clear hs hm b1
                    refine (demand_ok 80 _).mono ?_
                    rintro e w17 ⟨rfl, hw17⟩
                    obtain rfl := hw17.symm
                    clear hw17
                    go_wp2_with (first
                      | (refine wpList_load_mid rfl 38 (.tmp 5) rfl g5 0 rfl (enV x) _ HE16.out.en.range Tryd.underlying38 rfl (infoEof ok6) ?_)
                      | (refine wpList_storeAll rfl (.tmp 4) (.tmp 41) 38 rfl rfl rfl HE16.out.re (infoEof ok6) (by rw [z68_len, enV_len ok6]) (enV_one x) ?_; intro w18 hA18 hw18))
                    have hz := hw18.below 0 _ (Below.refl 0 _) (Nat.zero_le _)
                    have hg18 : W.grownBy w18 (some g) := ⟨hz.os.trans HE16.out.gr.os, hz.tape.trans HE16.out.gr.tape, hz.output.trans HE16.out.gr.output, Nat.le_trans HE16.out.gr.size hz.size, fun k hk hne => (hw18.other k (by have := HE16.out.h4; omega)).trans (HE16.out.gr.block k hk hne)⟩
                    have hr18 : Rdr w w18 g (.slice a n c) (p1 + 1 + 32 + 32 + 4 + 4) := ⟨HE16.out.rd.blk.wrote hw18 HE16.out.n4, hw18.below _ _ HE16.out.rd.old (Nat.le_trans HE16.out.hw HE16.out.h4), HE16.out.rd.new⟩
                    refine bodyPost_ret (v := .agg (enV x).toArray) (results_row rfl rfl hA18 Tryd.underlying38 rfl (infoEof ok6)) rfl ⟨hg18, fun _ => ⟨by rw [HDF.out], _, h5, by rw [HDF.out]; simp only; rw [List.drop_drop], hr18⟩, fun h => absurd (by rw [HDF.out]) h⟩
                · rw [b1] at hm1
                  go_wp2_with fail
                  refine (demand_ok 80 _).mono ?_
                  rintro e w15 ⟨rfl, hw15⟩
                  obtain rfl := hw15.symm
                  clear hw15 hu3 hf3 hm1 HE13
                  generalize w13.setCell ⟨g5, 67, none⟩ (.int .i64 ln) = w14 at *
                  go_wp2_with (first
                    | (refine wpList_load_mid rfl 38 (.tmp 5) rfl g5 0 rfl (enV x) _ HE14.out.en.range Tryd.underlying38 rfl (infoEof ok6) ?_)
                    | (go_at_call 35; refine (unhide HSD _).mono ?_; rintro e w16 ⟨rfl, hb16⟩))
                  have HE16 := hide (HE14.out.call (grown_belowS g hb16) (HE14.out.rd.below hb16))
                  clear hb16
                  cases hs : sndE x with
                  | false =>
                    refine (demand_no 80 _).mono ?_
                    rintro e w17 ⟨rfl, hw17⟩
                    obtain rfl := hw17.symm
                    exact ⟨rfl, HE16.out.gr, fun h => absurd h (by rw [HD3.out hm hs]; decide), fun _ => by rw [HD3.out hm hs]; rfl⟩
                  | true =>
                    have HDF := hide (HD4.out hm hs)
                    clear hs hm b1
                    refine (demand_ok 80 _).mono ?_
                    rintro e w17 ⟨rfl, hw17⟩
                    obtain rfl := hw17.symm
                    clear hw17
                    go_wp2_with (first
                      | (refine wpList_load_mid rfl 38 (.tmp 5) rfl g5 0 rfl (enV x) _ HE16.out.en.range Tryd.underlying38 rfl (infoEof ok6) ?_)
                      | (refine wpList_storeAll rfl (.tmp 4) (.tmp 41) 38 rfl rfl rfl HE16.out.re (infoEof ok6) (by rw [z68_len, enV_len ok6]) (enV_one x) ?_; intro w18 hA18 hw18))
                    have hz := hw18.below 0 _ (Below.refl 0 _) (Nat.zero_le _)
                    have hg18 : W.grownBy w18 (some g) := ⟨hz.os.trans HE16.out.gr.os, hz.tape.trans HE16.out.gr.tape, hz.output.trans HE16.out.gr.output, Nat.le_trans HE16.out.gr.size hz.size, fun k hk hne => (hw18.other k (by have := HE16.out.h4; omega)).trans (HE16.out.gr.block k hk hne)⟩
                    have hr18 : Rdr w w18 g (.slice a n c) (p1 + 1 + 32 + 32 + 4 + 4) := ⟨HE16.out.rd.blk.wrote hw18 HE16.out.n4, hw18.below _ _ HE16.out.rd.old (Nat.le_trans HE16.out.hw HE16.out.h4), HE16.out.rd.new⟩
                    refine bodyPost_ret (v := .agg (enV x).toArray) (results_row rfl rfl hA18 Tryd.underlying38 rfl (infoEof ok6)) rfl ⟨hg18, fun _ => ⟨by rw [HDF.out], _, h5, by rw [HDF.out]; simp only; rw [List.drop_drop], hr18⟩, fun h => absurd (by rw [HDF.out]) h⟩
            · refine (number_no HE12.out.rd HB.out (size := 4) (by decide) (by decide) h4 (by omega)).mono ?_
              rintro e wf ⟨rfl, hgf⟩
              exact ⟨rfl, grown_then HE12.out.gr hgf, fun h => absurd h (by rw [HF80.out (by omega)]; decide), fun _ => by rw [HF80.out (by omega)]; rfl⟩
          · refine (number_no HE10.out.rd HB.out (size := 4) (by decide) (by decide) h3 (by omega)).mono ?_
            rintro e wf ⟨rfl, hgf⟩
            exact ⟨rfl, grown_then HE10.out.gr hgf, fun h => absurd h (by rw [HF80.out (by omega)]; decide), fun _ => by rw [HF80.out (by omega)]; rfl⟩
        · obtain rfl := hno9 (by rw [List.length_map, List.length_take, List.length_drop]; omega)
          exact ⟨rfl, grown_then HE8.out.gr hg9, fun h => absurd h (by rw [HF80.out (by omega)]; decide), fun _ => by rw [HF80.out (by omega)]; rfl⟩
      · obtain rfl := hno7 (by rw [List.length_map, List.length_take, List.length_drop]; omega)
        exact ⟨rfl, grown_then HE6.out.gr hg7, fun h => absurd h (by rw [HF80.out (by omega)]; decide), fun _ => by rw [HF80.out (by omega)]; rfl⟩
    · refine (number_no HE4.out.rd HB.out (size := 1) (by decide) (by decide) hp1 (by omega)).mono ?_
      rintro e wf ⟨rfl, hgf⟩
      exact ⟨rfl, grown_then HE4.out.gr hgf, fun h => absurd h (by rw [HF80.out (by omega)]; decide), fun _ => by rw [HF80.out (by omega)]; rfl⟩
  · have he := hno3 hq
    rw [if_pos (by simpa using hq)] at HD
    subst he
    refine ⟨rfl, grown_then HE2.out.gr hg3, fun h => absurd (by rw [← HD.out] at h; exact h) hq, fun _ => by rw [← HD.out]; rfl⟩
end Go.Proofs.YtpklbchbldipnabDoor

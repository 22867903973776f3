/- From a walk to a row, for package print: what the row's list gives, and what the row asks of memory behind the call. -/
import Derived.Test.YtfhfobikbfbajaaGreatDoorCards
import Derived.Test.YtfhfobikbfbajaaGreatDoorTie
import Derived.Test.YtfhfobikbfbajaaGreatDoorTBW
import Derived.Shelf.Vars
import Derived.Stop.LaidErr
namespace Go.Proofs.YtfhfobikbfbajaaGreatDoor
open Go.ChangeShapes Go.WideShapes Go.ChangeAt Go.RowKit Go.Deep

theorem own : ownKnob Tryz.prog.godebug = none := by kernel_rfl
theorem laidOut : laidOutB Tryz.prog = true := by kernel_rfl
/-- The library's variable holds a number, whatever it is. -/
theorem mx_of {W : World} (h : W.ShapedOpen Tryz.prog) : Mx W :=
  cell_of_shapedOpen_int (g := 3) (t := 3) (zero := #[.int .i64 0]) h (of_decide_eq_true (by kernel_rfl)) (by kernel_rfl) rfl (by kernel_rfl) (by kernel_rfl) Tryz.underlying3
theorem pcells32 : Tryz.prog.cellsOf 97 = 1 := by kernel_rfl
theorem pcells64 : Tryz.prog.cellsOf 129 = 1 := by kernel_rfl
theorem pcellsW : Tryz.prog.cellsOf 122 = 8 := by kernel_rfl
theorem pcellsR : Tryz.prog.cellsOf 99 = 64 := by kernel_rfl
theorem pcellsP : Tryz.prog.cellsOf 202 = 20 := by kernel_rfl
theorem pcellsSh : Tryz.prog.cellsOf 153 = 5 := by kernel_rfl
theorem pgS : Tryz.prog.globalNamed "kiln/sha.startWords" = some 0 := by kernel_rfl
theorem pgK : Tryz.prog.globalNamed "kiln/sha.roundWords" = some 2 := by kernel_rfl
theorem pgP : Tryz.prog.globalNamed "internal/strconv.uint64pow10" = some 4 := by kernel_rfl
theorem pgH : Tryz.prog.globalNamed "kiln/parse.shapes" = some 1 := by kernel_rfl
theorem pgSt : (Tryz.prog.globals[0]?).map (·.type) = some 122 := by kernel_rfl
theorem pgKt : (Tryz.prog.globals[2]?).map (·.type) = some 99 := by kernel_rfl
theorem pgPt : (Tryz.prog.globals[4]?).map (·.type) = some 202 := by kernel_rfl
theorem pgHt : (Tryz.prog.globals[1]?).map (·.type) = some 154 := by kernel_rfl
def psTab : List Int := [1779033703, 3144134277, 1013904242, 2773480762, 1359893119, 2600822924, 528734635, 1541459225]
def pLaid : List (String × DataW Unit) := [("math/bits.deBruijn32tab", Rows.laid_math_bits_deBruijn32tab), ("math/bits.deBruijn64tab", Rows.laid_math_bits_deBruijn64tab), ("internal/strconv.uint64pow10", Rows.laid_internal_strconv_uint64pow10), ("unicode/utf8.acceptRanges", Rows.laid_unicode_utf8_acceptRanges), ("kiln/sha.startWords", Rows.laid_kiln_sha_startWords), ("kiln/sha.roundWords", Rows.laid_kiln_sha_roundWords), ("kiln/parse.shapes", Rows.laid_kiln_parse_shapes), ("unicode/utf8.first", Rows.laid_unicode_utf8_first)]
theorem ptabS {W : World} (h : laidMet Tryz.prog pLaid W) : TabS W := by
  have h5 := laidMet.tail (laidMet.tail (laidMet.tail (laidMet.tail h)))
  have ht : Lib.TabIs Tryz.prog W "kiln/sha.startWords" .u32 psTab := Lib.tabIs_of_head pgS pgSt Tryz.underlying122 Tryz.underlying97 pcells32 pcellsW h5
  intro i hi
  have h1 := ht.cell pgS i hi
  rw [h1]
  rcases (show i = 0 ∨ i = 1 ∨ i = 2 ∨ i = 3 ∨ i = 4 ∨ i = 5 ∨ i = 6 ∨ i = 7 by omega) with rfl | rfl | rfl | rfl | rfl | rfl | rfl | rfl <;> rfl
theorem ptabK {W : World} (h : laidMet Tryz.prog pLaid W) : TabK W := by
  have h6 := laidMet.tail (laidMet.tail (laidMet.tail (laidMet.tail (laidMet.tail h))))
  have ht : Lib.TabIs Tryz.prog W "kiln/sha.roundWords" .u32 kTab := Lib.tabIs_of_head pgK pgKt Tryz.underlying99 Tryz.underlying97 pcells32 pcellsR h6
  intro i hi
  exact ht.cell pgK i hi
theorem ptabP {W : World} (h : laidMet Tryz.prog pLaid W) : Ny W := by
  have h3 := laidMet.tail (laidMet.tail h)
  have ht : Lib.TabIs Tryz.prog W "internal/strconv.uint64pow10" .u64 Lib.pow10Tab := Lib.tabIs_of_head pgP pgPt Tryz.underlying202 Tryz.underlying129 pcells64 pcellsP h3
  exact ⟨ht, World.block_lt_of_cell? W _ (ht.cell pgP 0 (by decide))⟩
def shD {H : Type} (s : ByteArray) (m a : Int) (b c : Bool) : DataW H := .agg [.lit (.string s.data.toList), .lit (.int .i64 m), .lit (.int .i64 a), .lit (.bool b), .lit (.bool c)]
set_option maxRecDepth 100000 in
theorem open_sh {H : Type} {enc : TypeId × Value → H} {W : World} {hd : Bool} {fuel : Nat} {cs : List Value} {x : DataW H × List MemPlace} (hf : DataW.trod enc Tryz.prog W 0 (fun _ => true) hd fuel 153 cs = some x) :
    ∃ s m a b c, cs = [.string s, .int .i64 m, .int .i64 a, .bool b, .bool c] ∧ x.1 = shD s m a b c := by
  obtain ⟨xs, n, rfl, rfl, hl, hxl, hfs⟩ := DataW.trod_struct Tryz.underlying153 hf
  rw [pcellsSh] at hl
  match cs, hl with
  | [c0, c1, c2, c3, c4], _ =>
  match xs, hxl with
  | [x0, x1, x2, x3, x4], _ =>
    have g0 : DataW.trod enc Tryz.prog W 0 (fun _ => true) hd n 9 (([c0, c1, c2, c3, c4].drop 0).take (Tryz.prog.cellsOf 9)) = some x0 := hfs 0 _ rfl
    have g1 : DataW.trod enc Tryz.prog W 0 (fun _ => true) hd n 3 (([c0, c1, c2, c3, c4].drop 1).take (Tryz.prog.cellsOf 3)) = some x1 := hfs 1 _ rfl
    have g2 : DataW.trod enc Tryz.prog W 0 (fun _ => true) hd n 3 (([c0, c1, c2, c3, c4].drop 2).take (Tryz.prog.cellsOf 3)) = some x2 := hfs 2 _ rfl
    have g3 : DataW.trod enc Tryz.prog W 0 (fun _ => true) hd n 4 (([c0, c1, c2, c3, c4].drop 3).take (Tryz.prog.cellsOf 4)) = some x3 := hfs 3 _ rfl
    have g4 : DataW.trod enc Tryz.prog W 0 (fun _ => true) hd n 4 (([c0, c1, c2, c3, c4].drop 4).take (Tryz.prog.cellsOf 4)) = some x4 := hfs 4 _ rfl
    rw [pcellsS] at g0
    rw [pcellsI] at g1 g2
    rw [show Tryz.prog.cellsOf 4 = 1 by kernel_rfl] at g3 g4
    obtain ⟨Tx, e0, f0, _⟩ := DataW.trod_string Tryz.underlying9 g0
    obtain ⟨m, e1, f1, _⟩ := DataW.trod_int Tryz.underlying3 g1
    obtain ⟨a, e2, f2, _⟩ := DataW.trod_int Tryz.underlying3 g2
    obtain ⟨b, e3, f3⟩ := DataW.trod_bool Tryz.underlying4 g3
    obtain ⟨c, e4, f4⟩ := DataW.trod_bool Tryz.underlying4 g4
    simp only [List.drop_zero, List.drop_succ_cons, List.take_succ_cons, List.take_zero, List.cons.injEq, and_true] at e0 e1 e2 e3 e4
    subst e0 e1 e2 e3 e4 f0 f1 f2 f3 f4
    exact ⟨Tx, m, a, b, c, rfl, rfl⟩
theorem laid_sh : ∀ k : Nat, k ≤ 15 → ∃ L : List (DataW Unit), (Rows.laid_kiln_parse_shapes : DataW Unit) = .agg L ∧ (1 ≤ k → L[k]? = some (shD (wds.getD k noText) (txM k) (agM k : Int) (decide ((k : Int) = 4)) (decide ((k : Int) = 7)))) := by
  intro k hk
  refine ⟨_, rfl, fun h1 => ?_⟩
  rcases (show k = 1 ∨ k = 2 ∨ k = 3 ∨ k = 4 ∨ k = 5 ∨ k = 6 ∨ k = 7 ∨ k = 8 ∨ k = 9 ∨ k = 10 ∨ k = 11 ∨ k = 12 ∨ k = 13 ∨ k = 14 ∨ k = 15 by omega) with rfl | rfl | rfl | rfl | rfl | rfl | rfl | rfl | rfl | rfl | rfl | rfl | rfl | rfl | rfl <;> rfl
theorem ptabH {W : World} (h : laidMet Tryz.prog pLaid W) : ShT W := by
  have h7 := laidMet.tail (laidMet.tail (laidMet.tail (laidMet.tail (laidMet.tail (laidMet.tail h)))))
  obtain ⟨ps, ⟨g', t', cs, fuel, p, q, hg', ht', hvar, hd, _, _⟩, _⟩ := h7
  obtain rfl := Option.some.inj (pgH.symm.trans hg')
  obtain rfl := Option.some.inj (pgHt.symm.trans ht')
  obtain ⟨xs, m, rfl, hx, hl, hxl, hxs⟩ := DataW.trod_array Tryz.underlying154 hd
  intro k h1 h2
  obtain ⟨L, hL, hLk⟩ := laid_sh k h2
  rw [pcellsSh] at hxs
  have hk := hxs k (by omega)
  rw [List.getElem?_eq_getElem (by omega)] at hk
  obtain ⟨s, m1, a, b, c, hcs, hx1⟩ := open_sh hk
  have e1 : (Rows.laid_kiln_parse_shapes : DataW Unit) = .agg (xs.map (·.1)) := congrArg Prod.fst hx
  rw [hL] at e1
  injection e1 with e1
  have e2 := hLk h1
  rw [e1, List.getElem?_map, List.getElem?_eq_getElem (by omega), Option.map_some, hx1] at e2
  injection e2 with e2
  unfold shD at e2
  injection e2 with e2
  simp only [List.cons.injEq, DataW.lit.injEq, Lit.string.injEq, Lit.int.injEq, Lit.bool.injEq, and_true, true_and] at e2
  obtain ⟨q1, q2, q3, q4, q5⟩ := e2
  have q1 : s = wds.getD k noText := by
    have := congrArg List.toArray q1
    simp only [Array.toArray_toList] at this
    cases s
    cases hw : wds.getD k noText
    rw [hw] at this
    congr 1
  intro i u hu
  have hi : i < 5 := (List.getElem?_eq_some_iff.1 hu).1
  rw [World.var?_cell pgH hvar, ← Array.getElem?_toList]
  have e5 : ((cs.toList.drop (k * 5)).take 5)[i]? = cs.toList[k * 5 + i]? := by rw [List.getElem?_take_of_lt hi, List.getElem?_drop]
  rw [← e5, hcs, q1, q2, q3, q4, q5, ← hu]
  rfl
theorem pg_of {W : World} (h : laidMet Tryz.prog pLaid W) (hsh : W.ShapedOpen Tryz.prog) : Pg W := ⟨ptabH h, mx_of hsh, ptabP h⟩
section
variable {H : Type} {enc : TypeId × Value → H}
theorem upto_le {L : List (DataW H)} (h : Rows.uptoSmall H L = true) : Rows.uptoBulkAll L ≤ 1048576 := of_decide_eq_true h
/-- All arguments read behind the call as they read before it. -/
theorem trodAll_below {P : Program} (hl : laidOutB P = true) {W W' : World} (hb : Below W.heap.size W W') : ∀ (ts : List TypeId) (vs : List Value) (ds : List (DataW H)) (ps : List MemPlace),
    (∀ t ∈ ts, P.readableRec t = true ∧ t < P.types.size) → DataW.TrodAll enc P W 0 (fun _ => true) true ts vs ds ps → (∀ x ∈ ps, x.block < W.heap.size) →
    DataW.TrodAll enc P W' 0 (fun b => decide (b < W.heap.size)) true ts vs ds ps
  | [], [], [], _, _, h, _ => h
  | t :: ts, v :: vs, d :: ds, _, hr, ⟨p, q, h1, h2, e⟩, hlt =>
    ⟨p, q, Below.trod hl (hr t (by simp)).1 (hr t (by simp)).2 h1 hb (fun x hx => hlt x (by rw [e]; exact List.mem_append_left _ hx)),
      trodAll_below hl hb ts vs ds q (fun t ht => hr t (by simp [ht])) h2 (fun x hx => hlt x (by rw [e]; exact List.mem_append_right _ hx)), e⟩
  | [], _ :: _, _, _, _, h, _ => h.elim
  | [], [], _ :: _, _, _, h, _ => h.elim
  | _ :: _, [], _, _, _, h, _ => h.elim
  | _ :: _, _ :: _, [], _, _, h, _ => h.elim
/-- What a law's row asks behind the call: it returned true, and below the new blocks nothing has turned. -/
theorem law_post {fn : Func} {s : ChangeSpec} {W W' : World} {args : Array Value} {ds gs : List (DataW H)} {before : List MemPlace}
    (hW : DataW.Whole enc Tryz.prog fn.params.toList s.vars false W args.toList ds gs before) (hv : s.vars = []) (hs : s.fn H (ds ++ gs) = { results := [.lit (.bool true)], args := ds }) (hrt : fn.resultTypes = #[4])
    (hr : ∀ t ∈ fn.params.toList, Tryz.prog.readableRec t = true ∧ t < Tryz.prog.types.size) (hb : Below W.heap.size W W') : s.post enc Tryz.prog fn false true false false W args (.bool true) W' := by
  have hW' := hW
  obtain ⟨p, q, hA, hV, rfl, _, _⟩ := hW
  rw [hv] at hV
  have hlt := hW'.lt
  refine ⟨ds, gs, p ++ q, [], p, [], hW', ?_, ?_, ?_, hb.frame _, fun h => by cases h⟩
  · rw [hs, hrt]
    exact trodAll_cons_mk (shut_bool Tryz.underlying4 _) trodAll_mk0
  · rw [hs]
    exact trodAll_below laidOut hb _ _ _ _ hr hA (fun x hx => hlt x (List.mem_append_left _ hx))
  · rw [hs, hv]
    rfl
end
end Go.Proofs.YtfhfobikbfbajaaGreatDoor

/- From a walk to a row, for package token: tokens opened, and what the row asks of memory behind the call, out of what the walk leaves. -/
import Derived.Test.YtcdilcjgmcamcabRows
import Derived.Test.YtcdilcjgmcamcabTkHb
import Derived.Deep.Strs
import Derived.Deep.Slices
import Derived.ChangeMaps5
import Derived.ProofKit
import Derived.OpenShut
import Derived.Deep.DeepHandedRow
import Derived.SizedLaws
namespace Go.Proofs.Ytcdilcjgmcamcab
open Go.ChangeShapes Go.WideShapes Go.ChangeAt Go.RowKit Go.Deep

theorem own : ownKnob Try.prog.godebug = none := by kernel_rfl
theorem laidOut : laidOutB Try.prog = true := by kernel_rfl
theorem cellsI : Try.prog.cellsOf 3 = 1 := by kernel_rfl
theorem cellsS : Try.prog.cellsOf 9 = 1 := by kernel_rfl
theorem cellsTk : Try.prog.cellsOf 26 = 4 := by kernel_rfl
section
variable {H : Type} {enc : TypeId × Value → H}
theorem open_tok {W : World} {fuel : Nat} {cs : List Value} {x : DataW H × List MemPlace} (hf : DataW.trod enc Try.prog W 0 (fun _ => true) true fuel 26 cs = some x) :
    ∃ s : Tok, cs = tkC s ∧ x.1 = .agg [.lit (.int .i64 s.kind), .lit (.string s.text.data.toList), .lit (.int .i64 s.line), .lit (.int .i64 s.place)] := by
  obtain ⟨xs, n, rfl, rfl, hl, hxl, hfs⟩ := DataW.trod_struct Try.underlying26 hf
  rw [cellsTk] at hl
  match cs, hl with
  | [c0, c1, c2, c3], _ =>
    match xs, hxl with
    | [x0, x1, x2, x3], _ =>
      have g0 : DataW.trod enc Try.prog W 0 (fun _ => true) true n 3 (List.take (Try.prog.cellsOf 3) [c0, c1, c2, c3]) = some x0 := hfs 0 _ rfl
      rw [cellsI] at g0
      have h0 : DataW.trod enc Try.prog W 0 (fun _ => true) true n 3 [c0] = some x0 := g0
      have g1 : DataW.trod enc Try.prog W 0 (fun _ => true) true n 9 (List.take (Try.prog.cellsOf 9) [c1, c2, c3]) = some x1 := hfs 1 _ rfl
      rw [cellsS] at g1
      have h1 : DataW.trod enc Try.prog W 0 (fun _ => true) true n 9 [c1] = some x1 := g1
      have g2 : DataW.trod enc Try.prog W 0 (fun _ => true) true n 3 (List.take (Try.prog.cellsOf 3) [c2, c3]) = some x2 := hfs 2 _ rfl
      rw [cellsI] at g2
      have h2 : DataW.trod enc Try.prog W 0 (fun _ => true) true n 3 [c2] = some x2 := g2
      have g3 : DataW.trod enc Try.prog W 0 (fun _ => true) true n 3 (List.take (Try.prog.cellsOf 3) [c3]) = some x3 := hfs 3 _ rfl
      rw [cellsI] at g3
      have h3 : DataW.trod enc Try.prog W 0 (fun _ => true) true n 3 [c3] = some x3 := g3
      obtain ⟨K, e0, f0, _⟩ := DataW.trod_int Try.underlying3 h0
      obtain ⟨Tx, e1, f1, _⟩ := DataW.trod_string Try.underlying9 h1
      obtain ⟨L, e2, f2, _⟩ := DataW.trod_int Try.underlying3 h2
      obtain ⟨Pl, e3, f3, _⟩ := DataW.trod_int Try.underlying3 h3
      simp only [List.cons.injEq, and_true] at e0 e1 e2 e3
      subst e0 e1 e2 e3 f0 f1 f2 f3
      exact ⟨⟨K, Tx, L, Pl⟩, rfl, rfl⟩
def tokD (s : Tok) : DataW H := .agg [.lit (.int .i64 s.kind), .lit (.string s.text.data.toList), .lit (.int .i64 s.line), .lit (.int .i64 s.place)]
/-- An argument that is a slice of tokens. -/
theorem open_isTk {W : World} {base : Nat} {v : Value} {d : DataW H} {p : List MemPlace} (hv : Value.okWide Try.prog W .any base 22 v) (h : DataW.Trod enc Try.prog W 0 (fun _ => true) true 22 v d p) :
    ∃ ss, IsTk W v ss ∧ (ss = [] ∨ ∃ spare, d = .slice (ss.map tokD) spare) := by
  obtain ⟨a, len, cap, rfl⟩ := okWide_slice Try.underlying22 hv
  obtain ⟨fuel, hf⟩ := h
  rcases open_slice Try.underlying22 hf with ⟨hcs, hx⟩ | ⟨ad, len', cap', m, n, D, Pl, hcs, _, hl, hm, hmm, hx, hcell⟩
  · simp [Value.cells] at hcs
    obtain ⟨rfl, rfl, rfl⟩ := hcs
    exact ⟨[], IsTk.nil W, Or.inl rfl⟩
  · simp [Value.cells] at hcs
    obtain ⟨rfl, rfl, rfl⟩ := hcs
    simp only [if_true] at hmm
    obtain rfl := hmm.symm
    rw [cellsTk] at hcell
    haveI : Inhabited Tok := ⟨Tok.nul⟩
    obtain ⟨O, hO⟩ := choose_lt (α := Tok) (n := len) (p := fun i s => W.cell? ((ad.add (i * 4)).add 0) = some (.int .i64 s.kind) ∧ W.cell? ((ad.add (i * 4)).add 1) = some (.string s.text) ∧ W.cell? ((ad.add (i * 4)).add 2) = some (.int .i64 s.line) ∧ W.cell? ((ad.add (i * 4)).add 3) = some (.int .i64 s.place) ∧ D i = tokD s) (fun i hi => by
      obtain ⟨cs', h1, h2⟩ := hcell i (by omega)
      obtain ⟨s, rfl, hd⟩ := open_tok h2
      obtain ⟨_, _, hc⟩ := World.cells?_some h1
      exact ⟨s, hc 0 (by show 0 < 4; omega), hc 1 (by show 1 < 4; omega), hc 2 (by show 2 < 4; omega), hc 3 (by show 3 < 4; omega), hd⟩)
    have hlen : ((List.range len).map O).length = len := by simp
    have hget : ∀ j, j < len → ((List.range len).map O).getD j .nul = O j := fun j hj => by simp [List.getD_eq_getElem?_getD, hj]
    refine ⟨(List.range len).map O, ⟨some ad, cap, by rw [hlen], by omega, by simpa [maxLen] using hm, fun h => (by cases h), fun hp => ?_⟩, Or.inr ?_⟩
    · rw [hlen] at hp ⊢
      obtain ⟨b, off, spot⟩ := ad
      have h00 := (hO 0 hp).1
      have hspot : spot = none := by simpa [Addr.add] using World.cell?_spot h00
      subst hspot
      refine ⟨b, off, rfl, fun j k hj hk => ?_⟩
      rw [hget j hj]
      obtain ⟨h0, h1, h2, h3, _⟩ := hO j hj
      rw [Go.WideShapes.add_plain, Go.WideShapes.add_plain] at h0 h1 h2 h3
      rw [show off + (4 * j + k) = off + j * 4 + k by omega]
      match k, hk with
      | 0, _ => exact h0
      | 1, _ => exact h1
      | 2, _ => exact h2
      | 3, _ => exact h3
    · injection hx with hx1 hx2
      have e : (List.range len).map D = ((List.range len).map O).map tokD := by
        rw [List.map_map]
        exact List.map_congr_left fun i hi => (hO i (by simpa using hi)).2.2.2.2
      rw [hx1, e]
      exact ⟨_, rfl⟩
/-- All arguments read behind the call as they read before it. -/
theorem trodAll_below {P : Program} (hl : laidOutB P = true) {W W' : World} (hb : Below W.heap.size W W') : ∀ (ts : List TypeId) (vs : List Value) (ds : List (DataW H)) (ps : List MemPlace),
    (∀ t ∈ ts, P.readableRec t = true ∧ t < P.types.size) → DataW.TrodAll enc P W 0 (fun _ => true) true ts vs ds ps → (∀ x ∈ ps, x.block < W.heap.size) →
    DataW.TrodAll enc P W' 0 (fun b => decide (b < W.heap.size)) true ts vs ds ps
  | [], [], [], _, _, h, _ => h
  | t :: ts, v :: vs, d :: ds, _, hr, ⟨p, q, h1, h2, e⟩, hlt =>
    ⟨p, q, Below.trod hl (hr t (by simp)).1 (hr t (by simp)).2 h1 hb (fun x hx => hlt x (by rw [e]; exact List.mem_append_left _ hx)),
      trodAll_below hl hb ts vs ds q (fun t ht => hr t (by simp [ht])) h2 (fun x hx => hlt x (by rw [e]; exact List.mem_append_right _ hx)), e⟩
  | [], _ :: _, _, _, _, h, _ => h.elim
  | [], [], _ :: _, _, _, h, _ => h.elim
  | _ :: _, [], _, _, _, h, _ => h.elim
  | _ :: _, _ :: _, [], _, _, h, _ => h.elim
/-- What a law's row asks behind the call: it returned true, and below the new blocks nothing has turned. -/
theorem law_post {fn : Func} {s : ChangeSpec} {W W' : World} {args : Array Value} {ds gs : List (DataW H)} {before : List MemPlace}
    (hW : DataW.Whole enc Try.prog fn.params.toList s.vars false W args.toList ds gs before) (hv : s.vars = []) (hs : s.fn H (ds ++ gs) = { results := [.lit (.bool true)], args := ds }) (hrt : fn.resultTypes = #[4])
    (hr : ∀ t ∈ fn.params.toList, Try.prog.readableRec t = true ∧ t < Try.prog.types.size) (hb : Below W.heap.size W W') : s.post enc Try.prog fn false true false false W args (.bool true) W' := by
  have hW' := hW
  obtain ⟨p, q, hA, hV, rfl, _, _⟩ := hW
  rw [hv] at hV
  have hlt := hW'.lt
  refine ⟨ds, gs, p ++ q, [], p, [], hW', ?_, ?_, ?_, hb.frame _, fun h => by cases h⟩
  · rw [hs, hrt]
    exact trodAll_cons_mk (shut_bool Try.underlying4 _) trodAll_mk0
  · rw [hs]
    exact trodAll_below laidOut hb _ _ _ _ hr hA (fun x hx => hlt x (List.mem_append_left _ hx))
  · rw [hs, hv]
    rfl
end
end Go.Proofs.Ytcdilcjgmcamcab

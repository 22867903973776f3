/- The document's Tokens. -/
import Derived.Test.YtcdilcjgmcamcaaTkRf
namespace Go.Proofs.Ytcdilcjgmcamcaa
open Go.RowKit Go.Maps

theorem lk_bs (l : List UInt8) (i : Nat) (hi : i < l.length) : lk (bs l) i = l[i] := by
  unfold lk bs
  rw [List.getD_eq_getElem?_getD]
  simp [List.getElem?_eq_getElem hi]
theorem bs_size (l : List UInt8) : (bs l).size = l.length := by unfold bs; simp [ByteArray.size]
theorem bs_L (l : List UInt8) : (bs l).data.toList = l := by unfold bs; simp
theorem noEnd_bs {l : List UInt8} (h : ∀ c ∈ l, c.toNat ≠ 10) : NoEnd (bs l) := by
  intro i hi
  rw [bs_size] at hi
  rw [lk_bs l i hi]
  exact h _ (List.getElem_mem hi)
theorem pre_nil (s : St) : pre [] s = s := by unfold pre; rfl
theorem lineR_pre (out : List Tok) (n : Nat) (l : List UInt8) : stp (run ⟨out, n, 0, 0, .gap⟩ l) 10 = pre out (lineR l n) := by
  have e : (⟨out, n, 0, 0, .gap⟩ : St) = pre out ⟨[], n, 0, 0, .gap⟩ := by unfold pre; simp
  rw [e, pre_run, pre_stp]
  rfl
theorem lineR_good {l : List UInt8} {n : Nat} (h : ∀ c ∈ l, c.toNat ≠ 10) (hm : (lineR l n).md = .gap) : ∃ o, lineR l n = ⟨o, n + 1, 0, 0, .gap⟩ ∧ o ≠ [] := by
  have hn := n_run l ⟨[], n, 0, 0, .gap⟩ h
  unfold lineR at hm ⊢
  generalize run ⟨[], n, 0, 0, .gap⟩ l = s at *
  obtain ⟨out, n', p, b, md⟩ := s
  simp only at hn
  subst hn
  cases md using Md.split with
  | gap => exact ⟨_, rfl, by simp⟩
  | rem => exact ⟨_, rfl, by simp⟩
  | word fr acc => exact ⟨_, rfl, by simp [addS]⟩
  | lit fr acc => cases hm
  | esc fr acc => cases hm
  | hx fr acc => cases hm
  | hy fr acc h => cases hm
  | bad e => cases hm
theorem lineR_bad {l : List UInt8} {n : Nat} {er : Int} (h : ∀ c ∈ l, c.toNat ≠ 10) (hm : (lineR l n).md = .bad er) : (lineR l n).n = n := by
  have hn := n_run l ⟨[], n, 0, 0, .gap⟩ h
  rcases end10 (run ⟨[], n, 0, 0, .gap⟩ l) with ⟨e, _, h2⟩ | ⟨o, h2⟩
  · unfold lineR; rw [h2, hn]
  · unfold lineR at hm; rw [h2] at hm; cases hm
theorem linesR_go {ls : List (List UInt8)} {i : Nat} (hi : i < ls.length) (h : ∀ c ∈ ls.getD i [], c.toNat ≠ 10) (out : List Tok) (n : Nat) :
    ((lineR (ls.getD i []) n).md = .gap → ∃ o, (lineR (ls.getD i []) n).out = o ∧ o ≠ [] ∧ linesR (ls.drop i) ⟨out, n, 0, 0, .gap⟩ = linesR (ls.drop (i + 1)) ⟨out ++ o, n + 1, 0, 0, .gap⟩) ∧
    (∀ er, (lineR (ls.getD i []) n).md = .bad er → linesR (ls.drop i) ⟨out, n, 0, 0, .gap⟩ = pre out (lineR (ls.getD i []) n)) := by
  have hd : ls.drop i = ls.getD i [] :: ls.drop (i + 1) := by
    rw [List.drop_eq_getElem_cons hi, List.getD_eq_getElem?_getD, List.getElem?_eq_getElem hi]; rfl
  rw [hd]
  refine ⟨fun hm => ?_, fun er hm => ?_⟩
  · obtain ⟨o, h1, h2⟩ := lineR_good h hm
    refine ⟨o, by rw [h1], h2, ?_⟩
    have e := lineR_pre out n (ls.getD i [])
    rw [h1] at e
    exact linesR_good e rfl
  · have e := lineR_pre out n (ls.getD i [])
    rw [linesR_bad (e := er) (by rw [e]; exact hm), e]
theorem lines_total : ∀ t : List UInt8, ∀ l ∈ linesL t, l.length ≤ t.length
  | [], l, h => by simp [linesL] at h
  | d :: t, l, h => by
    have ih := lines_total t
    rw [linesL] at h
    split at h
    · rcases List.mem_cons.1 h with rfl | h
      · simp
      · have := ih l h; simp; omega
    · cases hl : linesL t with
      | nil => rw [hl] at h; simp only [List.mem_cons, List.not_mem_nil, or_false] at h; subst h; simp
      | cons x r =>
        rw [hl] at h ih
        rcases List.mem_cons.1 h with rfl | h
        · have := ih x (by simp); simp; omega
        · have := ih l (List.mem_cons_of_mem _ h); simp; omega
theorem OwnT.head {w : World} {B : Nat} {v : Value} {l : List Tok} (h : OwnT w B v l) (hp : l ≠ []) : ∃ g c, v = .slice (some ⟨g, 0, none⟩) l.length c ∧ ∀ j u, (tkV l)[j]? = some u → w.cell? ((⟨g, 0, none⟩ : Addr).add j) = some u := by
  rcases h.2 with ⟨rfl, h0⟩ | ⟨g, cap, cur, rfl, _⟩
  · exact absurd (List.length_eq_zero_iff.1 h0) hp
  · exact ⟨g, cap, rfl, World.ownsRow.cells (g := g) h rfl⟩
/-- How many tokens a line has. -/
theorem out_gap (s : St) (c : UInt8) : (gapS s c).out.length ≤ s.out.length + 1 := by
  unfold gapS endS addS
  repeat' split
  all_goals simp
theorem out_stp (s : St) (c : UInt8) : (stp s c).out.length ≤ s.out.length + 2 := by
  obtain ⟨o, n, p, b, md⟩ := s
  cases md using Md.split with
  | gap => have := out_gap ⟨o, n, p, b, .gap⟩ c; show (gapS _ c).out.length ≤ _; simp only at this ⊢; omega
  | rem => show (if c.toNat = 10 then _ else _ : St).out.length ≤ _; split <;> simp [endS]
  | word fr acc =>
    show (wordS _ fr acc c).out.length ≤ _
    unfold wordS
    repeat' split
    · simp
    · simp
    · have := out_gap (addS ⟨o, n, p, b, .word fr acc⟩ 1 acc fr p) c
      simp [addS] at this ⊢
      omega
  | lit fr acc =>
    show (litS _ fr acc c).out.length ≤ _
    unfold litS addS
    repeat' split
    all_goals simp
  | esc fr acc =>
    show (escS _ fr acc c).out.length ≤ _
    unfold escS
    repeat' split
    all_goals simp
  | hx fr acc => show (hxS _ fr acc c).out.length ≤ _; unfold hxS; split <;> simp
  | hy fr acc h => show (hyS _ fr acc h c).out.length ≤ _; unfold hyS; split <;> simp
  | bad e => simp [stp]
theorem out_run : ∀ (l : List UInt8) (s : St), (run s l).out.length ≤ s.out.length + 2 * l.length
  | [], s => by simp [run_nil]
  | c :: l, s => by
    have h1 := out_run l (stp s c)
    have h2 := out_stp s c
    rw [run_cons, List.length_cons]
    omega
theorem lineR_out (l : List UInt8) (n : Nat) : (lineR l n).out.length ≤ 2 * l.length + 2 := by
  have h1 := out_run l ⟨[], n, 0, 0, .gap⟩
  have h2 := out_stp (run ⟨[], n, 0, 0, .gap⟩ l) 10
  unfold lineR
  simp only [List.length_nil] at h1
  omega
set_option maxRecDepth 100000 in
set_option maxHeartbeats 4000000 in
theorem rtokens_calls (s : ByteArray) (w : World) : Calls Try.prog 21 #[.string s] w fun e w' => ∃ v, e = .returned (.tuple #[v, .int .i64 (tokL s.data.toList).2.1, .int .i64 (tokL s.data.toList).2.2.1, .int .i64 (tokL s.data.toList).2.2.2]) ∧ OwnT w' w.heap.size v (tokL s.data.toList).1 ∧ Below w.heap.size w w' := by
  by_cases hs : 65536 < s.size
  · have HT : Hid (tokL s.data.toList = ([], 2, 0, 0)) := by show _ = _; unfold tokL; rw [if_pos (by rw [len_data]; exact hs)]
    go_enter Try.func21, Try.ntmps21
    go_wp2
    (try simp only [Exit.inBlock, Exit.then])
    refine bodyPost_ret (results4 (p := 2) (q := 3) (r := 4) (t := 5) rfl) rfl ?_
    rw [HT.out]
    exact ⟨.slice none 0 0, rfl, OwnT.nil _ _, Below.refl _ _⟩
  · have HT : Hid (tokL s.data.toList = res (linesR (linesL s.data.toList) st0)) := by
      show _ = _
      unfold tokL
      rw [if_neg (by rw [len_data]; exact hs)]
      exact congrArg res (whole_lines _ s.data.toList [] 1 (Nat.le_refl _))
    have HRL := hide (rlines_calls s (by omega) w)
    have hll := lines_len s.data.toList
    rw [len_data] at hll
    have HNO := hide (lines_no s.data.toList)
    have HTO := hide (lines_total s.data.toList)
    generalize tokL s.data.toList = T at *
    generalize linesL s.data.toList = ls at *
    go_enter Try.func21, Try.ntmps21
    go_wp2_with fail
    refine (unhide HRL).mono ?_
    rintro e w1 ⟨vl, rfl, hrow, hb1⟩
    obtain ⟨la, lc, hvl⟩ := hrow.shape
    subst hvl
    rw [sV_len] at hrow ⊢
    have HROW := hide hrow
    generalize hnl : ls.length = nl at *
    have HNL := hide hnl
    clear hnl hrow HRL
    go_wp2_with fail
    go_loopw [7, 8] (fun ov iv wq => ∃ i : Nat, i ≤ nl ∧ iv = .int .i64 (i : Int) ∧ Hid (∃ out, OwnT wq w1.heap.size ov out ∧ Below w1.heap.size w1 wq ∧ out.length ≤ i * 200000 ∧ T = res (linesR (ls.drop i) ⟨out, i + 1, 0, 0, .gap⟩))) (fun _ iv _ => nl - (intOf iv).toNat)
    case atStart => exact ⟨0, by omega, rfl, ⟨[], OwnT.nil _ _, Below.refl _ _, by simp, HT.out⟩⟩
    case round =>
      rename World => w2
      obtain ⟨i, hin, rfl, HB⟩ := hrel
      obtain ⟨out, hO, hb2, hol, hfin⟩ := HB.out
      obtain ⟨oa, oc, hov⟩ := hO.shape
      subst hov
      by_cases hlt : i < nl
      · have hI : (i : Int) < (nl : Int) := by omega
        have hil : i < ls.length := by rw [HNL.out]; exact hlt
        obtain ⟨lg, lcc, hlv, hlc1, hlc2, _, hlg⟩ := HROW.out.head (by rw [sV_len, HNL.out]; omega)
        rw [sV_len, HNL.out] at hlv hlc1
        injection hlv with e1 e2 e3
        subst e1 e3
        have hcell : w2.cell? ⟨lg, i, none⟩ = some (.string (bs (ls.getD i []))) := by
          rw [hb2.cell (p := ⟨lg, i, none⟩) hlg]
          have := HROW.out.cellAt (j := i) (by rw [sV_len]; exact hil)
          rw [this]
          unfold sV
          rw [List.getElem?_map, List.getElem?_eq_getElem hil, List.getD_eq_getElem?_getD, List.getElem?_eq_getElem hil]
          rfl
        have hmem : ls.getD i [] ∈ ls := by
          rw [List.getD_eq_getElem?_getD, List.getElem?_eq_getElem hil]
          exact List.getElem_mem hil
        have hno := unhide HNO _ hmem
        have hto := unhide HTO _ hmem
        rw [len_data] at hto
        have HGO := hide (linesR_go hil hno out (i + 1))
        have HLI := hide (line_calls (bs (ls.getD i [])) (i + 1) (by rw [bs_size]; omega) (noEnd_bs hno) w2)
        rw [bs_L] at HLI
        have HLO := hide (lineR_out (ls.getD i []) (i + 1))
        have HLB := hide (fun er h => lineR_bad (n := i + 1) (er := er) hno h)
        have HTO2 := hide hto
        rw [show ((i + 1 : Nat) : Int) = (i : Int) + 1 from rfl] at HLI
        have HO := hide hO
        have HB2 := hide hb2
        have HOL := hide hol
        have HFI := hide hfin
        generalize lineR (ls.getD i []) (i + 1) = LR at *
        generalize ls.getD i [] = li at *
        clear hO hb2 hol hfin HB hno hto hmem hil
        go_wp2_with fail
        refine (unhide HLI).mono ?_
        rintro e w3 ⟨hb3, ⟨ta, tn, tc, rfl, hOt, hmd⟩ | ⟨er, pl, rfl, her, hmd, hp⟩⟩
        · obtain ⟨o, ho1, ho2, hnx⟩ := HGO.out.1 hmd
          rw [ho1] at hOt
          obtain ⟨tg, tcc, htv, htc⟩ := hOt.head ho2
          injection htv with e1 e2 e3
          subst e1 e2 e3
          have HO3 := hide (HO.out.below hb3)
          have hb13 := HB2.out.trans (hb3.mono HB2.out.size)
          have hsz3 := hb13.size
          have HLN : Hid (out.length + o.length ≤ 1000000000000) := by
            show _ ≤ _
            have h1 := HOL.out
            have h2 := HLO.out
            rw [ho1] at h2
            have h3 := HTO2.out
            have h4 : i * 200000 ≤ 65536 * 200000 := Nat.mul_le_mul_right _ (by omega)
            omega
          have HLN2 : Hid ((out ++ o).length ≤ (i + 1) * 200000) := by
            show _ ≤ _
            have h1 := HOL.out
            have h2 := HLO.out
            rw [ho1] at h2
            have h3 := HTO2.out
            rw [List.length_append]
            omega
          have HN2 := hide hnx
          generalize hol2 : o.length = ol at *
          have HOL2 := hide hol2
          clear hnx hmd ho1 hol2 ho2
          go_wp2_with (first | (at_builtin; refine wpList_appTk rfl (.tmp 40) (.tmp 41) rfl rfl (l := out) (m := o) HO3.out rfl HOL2.out.symm htc (by rw [HOL2.out]; exact HLN.out) hsz3 ?_; intro v6 w6 hO6 hg6 hv6 hat6; (have hb6 := below_app hb13 hg6 hsz3 hv6); (have HO6 := hide hO6); clear hO6 hg6 hv6 hat6))
          go_roundw
          case rel => exact ⟨i + 1, by omega, by go_num, ⟨out ++ o, HO6.out, hb6, HLN2.out, by rw [HFI.out, HN2.out]⟩⟩
          case measure => simp [intOf]; omega
        · have hE := HGO.out.2 er hmd
          have hn := HLB.out er hmd
          have HE : Hid (T = ([], er, (i : Int) + 1, (pl : Int))) := by
            show _ = _
            rw [HFI.out, hE]
            unfold res pre
            simp only [hmd, hn, hp]
            rfl
          have ber : (er != 0) = true := by simpa using her
          have hb03 := (hb1.trans (HB2.out.mono hb1.size)).trans (hb3.mono (Nat.le_trans hb1.size HB2.out.size))
          clear hE hn hmd hp her
          go_wp2
          try rw [Exit.noGoto_ret]
          (try simp only [Exit.inBlock, Exit.then])
          refine bodyPost_ret (results4 (p := 2) (q := 3) (r := 4) (t := 5) rfl) rfl ?_
          rw [HE.out]
          exact ⟨.slice none 0 0, rfl, OwnT.nil _ _, hb03⟩
      · have hI : ¬ (i : Int) < (nl : Int) := by omega
        have HE : Hid (T = (out, 0, 0, 0)) := by
          show _ = _
          rw [hfin, List.drop_eq_nil_of_le (by rw [HNL.out]; omega)]
          rfl
        have HO := hide (hO.mono (B' := w.heap.size) hb1.size)
        have hb02 := hb1.trans (hb2.mono hb1.size)
        clear hfin HB hO hb2
        go_wp2
        try rw [Exit.noGoto_ret]
        (try simp only [Exit.inBlock, Exit.then])
        refine bodyPost_ret (results4 (p := 2) (q := 3) (r := 4) (t := 5) rfl) rfl ?_
        rw [HE.out]
        exact ⟨_, rfl, HO.out, hb02⟩
end Go.Proofs.Ytcdilcjgmcamcaa

/- literal: the walk. -/
import Derived.Test.YtcdilcjgmcamcaaTkK
namespace Go.Proofs.Ytcdilcjgmcamcaa
open Go.RowKit Go.Maps

def iL (l : List UInt8) : List Int := l.map fun c => (c.toNat : Int)
theorem iL_app (l m : List UInt8) : iL (l ++ m) = iL l ++ iL m := by unfold iL; rw [List.map_append]
theorem iL_len (l : List UInt8) : (iL l).length = l.length := by simp [iL]
theorem mkS_iL (l : List UInt8) : mkS (iL l) = bs l := by
  apply Go.WideShapes.bytes_inj
  unfold mkS
  rw [mkS_list]
  unfold iL bs
  rw [List.map_map]
  show [] ++ _ = _
  rw [List.nil_append]
  show _ = l
  conv => rhs; rw [← List.map_id l]
  apply List.map_congr_left
  intro c _
  simp
theorem isB_one (w : World) (c : UInt8) : IsB (w.alloc (.cells #[.int .u8 (c.toNat : Int)] 5)) (.slice (some ⟨w.heap.size, 0, none⟩) 1 1) (iL [c]) :=
  isB_lit w (iL [c]) (by intro x hx; simp [iL] at hx; have := u8_lt c; omega) (by simp [iL])
section
variable {w0 w w' : World} {g : Nat} {s : ByteArray} {a st bh ln : Nat} {out : List Tok} {wr : Int} {v v8 : Value} {xs : List Int}
theorem Own8.blk {B : Nat} (h : Own8 w B v8 xs) {g : Nat} {cs : Array Value} {t : TypeId} {m : Nat × Nat} (hc : w.heap[g]? = some (.cells cs t m)) (ht : t ≠ 5) : v8.ownBlock = none ∨ v8.ownBlock ≠ some g := by
  rcases h.1.2 with ⟨rfl, _⟩ | ⟨g', cap, cur, rfl, _, hgg, _⟩
  · exact Or.inl rfl
  · refine Or.inr fun e => ?_
    simp only [Value.ownBlock, Option.some.injEq] at e
    subst e
    rw [hgg] at hc
    simp only [Option.some.injEq, Obj.cells.injEq] at hc
    exact ht hc.2.1.symm
theorem OwnT.apart8 {B B' : Nat} {l : List Tok} (h : OwnT w B v l) (h8 : Own8 w B' v8 xs) : v.ownBlock = none ∨ v.ownBlock ≠ v8.ownBlock := owns_apart h h8.1 (by decide)
/-- Bytes of the call's own were lengthened. -/
theorem Rd.grown8 (h : Rd w0 w g s a st bh ln out wr v) (h8 : Own8 w w0.heap.size v8 xs) (hg : w.grownBy w' v8.ownBlock) : Rd w0 w' g s a st bh ln out wr v := by
  refine ⟨h.arr.keep (hg.block g h.arr.lt ?_), h.own.kept hg (h.own.apart8 h8), h.hg, below_app h.below hg h.below.size ?_⟩
  · rcases h8.blk h.arr (by decide) with e | e
    · rw [e]; simp
    · exact fun e2 => e e2.symm
  · cases hv : v8.ownBlock with
    | none => exact Or.inl rfl
    | some b => exact Or.inr ⟨b, rfl, (World.ownsRow.lt h8.1 b hv).1⟩
theorem Own8.setRd {B : Nat} (h8 : Own8 w B v8 xs) (h : Rd w0 w g s a st bh ln out wr v) (j : Nat) (u : Value) : Own8 (w.setCell ⟨g, j, none⟩ u) B v8 xs := h8.kept (grown_set w g j u) (h8.blk h.arr (by decide))
set_option maxRecDepth 100000 in
set_option maxHeartbeats 4000000 in
theorem literal_calls (h : Rd w0 w g s a st bh ln out 0 v) (hst : st ≤ a) (ha : a < s.size) (hk : (lk s a).toNat = 34) (hs : s.size ≤ 1000000) (ho : out.length ≤ 1000000) : Calls Try.prog 47 #[.pointer (some ⟨g, 0, none⟩)] w fun e w' => Read1 w0 w' g s a st bh ln out e := by
  have HL : Hid (∀ (W : World) (b : Nat), b ≤ s.size → Rd w0 W g s b st bh ln out 0 v → Calls Try.prog 45 #[.pointer (some ⟨g, 0, none⟩), .int .i64 0] W fun e w' => e = .returned (.int .u8 ((lk s b).toNat : Int)) ∧ Below W.heap.size W w') := fun W b hb hr => by
    have := look_calls hr 0 (by omega) hs (by omega)
    simpa using this
  have HS : Hid (∀ (W : World) (c : UInt8), Calls Try.prog 25 #[.int .u8 (c.toNat : Int)] W fun e w' => e = .returned (.bool (stI (c.toNat : Int))) ∧ w' = W) := fun W c => stands_calls (c.toNat : Int) (by omega) (by have := u8_lt c; omega) W
  have HES : Hid (∀ (W : World) (b : Nat), b ≤ s.size → Rd w0 W g s b st bh ln out 0 v → Calls Try.prog 57 #[.pointer (some ⟨g, 0, none⟩)] W fun e w' => e = .returned (.tuple #[.int .u8 ((escP (lk s (b + 1)) (lk s (b + 2)) (lk s (b + 3))).1.toNat : Int), .int .i64 ((escP (lk s (b + 1)) (lk s (b + 2)) (lk s (b + 3))).2 : Int)]) ∧ Below W.heap.size W w') := fun W b hb hr => escape_calls hr hs hb
  have HAD : Hid (∀ (W : World) (b : Nat) (t : ByteArray), Rd w0 W g s b st bh ln out 0 v → Calls Try.prog 55 #[.pointer (some ⟨g, 0, none⟩), .int .i64 2, .string t, .int .i64 (a : Int)] W fun e w' => e = .returned (.tuple #[]) ∧ ∃ v', Rd w0 w' g s b st b ln (out ++ [⟨2, t, ln, ((a - st : Nat) : Int)⟩]) 0 v') := fun W b t hr => add_calls hr 2 t a hst (by omega) ho
  have c1 := h.cells.2.1
  have f1 := h.frozen 1
  have H0 := hide (h.setAt (a + 1))
  have HFI := hide (Lt.first hk)
  have hsz := h.below.size
  clear h hk
  go_enter Try.func47, Try.ntmps47
  go_wp2_with fail
  go_step3
  go_wp2_with fail
  go_step3
  go_wp2_with fail
  go_loopw [4] (fun v8 wq => ∃ (b : Nat) (acc : List UInt8), a < b ∧ b ≤ s.size ∧ acc.length ≤ b ∧ Hid (Rd w0 wq g s b st bh ln out 0 v ∧ Own8 wq w0.heap.size v8 (iL acc) ∧ Lt s a b acc)) (fun _ wq => s.size - cellN wq ⟨g, 1, none⟩)
  case atStart => exact ⟨a + 1, [], by omega, by omega, by simp, ⟨H0.out, Own8.nil _ _, HFI.out⟩⟩
  case round =>
    rename World => w1
    obtain ⟨b, acc, hab, hbs, hal, HB⟩ := hrel
    clear c1 f1
    obtain ⟨a8, n8, c8, hv8⟩ := HB.out.2.1.shape
    subst hv8
    have HN := hide HB.out.1.cellN
    have HLK := hide (unhide HL w1 b hbs HB.out.1)
    by_cases h34 : (lk s b).toNat = 34
    · have hbl := lk_in (s := s) (i := b) (by omega)
      have HW := hide (fun o n p q => HB.out.2.2.quote h34 o n p q)
      have b34 : (((lk s b).toNat : Int) == 34) = true := by rw [h34]; rfl
      generalize lk s b = c at *
      clear h34
      go_wp2_with fail
      refine (unhide HLK).mono ?_
      rintro e w2 ⟨rfl, hb2⟩
      have HR2 := hide (HB.out.1.keep hb2)
      have HO2 := hide (HB.out.2.1.below hb2)
      have c1 := HR2.out.cells.2.1
      have f1 := HR2.out.frozen 1
      have HR3 := hide (HR2.out.setAt (b + 1))
      have HO3 := hide (HO2.out.setRd HR2.out 1 (.int .i64 ((b + 1 : Nat) : Int)))
      have hcv := conv_isB HO3.out.isB
      rw [mkS_iL] at hcv
      have HAD3 := hide (unhide HAD _ (b + 1) (bs acc) HR3.out)
      rw [show ((b + 1 : Nat) : Int) = (b : Int) + 1 from rfl] at hcv HAD3
      go_wp2_with fail
      refine (unhide HAD3).mono ?_
      rintro e w4 ⟨rfl, v4, hr4⟩
      have HR4 := hide hr4
      clear hr4 hcv
      go_wp2
      try rw [Exit.noGoto_ret]
      go_ret
      refine Or.inl ⟨rfl, b + 1, _, v4, by omega, hbl, HR4.out, ?_⟩
      have e := HW.out out ln (a - st) (bh - st)
      rw [show a - st + (b + 1 - a) = b + 1 - st by omega] at e
      exact e
    · have b34 : (((lk s b).toNat : Int) == 34) = false := by simp; omega
      by_cases h92 : (lk s b).toNat = 92
      · have b92 : (((lk s b).toNat : Int) == 92) = true := by rw [h92]; rfl
        have HEC := hide (HB.out.2.2.escape h92)
        have HESC := hide (fun W hr => unhide HES W b hbs hr)
        generalize escP (lk s (b + 1)) (lk s (b + 2)) (lk s (b + 3)) = E at *
        obtain ⟨ec, en⟩ := E
        generalize lk s b = c at *
        clear h34 h92
        rcases HEC.out with ⟨he0, hw⟩ | ⟨he0, he4, hes, hw⟩
        · have HW := hide hw
          have he0 : en = 0 := he0
          have ben : ((en : Int) == 0) = true := by rw [he0]; rfl
          clear hw he0
          go_wp2_with fail
          refine (unhide HLK).mono ?_
          rintro e w2 ⟨rfl, hb2⟩
          have HR2 := hide (HB.out.1.keep hb2)
          have HE2 := hide (unhide HESC w2 HR2.out)
          go_wp2_with fail
          refine (unhide HE2).mono ?_
          rintro e w3 ⟨rfl, hb3⟩
          have HR3 := hide (HR2.out.keep hb3)
          have c6 := HR3.out.cells.2.2.2.2.2.2
          have f6 := HR3.out.frozen 6
          go_wp2
          try rw [Exit.noGoto_ret]
          go_ret
          refine Or.inr ⟨rfl, b, 112, v, by omega, hbs, by decide, HR3.out.setWrong 112, ?_⟩
          rw [HW.out, show a - st + (b - a) = b - st by omega]
        · have HW := hide hw
          have he0 : 0 < en := he0
          have he4 : en ≤ 4 := he4
          have hes : b + en ≤ s.size := hes
          have ben : ((en : Int) == 0) = false := by simp; omega
          clear hw HEC
          go_wp2_with fail
          refine (unhide HLK).mono ?_
          rintro e w3 ⟨rfl, hb3⟩
          have HR3 := hide (HB.out.1.keep hb3)
          have HO3 := hide (HB.out.2.1.below hb3)
          have HE2 := hide (unhide HESC w3 HR3.out)
          go_wp2_with fail
          refine (unhide HE2).mono ?_
          rintro e w2 ⟨rfl, hb2⟩
          have HR2 := hide (HR3.out.keep hb2)
          have HO2 := hide (HO3.out.below hb2)
          clear HR3 HO3
          have HO3 := hide (HO2.out.below ((Below.refl w2.heap.size w2).alloc (Nat.le_refl _) (.cells #[.int .u8 (ec.toNat : Int)] 5)))
          have HR3 := hide (HR2.out.keep ((Below.refl w2.heap.size w2).alloc (Nat.le_refl _) (.cells #[.int .u8 (ec.toNat : Int)] 5)))
          have hI3 := isB_one w2 ec
          have hsz3 := HR3.out.below.size
          have hln3 : (iL acc).length + (iL [ec]).length ≤ 140737488355328 := by rw [iL_len, iL_len]; simp; omega
          go_wp2_with (first | (at_builtin; refine wpList_appB rfl (.tmp 60) (.tmp 62) rfl rfl HO3.out rfl hI3 hln3 hsz3 ?_; intro v6 w6 hO6 hg6; (have HR6 := hide (HR3.out.grown8 HO3.out hg6)); (have HO6 := hide hO6); (have c1 := HR6.out.cells.2.1); (have f1 := HR6.out.frozen 1); (obtain ⟨a6, n6, c6, hv6⟩ := hO6.shape); subst hv6; clear hO6 hg6 hI3 hln3 hsz3))
          have HR7 := hide (HR6.out.setAt (b + en))
          have HO7 := hide (HO6.out.setRd HR6.out 1 (.int .i64 ((b + en : Nat) : Int)))
          rw [← iL_app] at HO7
          go_roundw
          case rel => exact ⟨b + en, acc ++ [ec], by omega, by omega, by simp; omega, ⟨HR7.out, HO7.out, HW.out⟩⟩
          case measure => have e3 := HR7.out.cellN; rw [HN.out]; simp only [Int.natCast_add] at e3; rw [e3]; omega
      · have b92 : (((lk s b).toNat : Int) == 92) = false := by simp; omega
        by_cases h10 : (lk s b).toNat = 10
        · have b10 : (((lk s b).toNat : Int) == 10) = true := by rw [h10]; rfl
          have HW := hide (fun o n p q => HB.out.2.2.open h10 o n p q)
          generalize lk s b = c at *
          clear h34 h92 h10
          go_wp2_with fail
          refine (unhide HLK).mono ?_
          rintro e w2 ⟨rfl, hb2⟩
          have HR2 := hide (HB.out.1.keep hb2)
          have c6 := HR2.out.cells.2.2.2.2.2.2
          have f6 := HR2.out.frozen 6
          have HR3 := hide (HR2.out.setWrong 111)
          have c1 := HR3.out.cells.2.1
          have f1 := HR3.out.frozen 1
          go_wp2
          try rw [Exit.noGoto_ret]
          go_ret
          exact Or.inr ⟨rfl, a, 111, v, hst, by omega, by decide, HR3.out.setAt a, HW.out out ln (a - st) (bh - st)⟩
        · have b10 : (((lk s b).toNat : Int) == 10) = false := by simp; omega
          have hbl := lk_in h10
          have HSS := hide (fun W => unhide HS W (lk s b))
          cases hsi : stI ((lk s b).toNat : Int) with
          | true =>
            have h3 := of_decide_eq_true hsi
            have HW := hide (HB.out.2.2.plain h34 h92 (by omega) (by omega))
            rw [hsi] at HSS
            generalize lk s b = c at *
            clear h34 h92 h10 h3 hsi
            go_wp2_with fail
            refine (unhide HLK).mono ?_
            rintro e w2 ⟨rfl, hb2⟩
            have HR2 := hide (HB.out.1.keep hb2)
            have HO2 := hide (HB.out.2.1.below hb2)
            go_wp2_with fail
            refine (unhide HSS w2).mono ?_
            rintro e w3 ⟨rfl, hw3⟩
            obtain rfl := hw3.symm
            clear hw3
            have HO3 := hide (HO2.out.below ((Below.refl w2.heap.size w2).alloc (Nat.le_refl _) (.cells #[.int .u8 (c.toNat : Int)] 5)))
            have HR3 := hide (HR2.out.keep ((Below.refl w2.heap.size w2).alloc (Nat.le_refl _) (.cells #[.int .u8 (c.toNat : Int)] 5)))
            have hI3 := isB_one w2 c
            have hsz3 := HR3.out.below.size
            have hln3 : (iL acc).length + (iL [c]).length ≤ 140737488355328 := by rw [iL_len, iL_len]; simp; omega
            go_wp2_with (first | (at_builtin; refine wpList_appB rfl (.tmp 21) (.tmp 23) rfl rfl HO3.out rfl hI3 hln3 hsz3 ?_; intro v6 w6 hO6 hg6; (have HR6 := hide (HR3.out.grown8 HO3.out hg6)); (have HO6 := hide hO6); (have c1 := HR6.out.cells.2.1); (have f1 := HR6.out.frozen 1); (obtain ⟨a6, n6, c6, hv6⟩ := hO6.shape); subst hv6; clear hO6 hg6 hI3 hln3 hsz3))
            have HR7 := hide (HR6.out.setAt (b + 1))
            have HO7 := hide (HO6.out.setRd HR6.out 1 (.int .i64 ((b + 1 : Nat) : Int)))
            rw [← iL_app] at HO7
            go_roundw
            case rel => exact ⟨b + 1, acc ++ [c], by omega, by omega, by simp; omega, ⟨HR7.out, HO7.out, HW.out⟩⟩
            case measure => have e3 := HR7.out.cellN; rw [HN.out]; simp only [Int.natCast_add, Int.natCast_one] at e3; rw [e3]; omega
          | false =>
            have h3 := of_decide_eq_false hsi
            have HW := hide (fun o n p q => HB.out.2.2.byte (by omega) h10 o n p q)
            rw [hsi] at HSS
            generalize lk s b = c at *
            clear h34 h92 h10 h3 hsi
            go_wp2_with fail
            refine (unhide HLK).mono ?_
            rintro e w2 ⟨rfl, hb2⟩
            have HR2 := hide (HB.out.1.keep hb2)
            go_wp2_with fail
            refine (unhide HSS w2).mono ?_
            rintro e w3 ⟨rfl, hw3⟩
            obtain rfl := hw3.symm
            clear hw3
            have c6 := HR2.out.cells.2.2.2.2.2.2
            have f6 := HR2.out.frozen 6
            go_wp2
            try rw [Exit.noGoto_ret]
            go_ret
            refine Or.inr ⟨rfl, b, 110, v, by omega, hbs, by decide, HR2.out.setWrong 110, ?_⟩
            rw [HW.out, show a - st + (b - a) = b - st by omega]
end
end Go.Proofs.Ytcdilcjgmcamcaa

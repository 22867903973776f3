/- The document's literal. -/
import Derived.Test.YtcdilcjgmcamcabTkO
namespace Go.Proofs.Ytcdilcjgmcamcab
open Go.RowKit Go.Maps

/-- A line: no end within. -/
def NoEnd (s : ByteArray) : Prop := ∀ i, i < s.size → (lk s i).toNat ≠ 10
/-- What the document's literal comes to. -/
def RLit (s : ByteArray) (a : Nat) (e : Ending) : Prop :=
  (∃ (b : Nat) (acc : List UInt8), e = .returned (.tuple #[.string (bs acc), .int .i64 (b : Int), .int .i64 0, .int .i64 0]) ∧ a < b ∧ b ≤ s.size ∧ ∀ (o : List Tok) (n p q : Nat), fin (run ⟨o, n, p, q, .gap⟩ (s.data.toList.drop a)) = fin (run ⟨o ++ [⟨2, bs acc, n, p⟩], n, p + (b - a), p + (b - a), .gap⟩ (s.data.toList.drop b))) ∨
  (∃ (b : Nat) (er : Int), e = .returned (.tuple #[.string ⟨#[]⟩, .int .i64 0, .int .i64 er, .int .i64 (b : Int)]) ∧ a ≤ b ∧ er ≠ 0 ∧ ∀ (o : List Tok) (n p q : Nat), fin (run ⟨o, n, p, q, .gap⟩ (s.data.toList.drop a)) = ⟨o, n, p + (b - a), q, .bad er⟩)
theorem results4 {fn : Func} {p q r t : Tmp} {tmps : Array Value} {w : World} (h : fn.results = #[.tmp p, .tmp q, .tmp r, .tmp t]) : (results fn tmps).run Try.prog w = .ok (.tuple #[tmps.getD p undef, tmps.getD q undef, tmps.getD r undef, tmps.getD t undef]) w := by
  simp [results, h]
theorem below8 {w0 w w' : World} {v : Value} {xs : List Int} (h : Below w0.heap.size w0 w) (h8 : Own8 w w0.heap.size v xs) (hg : w.grownBy w' v.ownBlock) : Below w0.heap.size w0 w' :=
  below_app h hg h.size (by
    cases hv : v.ownBlock with
    | none => exact Or.inl rfl
    | some b => exact Or.inr ⟨b, rfl, (World.ownsRow.lt h8.1 b hv).1⟩)
set_option maxRecDepth 100000 in
set_option maxHeartbeats 4000000 in
theorem rliteral_calls (s : ByteArray) (a : Nat) (hs : s.size ≤ 1000000) (ha : a < s.size) (hk : (lk s a).toNat = 34) (hN : NoEnd s) (w : World) : Calls Try.prog 50 #[.string s, .int .i64 (a : Int)] w fun e w' => RLit s a e ∧ Below w.heap.size w w' := by
  have HES : Hid (∀ (b : Nat) (W : World), b ≤ s.size → Calls Try.prog 57 #[.string s, .int .i64 (b : Int)] W fun e w' => e = .returned (.tuple #[.int .u8 ((escP (lk s (b + 1)) (lk s (b + 2)) (lk s (b + 3))).1.toNat : Int), .int .i64 ((escP (lk s (b + 1)) (lk s (b + 2)) (lk s (b + 3))).2 : Int)]) ∧ Below W.heap.size W w') := fun b W hb => rescape_calls s b (by omega) W
  have HFI := hide (Lt.first hk)
  have HNO := hide hN
  clear hk hN
  go_enter Try.func50, Try.ntmps50
  go_wp2_with fail
  go_loopw [8, 9] (fun v8 bv wq => ∃ (b : Nat) (acc : List UInt8), a < b ∧ b ≤ s.size ∧ acc.length ≤ b ∧ bv = .int .i64 (b : Int) ∧ Below w.heap.size w wq ∧ Hid (Own8 wq w.heap.size v8 (iL acc) ∧ Lt s a b acc)) (fun _ bv _ => s.size - (intOf bv).toNat)
  case atStart => exact ⟨a + 1, [], by omega, by omega, by simp, by go_num, Below.refl _ _, ⟨Own8.nil _ _, HFI.out⟩⟩
  case round =>
    rename World => w1
    obtain ⟨b, acc, hab, hbs, hal, rfl, hbw, HB⟩ := hrel
    obtain ⟨a8, n8, c8, hv8⟩ := HB.out.1.shape
    subst hv8
    by_cases hlt : b < s.size
    · have hI : (b : Int) < (s.size : Int) := by omega
      have hidx := index_str s b hlt
      have h10 := unhide HNO b hlt
      have HES1 := hide (fun W => unhide HES b W hbs)
      by_cases h34 : (lk s b).toNat = 34
      · have HW := hide (fun o n p q => HB.out.2.quote h34 o n p q)
        have b34 : (((lk s b).toNat : Int) == 34) = true := by rw [h34]; rfl
        have hcv := conv_isB HB.out.1.isB
        rw [mkS_iL] at hcv
        generalize lk s b = c at *
        clear h34 h10 HES1
        go_wp2
        try rw [Exit.noGoto_ret]
        (try simp only [Exit.inBlock, Exit.then])
        refine bodyPost_ret (results4 (p := 4) (q := 5) (r := 6) (t := 7) rfl) rfl ?_
        exact ⟨Or.inl ⟨b + 1, acc, rfl, by omega, hlt, HW.out⟩, hbw⟩
      · have b34 : (((lk s b).toNat : Int) == 34) = false := by simp; omega
        by_cases h92 : (lk s b).toNat = 92
        · have b92 : (((lk s b).toNat : Int) == 92) = true := by rw [h92]; rfl
          have HEC := hide (HB.out.2.escape h92)
          generalize escP (lk s (b + 1)) (lk s (b + 2)) (lk s (b + 3)) = E at *
          obtain ⟨ec, en⟩ := E
          generalize lk s b = c at *
          clear h34 h92 h10
          rcases HEC.out with ⟨he0, hw⟩ | ⟨he0, he4, hes, hw⟩
          · have HW := hide hw
            have he0 : en = 0 := he0
            have ben : ((en : Int) == 0) = true := by rw [he0]; rfl
            clear hw he0
            go_wp2_with fail
            refine (unhide HES1 w1).mono ?_
            rintro e w2 ⟨rfl, hb2⟩
            go_wp2
            try rw [Exit.noGoto_ret]
            (try simp only [Exit.inBlock, Exit.then])
            refine bodyPost_ret (results4 (p := 4) (q := 5) (r := 6) (t := 7) rfl) rfl ?_
            exact ⟨Or.inr ⟨b, 112, rfl, by omega, by decide, HW.out⟩, hbw.trans (hb2.mono hbw.size)⟩
          · have HW := hide hw
            have he0 : 0 < en := he0
            have he4 : en ≤ 4 := he4
            have hes : b + en ≤ s.size := hes
            have ben : ((en : Int) == 0) = false := by simp; omega
            clear hw HEC
            go_wp2_with fail
            refine (unhide HES1 w1).mono ?_
            rintro e w2 ⟨rfl, hb2⟩
            have hbw2 := hbw.trans (hb2.mono hbw.size)
            have HO3 := hide ((HB.out.1.below hb2).below ((Below.refl w2.heap.size w2).alloc (Nat.le_refl _) (.cells #[.int .u8 (ec.toNat : Int)] 5)))
            have hb3 := hbw2.trans (((Below.refl w2.heap.size w2).alloc (Nat.le_refl _) (.cells #[.int .u8 (ec.toNat : Int)] 5)).mono hbw2.size)
            have hI3 := isB_one w2 ec
            have hsz3 := hb3.size
            have hln3 : (iL acc).length + (iL [ec]).length ≤ 140737488355328 := by rw [iL_len, iL_len]; simp; omega
            go_wp2_with (first | (at_builtin; refine wpList_appB rfl (.tmp 39) (.tmp 41) rfl rfl HO3.out rfl hI3 hln3 hsz3 ?_; intro v6 w6 hO6 hg6; (have hb6 := below8 hb3 HO3.out hg6); (have HO6 := hide hO6); (obtain ⟨a6, n6, c6, hv6⟩ := hO6.shape); subst hv6; clear hO6 hg6 hI3 hln3 hsz3 hb3))
            rw [← iL_app] at HO6
            go_roundw
            case rel => exact ⟨b + en, acc ++ [ec], by omega, by omega, by simp; omega, by go_num, hb6, ⟨HO6.out, HW.out⟩⟩
            case measure => simp [intOf]; omega
        · have b92 : (((lk s b).toNat : Int) == 92) = false := by simp; omega
          by_cases hout : (lk s b).toNat < 32 ∨ 126 < (lk s b).toNat
          · have HW := hide (fun o n p q => HB.out.2.byte hout h10 o n p q)
            by_cases hl32 : (lk s b).toNat < 32
            · have i32 : ((lk s b).toNat : Int) < 32 := by omega
              generalize lk s b = c at *
              clear h34 h92 h10 hout HES1
              go_wp2
              try rw [Exit.noGoto_ret]
              (try simp only [Exit.inBlock, Exit.then])
              refine bodyPost_ret (results4 (p := 4) (q := 5) (r := 6) (t := 7) rfl) rfl ?_
              exact ⟨Or.inr ⟨b, 110, rfl, by omega, by decide, HW.out⟩, hbw⟩
            · have i32 : ¬ ((lk s b).toNat : Int) < 32 := by omega
              have i126 : (126 : Int) < ((lk s b).toNat : Int) := by omega
              generalize lk s b = c at *
              clear h34 h92 h10 hout HES1
              go_wp2
              try rw [Exit.noGoto_ret]
              (try simp only [Exit.inBlock, Exit.then])
              refine bodyPost_ret (results4 (p := 4) (q := 5) (r := 6) (t := 7) rfl) rfl ?_
              exact ⟨Or.inr ⟨b, 110, rfl, by omega, by decide, HW.out⟩, hbw⟩
          · have HW := hide (HB.out.2.plain h34 h92 (by omega) (by omega))
            have i32 : ¬ ((lk s b).toNat : Int) < 32 := by omega
            have i126 : ¬ (126 : Int) < ((lk s b).toNat : Int) := by omega
            generalize lk s b = c at *
            clear h34 h92 h10 hout HES1
            have HO3 := hide (HB.out.1.below ((Below.refl w1.heap.size w1).alloc (Nat.le_refl _) (.cells #[.int .u8 (c.toNat : Int)] 5)))
            have hb3 := hbw.trans (((Below.refl w1.heap.size w1).alloc (Nat.le_refl _) (.cells #[.int .u8 (c.toNat : Int)] 5)).mono hbw.size)
            have hI3 := isB_one w1 c
            have hsz3 := hb3.size
            have hln3 : (iL acc).length + (iL [c]).length ≤ 140737488355328 := by rw [iL_len, iL_len]; simp; omega
            go_wp2_with (first | (at_builtin; refine wpList_appB rfl (.tmp 53) (.tmp 55) rfl rfl HO3.out rfl hI3 hln3 hsz3 ?_; intro v6 w6 hO6 hg6; (have hb6 := below8 hb3 HO3.out hg6); (have HO6 := hide hO6); (obtain ⟨a6, n6, c6, hv6⟩ := hO6.shape); subst hv6; clear hO6 hg6 hI3 hln3 hsz3 hb3))
            rw [← iL_app] at HO6
            go_roundw
            case rel => exact ⟨b + 1, acc ++ [c], by omega, by omega, by simp; omega, by go_num, hb6, ⟨HO6.out, HW.out⟩⟩
            case measure => simp [intOf]; omega
    · have hI : ¬ (b : Int) < (s.size : Int) := by omega
      have HW : Hid (∀ (o : List Tok) (n p q : Nat), fin (run ⟨o, n, p, q, .gap⟩ (s.data.toList.drop a)) = ⟨o, n, p + (a - a), q, .bad 111⟩) := fun o n p q => by
        rw [Nat.sub_self, Nat.add_zero]
        exact HB.out.2.open (by rw [lk_out (by omega)]; rfl) o n p q
      go_wp2
      try rw [Exit.noGoto_ret]
      (try simp only [Exit.inBlock, Exit.then])
      refine bodyPost_ret (results4 (p := 4) (q := 5) (r := 6) (t := 7) rfl) rfl ?_
      exact ⟨Or.inr ⟨a, 111, rfl, by omega, by decide, HW.out⟩, hbw⟩
end Go.Proofs.Ytcdilcjgmcamcab

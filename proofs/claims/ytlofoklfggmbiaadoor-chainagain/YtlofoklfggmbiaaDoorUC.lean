/- 1.9, in plain numbers: what a bit that is turned over does to the sum. A sector of a chain with one bit turned over is sound no more. ChainAgain: a sector that is spoilt and mended in memory. -/
import Derived.Test.YtlofoklfggmbiaaDoorQG
import Derived.Test.YtlofoklfggmbiaaDoorRK
import Derived.Test.YtlofoklfggmbiaaDoorUB
namespace Go.Proofs.YtlofoklfggmbiaaDoor
open Go.RowKit

/-- A bit, as many steps on as its place: 1. -/
theorem tN_pow : ∀ n, tN n (2 ^ n) = 1
 | 0 => rfl
 | n + 1 => by
   have h : tN (1 + n) (2 ^ (n + 1)) = tN n (tN 1 (2 ^ (n + 1))) := tN_add _ 1 n
   rw [Nat.add_comm 1 n] at h
   rw [h, show tN 1 (2 ^ (n + 1)) = t1 (2 * 2 ^ n) by rw [Nat.pow_succ, Nat.mul_comm]; rfl, t1_even, tN_pow n]
theorem tN_one {m n : Nat} (h : n ≤ m) : tN m (2 ^ n) = tN (m - n) 1 := by
 have h1 := tN_add (2 ^ n) n (m - n)
 rw [tN_pow, show n + (m - n) = m by omega] at h1
 exact h1
theorem sB_split (s d c : Nat) : sB (s ^^^ d) c = sB s c ^^^ tN 8 d := by
 rw [← t8_sB, ← t8_sB, show s ^^^ d ^^^ c = (s ^^^ c) ^^^ d by ac_rfl, tN_xor]
theorem sB_turn (s c m : Nat) : sB s (c ^^^ m) = sB s c ^^^ tN 8 m := by
 rw [← t8_sB, ← t8_sB, show s ^^^ (c ^^^ m) = (s ^^^ c) ^^^ m by ac_rfl, tN_xor]
theorem crcN_split (t : List Int) (s d : Nat) : crcN (s ^^^ d) t = crcN s t ^^^ tN (8 * t.length) d := by
 induction t generalizing s d with
 | nil => rfl
 | cons c t ih =>
   show crcN (sB (s ^^^ d) c.toNat) t = crcN (sB s c.toNat) t ^^^ _
   rw [sB_split, ih, ← tN_add, List.length_cons, show 8 + 8 * t.length = 8 * (t.length + 1) by omega]
/-- One bit of a byte string is turned over. -/
def flipped (xs : List Int) (p j : Nat) : List Int := xs.set p (((xs.getD p 0).toNat ^^^ 2 ^ j : Nat) : Int)
theorem crc_flip (xs : List Int) (r p j : Nat) (hp : p < xs.length) (hj : j < 8) : crcN r (flipped xs p j) = crcN r xs ^^^ tN (8 * (xs.length - p) - j) 1 := by
 induction xs generalizing r p with
 | nil => simp at hp
 | cons c t ih =>
   cases p with
   | zero =>
     show crcN (sB r (((c.toNat ^^^ 2 ^ j : Nat) : Int)).toNat) t = crcN (sB r c.toNat) t ^^^ _
     rw [Int.toNat_natCast, sB_turn, crcN_split, ← tN_add, tN_one (by omega)]
     congr 2
     simp only [List.length_cons]
     omega
   | succ q =>
     have h1 : flipped (c :: t) (q + 1) j = c :: flipped t q j := rfl
     rw [h1]
     show crcN (sB r c.toNat) (flipped t q j) = crcN (sB r c.toNat) t ^^^ _
     rw [ih (sB r c.toNat) q (by simpa using hp)]
     congr 2
     simp only [List.length_cons]
     omega
end Go.Proofs.YtlofoklfggmbiaaDoor

namespace Go.Proofs.YtlofoklfggmbiaaDoor
open Go.RowKit Go.Maps

theorem tN8_up (m : Nat) : tN 8 (256 * m) = m := by
 show t1 (t1 (t1 (t1 (t1 (t1 (t1 (t1 (256 * m)))))))) = m
 rw [show 256 * m = 2 * (2 * (2 * (2 * (2 * (2 * (2 * (2 * m))))))) by omega]
 simp only [t1_even]
theorem byte_xor (v : Nat) : v % 256 ^^^ 256 * (v / 256) = v := by
 refine Nat.eq_of_testBit_eq fun i => ?_
 rw [Nat.testBit_xor, show 256 = 2 ^ 8 from rfl, Nat.testBit_mod_two_pow, Nat.testBit_two_pow_mul, Nat.testBit_div_two_pow]
 by_cases h : i < 8
 · have h2 : ¬ 8 ≤ i := by omega
   simp [h, h2]
 · have h2 : 8 ≤ i := by omega
   simp [h, h2, show i - 8 + 8 = i by omega]
/-- The sum over so many bytes of a number, low ones first. -/
theorem crc_num : ∀ (n s v : Nat), v < 2 ^ (8 * n) → crcN s (fB (v : Int) n) = tN (8 * n) (s ^^^ v)
 | 0, s, v, h => by
   have h0 : v = 0 := by simpa using h
   subst h0
   show s = s ^^^ 0
   rw [Nat.xor_zero]
 | n + 1, s, v, h => by
   have e1 : (v : Int) % 256 = ((v % 256 : Nat) : Int) := by omega
   have e2 : (v : Int) / 256 = ((v / 256 : Nat) : Int) := by omega
   rw [fB_consC, e1, e2]
   show crcN (sB s (((v % 256 : Nat) : Int)).toNat) (fB ((v / 256 : Nat) : Int) n) = _
   have hv : v / 256 < 2 ^ (8 * n) := by
    rw [show 8 * (n + 1) = 8 * n + 8 by omega, Nat.pow_add] at h
    omega
   rw [Int.toNat_natCast, crc_num n _ _ hv, ← t8_sB, show tN 8 (s ^^^ v % 256) ^^^ v / 256 = tN 8 (s ^^^ v % 256) ^^^ tN 8 (256 * (v / 256)) by rw [tN8_up], ← tN_xor, Nat.xor_assoc, byte_xor, ← tN_add, show 8 + 8 * n = 8 * (n + 1) by omega]
/-- What the sum of a whole sector is. -/
theorem sec_res {hs ps : List Int} (place next : Int) (hx : ∀ x ∈ hdL hs place next ps, 0 ≤ x ∧ x ≤ 255) : crcN 4294967295 (secL hs place next ps) = tN 32 4294967295 := by
 unfold secL
 rw [crcN_append]
 have hl : crcN 4294967295 (hdL hs place next ps) < 2 ^ 32 := crcN_lt (by decide) hx
 have e : sumOf [hdL hs place next ps] = ((4294967295 ^^^ crcN 4294967295 (hdL hs place next ps) : Nat) : Int) := rfl
 rw [e, crc_num 4 _ _ (by show _ < 2 ^ 32; exact Nat.xor_lt_two_pow (by decide) hl), Nat.xor_comm 4294967295, ← Nat.xor_assoc, Nat.xor_self, Nat.zero_xor]
theorem crc_turnB {s : List Int} {a : Nat} (h : a < 8 * s.length) (r : Nat) : crcN r (turnB s a) = crcN r s ^^^ tN (8 * s.length - a) 1 := by
 have h1 := crc_flip s r (a / 8) (a % 8) (by omega) (by omega)
 rw [show 8 * (s.length - a / 8) - a % 8 = 8 * s.length - a by omega] at h1
 exact h1
theorem turnB_twice {s : List Int} (h : IsSec s) {a : Nat} (ha : a < 4096) : turnB (turnB s a) a = s := by
 have hl := h.1
 have hp : a / 8 < s.length := by omega
 have h0 : 0 ≤ s.getD (a / 8) 0 := by
  rw [List.getD_eq_getElem?_getD, List.getElem?_eq_getElem hp]
  exact (h.2 _ (List.getElem_mem hp)).1
 unfold turnB
 rw [List.set_set]
 have h1 : (s.set (a / 8) (Int.ofNat ((s.getD (a / 8) 0).toNat ^^^ 2 ^ (a % 8)))).getD (a / 8) 0 = Int.ofNat ((s.getD (a / 8) 0).toNat ^^^ 2 ^ (a % 8)) := by
  rw [List.getD_eq_getElem?_getD, List.getElem?_set_self hp]; rfl
 rw [h1, show (Int.ofNat ((s.getD (a / 8) 0).toNat ^^^ 2 ^ (a % 8))).toNat = (s.getD (a / 8) 0).toNat ^^^ 2 ^ (a % 8) from rfl, Nat.xor_assoc, Nat.xor_self, Nat.xor_zero, show Int.ofNat (s.getD (a / 8) 0).toNat = s.getD (a / 8) 0 from Int.toNat_of_nonneg h0, List.getD_eq_getElem?_getD, List.getElem?_eq_getElem hp]
 exact List.set_getElem_self hp
theorem sound_res {b hs : List Int} {le place next : Int} (h : SoundP b hs le place next) (hb : IsSec b) : crcN 4294967295 b = tN 32 4294967295 := by
 obtain ⟨_, _, _, e⟩ := h
 have hx : ∀ x ∈ hdL hs place next ((b.drop 28).take (cntI le place).toNat), 0 ≤ x ∧ x ≤ 255 := fun x hx => hb.2 x (by rw [e]; unfold secL; exact List.mem_append_left _ hx)
 have h1 := sec_res place next hx
 rw [← e] at h1
 exact h1
theorem t1_ne {x : Nat} (h : x ≠ 0) (hl : x < 2 ^ 32) : t1 x ≠ 0 ∧ t1 x < 2 ^ 32 := by
 unfold t1
 split
 · refine ⟨fun e => ?_, Nat.xor_lt_two_pow (by omega) (by decide)⟩
   have e2 := congrArg (· ^^^ 3988292384) e
   simp only [Nat.xor_assoc, Nat.xor_self, Nat.xor_zero, Nat.zero_xor] at e2
   omega
 · exact ⟨by omega, by omega⟩
theorem tN_ne : ∀ (n : Nat) {x : Nat}, x ≠ 0 → x < 2 ^ 32 → tN n x ≠ 0 ∧ tN n x < 2 ^ 32
 | 0, _, h, hl => ⟨h, hl⟩
 | n + 1, x, h, hl => by
   have h1 := t1_ne h hl
   have e : tN (n + 1) x = tN n (t1 x) := by rw [Nat.add_comm, tN_add]; rfl
   rw [e]
   exact tN_ne n h1.1 h1.2
theorem tN_3774 : tN 3774 1 ≠ 0 := (tN_ne 3774 (by decide) (by decide)).1
/-- The bit that is turned over. -/
theorem turned_unsound {b hs hs' : List Int} {le place next le' place' next' : Int} (h : SoundP b hs le place next) (hb : IsSec b) : ¬ SoundP (turnB b 322) hs' le' place' next' := fun h2 => by
 have e1 := sound_res h hb
 have e2 := sound_res h2 (turnB_is hb (by omega))
 rw [crc_turnB (by rw [hb.1]; omega), e1, hb.1] at e2
 have e3 : tN 32 4294967295 ^^^ (tN 32 4294967295 ^^^ tN (8 * 512 - 322) 1) = tN 32 4294967295 ^^^ tN 32 4294967295 := by rw [e2]
 rw [← Nat.xor_assoc, Nat.xor_self, Nat.zero_xor] at e3
 exact tN_3774 e3
theorem turnB_322 (s : List Int) : turnB s 322 = s.set 40 (Int.ofNat ((s.getD 40 0).toNat ^^^ 4)) := rfl
end Go.Proofs.YtlofoklfggmbiaaDoor

namespace Go.Proofs.YtlofoklfggmbiaaDoor
open Go.RowKit Go.Maps

/-- What lies there in the n-th turn; at its head. -/
def spN (X : List Int) (n : Nat) : List Int := if n = 1 then turnB X 322 else X
def spH (X : List Int) (n : Nat) : List Int := if n = 2 then turnB X 322 else X
theorem spH_succ (X : List Int) {n : Nat} (h : n < 3) : spH X (n + 1) = spN X n := by
 unfold spH spN
 rcases (by omega : n = 0 ∨ n = 1 ∨ n = 2) with rfl | rfl | rfl <;> rfl
theorem spN_is {X : List Int} (h : IsSec X) (n : Nat) : IsSec (spN X n) := by
 unfold spN
 split
 · exact turnB_is h (by omega)
 · exact h
theorem spH_is {X : List Int} (h : IsSec X) (n : Nat) : IsSec (spH X n) := by
 unfold spH
 split
 · exact turnB_is h (by omega)
 · exact h
theorem spN_flip {X : List Int} (h : IsSec X) {n : Nat} (h0 : 0 < n) (h3 : n < 3) : spN X n = turnB (spH X n) 322 := by
 unfold spH spN
 rcases (by omega : n = 1 ∨ n = 2) with rfl | rfl
 · rfl
 · exact (turnB_twice h (by omega)).symm
theorem spN_sound {X hs : List Int} {le place next : Int} (h : SoundP X hs le place next) (hX : IsSec X) (n : Nat) : decide (SoundP (spN X n) hs le place next) = decide (n ≠ 1) := by
 unfold spN
 by_cases e : n = 1
 · rw [if_pos e, decide_eq_false (turned_unsound h hX), decide_eq_false (fun h => h e)]
 · rw [if_neg e, decide_eq_true h, decide_eq_true e]
theorem OwnR.shapeA {w : World} {B : Nat} {v : Value} {l : List RfT} (h : OwnR w B v l) : ∃ a c, v = .slice a l.length c ∧ l.length ≤ c ∧ c ≤ 9223372036854775807 := by
 rcases h.2.2 with ⟨rfl, h1⟩ | ⟨g, cap, cur, rfl, hB, hg, hle, hm, _⟩
 · exact ⟨none, 0, by rw [h1], by omega, by omega⟩
 · exact ⟨_, cap, rfl, hle, by simpa [maxLen] using hm⟩
section
variable {w W W' : World} {S p gl gm m g gw gk N : Nat} {V : Nat → Value} {D : AD} {ws : List Nat} {room rv bv : Value} {xs : List Int} {us : List Value} {C : List Chn} {bs : List Int} {gx : Nat}
/-- A sector beside it all. -/
structure Ax (w W : World) (S p gl gm : Nat) (V : Nat → Value) (D : AD) (m g gw : Nat) (ws : List Nat) (gk : Nat) (rv bv : Value) (us : List Value) (C : List Chn) (gx : Nat) (X : List Int) : Prop where
 ag : ∃ room xs N, Ag w W S p gl gm V D m g gw ws gk room xs N rv bv us C
 ax : Arr W gx 118 (u8V X)
 lo : S ≤ gx
 ap : ∀ b, Ft p gl gm V b → b ≠ gx
theorem Ax.below {X : List Int} (h : Ax w W S p gl gm V D m g gw ws gk rv bv us C gx X) (hb : Below W.heap.size W W') : Ax w W' S p gl gm V D m g gw ws gk rv bv us C gx X := by
 obtain ⟨room, xs, N, q⟩ := h.ag
 exact ⟨⟨room, xs, N, q.below hb⟩, h.ax.below hb, h.lo, h.ap⟩
theorem Ax.flip {X Y : List Int} (h : Ax w W S p gl gm V D m g gw ws gk rv bv us C gx X) (hu : Up (fun b => b = gx) W W') (hY : Arr W' gx 118 (u8V Y)) : Ax w W' S p gl gm V D m g gw ws gk rv bv us C gx Y := by
 obtain ⟨room, xs, N, q⟩ := h.ag
 have hne : ∀ {b : Nat} {t : TypeId}, Ty W b t → t ≠ 118 → ¬ b = gx := fun hb ht e => ht (hb.one (e ▸ h.ax.ty))
 exact ⟨⟨room, xs, N, q.next hu (fun b e => by have e : b = gx := e; rw [e]; exact h.lo) (fun b hb => hne (q.rr.ty hb).1 (by decide)) (fun b hb => hne (q.tyB hb).1 (by decide)) (q.dk.up hu (fun b hb => h.ap b hb)) q.ft (q.sp.up hu (hne q.tyG.1 (by decide)) (hne q.tyG.2 (by decide))) (q.ds.up hu (hne q.tyK (by decide)) (fun b hb => hne (q.tyO hb).1 (by decide)))⟩, hY, h.lo, h.ap⟩
theorem Ax.lend {X : List Int} (h : Ax w W S p gl gm V D m g gw ws gk rv bv us C gx X) (hX : IsSec X) :
 Calls Tryd.prog 33 #[.pointer (some ⟨gk, 0, none⟩), .slice (some ⟨gx, 0, none⟩) 512 512] W fun e w' => ∃ g2 R c, e = .returned (.slice (some ⟨g2, 0, none⟩) 512 c) ∧ Hid (Ag w w' S p gl gm V D m g gw ws gk (.slice (some ⟨g2, 0, none⟩) R c) (lentL X R) X.length rv bv us C ∧ X.length ≤ R ∧ IsB w' (.slice (some ⟨g2, 0, none⟩) 512 c) X ∧ Arr w' gx 118 (u8V X)) := by
 obtain ⟨room, xs, N, q⟩ := h.ag
 have hx : ∀ W', Up (fun b => b = gk ∨ room.ownBlock = some b) W W' → Arr W' gx 118 (u8V X) := fun W' hu => h.ax.up hu (q.deskF h.ax.ty (by decide) (by decide))
 refine (ag_lend q (fun W' hu => isB_sector (hx W' hu) hX) (by rw [hX.1]; omega)).mono ?_
 rintro e w' ⟨g2, R, c, rfl, H⟩
 have hl := H.out.1.ds.lent H.out.2.1
 rw [hX.1] at hl ⊢
 exact ⟨g2, R, c, rfl, hide ⟨by have z := H.out.1; rw [hX.1] at z; exact z, by have z := H.out.2.1; rw [hX.1] at z; exact z, hl, hx w' H.out.2.2⟩⟩
theorem Ax.wipe {X : List Int} {g2 R c : Nat} (h : Ag w W S p gl gm V D m g gw ws gk (.slice (some ⟨g2, 0, none⟩) R c) xs N rv bv us C) (hx : Arr W gx 118 (u8V X)) (hl : S ≤ gx) (ha : ∀ b, Ft p gl gm V b → b ≠ gx) :
 Calls Tryd.prog 35 #[.pointer (some ⟨gk, 0, none⟩)] W fun e w' => (∃ r, e = .returned r) ∧ Hid (Ax w w' S p gl gm V D m g gw ws gk rv bv us C gx X) := by
 refine (ag_wipe h).mono ?_
 rintro e w' ⟨hr, H⟩
 obtain ⟨⟨ys, q⟩, hu⟩ := H.out
 exact ⟨hr, hide ⟨⟨_, _, _, q⟩, hx.up hu (fun e => h.deskF hx.ty (by decide) (by decide) (e.imp id (fun e => by rw [e]; rfl))), hl, ha⟩⟩
theorem Ax.flipped {X : List Int} (hX : IsSec X) (h : Arr W gx 118 (u8V X)) : ∃ y : Int, X.getD 40 0 = y ∧ W.cell? ⟨gx, 40, none⟩ = some (.int .u8 y) ∧ W.frozen? ⟨gx, 40, none⟩ = false ∧ ∃ z : Int, bits .xor .u8 y 4 = z ∧ Arr (W.setCell ⟨gx, 40, none⟩ (.int .u8 z)) gx 118 (u8V (turnB X 322)) := by
 have hl : 40 < X.length := by rw [hX.1]; omega
 have hx := hX.2 _ (List.getElem_mem hl)
 have e : X.getD 40 0 = X[40] := by rw [List.getD_eq_getElem?_getD, List.getElem?_eq_getElem hl]; rfl
 have hb := u8_xor X[40] 4 hx.1 (by omega) (by decide) (by decide)
 refine ⟨X[40], e, arr_cell h (by unfold u8V; rw [List.getElem?_map, List.getElem?_eq_getElem hl]; rfl), frozen_of_row W gx 40 _ _ h, _, hb, ?_⟩
 have z := heap_setCell_same W gx 40 _ _ (.int .u8 (((X[40].toNat ^^^ (4 : Int).toNat : Nat) : Int))) h
 rw [turnB_322, e]
 unfold u8V
 rw [List.map_set]
 rw [List.setIfInBounds_toArray] at z
 exact z
end
end Go.Proofs.YtlofoklfggmbiaaDoor

/- Blocks of one and the same content, reckoned in natural numbers: what the kernel can run. -/
import Derived.Test.YtpljlejmcojlaaaDoorShaKeys
namespace Go.Proofs.YtpljlejmcojlaaaDoor
open Go.RowKit

def forceN {α : Type} (n : Nat) (c : Nat → α) : α := Nat.rec (c 0) (fun m _ => c (Nat.succ m)) n
theorem forceN_eq {α : Type} (n : Nat) (c : Nat → α) : forceN n c = c n := by cases n <;> rfl
structure N8 where
  a : Nat
  b : Nat
  c : Nat
  d : Nat
  e : Nat
  f : Nat
  g : Nat
  h : Nat
structure N8.ok (s : N8) : Prop where
  a : s.a < 4294967296
  b : s.b < 4294967296
  c : s.c < 4294967296
  d : s.d < 4294967296
  e : s.e < 4294967296
  f : s.f < 4294967296
  g : s.g < 4294967296
  h : s.h < 4294967296
def N8.toH (s : N8) : H8 := ⟨s.a, s.b, s.c, s.d, s.e, s.f, s.g, s.h⟩
def s1N (e : Nat) : Nat := forceN (Nat.mul e (nat_lit 4294967297)) fun E => Nat.xor (Nat.xor (Nat.div E (nat_lit 64)) (Nat.div E (nat_lit 2048))) (Nat.div E (nat_lit 33554432))
def s0N (e : Nat) : Nat := forceN (Nat.mul e (nat_lit 4294967297)) fun E => Nat.xor (Nat.xor (Nat.div E (nat_lit 4)) (Nat.div E (nat_lit 8192))) (Nat.div E (nat_lit 4194304))
def chN (e f g : Nat) : Nat := Nat.xor (Nat.land e f) (Nat.land (Nat.xor (nat_lit 4294967295) e) g)
def maN (a b c : Nat) : Nat := Nat.xor (Nat.xor (Nat.land a b) (Nat.land a c)) (Nat.land b c)
def goN {α : Type} (K : Nat → Nat → Nat → Nat → Nat → Nat → Nat → Nat → α) : List Nat → Nat → Nat → Nat → Nat → Nat → Nat → Nat → Nat → α
  | [], a, b, c, d, e, f, g, h => K a b c d e f g h
  | kw :: t, a, b, c, d, e, f, g, h =>
    forceN (Nat.add (Nat.add h (s1N e)) (Nat.add (chN e f g) kw)) fun x =>
    forceN (Nat.mod (Nat.add d x) (nat_lit 4294967296)) fun ne =>
    forceN (Nat.mod (Nat.add (Nat.add x (s0N a)) (maN a b c)) (nat_lit 4294967296)) fun na =>
    goN K t na a b c ne e f g
def xN (s : N8) (kw : Nat) : Nat := s.h + s1N s.e + (chN s.e s.f s.g + kw)
def stepN (s : N8) (kw : Nat) : N8 := ⟨(xN s kw + s0N s.a + maN s.a s.b s.c) % 4294967296, s.a, s.b, s.c, (s.d + xN s kw) % 4294967296, s.e, s.f, s.g⟩
theorem goN_eq {α : Type} (K : Nat → Nat → Nat → Nat → Nat → Nat → Nat → Nat → α) : ∀ (l : List Nat) (a b c d e f g h : Nat), goN K l a b c d e f g h = K (l.foldl stepN ⟨a, b, c, d, e, f, g, h⟩).a (l.foldl stepN ⟨a, b, c, d, e, f, g, h⟩).b (l.foldl stepN ⟨a, b, c, d, e, f, g, h⟩).c (l.foldl stepN ⟨a, b, c, d, e, f, g, h⟩).d (l.foldl stepN ⟨a, b, c, d, e, f, g, h⟩).e (l.foldl stepN ⟨a, b, c, d, e, f, g, h⟩).f (l.foldl stepN ⟨a, b, c, d, e, f, g, h⟩).g (l.foldl stepN ⟨a, b, c, d, e, f, g, h⟩).h
  | [], _, _, _, _, _, _, _, _ => rfl
  | kw :: t, a, b, c, d, e, f, g, h => by
    rw [goN, forceN_eq, forceN_eq, forceN_eq, goN_eq K t]
    rfl
theorem or_sum (x m i : Nat) (h : x < 2 ^ i) : x ||| (m * 2 ^ i) = x + m * 2 ^ i := by
  have := Nat.two_pow_add_eq_or_of_lt h m
  rw [Nat.mul_comm m, Nat.or_comm, ← this, Nat.add_comm]
theorem rot_nat (x n : Nat) (hx : x < 4294967296) (hn : n = 6 ∨ n = 11 ∨ n = 25 ∨ n = 2 ∨ n = 13 ∨ n = 22) : rot (x : Int) n = ((x * 4294967297 / 2 ^ n % 4294967296 : Nat) : Int) := by
  unfold rot
  have e1 : (x : Int) / 2 ^ n = ((x / 2 ^ n : Nat) : Int) := by simp
  have e2 : (x : Int) * 2 ^ (32 - n) % 4294967296 = ((x * 2 ^ (32 - n) % 4294967296 : Nat) : Int) := by simp
  rw [e1, e2, u32_or_nat _ _ (Nat.lt_of_le_of_lt (Nat.div_le_self _ _) hx) (by omega)]
  congr 1
  rcases hn with rfl | rfl | rfl | rfl | rfl | rfl
  · have h := or_sum (x / 64) (x % 64) 26 (show x / 64 < 67108864 by omega)
    simp only [Nat.reducePow, Nat.reduceSub] at h ⊢
    have q1 : x * 4294967297 / 64 = x * 67108864 + x / 64 := by omega
    have q2 : x * 67108864 = x / 64 * 4294967296 + x % 64 * 67108864 := by omega
    rw [show x * 67108864 % 4294967296 = x % 64 * 67108864 by omega, h, q1, q2]
    omega
  · have h := or_sum (x / 2048) (x % 2048) 21 (show x / 2048 < 2097152 by omega)
    simp only [Nat.reducePow, Nat.reduceSub] at h ⊢
    have q1 : x * 4294967297 / 2048 = x * 2097152 + x / 2048 := by omega
    have q2 : x * 2097152 = x / 2048 * 4294967296 + x % 2048 * 2097152 := by omega
    rw [show x * 2097152 % 4294967296 = x % 2048 * 2097152 by omega, h, q1, q2]
    omega
  · have h := or_sum (x / 33554432) (x % 33554432) 7 (show x / 33554432 < 128 by omega)
    simp only [Nat.reducePow, Nat.reduceSub] at h ⊢
    have q1 : x * 4294967297 / 33554432 = x * 128 + x / 33554432 := by omega
    have q2 : x * 128 = x / 33554432 * 4294967296 + x % 33554432 * 128 := by omega
    rw [show x * 128 % 4294967296 = x % 33554432 * 128 by omega, h, q1, q2]
    omega
  · have h := or_sum (x / 4) (x % 4) 30 (show x / 4 < 1073741824 by omega)
    simp only [Nat.reducePow, Nat.reduceSub] at h ⊢
    have q1 : x * 4294967297 / 4 = x * 1073741824 + x / 4 := by omega
    have q2 : x * 1073741824 = x / 4 * 4294967296 + x % 4 * 1073741824 := by omega
    rw [show x * 1073741824 % 4294967296 = x % 4 * 1073741824 by omega, h, q1, q2]
    omega
  · have h := or_sum (x / 8192) (x % 8192) 19 (show x / 8192 < 524288 by omega)
    simp only [Nat.reducePow, Nat.reduceSub] at h ⊢
    have q1 : x * 4294967297 / 8192 = x * 524288 + x / 8192 := by omega
    have q2 : x * 524288 = x / 8192 * 4294967296 + x % 8192 * 524288 := by omega
    rw [show x * 524288 % 4294967296 = x % 8192 * 524288 by omega, h, q1, q2]
    omega
  · have h := or_sum (x / 4194304) (x % 4194304) 10 (show x / 4194304 < 1024 by omega)
    simp only [Nat.reducePow, Nat.reduceSub] at h ⊢
    have q1 : x * 4294967297 / 4194304 = x * 1024 + x / 4194304 := by omega
    have q2 : x * 1024 = x / 4194304 * 4294967296 + x % 4194304 * 1024 := by omega
    rw [show x * 1024 % 4294967296 = x % 4194304 * 1024 by omega, h, q1, q2]
    omega
theorem xor_mod32 (x y : Nat) : (x ^^^ y) % 4294967296 = (x % 4294967296) ^^^ (y % 4294967296) := Nat.xor_mod_two_pow (n := 32)
theorem xor_lt32 {x y : Nat} (hx : x < 4294967296) (hy : y < 4294967296) : x ^^^ y < 4294967296 := Nat.xor_lt_two_pow (n := 32) hx hy
theorem and_lt32 {x y : Nat} (hx : x < 4294967296) : x &&& y < 4294967296 := Nat.lt_of_le_of_lt Nat.and_le_left hx
theorem sig1_nat (x : Nat) (hx : x < 4294967296) : Sig1 (x : Int) = ((s1N x % 4294967296 : Nat) : Int) := by
  unfold Sig1
  rw [rot_nat x 6 hx (by simp), rot_nat x 11 hx (by simp), rot_nat x 25 hx (by simp), u32_xor_nat _ _ (by omega) (by omega), u32_xor_nat _ _ (xor_lt32 (by omega) (by omega)) (by omega)]
  have e : s1N x = (x * 4294967297 / 2 ^ 6 ^^^ x * 4294967297 / 2 ^ 11) ^^^ x * 4294967297 / 2 ^ 25 := by rw [s1N, forceN_eq]; rfl
  rw [e, xor_mod32, xor_mod32]
theorem sig0_nat (x : Nat) (hx : x < 4294967296) : Sig0 (x : Int) = ((s0N x % 4294967296 : Nat) : Int) := by
  unfold Sig0
  rw [rot_nat x 2 hx (by simp), rot_nat x 13 hx (by simp), rot_nat x 22 hx (by simp), u32_xor_nat _ _ (by omega) (by omega), u32_xor_nat _ _ (xor_lt32 (by omega) (by omega)) (by omega)]
  have e : s0N x = (x * 4294967297 / 2 ^ 2 ^^^ x * 4294967297 / 2 ^ 13) ^^^ x * 4294967297 / 2 ^ 22 := by rw [s0N, forceN_eq]; rfl
  rw [e, xor_mod32, xor_mod32]
theorem max32 : IntKind.u32.max = ((4294967295 : Nat) : Int) := by decide
theorem step_toH {s : N8} (hs : s.ok) (k w : Int) (kw : Nat) (hk : (k + w) % 4294967296 = (kw : Int) % 4294967296) : s.toH.step k w = (stepN s kw).toH := by
  have hx : s.toH.x k w = ((xN s kw % 4294967296 : Nat) : Int) := by
    unfold H8.x N8.toH
    simp only
    rw [sig1_nat _ hs.e, u32_and_nat _ _ hs.e hs.f, max32, u32_xor_nat _ _ (by decide) hs.e, u32_and_nat _ _ (xor_lt32 (by decide) hs.e) hs.g, u32_xor_nat _ _ (and_lt32 hs.e) (and_lt32 (xor_lt32 (by decide) hs.e))]
    have e : xN s kw = s.h + s1N s.e + ((s.e &&& s.f ^^^ (4294967295 ^^^ s.e) &&& s.g) + kw) := rfl
    rw [e]
    generalize s.e &&& s.f ^^^ (4294967295 ^^^ s.e) &&& s.g = z
    omega
  have hy : s.toH.y = (((s0N s.a + maN s.a s.b s.c) % 4294967296 : Nat) : Int) := by
    unfold H8.y N8.toH
    simp only
    rw [sig0_nat _ hs.a, u32_and_nat _ _ hs.a hs.b, u32_and_nat _ _ hs.a hs.c, u32_and_nat _ _ hs.b hs.c, u32_xor_nat _ _ (and_lt32 hs.a) (and_lt32 hs.a), u32_xor_nat _ _ (xor_lt32 (and_lt32 hs.a) (and_lt32 hs.a)) (and_lt32 hs.b)]
    have e : maN s.a s.b s.c = (s.a &&& s.b ^^^ s.a &&& s.c ^^^ s.b &&& s.c) := rfl
    rw [e]
    generalize (s.a &&& s.b ^^^ s.a &&& s.c ^^^ s.b &&& s.c) = z
    omega
  unfold H8.step
  rw [hx, hy]
  unfold stepN N8.toH
  simp only [H8.mk.injEq]
  refine ⟨by omega, trivial, trivial, trivial, by omega, trivial, trivial, trivial⟩
theorem stepN_ok {s : N8} (hs : s.ok) (kw : Nat) : (stepN s kw).ok := ⟨Nat.mod_lt _ (by decide), hs.a, hs.b, hs.c, Nat.mod_lt _ (by decide), hs.e, hs.f, hs.g⟩
theorem foldN_ok : ∀ (l : List Nat) {s : N8}, s.ok → (l.foldl stepN s).ok
  | [], _, h => h
  | kw :: t, _, h => foldN_ok t (stepN_ok h kw)
def plusN (s t : N8) : N8 := ⟨(s.a + t.a) % 4294967296, (s.b + t.b) % 4294967296, (s.c + t.c) % 4294967296, (s.d + t.d) % 4294967296, (s.e + t.e) % 4294967296, (s.f + t.f) % 4294967296, (s.g + t.g) % 4294967296, (s.h + t.h) % 4294967296⟩
theorem plusN_ok (s t : N8) : (plusN s t).ok := ⟨Nat.mod_lt _ (by decide), Nat.mod_lt _ (by decide), Nat.mod_lt _ (by decide), Nat.mod_lt _ (by decide), Nat.mod_lt _ (by decide), Nat.mod_lt _ (by decide), Nat.mod_lt _ (by decide), Nat.mod_lt _ (by decide)⟩
theorem plus_toH (s t : N8) : s.toH.plus t.toH = (plusN s t).toH := by
  unfold H8.plus plusN N8.toH
  simp
/-- A block whose words and the table's are laid together. -/
def kwsOk (l : List Nat) (bs : List Int) : Prop := l.length = 64 ∧ ∀ i, i < 64 → (kTab.getD i 0 + (sched bs 64).getD i 0) % 4294967296 = ((l.getD i 0 : Nat) : Int) % 4294967296
theorem rounds_toH {l : List Nat} {bs : List Int} (hl : kwsOk l bs) {s : N8} (hs : s.ok) : ∀ n, n ≤ 64 → rounds8 s.toH (sched bs 64) n = ((l.take n).foldl stepN s).toH
  | 0, _ => rfl
  | n + 1, h => by
    have hn : n < l.length := by rw [hl.1]; omega
    rw [rounds8, rounds_toH hl hs n (by omega), List.take_succ_eq_append_getElem hn, List.foldl_append]
    have hk := hl.2 n (by omega)
    rw [List.getD_eq_getElem?_getD (l := l), List.getElem?_eq_getElem hn] at hk
    exact step_toH (foldN_ok _ hs) _ _ _ hk
def blkN (l : List Nat) (s : N8) : N8 := plusN s (l.foldl stepN s)
theorem blk_toH {l : List Nat} {bs : List Int} (hl : kwsOk l bs) {s : N8} (hs : s.ok) : blockF s.toH bs = (blkN l s).toH := by
  rw [blockF, rounds_toH hl hs 64 (Nat.le_refl _), List.take_of_length_le (by rw [hl.1]; exact Nat.le_refl _), plus_toH]
  rfl
/-- n blocks of the same content. -/
def iterN (l : List Nat) : Nat → N8 → N8
  | 0, s => s
  | n + 1, s => iterN l n (blkN l s)
theorem iterN_add (l : List Nat) : ∀ (m n : Nat) (s : N8), iterN l (m + n) s = iterN l n (iterN l m s)
  | 0, n, s => by rw [Nat.zero_add]; rfl
  | m + 1, n, s => by rw [Nat.add_right_comm, iterN, iterN, iterN_add l m n]
theorem iterN_ok {l : List Nat} : ∀ (n : Nat) {s : N8}, s.ok → (iterN l n s).ok
  | 0, _, h => h
  | n + 1, _, _ => iterN_ok n (plusN_ok _ _)
def runC (l : List Nat) : Nat → Nat → Nat → Nat → Nat → Nat → Nat → Nat → Nat → N8
  | 0, a, b, c, d, e, f, g, h => ⟨a, b, c, d, e, f, g, h⟩
  | n + 1, a, b, c, d, e, f, g, h => goN (fun a' b' c' d' e' f' g' h' =>
     forceN (Nat.mod (Nat.add a a') (nat_lit 4294967296)) fun a2 => forceN (Nat.mod (Nat.add b b') (nat_lit 4294967296)) fun b2 => forceN (Nat.mod (Nat.add c c') (nat_lit 4294967296)) fun c2 => forceN (Nat.mod (Nat.add d d') (nat_lit 4294967296)) fun d2 =>
     forceN (Nat.mod (Nat.add e e') (nat_lit 4294967296)) fun e2 => forceN (Nat.mod (Nat.add f f') (nat_lit 4294967296)) fun f2 => forceN (Nat.mod (Nat.add g g') (nat_lit 4294967296)) fun g2 => forceN (Nat.mod (Nat.add h h') (nat_lit 4294967296)) fun h2 =>
     runC l n a2 b2 c2 d2 e2 f2 g2 h2) l a b c d e f g h
theorem runC_eq (l : List Nat) : ∀ (n : Nat) (a b c d e f g h : Nat), runC l n a b c d e f g h = iterN l n ⟨a, b, c, d, e, f, g, h⟩
  | 0, _, _, _, _, _, _, _, _ => rfl
  | n + 1, a, b, c, d, e, f, g, h => by
    rw [runC, goN_eq]
    simp only [forceN_eq]
    rw [runC_eq l n]
    rfl
/-- From one state to the next. -/
theorem iter_step {l : List Nat} {m n : Nat} {s t u : N8} (h : iterN l m s = t) (h2 : runC l n t.a t.b t.c t.d t.e t.f t.g t.h = u) : iterN l (m + n) s = u := by
  rw [iterN_add, h, ← h2, runC_eq]
def i8N : N8 := ⟨1779033703, 3144134277, 1013904242, 2773480762, 1359893119, 2600822924, 528734635, 1541459225⟩
theorem i8N_ok : i8N.ok := ⟨by decide, by decide, by decide, by decide, by decide, by decide, by decide, by decide⟩
/-- Blocks of one content, taken in one behind the other. -/
theorem absorb_iter {l : List Nat} {bs xs : List Int} (hl : kwsOk l bs) : ∀ n, (∀ j, j < n → (xs.drop (64 * j)).take 64 = bs) → absorbN init8 xs n = (iterN l n i8N).toH
  | 0, _ => rfl
  | n + 1, h => by
    rw [absorbN, absorb_iter hl n (fun j hj => h j (by omega)), h n (by omega), blk_toH hl (iterN_ok n i8N_ok), iterN_add l n 1]
    rfl
end Go.Proofs.YtpljlejmcojlaaaDoor

/-
  Arithmetic of 32 bits on natural numbers, and SHA-256 in these words. No statement about the program stands here.
-/
import Derived.WalkKit
import Derived.Laws.BitsAllLaws
namespace Go.Proofs.YtjdepjanijambaaDoor

def a32 (a b : Nat) : Nat := (a + b) % 4294967296
def x32 (a b : Nat) : Nat := (a % 4294967296) ^^^ (b % 4294967296)
def n32 (a b : Nat) : Nat := (a % 4294967296) &&& (b % 4294967296)
def o32 (a b : Nat) : Nat := (a % 4294967296) ||| (b % 4294967296)
def c32 (a : Nat) : Nat := x32 4294967295 a
def l32 (a n : Nat) : Nat := (a * 2 ^ n) % 4294967296
def s32 (a n : Nat) : Nat := a / 2 ^ n
/-- Turned by n bits, to the lower ones. -/
def rot (x n : Nat) : Nat := o32 (l32 x (32 - n)) (s32 x n)

theorem ofInt32 (a : Nat) : (BitVec.ofInt 32 (a : Int)).toNat = a % 4294967296 := by
  rw [BitVec.toNat_ofInt]
  omega
theorem ite_false' {α : Type} (p : Prop) [Decidable p] (a b : α) : (if (false && decide p) = true then a else b) = b := by simp
theorem wrap32_nat (a : Nat) : IntKind.u32.wrap (a : Int) = ((a % 4294967296 : Nat) : Int) := by
  rw [IntKind.wrap_u32']
  omega
theorem wrap_a32 (a b : Nat) : IntKind.u32.wrap ((a : Int) + (b : Int)) = ((a32 a b : Nat) : Int) := by
  rw [IntKind.wrap_u32']
  unfold a32
  omega
theorem mod32_lt (a : Nat) : a % 4294967296 < 4294967296 := Nat.mod_lt _ (by decide)
theorem xor_lt (a b : Nat) : (a % 4294967296) ^^^ (b % 4294967296) < 4294967296 := Nat.xor_lt_two_pow (n := 32) (mod32_lt a) (mod32_lt b)
theorem or_lt (a b : Nat) : (a % 4294967296) ||| (b % 4294967296) < 4294967296 := Nat.or_lt_two_pow (n := 32) (mod32_lt a) (mod32_lt b)
theorem and_lt (a b : Nat) : (a % 4294967296) &&& (b % 4294967296) < 4294967296 := Nat.and_lt_two_pow (n := 32) _ (mod32_lt b)
theorem bits_x32 (a b : Nat) : bits .xor .u32 (a : Int) (b : Int) = ((x32 a b : Nat) : Int) := by
  have h : bits .xor .u32 (a : Int) (b : Int) = IntKind.u32.wrap (((BitVec.ofInt 32 (a : Int) ^^^ BitVec.ofInt 32 (b : Int)).toNat : Nat) : Int) := rfl
  rw [h, BitVec.toNat_xor, ofInt32, ofInt32, wrap32_nat, Nat.mod_eq_of_lt (xor_lt a b)]
  rfl
theorem bits_o32 (a b : Nat) : bits .or .u32 (a : Int) (b : Int) = ((o32 a b : Nat) : Int) := by
  have h : bits .or .u32 (a : Int) (b : Int) = IntKind.u32.wrap (((BitVec.ofInt 32 (a : Int) ||| BitVec.ofInt 32 (b : Int)).toNat : Nat) : Int) := rfl
  rw [h, BitVec.toNat_or, ofInt32, ofInt32, wrap32_nat, Nat.mod_eq_of_lt (or_lt a b)]
  rfl
theorem bits_n32 (a b : Nat) : bits .and .u32 (a : Int) (b : Int) = ((n32 a b : Nat) : Int) := by
  have h : bits .and .u32 (a : Int) (b : Int) = IntKind.u32.wrap (((BitVec.ofInt 32 (a : Int) &&& BitVec.ofInt 32 (b : Int)).toNat : Nat) : Int) := rfl
  rw [h, BitVec.toNat_and, ofInt32, ofInt32, wrap32_nat, Nat.mod_eq_of_lt (and_lt a b)]
  rfl
theorem bits_c32 (a : Nat) : bits .xor .u32 4294967295 (a : Int) = ((c32 a : Nat) : Int) := bits_x32 4294967295 a
theorem o32_comm (a b : Nat) : o32 a b = o32 b a := Nat.or_comm _ _

theorem wrap_l32 (x : Nat) : IntKind.u32.wrap (IntKind.u32.wrap (x : Int) * 16777216) = ((l32 x 24 : Nat) : Int) ∧ IntKind.u32.wrap (IntKind.u32.wrap (x : Int) * 65536) = ((l32 x 16 : Nat) : Int) ∧ IntKind.u32.wrap (IntKind.u32.wrap (x : Int) * 256) = ((l32 x 8 : Nat) : Int) := by
  refine ⟨?_, ?_, ?_⟩
  all_goals
    rw [IntKind.wrap_u32', IntKind.wrap_u32']
    unfold l32
    omega
theorem o32_mod (a b : Nat) : o32 a (b % 4294967296) = o32 a b := by simp [o32]
/-- Eight words: the state. -/
structure S8 where
  a : Nat
  b : Nat
  c : Nat
  d : Nat
  e : Nat
  f : Nat
  g : Nat
  h : Nat

def S8.list (s : S8) : List Nat := [s.a, s.b, s.c, s.d, s.e, s.f, s.g, s.h]

/-- Words t1, t2 of a round, and the round. -/
def t1N (s : S8) (k w : Nat) : Nat := a32 (a32 (a32 (a32 s.h (x32 (x32 (rot s.e 6) (rot s.e 11)) (rot s.e 25))) (x32 (n32 s.e s.f) (n32 (c32 s.e) s.g))) k) w
def t2N (s : S8) : Nat := a32 (x32 (x32 (rot s.a 2) (rot s.a 13)) (rot s.a 22)) (x32 (x32 (n32 s.a s.b) (n32 s.a s.c)) (n32 s.b s.c))
def stepN (s : S8) (k w : Nat) : S8 := ⟨a32 (t1N s k w) (t2N s), s.a, s.b, s.c, a32 s.d (t1N s k w), s.e, s.f, s.g⟩
/-- The first n rounds. -/
def runN (K W : Nat → Nat) : Nat → S8 → S8
  | 0, s => s
  | n + 1, s => stepN (runN K W n s) (K n) (W n)
def addN (s v : S8) : S8 := ⟨a32 s.a v.a, a32 s.b v.b, a32 s.c v.c, a32 s.d v.d, a32 s.e v.e, a32 s.f v.f, a32 s.g v.g, a32 s.h v.h⟩

/-- The word of four bytes at 4 t. -/
def word4 (B : Nat → Nat) (t : Nat) : Nat := o32 (o32 (o32 (l32 (B (4 * t)) 24) (l32 (B (4 * t + 1)) 16)) (l32 (B (4 * t + 2)) 8)) (B (4 * t + 3))
def sg0 (x : Nat) : Nat := x32 (x32 (rot x 7) (rot x 18)) (s32 x 3)
def sg1 (y : Nat) : Nat := x32 (x32 (rot y 17) (rot y 19)) (s32 y 10)
/-- The word behind the words l, of which there are at least 16. -/
def nextW (l : List Nat) : Nat := a32 (a32 (a32 (l.getD (l.length - 16) 0) (sg0 (l.getD (l.length - 15) 0))) (l.getD (l.length - 7) 0)) (sg1 (l.getD (l.length - 2) 0))
/-- The first n words of a block. -/
def wordsN (B : Nat → Nat) : Nat → List Nat
  | 0 => []
  | n + 1 => wordsN B n ++ [if n < 16 then word4 B n else nextW (wordsN B n)]
theorem wordsN_length (B : Nat → Nat) : ∀ n, (wordsN B n).length = n
  | 0 => rfl
  | n + 1 => by simp [wordsN, wordsN_length B n]

/-- The constants of the rounds, and what the state begins with. -/
def Ktab : List Nat := [1116352408, 1899447441, 3049323471, 3921009573, 961987163, 1508970993, 2453635748, 2870763221, 3624381080, 310598401, 607225278, 1426881987, 1925078388, 2162078206, 2614888103, 3248222580, 3835390401, 4022224774, 264347078, 604807628, 770255983, 1249150122, 1555081692, 1996064986, 2554220882, 2821834349, 2952996808, 3210313671, 3336571891, 3584528711, 113926993, 338241895, 666307205, 773529912, 1294757372, 1396182291, 1695183700, 1986661051, 2177026350, 2456956037, 2730485921, 2820302411, 3259730800, 3345764771, 3516065817, 3600352804, 4094571909, 275423344, 430227734, 506948616, 659060556, 883997877, 958139571, 1322822218, 1537002063, 1747873779, 1955562222, 2024104815, 2227730452, 2361852424, 2428436474, 2756734187, 3204031479, 3329325298]
def First : S8 := ⟨1779033703, 3144134277, 1013904242, 2773480762, 1359893119, 2600822924, 528734635, 1541459225⟩

end Go.Proofs.YtjdepjanijambaaDoor

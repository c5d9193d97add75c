/- SHA-256 over lists of numbers, step by step as the program takes it. -/
import Derived.Test.YtpgjnmakpghamaaDoorDgWord
namespace Go.Proofs.YtpgjnmakpghamaaDoor
set_option linter.unusedVariables false

def add32 (a b : Nat) : Nat := (a + b) % 4294967296
theorem add32_lt (a b : Nat) : add32 a b < 4294967296 := Nat.mod_lt _ (by omega)

/-- The words of a block, i of its bytes taken in. -/
def packGo (l : List Nat) : Nat → List Nat
  | 0 => List.replicate 64 0
  | i + 1 => (packGo l i).set (i / 4) (((packGo l i).getD (i / 4) 0 * 256 % 4294967296) ||| l.getD i 0)
/-- The words of a block, 16 + k of them. -/
def schedGo (l : List Nat) : Nat → List Nat
  | 0 => packGo l 64
  | k + 1 => (schedGo l k).set (k + 16) (add32 (add32 (add32 (small1N ((schedGo l k).getD (k + 14) 0)) ((schedGo l k).getD (k + 9) 0)) (small0N ((schedGo l k).getD (k + 1) 0))) ((schedGo l k).getD k 0))
def schedN (l : List Nat) : List Nat := schedGo l 48

structure St where
  a : Nat
  b : Nat
  c : Nat
  d : Nat
  e : Nat
  f : Nat
  g : Nat
  h : Nat
def t1N (s : St) (k w : Nat) : Nat := add32 (add32 (add32 (add32 s.h (big1N s.e)) (chooseN s.e s.f s.g)) k) w
def t2N (s : St) : Nat := add32 (big0N s.a) (mostN s.a s.b s.c)
def rnd (s : St) (k w : Nat) : St := ⟨add32 (t1N s k w) (t2N s), s.a, s.b, s.c, add32 s.d (t1N s k w), s.e, s.f, s.g⟩
def rounds (k ws : List Nat) (s : St) : Nat → St
  | 0 => s
  | t + 1 => rnd (rounds k ws s t) (k.getD t 0) (ws.getD t 0)
def St.of (s : List Nat) : St := ⟨s.getD 0 0, s.getD 1 0, s.getD 2 0, s.getD 3 0, s.getD 4 0, s.getD 5 0, s.getD 6 0, s.getD 7 0⟩
def St.list (s : St) : List Nat := [s.a, s.b, s.c, s.d, s.e, s.f, s.g, s.h]
/-- The first i words of s, those of r added to them. -/
def plusGo (s r : List Nat) : Nat → List Nat
  | 0 => s
  | i + 1 => (plusGo s r i).set i (add32 ((plusGo s r i).getD i 0) (r.getD i 0))
/-- The state behind a block. -/
def mixedN (s blk k : List Nat) : List Nat := plusGo s (rounds k (schedN blk) (St.of s) 64).list 8

theorem mixed_none : mixedN H0 (128 :: List.replicate 63 0) K0 = [0xe3b0c442, 0x98fc1c14, 0x9afbf4c8, 0x996fb924, 0x27ae41e4, 0x649b934c, 0xa495991b, 0x7852b855] := by decide +kernel
end Go.Proofs.YtpgjnmakpghamaaDoor

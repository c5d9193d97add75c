/-
  NARROWER THAN 'FOR EVERY INPUT', by the rows' own cells (each row's printed sentence says how): DigestNames: laid · DigestCalls: laid · DigestNil: laid · DigestParts: laid · DigestSteps: laid.
  DERIVED. THE GIVEN ROWS OF THIS SEAT. 5 by the template 'for every input the law returns true; each argument reads behind the call as it read before'; 0 by the template 'total and deterministic' (their statements: YtpgjnmakpghamaaDoorTotals.lean).
  GIVEN WITH THE SEED: the statements are not yours to turn. If you find one false, say at which input.
  Laid BY PROGRAM, IN A SANDBOX (cutbox-rows.mjs): the forced cells as the released guide's own fill.sh prints them over the translation 2534d9f2cd448b38… (all of the seat's roots in one cut). By AI agents, Wed Nov 11 2026. No macro, syntax, notation, axiom, sorry.
-/
import Derived.Test.YtpgjnmakpghamaaDoorChecked
import GoSem.Claim
import GoSem.ClaimJoined
import GoSem.ClaimMapViews
import Derived.JoinedTies
import Derived.KernelRfl
namespace Go.Proofs.YtpgjnmakpghamaaDoor
/- THE CELL 'sum', in the pinned program and in every row, IS THE sha256 OF THE DUMP (.gsa) THAT YtpgjnmakpghamaaDoorProg.lean LOADS. Nothing in Lean hashes anything: it is a label: what it is worth is what the hold of that sum in a sandbox is worth. -/
noncomputable def Tryd.pinned : Pinned := { name := "ytpgjnmakpghamaadoor", sum := "2534d9f2cd448b380e0f26e13e9663c1c784fa912ec730c70cf92fb0d773082e", checked := Tryd.checked }
namespace Rows
def none {H : Type} : Left H := { results := [], args := [] }

/- WHAT THE LISTED PACKAGE-LEVEL VARIABLES READ AS WHEN THE CALL BEGINS. Each datum BY PROGRAM (the guide's laid-datum.mjs) off the statement by which the dump's own 'gosem.cut.vars' lays the variable. In a bare row this is a premise. The card (YtpgjnmakpghamaaDoorCards.lean) ties it to the program's text. -/
def laid_packtrain_digest_primes {H : Type} : DataW H := .agg [.lit (.int .u64 2), .lit (.int .u64 3), .lit (.int .u64 5), .lit (.int .u64 7), .lit (.int .u64 11), .lit (.int .u64 13), .lit (.int .u64 17), .lit (.int .u64 19), .lit (.int .u64 23), .lit (.int .u64 29), .lit (.int .u64 31), .lit (.int .u64 37), .lit (.int .u64 41), .lit (.int .u64 43), .lit (.int .u64 47), .lit (.int .u64 53), .lit (.int .u64 59), .lit (.int .u64 61), .lit (.int .u64 67), .lit (.int .u64 71), .lit (.int .u64 73), .lit (.int .u64 79), .lit (.int .u64 83), .lit (.int .u64 89), .lit (.int .u64 97), .lit (.int .u64 101), .lit (.int .u64 103), .lit (.int .u64 107), .lit (.int .u64 109), .lit (.int .u64 113), .lit (.int .u64 127), .lit (.int .u64 131), .lit (.int .u64 137), .lit (.int .u64 139), .lit (.int .u64 149), .lit (.int .u64 151), .lit (.int .u64 157), .lit (.int .u64 163), .lit (.int .u64 167), .lit (.int .u64 173), .lit (.int .u64 179), .lit (.int .u64 181), .lit (.int .u64 191), .lit (.int .u64 193), .lit (.int .u64 197), .lit (.int .u64 199), .lit (.int .u64 211), .lit (.int .u64 223), .lit (.int .u64 227), .lit (.int .u64 229), .lit (.int .u64 233), .lit (.int .u64 239), .lit (.int .u64 241), .lit (.int .u64 251), .lit (.int .u64 257), .lit (.int .u64 263), .lit (.int .u64 269), .lit (.int .u64 271), .lit (.int .u64 277), .lit (.int .u64 281), .lit (.int .u64 283), .lit (.int .u64 293), .lit (.int .u64 307), .lit (.int .u64 311)]

/-- 'packtrainlaw02.DigestNames': WHATEVER THE INPUT: true; the input reads as it did. -/
def digestNamesSpec : ChangeSpec := { name := "digestNames", fn := fun _ => fun
  | [] => { results := [.lit (.bool true)], args := [] }
  | _ => none }
def digestNamesRow : OpenClaim := { program := "ytpgjnmakpghamaadoor", sum := "2534d9f2cd448b380e0f26e13e9663c1c784fa912ec730c70cf92fb0d773082e", func := "packtrain/packtrainlaw02.DigestNames", spec := "digestNames", inPlace := ["internal/bytealg.IndexByteString"], unfollowed := true, recurses := true, named := ["packtrain/digest.primes"], apart := false, laid := [("packtrain/digest.primes", laid_packtrain_digest_primes)] }
def DigestNamesSaid : Prop := digestNamesRow.holds Tryd.pinned (OpenSpec.ofChange digestNamesSpec)

/-- ITS FALSE NEIGHBOUR: 'it returns false'. Refute it at one input. -/
def digestNamesWrong : ChangeSpec := { name := "digestNames", fn := fun _ => fun
  | [] => { results := [.lit (.bool false)], args := [] }
  | _ => none }
def DigestNamesWrongFalsely : Prop := digestNamesRow.holds Tryd.pinned (OpenSpec.ofChange digestNamesWrong)

/-- 'packtrainlaw02.DigestCalls': WHATEVER THE INPUT: true; the input reads as it did. -/
def digestCallsSpec : ChangeSpec := { name := "digestCalls", fn := fun _ => fun
  | [d1, d2, d3, d4, d5, d6] => { results := [.lit (.bool true)], args := [d1, d2, d3, d4, d5, d6] }
  | _ => none }
def digestCallsRow : OpenClaim := { program := "ytpgjnmakpghamaadoor", sum := "2534d9f2cd448b380e0f26e13e9663c1c784fa912ec730c70cf92fb0d773082e", func := "packtrain/packtrainlaw02.DigestCalls", spec := "digestCalls", inPlace := ["internal/bytealg.IndexByteString"], unfollowed := true, recurses := true, named := ["packtrain/digest.primes"], apart := false, laid := [("packtrain/digest.primes", laid_packtrain_digest_primes)] }
def DigestCallsSaid : Prop := digestCallsRow.holds Tryd.pinned (OpenSpec.ofChange digestCallsSpec)

/-- ITS FALSE NEIGHBOUR: 'it returns false'. Refute it at one input. -/
def digestCallsWrong : ChangeSpec := { name := "digestCalls", fn := fun _ => fun
  | [d1, d2, d3, d4, d5, d6] => { results := [.lit (.bool false)], args := [d1, d2, d3, d4, d5, d6] }
  | _ => none }
def DigestCallsWrongFalsely : Prop := digestCallsRow.holds Tryd.pinned (OpenSpec.ofChange digestCallsWrong)

/-- 'packtrainlaw02.DigestNil': WHATEVER THE INPUT: true; the input reads as it did. -/
def digestNilSpec : ChangeSpec := { name := "digestNil", fn := fun _ => fun
  | [d] => { results := [.lit (.bool true)], args := [d] }
  | _ => none }
def digestNilRow : OpenClaim := { program := "ytpgjnmakpghamaadoor", sum := "2534d9f2cd448b380e0f26e13e9663c1c784fa912ec730c70cf92fb0d773082e", func := "packtrain/packtrainlaw02.DigestNil", spec := "digestNil", unfollowed := true, recurses := true, named := ["packtrain/digest.primes"], apart := false, laid := [("packtrain/digest.primes", laid_packtrain_digest_primes)] }
def DigestNilSaid : Prop := digestNilRow.holds Tryd.pinned (OpenSpec.ofChange digestNilSpec)

/-- ITS FALSE NEIGHBOUR: 'it returns false'. Refute it at one input. -/
def digestNilWrong : ChangeSpec := { name := "digestNil", fn := fun _ => fun
  | [d] => { results := [.lit (.bool false)], args := [d] }
  | _ => none }
def DigestNilWrongFalsely : Prop := digestNilRow.holds Tryd.pinned (OpenSpec.ofChange digestNilWrong)

/-- 'packtrainlaw02.DigestParts': WHATEVER THE INPUT: true; the input reads as it did. -/
def digestPartsSpec : ChangeSpec := { name := "digestParts", fn := fun _ => fun
  | [d1, d2] => { results := [.lit (.bool true)], args := [d1, d2] }
  | _ => none }
def digestPartsRow : OpenClaim := { program := "ytpgjnmakpghamaadoor", sum := "2534d9f2cd448b380e0f26e13e9663c1c784fa912ec730c70cf92fb0d773082e", func := "packtrain/packtrainlaw02.DigestParts", spec := "digestParts", inPlace := ["internal/bytealg.IndexByteString"], unfollowed := true, recurses := true, named := ["packtrain/digest.primes"], apart := false, laid := [("packtrain/digest.primes", laid_packtrain_digest_primes)] }
def DigestPartsSaid : Prop := digestPartsRow.holds Tryd.pinned (OpenSpec.ofChange digestPartsSpec)

/-- ITS FALSE NEIGHBOUR: 'it returns false'. Refute it at one input. -/
def digestPartsWrong : ChangeSpec := { name := "digestParts", fn := fun _ => fun
  | [d1, d2] => { results := [.lit (.bool false)], args := [d1, d2] }
  | _ => none }
def DigestPartsWrongFalsely : Prop := digestPartsRow.holds Tryd.pinned (OpenSpec.ofChange digestPartsWrong)

/-- 'packtrainlaw02.DigestSteps': WHATEVER THE INPUT: true; the input reads as it did. -/
def digestStepsSpec : ChangeSpec := { name := "digestSteps", fn := fun _ => fun
  | [d1, d2] => { results := [.lit (.bool true)], args := [d1, d2] }
  | _ => none }
def digestStepsRow : OpenClaim := { program := "ytpgjnmakpghamaadoor", sum := "2534d9f2cd448b380e0f26e13e9663c1c784fa912ec730c70cf92fb0d773082e", func := "packtrain/packtrainlaw02.DigestSteps", spec := "digestSteps", unfollowed := true, recurses := true, named := ["packtrain/digest.primes"], apart := false, laid := [("packtrain/digest.primes", laid_packtrain_digest_primes)] }
def DigestStepsSaid : Prop := digestStepsRow.holds Tryd.pinned (OpenSpec.ofChange digestStepsSpec)

/-- ITS FALSE NEIGHBOUR: 'it returns false'. Refute it at one input. -/
def digestStepsWrong : ChangeSpec := { name := "digestSteps", fn := fun _ => fun
  | [d1, d2] => { results := [.lit (.bool false)], args := [d1, d2] }
  | _ => none }
def DigestStepsWrongFalsely : Prop := digestStepsRow.holds Tryd.pinned (OpenSpec.ofChange digestStepsWrong)

/- THE SECOND FORM. 'bulk': how many values and letters a reading holds, each counted each time it is reached (what is shared counts as often as it is met; a slice's spare places count too). A statement '..UptoSaid' is the law's where the arguments, and the package variables that the reading takes, are together of bulk at most 1048576: NARROWER than '..Said'. Prove '..Said' where nothing that the law and all that it calls make is longer than what came in: it says more and counts as full. Else prove '..UptoSaid'. A law counts once. -/
mutual
def uptoBulk {H : Type} : DataW H → Nat
  | .lit (.string bytes) => bytes.length + 1
  | .lit _ => 1
  | .nil => 1
  | .ptr d => uptoBulk d + 1
  | .slice elems spare => uptoBulkAll elems + uptoBulkAll spare + 1
  | .agg parts => uptoBulkAll parts + 1
  | .iface _ d => uptoBulk d + 1
  | .map entries => uptoBulkEntries entries + 1
  | .held _ => 1
def uptoBulkAll {H : Type} : List (DataW H) → Nat
  | [] => 0
  | d :: r => uptoBulk d + uptoBulkAll r
def uptoBulkEntries {H : Type} : List (Lit × DataW H) → Nat
  | [] => 0
  | x :: r => uptoBulkEntry x + uptoBulkEntries r
def uptoBulkEntry {H : Type} : Lit × DataW H → Nat
  | (.string bytes, d) => bytes.length + uptoBulk d + 1
  | (_, d) => uptoBulk d + 1
 end
def uptoSmall : (H : Type) → List (DataW H) → Bool := fun _ ds => decide (uptoBulkAll ds ≤ 1048576)
def OpenSpec.upto (s : _root_.Go.ChangeSpec) : _root_.Go.OpenSpec := { _root_.Go.OpenSpec.ofChange s with cond := some uptoSmall }

/-- 'packtrainlaw02.DigestNames', WHERE WHAT IT READS IS OF BULK AT MOST 1048576: true; the input reads as it did. -/
def digestNamesUptoRow : OpenClaim := { program := "ytpgjnmakpghamaadoor", sum := "2534d9f2cd448b380e0f26e13e9663c1c784fa912ec730c70cf92fb0d773082e", func := "packtrain/packtrainlaw02.DigestNames", spec := "digestNames", inPlace := ["internal/bytealg.IndexByteString"], unfollowed := true, recurses := true, named := ["packtrain/digest.primes"], apart := false, laid := [("packtrain/digest.primes", laid_packtrain_digest_primes)], narrowed := true }
def DigestNamesUptoSaid : Prop := digestNamesUptoRow.holds Tryd.pinned (OpenSpec.upto digestNamesSpec)

/-- 'packtrainlaw02.DigestCalls', WHERE WHAT IT READS IS OF BULK AT MOST 1048576: true; the input reads as it did. -/
def digestCallsUptoRow : OpenClaim := { program := "ytpgjnmakpghamaadoor", sum := "2534d9f2cd448b380e0f26e13e9663c1c784fa912ec730c70cf92fb0d773082e", func := "packtrain/packtrainlaw02.DigestCalls", spec := "digestCalls", inPlace := ["internal/bytealg.IndexByteString"], unfollowed := true, recurses := true, named := ["packtrain/digest.primes"], apart := false, laid := [("packtrain/digest.primes", laid_packtrain_digest_primes)], narrowed := true }
def DigestCallsUptoSaid : Prop := digestCallsUptoRow.holds Tryd.pinned (OpenSpec.upto digestCallsSpec)

/-- 'packtrainlaw02.DigestNil', WHERE WHAT IT READS IS OF BULK AT MOST 1048576: true; the input reads as it did. -/
def digestNilUptoRow : OpenClaim := { program := "ytpgjnmakpghamaadoor", sum := "2534d9f2cd448b380e0f26e13e9663c1c784fa912ec730c70cf92fb0d773082e", func := "packtrain/packtrainlaw02.DigestNil", spec := "digestNil", unfollowed := true, recurses := true, named := ["packtrain/digest.primes"], apart := false, laid := [("packtrain/digest.primes", laid_packtrain_digest_primes)], narrowed := true }
def DigestNilUptoSaid : Prop := digestNilUptoRow.holds Tryd.pinned (OpenSpec.upto digestNilSpec)

/-- 'packtrainlaw02.DigestParts', WHERE WHAT IT READS IS OF BULK AT MOST 1048576: true; the input reads as it did. -/
def digestPartsUptoRow : OpenClaim := { program := "ytpgjnmakpghamaadoor", sum := "2534d9f2cd448b380e0f26e13e9663c1c784fa912ec730c70cf92fb0d773082e", func := "packtrain/packtrainlaw02.DigestParts", spec := "digestParts", inPlace := ["internal/bytealg.IndexByteString"], unfollowed := true, recurses := true, named := ["packtrain/digest.primes"], apart := false, laid := [("packtrain/digest.primes", laid_packtrain_digest_primes)], narrowed := true }
def DigestPartsUptoSaid : Prop := digestPartsUptoRow.holds Tryd.pinned (OpenSpec.upto digestPartsSpec)

/-- 'packtrainlaw02.DigestSteps', WHERE WHAT IT READS IS OF BULK AT MOST 1048576: true; the input reads as it did. -/
def digestStepsUptoRow : OpenClaim := { program := "ytpgjnmakpghamaadoor", sum := "2534d9f2cd448b380e0f26e13e9663c1c784fa912ec730c70cf92fb0d773082e", func := "packtrain/packtrainlaw02.DigestSteps", spec := "digestSteps", unfollowed := true, recurses := true, named := ["packtrain/digest.primes"], apart := false, laid := [("packtrain/digest.primes", laid_packtrain_digest_primes)], narrowed := true }
def DigestStepsUptoSaid : Prop := digestStepsUptoRow.holds Tryd.pinned (OpenSpec.upto digestStepsSpec)

end Rows
end Go.Proofs.YtpgjnmakpghamaaDoor

/-
  NARROWER THAN 'FOR EVERY INPUT', by the rows' own cells (each row's printed sentence says how): FnExactExtract: laid · FnExactProve: laid · FnExactVerify: laid · FnForge: laid · FnProve: laid · FnTamper: laid.
  DERIVED. THE GIVEN ROWS OF THIS SEAT. 6 by the template 'for every input the law returns true; each argument reads behind the call as it read before'; 0 by the template 'total and deterministic' (their statements: YtibjhkpgaaapaaaGreatDoorTotals.lean).
  GIVEN WITH THE SEED: the statements are not yours to turn. If you find one false, say at which input.
  Laid BY PROGRAM, IN A SANDBOX (cutbox-rows.mjs): the forced cells as the released guide's own fill.sh prints them over the translation 306c2f2087061d3d… (all of the seat's roots in one cut). By AI agents, Wed Nov 11 2026. No macro, syntax, notation, axiom, sorry.
-/
import Derived.Test.YtibjhkpgaaapaaaGreatDoorChecked
import GoSem.Claim
import GoSem.ClaimJoined
import GoSem.ClaimMapViews
import Derived.JoinedTies
import Derived.KernelRfl
namespace Go.Proofs.YtibjhkpgaaapaaaGreatDoor
/- THE CELL 'sum', in the pinned program and in every row, IS THE sha256 OF THE DUMP (.gsa) THAT YtibjhkpgaaapaaaGreatDoorProg.lean LOADS. Nothing in Lean hashes anything: it is a label: what it is worth is what the hold of that sum in a sandbox is worth. -/
noncomputable def Tryz.pinned : Pinned := { name := "ytibjhkpgaaapaaagreatdoor", sum := "306c2f2087061d3d9bf655cdfd03fab9b39ee1209a5bb5e8b32b285d23cbcf9c", checked := Tryz.checked }
namespace Rows
def none {H : Type} : Left H := { results := [], args := [] }

/- WHAT THE LISTED PACKAGE-LEVEL VARIABLES READ AS WHEN THE CALL BEGINS. Each datum BY PROGRAM (the guide's laid-datum.mjs) off the statement by which the dump's own 'gosem.cut.vars' lays the variable. In a bare row this is a premise. The card (YtibjhkpgaaapaaaGreatDoorCards.lean) ties it to the program's text. -/
def laid_loop_example_s03048_impl_roundWords {H : Type} : DataW H := .agg [.lit (.int .u32 1116352408), .lit (.int .u32 1899447441), .lit (.int .u32 3049323471), .lit (.int .u32 3921009573), .lit (.int .u32 961987163), .lit (.int .u32 1508970993), .lit (.int .u32 2453635748), .lit (.int .u32 2870763221), .lit (.int .u32 3624381080), .lit (.int .u32 310598401), .lit (.int .u32 607225278), .lit (.int .u32 1426881987), .lit (.int .u32 1925078388), .lit (.int .u32 2162078206), .lit (.int .u32 2614888103), .lit (.int .u32 3248222580), .lit (.int .u32 3835390401), .lit (.int .u32 4022224774), .lit (.int .u32 264347078), .lit (.int .u32 604807628), .lit (.int .u32 770255983), .lit (.int .u32 1249150122), .lit (.int .u32 1555081692), .lit (.int .u32 1996064986), .lit (.int .u32 2554220882), .lit (.int .u32 2821834349), .lit (.int .u32 2952996808), .lit (.int .u32 3210313671), .lit (.int .u32 3336571891), .lit (.int .u32 3584528711), .lit (.int .u32 113926993), .lit (.int .u32 338241895), .lit (.int .u32 666307205), .lit (.int .u32 773529912), .lit (.int .u32 1294757372), .lit (.int .u32 1396182291), .lit (.int .u32 1695183700), .lit (.int .u32 1986661051), .lit (.int .u32 2177026350), .lit (.int .u32 2456956037), .lit (.int .u32 2730485921), .lit (.int .u32 2820302411), .lit (.int .u32 3259730800), .lit (.int .u32 3345764771), .lit (.int .u32 3516065817), .lit (.int .u32 3600352804), .lit (.int .u32 4094571909), .lit (.int .u32 275423344), .lit (.int .u32 430227734), .lit (.int .u32 506948616), .lit (.int .u32 659060556), .lit (.int .u32 883997877), .lit (.int .u32 958139571), .lit (.int .u32 1322822218), .lit (.int .u32 1537002063), .lit (.int .u32 1747873779), .lit (.int .u32 1955562222), .lit (.int .u32 2024104815), .lit (.int .u32 2227730452), .lit (.int .u32 2361852424), .lit (.int .u32 2428436474), .lit (.int .u32 2756734187), .lit (.int .u32 3204031479), .lit (.int .u32 3329325298)]

/-- 'laws.FnExactExtract': WHATEVER THE INPUT: true; the input reads as it did. -/
def fnExactExtractSpec : ChangeSpec := { name := "fnExactExtract", vars := ["loop.example/s03048/impl.roundWords"], fn := fun _ => fun
  | [d1, d2, d3, d4, d5, d6, g1] => { results := [.lit (.bool true)], args := [d1, d2, d3, d4, d5, d6], vars := [g1] }
  | _ => none }
def fnExactExtractRow : OpenClaim := { program := "ytibjhkpgaaapaaagreatdoor", sum := "306c2f2087061d3d9bf655cdfd03fab9b39ee1209a5bb5e8b32b285d23cbcf9c", func := "loop.example/s03048/laws.FnExactExtract", spec := "fnExactExtract", unfollowed := true, recurses := true, named := ["loop.example/s03048/impl.roundWords"], plainKeys := false, apart := false, laid := [("loop.example/s03048/impl.roundWords", laid_loop_example_s03048_impl_roundWords)] }
def FnExactExtractSaid : Prop := fnExactExtractRow.holds Tryz.pinned (OpenSpec.ofChange fnExactExtractSpec)

/-- ITS FALSE NEIGHBOUR: 'it returns false'. Refute it at one input. -/
def fnExactExtractWrong : ChangeSpec := { name := "fnExactExtract", vars := ["loop.example/s03048/impl.roundWords"], fn := fun _ => fun
  | [d1, d2, d3, d4, d5, d6, g1] => { results := [.lit (.bool false)], args := [d1, d2, d3, d4, d5, d6], vars := [g1] }
  | _ => none }
def FnExactExtractWrongFalsely : Prop := fnExactExtractRow.holds Tryz.pinned (OpenSpec.ofChange fnExactExtractWrong)

/-- 'laws.FnExactProve': WHATEVER THE INPUT: true; the input reads as it did. -/
def fnExactProveSpec : ChangeSpec := { name := "fnExactProve", vars := ["loop.example/s03048/impl.roundWords"], fn := fun _ => fun
  | [d1, d2, d3, d4, g1] => { results := [.lit (.bool true)], args := [d1, d2, d3, d4], vars := [g1] }
  | _ => none }
def fnExactProveRow : OpenClaim := { program := "ytibjhkpgaaapaaagreatdoor", sum := "306c2f2087061d3d9bf655cdfd03fab9b39ee1209a5bb5e8b32b285d23cbcf9c", func := "loop.example/s03048/laws.FnExactProve", spec := "fnExactProve", unfollowed := true, recurses := true, named := ["loop.example/s03048/impl.roundWords"], plainKeys := false, apart := false, laid := [("loop.example/s03048/impl.roundWords", laid_loop_example_s03048_impl_roundWords)] }
def FnExactProveSaid : Prop := fnExactProveRow.holds Tryz.pinned (OpenSpec.ofChange fnExactProveSpec)

/-- ITS FALSE NEIGHBOUR: 'it returns false'. Refute it at one input. -/
def fnExactProveWrong : ChangeSpec := { name := "fnExactProve", vars := ["loop.example/s03048/impl.roundWords"], fn := fun _ => fun
  | [d1, d2, d3, d4, g1] => { results := [.lit (.bool false)], args := [d1, d2, d3, d4], vars := [g1] }
  | _ => none }
def FnExactProveWrongFalsely : Prop := fnExactProveRow.holds Tryz.pinned (OpenSpec.ofChange fnExactProveWrong)

/-- 'laws.FnExactVerify': WHATEVER THE INPUT: true; the input reads as it did. -/
def fnExactVerifySpec : ChangeSpec := { name := "fnExactVerify", vars := ["loop.example/s03048/impl.roundWords"], fn := fun _ => fun
  | [d1, d2, d3, d4, d5, g1] => { results := [.lit (.bool true)], args := [d1, d2, d3, d4, d5], vars := [g1] }
  | _ => none }
def fnExactVerifyRow : OpenClaim := { program := "ytibjhkpgaaapaaagreatdoor", sum := "306c2f2087061d3d9bf655cdfd03fab9b39ee1209a5bb5e8b32b285d23cbcf9c", func := "loop.example/s03048/laws.FnExactVerify", spec := "fnExactVerify", unfollowed := true, recurses := true, named := ["loop.example/s03048/impl.roundWords"], plainKeys := false, apart := false, laid := [("loop.example/s03048/impl.roundWords", laid_loop_example_s03048_impl_roundWords)] }
def FnExactVerifySaid : Prop := fnExactVerifyRow.holds Tryz.pinned (OpenSpec.ofChange fnExactVerifySpec)

/-- ITS FALSE NEIGHBOUR: 'it returns false'. Refute it at one input. -/
def fnExactVerifyWrong : ChangeSpec := { name := "fnExactVerify", vars := ["loop.example/s03048/impl.roundWords"], fn := fun _ => fun
  | [d1, d2, d3, d4, d5, g1] => { results := [.lit (.bool false)], args := [d1, d2, d3, d4, d5], vars := [g1] }
  | _ => none }
def FnExactVerifyWrongFalsely : Prop := fnExactVerifyRow.holds Tryz.pinned (OpenSpec.ofChange fnExactVerifyWrong)

/-- 'laws.FnForge': WHATEVER THE INPUT: true; the input reads as it did. -/
def fnForgeSpec : ChangeSpec := { name := "fnForge", vars := ["loop.example/s03048/impl.roundWords"], fn := fun _ => fun
  | [d, g1] => { results := [.lit (.bool true)], args := [d], vars := [g1] }
  | _ => none }
def fnForgeRow : OpenClaim := { program := "ytibjhkpgaaapaaagreatdoor", sum := "306c2f2087061d3d9bf655cdfd03fab9b39ee1209a5bb5e8b32b285d23cbcf9c", func := "loop.example/s03048/laws.FnForge", spec := "fnForge", unfollowed := true, recurses := true, named := ["loop.example/s03048/impl.roundWords"], plainKeys := false, apart := false, laid := [("loop.example/s03048/impl.roundWords", laid_loop_example_s03048_impl_roundWords)] }
def FnForgeSaid : Prop := fnForgeRow.holds Tryz.pinned (OpenSpec.ofChange fnForgeSpec)

/-- ITS FALSE NEIGHBOUR: 'it returns false'. Refute it at one input. -/
def fnForgeWrong : ChangeSpec := { name := "fnForge", vars := ["loop.example/s03048/impl.roundWords"], fn := fun _ => fun
  | [d, g1] => { results := [.lit (.bool false)], args := [d], vars := [g1] }
  | _ => none }
def FnForgeWrongFalsely : Prop := fnForgeRow.holds Tryz.pinned (OpenSpec.ofChange fnForgeWrong)

/-- 'laws.FnProve': WHATEVER THE INPUT: true; the input reads as it did. -/
def fnProveSpec : ChangeSpec := { name := "fnProve", vars := ["loop.example/s03048/impl.roundWords"], fn := fun _ => fun
  | [d, g1] => { results := [.lit (.bool true)], args := [d], vars := [g1] }
  | _ => none }
def fnProveRow : OpenClaim := { program := "ytibjhkpgaaapaaagreatdoor", sum := "306c2f2087061d3d9bf655cdfd03fab9b39ee1209a5bb5e8b32b285d23cbcf9c", func := "loop.example/s03048/laws.FnProve", spec := "fnProve", unfollowed := true, recurses := true, named := ["loop.example/s03048/impl.roundWords"], plainKeys := false, apart := false, laid := [("loop.example/s03048/impl.roundWords", laid_loop_example_s03048_impl_roundWords)] }
def FnProveSaid : Prop := fnProveRow.holds Tryz.pinned (OpenSpec.ofChange fnProveSpec)

/-- ITS FALSE NEIGHBOUR: 'it returns false'. Refute it at one input. -/
def fnProveWrong : ChangeSpec := { name := "fnProve", vars := ["loop.example/s03048/impl.roundWords"], fn := fun _ => fun
  | [d, g1] => { results := [.lit (.bool false)], args := [d], vars := [g1] }
  | _ => none }
def FnProveWrongFalsely : Prop := fnProveRow.holds Tryz.pinned (OpenSpec.ofChange fnProveWrong)

/-- 'laws.FnTamper': WHATEVER THE INPUT: true; the input reads as it did. -/
def fnTamperSpec : ChangeSpec := { name := "fnTamper", vars := ["loop.example/s03048/impl.roundWords"], fn := fun _ => fun
  | [d1, d2, g1] => { results := [.lit (.bool true)], args := [d1, d2], vars := [g1] }
  | _ => none }
def fnTamperRow : OpenClaim := { program := "ytibjhkpgaaapaaagreatdoor", sum := "306c2f2087061d3d9bf655cdfd03fab9b39ee1209a5bb5e8b32b285d23cbcf9c", func := "loop.example/s03048/laws.FnTamper", spec := "fnTamper", unfollowed := true, recurses := true, named := ["loop.example/s03048/impl.roundWords"], plainKeys := false, apart := false, laid := [("loop.example/s03048/impl.roundWords", laid_loop_example_s03048_impl_roundWords)] }
def FnTamperSaid : Prop := fnTamperRow.holds Tryz.pinned (OpenSpec.ofChange fnTamperSpec)

/-- ITS FALSE NEIGHBOUR: 'it returns false'. Refute it at one input. -/
def fnTamperWrong : ChangeSpec := { name := "fnTamper", vars := ["loop.example/s03048/impl.roundWords"], fn := fun _ => fun
  | [d1, d2, g1] => { results := [.lit (.bool false)], args := [d1, d2], vars := [g1] }
  | _ => none }
def FnTamperWrongFalsely : Prop := fnTamperRow.holds Tryz.pinned (OpenSpec.ofChange fnTamperWrong)

/- THE SECOND FORM. 'bulk': how many values and letters a reading holds, each counted each time it is reached (what is shared counts as often as it is met; a slice's spare places count too). A statement '..UptoSaid' is the law's where the arguments, and the package variables that the reading takes, are together of bulk at most 1048576: NARROWER than '..Said'. Prove '..Said' where nothing that the law and all that it calls make is longer than what came in: it says more and counts as full. Else prove '..UptoSaid'. A law counts once. -/
mutual
def uptoBulk {H : Type} : DataW H → Nat
  | .lit (.string bytes) => bytes.length + 1
  | .lit _ => 1
  | .nil => 1
  | .ptr d => uptoBulk d + 1
  | .slice elems spare => uptoBulkAll elems + uptoBulkAll spare + 1
  | .agg parts => uptoBulkAll parts + 1
  | .iface _ d => uptoBulk d + 1
  | .map entries => uptoBulkEntries entries + 1
  | .held _ => 1
def uptoBulkAll {H : Type} : List (DataW H) → Nat
  | [] => 0
  | d :: r => uptoBulk d + uptoBulkAll r
def uptoBulkEntries {H : Type} : List (Lit × DataW H) → Nat
  | [] => 0
  | x :: r => uptoBulkEntry x + uptoBulkEntries r
def uptoBulkEntry {H : Type} : Lit × DataW H → Nat
  | (.string bytes, d) => bytes.length + uptoBulk d + 1
  | (_, d) => uptoBulk d + 1
 end
def uptoSmall : (H : Type) → List (DataW H) → Bool := fun _ ds => decide (uptoBulkAll ds ≤ 1048576)
def OpenSpec.upto (s : _root_.Go.ChangeSpec) : _root_.Go.OpenSpec := { _root_.Go.OpenSpec.ofChange s with cond := some uptoSmall }

/-- 'laws.FnExactExtract', WHERE WHAT IT READS IS OF BULK AT MOST 1048576: true; the input reads as it did. -/
def fnExactExtractUptoRow : OpenClaim := { program := "ytibjhkpgaaapaaagreatdoor", sum := "306c2f2087061d3d9bf655cdfd03fab9b39ee1209a5bb5e8b32b285d23cbcf9c", func := "loop.example/s03048/laws.FnExactExtract", spec := "fnExactExtract", unfollowed := true, recurses := true, named := ["loop.example/s03048/impl.roundWords"], plainKeys := false, apart := false, laid := [("loop.example/s03048/impl.roundWords", laid_loop_example_s03048_impl_roundWords)], narrowed := true }
def FnExactExtractUptoSaid : Prop := fnExactExtractUptoRow.holds Tryz.pinned (OpenSpec.upto fnExactExtractSpec)

/-- 'laws.FnExactProve', WHERE WHAT IT READS IS OF BULK AT MOST 1048576: true; the input reads as it did. -/
def fnExactProveUptoRow : OpenClaim := { program := "ytibjhkpgaaapaaagreatdoor", sum := "306c2f2087061d3d9bf655cdfd03fab9b39ee1209a5bb5e8b32b285d23cbcf9c", func := "loop.example/s03048/laws.FnExactProve", spec := "fnExactProve", unfollowed := true, recurses := true, named := ["loop.example/s03048/impl.roundWords"], plainKeys := false, apart := false, laid := [("loop.example/s03048/impl.roundWords", laid_loop_example_s03048_impl_roundWords)], narrowed := true }
def FnExactProveUptoSaid : Prop := fnExactProveUptoRow.holds Tryz.pinned (OpenSpec.upto fnExactProveSpec)

/-- 'laws.FnExactVerify', WHERE WHAT IT READS IS OF BULK AT MOST 1048576: true; the input reads as it did. -/
def fnExactVerifyUptoRow : OpenClaim := { program := "ytibjhkpgaaapaaagreatdoor", sum := "306c2f2087061d3d9bf655cdfd03fab9b39ee1209a5bb5e8b32b285d23cbcf9c", func := "loop.example/s03048/laws.FnExactVerify", spec := "fnExactVerify", unfollowed := true, recurses := true, named := ["loop.example/s03048/impl.roundWords"], plainKeys := false, apart := false, laid := [("loop.example/s03048/impl.roundWords", laid_loop_example_s03048_impl_roundWords)], narrowed := true }
def FnExactVerifyUptoSaid : Prop := fnExactVerifyUptoRow.holds Tryz.pinned (OpenSpec.upto fnExactVerifySpec)

/-- 'laws.FnForge', WHERE WHAT IT READS IS OF BULK AT MOST 1048576: true; the input reads as it did. -/
def fnForgeUptoRow : OpenClaim := { program := "ytibjhkpgaaapaaagreatdoor", sum := "306c2f2087061d3d9bf655cdfd03fab9b39ee1209a5bb5e8b32b285d23cbcf9c", func := "loop.example/s03048/laws.FnForge", spec := "fnForge", unfollowed := true, recurses := true, named := ["loop.example/s03048/impl.roundWords"], plainKeys := false, apart := false, laid := [("loop.example/s03048/impl.roundWords", laid_loop_example_s03048_impl_roundWords)], narrowed := true }
def FnForgeUptoSaid : Prop := fnForgeUptoRow.holds Tryz.pinned (OpenSpec.upto fnForgeSpec)

/-- 'laws.FnProve', WHERE WHAT IT READS IS OF BULK AT MOST 1048576: true; the input reads as it did. -/
def fnProveUptoRow : OpenClaim := { program := "ytibjhkpgaaapaaagreatdoor", sum := "306c2f2087061d3d9bf655cdfd03fab9b39ee1209a5bb5e8b32b285d23cbcf9c", func := "loop.example/s03048/laws.FnProve", spec := "fnProve", unfollowed := true, recurses := true, named := ["loop.example/s03048/impl.roundWords"], plainKeys := false, apart := false, laid := [("loop.example/s03048/impl.roundWords", laid_loop_example_s03048_impl_roundWords)], narrowed := true }
def FnProveUptoSaid : Prop := fnProveUptoRow.holds Tryz.pinned (OpenSpec.upto fnProveSpec)

/-- 'laws.FnTamper', WHERE WHAT IT READS IS OF BULK AT MOST 1048576: true; the input reads as it did. -/
def fnTamperUptoRow : OpenClaim := { program := "ytibjhkpgaaapaaagreatdoor", sum := "306c2f2087061d3d9bf655cdfd03fab9b39ee1209a5bb5e8b32b285d23cbcf9c", func := "loop.example/s03048/laws.FnTamper", spec := "fnTamper", unfollowed := true, recurses := true, named := ["loop.example/s03048/impl.roundWords"], plainKeys := false, apart := false, laid := [("loop.example/s03048/impl.roundWords", laid_loop_example_s03048_impl_roundWords)], narrowed := true }
def FnTamperUptoSaid : Prop := fnTamperUptoRow.holds Tryz.pinned (OpenSpec.upto fnTamperSpec)

end Rows
end Go.Proofs.YtibjhkpgaaapaaaGreatDoor

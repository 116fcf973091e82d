/-
  NARROWER THAN 'FOR EVERY INPUT', by the rows' own cells (each row's printed sentence says how): CertsWho: laid · CertsProve: laid · CertsShare: laid · CertsMore: laid · CertsLeast: laid.
  DERIVED. THE GIVEN ROWS OF THIS SEAT. 5 by the template 'for every input the law returns true; each argument reads behind the call as it read before'; 0 by the template 'total and deterministic' (their statements: YtddeeigdcolegaaDoorTotals.lean).
  GIVEN WITH THE SEED: the statements are not yours to turn. If you find one false, say at which input.
  Laid BY PROGRAM, IN A SANDBOX (cutbox-rows.mjs): the forced cells as the released guide's own fill.sh prints them over the translation a801a88e32bfe9f5… (all of the seat's roots in one cut). By AI agents, Wed Nov 11 2026. No macro, syntax, notation, axiom, sorry.
-/
import Derived.Test.YtddeeigdcolegaaDoorChecked
import GoSem.Claim
import GoSem.ClaimJoined
import GoSem.ClaimMapViews
import Derived.JoinedTies
import Derived.KernelRfl
namespace Go.Proofs.YtddeeigdcolegaaDoor
/- THE CELL 'sum', in the pinned program and in every row, IS THE sha256 OF THE DUMP (.gsa) THAT YtddeeigdcolegaaDoorProg.lean LOADS. Nothing in Lean hashes anything: it is a label: what it is worth is what the hold of that sum in a sandbox is worth. -/
noncomputable def Tryd.pinned : Pinned := { name := "ytddeeigdcolegaadoor", sum := "a801a88e32bfe9f55ff374bf93328684166a3f36dfa8074bae11d0487973609d", checked := Tryd.checked }
namespace Rows
def none {H : Type} : Left H := { results := [], args := [] }

/- WHAT THE LISTED PACKAGE-LEVEL VARIABLES READ AS WHEN THE CALL BEGINS. Each datum BY PROGRAM (the guide's laid-datum.mjs) off the statement by which the dump's own 'gosem.cut.vars' lays the variable. In a bare row this is a premise. The card (YtddeeigdcolegaaDoorCards.lean) ties it to the program's text. -/
def laid_consistory_sha_constants {H : Type} : DataW H := .agg [.lit (.int .u32 1116352408), .lit (.int .u32 1899447441), .lit (.int .u32 3049323471), .lit (.int .u32 3921009573), .lit (.int .u32 961987163), .lit (.int .u32 1508970993), .lit (.int .u32 2453635748), .lit (.int .u32 2870763221), .lit (.int .u32 3624381080), .lit (.int .u32 310598401), .lit (.int .u32 607225278), .lit (.int .u32 1426881987), .lit (.int .u32 1925078388), .lit (.int .u32 2162078206), .lit (.int .u32 2614888103), .lit (.int .u32 3248222580), .lit (.int .u32 3835390401), .lit (.int .u32 4022224774), .lit (.int .u32 264347078), .lit (.int .u32 604807628), .lit (.int .u32 770255983), .lit (.int .u32 1249150122), .lit (.int .u32 1555081692), .lit (.int .u32 1996064986), .lit (.int .u32 2554220882), .lit (.int .u32 2821834349), .lit (.int .u32 2952996808), .lit (.int .u32 3210313671), .lit (.int .u32 3336571891), .lit (.int .u32 3584528711), .lit (.int .u32 113926993), .lit (.int .u32 338241895), .lit (.int .u32 666307205), .lit (.int .u32 773529912), .lit (.int .u32 1294757372), .lit (.int .u32 1396182291), .lit (.int .u32 1695183700), .lit (.int .u32 1986661051), .lit (.int .u32 2177026350), .lit (.int .u32 2456956037), .lit (.int .u32 2730485921), .lit (.int .u32 2820302411), .lit (.int .u32 3259730800), .lit (.int .u32 3345764771), .lit (.int .u32 3516065817), .lit (.int .u32 3600352804), .lit (.int .u32 4094571909), .lit (.int .u32 275423344), .lit (.int .u32 430227734), .lit (.int .u32 506948616), .lit (.int .u32 659060556), .lit (.int .u32 883997877), .lit (.int .u32 958139571), .lit (.int .u32 1322822218), .lit (.int .u32 1537002063), .lit (.int .u32 1747873779), .lit (.int .u32 1955562222), .lit (.int .u32 2024104815), .lit (.int .u32 2227730452), .lit (.int .u32 2361852424), .lit (.int .u32 2428436474), .lit (.int .u32 2756734187), .lit (.int .u32 3204031479), .lit (.int .u32 3329325298)]

/-- 'consistorylaw17.CertsWho': WHATEVER THE INPUT: true; the input reads as it did. -/
def certsWhoSpec : ChangeSpec := { name := "certsWho", fn := fun _ => fun
  | [d1, d2] => { results := [.lit (.bool true)], args := [d1, d2] }
  | _ => none }
def certsWhoRow : OpenClaim := { program := "ytddeeigdcolegaadoor", sum := "a801a88e32bfe9f55ff374bf93328684166a3f36dfa8074bae11d0487973609d", func := "consistory/consistorylaw17.CertsWho", spec := "certsWho", unfollowed := true, recurses := true, named := ["consistory/sha.constants"], apart := false, laid := [("consistory/sha.constants", laid_consistory_sha_constants)] }
def CertsWhoSaid : Prop := certsWhoRow.holds Tryd.pinned (OpenSpec.ofChange certsWhoSpec)

/-- ITS FALSE NEIGHBOUR: 'it returns false'. Refute it at one input. -/
def certsWhoWrong : ChangeSpec := { name := "certsWho", fn := fun _ => fun
  | [d1, d2] => { results := [.lit (.bool false)], args := [d1, d2] }
  | _ => none }
def CertsWhoWrongFalsely : Prop := certsWhoRow.holds Tryd.pinned (OpenSpec.ofChange certsWhoWrong)

/-- 'consistorylaw17.CertsProve': WHATEVER THE INPUT: true; the input reads as it did. -/
def certsProveSpec : ChangeSpec := { name := "certsProve", fn := fun _ => fun
  | [d1, d2] => { results := [.lit (.bool true)], args := [d1, d2] }
  | _ => none }
def certsProveRow : OpenClaim := { program := "ytddeeigdcolegaadoor", sum := "a801a88e32bfe9f55ff374bf93328684166a3f36dfa8074bae11d0487973609d", func := "consistory/consistorylaw17.CertsProve", spec := "certsProve", unfollowed := true, recurses := true, named := ["consistory/sha.constants"], apart := false, laid := [("consistory/sha.constants", laid_consistory_sha_constants)] }
def CertsProveSaid : Prop := certsProveRow.holds Tryd.pinned (OpenSpec.ofChange certsProveSpec)

/-- ITS FALSE NEIGHBOUR: 'it returns false'. Refute it at one input. -/
def certsProveWrong : ChangeSpec := { name := "certsProve", fn := fun _ => fun
  | [d1, d2] => { results := [.lit (.bool false)], args := [d1, d2] }
  | _ => none }
def CertsProveWrongFalsely : Prop := certsProveRow.holds Tryd.pinned (OpenSpec.ofChange certsProveWrong)

/-- 'consistorylaw17.CertsShare': WHATEVER THE INPUT: true; the input reads as it did. -/
def certsShareSpec : ChangeSpec := { name := "certsShare", fn := fun _ => fun
  | [d1, d2, d3] => { results := [.lit (.bool true)], args := [d1, d2, d3] }
  | _ => none }
def certsShareRow : OpenClaim := { program := "ytddeeigdcolegaadoor", sum := "a801a88e32bfe9f55ff374bf93328684166a3f36dfa8074bae11d0487973609d", func := "consistory/consistorylaw17.CertsShare", spec := "certsShare", unfollowed := true, recurses := true, named := ["consistory/sha.constants"], apart := false, laid := [("consistory/sha.constants", laid_consistory_sha_constants)] }
def CertsShareSaid : Prop := certsShareRow.holds Tryd.pinned (OpenSpec.ofChange certsShareSpec)

/-- ITS FALSE NEIGHBOUR: 'it returns false'. Refute it at one input. -/
def certsShareWrong : ChangeSpec := { name := "certsShare", fn := fun _ => fun
  | [d1, d2, d3] => { results := [.lit (.bool false)], args := [d1, d2, d3] }
  | _ => none }
def CertsShareWrongFalsely : Prop := certsShareRow.holds Tryd.pinned (OpenSpec.ofChange certsShareWrong)

/-- 'consistorylaw17.CertsMore': WHATEVER THE INPUT: true; the input reads as it did. -/
def certsMoreSpec : ChangeSpec := { name := "certsMore", fn := fun _ => fun
  | [d1, d2, d3] => { results := [.lit (.bool true)], args := [d1, d2, d3] }
  | _ => none }
def certsMoreRow : OpenClaim := { program := "ytddeeigdcolegaadoor", sum := "a801a88e32bfe9f55ff374bf93328684166a3f36dfa8074bae11d0487973609d", func := "consistory/consistorylaw17.CertsMore", spec := "certsMore", unfollowed := true, recurses := true, named := ["consistory/sha.constants"], apart := false, laid := [("consistory/sha.constants", laid_consistory_sha_constants)] }
def CertsMoreSaid : Prop := certsMoreRow.holds Tryd.pinned (OpenSpec.ofChange certsMoreSpec)

/-- ITS FALSE NEIGHBOUR: 'it returns false'. Refute it at one input. -/
def certsMoreWrong : ChangeSpec := { name := "certsMore", fn := fun _ => fun
  | [d1, d2, d3] => { results := [.lit (.bool false)], args := [d1, d2, d3] }
  | _ => none }
def CertsMoreWrongFalsely : Prop := certsMoreRow.holds Tryd.pinned (OpenSpec.ofChange certsMoreWrong)

/-- 'consistorylaw17.CertsLeast': WHATEVER THE INPUT: true; the input reads as it did. -/
def certsLeastSpec : ChangeSpec := { name := "certsLeast", fn := fun _ => fun
  | [d1, d2] => { results := [.lit (.bool true)], args := [d1, d2] }
  | _ => none }
def certsLeastRow : OpenClaim := { program := "ytddeeigdcolegaadoor", sum := "a801a88e32bfe9f55ff374bf93328684166a3f36dfa8074bae11d0487973609d", func := "consistory/consistorylaw17.CertsLeast", spec := "certsLeast", unfollowed := true, recurses := true, named := ["consistory/sha.constants"], apart := false, laid := [("consistory/sha.constants", laid_consistory_sha_constants)] }
def CertsLeastSaid : Prop := certsLeastRow.holds Tryd.pinned (OpenSpec.ofChange certsLeastSpec)

/-- ITS FALSE NEIGHBOUR: 'it returns false'. Refute it at one input. -/
def certsLeastWrong : ChangeSpec := { name := "certsLeast", fn := fun _ => fun
  | [d1, d2] => { results := [.lit (.bool false)], args := [d1, d2] }
  | _ => none }
def CertsLeastWrongFalsely : Prop := certsLeastRow.holds Tryd.pinned (OpenSpec.ofChange certsLeastWrong)

/- THE SECOND FORM. 'bulk': how many values and letters a reading holds, each counted each time it is reached (what is shared counts as often as it is met; a slice's spare places count too). A statement '..UptoSaid' is the law's where the arguments, and the package variables that the reading takes, are together of bulk at most 1048576: NARROWER than '..Said'. Prove '..Said' where nothing that the law and all that it calls make is longer than what came in: it says more and counts as full. Else prove '..UptoSaid'. A law counts once. -/
mutual
def uptoBulk {H : Type} : DataW H → Nat
  | .lit (.string bytes) => bytes.length + 1
  | .lit _ => 1
  | .nil => 1
  | .ptr d => uptoBulk d + 1
  | .slice elems spare => uptoBulkAll elems + uptoBulkAll spare + 1
  | .agg parts => uptoBulkAll parts + 1
  | .iface _ d => uptoBulk d + 1
  | .map entries => uptoBulkEntries entries + 1
  | .held _ => 1
def uptoBulkAll {H : Type} : List (DataW H) → Nat
  | [] => 0
  | d :: r => uptoBulk d + uptoBulkAll r
def uptoBulkEntries {H : Type} : List (Lit × DataW H) → Nat
  | [] => 0
  | x :: r => uptoBulkEntry x + uptoBulkEntries r
def uptoBulkEntry {H : Type} : Lit × DataW H → Nat
  | (.string bytes, d) => bytes.length + uptoBulk d + 1
  | (_, d) => uptoBulk d + 1
 end
def uptoSmall : (H : Type) → List (DataW H) → Bool := fun _ ds => decide (uptoBulkAll ds ≤ 1048576)
def OpenSpec.upto (s : _root_.Go.ChangeSpec) : _root_.Go.OpenSpec := { _root_.Go.OpenSpec.ofChange s with cond := some uptoSmall }

/-- 'consistorylaw17.CertsWho', WHERE WHAT IT READS IS OF BULK AT MOST 1048576: true; the input reads as it did. -/
def certsWhoUptoRow : OpenClaim := { program := "ytddeeigdcolegaadoor", sum := "a801a88e32bfe9f55ff374bf93328684166a3f36dfa8074bae11d0487973609d", func := "consistory/consistorylaw17.CertsWho", spec := "certsWho", unfollowed := true, recurses := true, named := ["consistory/sha.constants"], apart := false, laid := [("consistory/sha.constants", laid_consistory_sha_constants)], narrowed := true }
def CertsWhoUptoSaid : Prop := certsWhoUptoRow.holds Tryd.pinned (OpenSpec.upto certsWhoSpec)

/-- 'consistorylaw17.CertsProve', WHERE WHAT IT READS IS OF BULK AT MOST 1048576: true; the input reads as it did. -/
def certsProveUptoRow : OpenClaim := { program := "ytddeeigdcolegaadoor", sum := "a801a88e32bfe9f55ff374bf93328684166a3f36dfa8074bae11d0487973609d", func := "consistory/consistorylaw17.CertsProve", spec := "certsProve", unfollowed := true, recurses := true, named := ["consistory/sha.constants"], apart := false, laid := [("consistory/sha.constants", laid_consistory_sha_constants)], narrowed := true }
def CertsProveUptoSaid : Prop := certsProveUptoRow.holds Tryd.pinned (OpenSpec.upto certsProveSpec)

/-- 'consistorylaw17.CertsShare', WHERE WHAT IT READS IS OF BULK AT MOST 1048576: true; the input reads as it did. -/
def certsShareUptoRow : OpenClaim := { program := "ytddeeigdcolegaadoor", sum := "a801a88e32bfe9f55ff374bf93328684166a3f36dfa8074bae11d0487973609d", func := "consistory/consistorylaw17.CertsShare", spec := "certsShare", unfollowed := true, recurses := true, named := ["consistory/sha.constants"], apart := false, laid := [("consistory/sha.constants", laid_consistory_sha_constants)], narrowed := true }
def CertsShareUptoSaid : Prop := certsShareUptoRow.holds Tryd.pinned (OpenSpec.upto certsShareSpec)

/-- 'consistorylaw17.CertsMore', WHERE WHAT IT READS IS OF BULK AT MOST 1048576: true; the input reads as it did. -/
def certsMoreUptoRow : OpenClaim := { program := "ytddeeigdcolegaadoor", sum := "a801a88e32bfe9f55ff374bf93328684166a3f36dfa8074bae11d0487973609d", func := "consistory/consistorylaw17.CertsMore", spec := "certsMore", unfollowed := true, recurses := true, named := ["consistory/sha.constants"], apart := false, laid := [("consistory/sha.constants", laid_consistory_sha_constants)], narrowed := true }
def CertsMoreUptoSaid : Prop := certsMoreUptoRow.holds Tryd.pinned (OpenSpec.upto certsMoreSpec)

/-- 'consistorylaw17.CertsLeast', WHERE WHAT IT READS IS OF BULK AT MOST 1048576: true; the input reads as it did. -/
def certsLeastUptoRow : OpenClaim := { program := "ytddeeigdcolegaadoor", sum := "a801a88e32bfe9f55ff374bf93328684166a3f36dfa8074bae11d0487973609d", func := "consistory/consistorylaw17.CertsLeast", spec := "certsLeast", unfollowed := true, recurses := true, named := ["consistory/sha.constants"], apart := false, laid := [("consistory/sha.constants", laid_consistory_sha_constants)], narrowed := true }
def CertsLeastUptoSaid : Prop := certsLeastUptoRow.holds Tryd.pinned (OpenSpec.upto certsLeastSpec)

end Rows
end Go.Proofs.YtddeeigdcolegaaDoor

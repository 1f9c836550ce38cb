/-
  NARROWER THAN 'FOR EVERY INPUT', by the rows' own cells (each row's printed sentence says how): ShaExact: laid · ShaRuns: laid · ShaAlone: laid · ShaLengths: laid · ShaChains: laid · MacExact: laid · MacKeys: laid · MacBegins: laid · MacRows: laid · MacNone: laid.
  DERIVED. THE GIVEN ROWS OF THIS SEAT. 10 by the template 'for every input the law returns true; each argument reads behind the call as it read before'; 0 by the template 'total and deterministic' (their statements: YtjdcaipgfolgoaaDoorTotals.lean).
  GIVEN WITH THE SEED: the statements are not yours to turn. If you find one false, say at which input.
  Laid BY PROGRAM, IN A SANDBOX (cutbox-rows.mjs): the forced cells as the released guide's own fill.sh prints them over the translation 04138a21c2f611e3… (all of the seat's roots in one cut). By AI agents, Wed Nov 11 2026. No macro, syntax, notation, axiom, sorry.
-/
import Derived.Test.YtjdcaipgfolgoaaDoorChecked
import GoSem.Claim
import GoSem.ClaimJoined
import GoSem.ClaimMapViews
import Derived.JoinedTies
import Derived.KernelRfl
namespace Go.Proofs.YtjdcaipgfolgoaaDoor
/- THE CELL 'sum', in the pinned program and in every row, IS THE sha256 OF THE DUMP (.gsa) THAT YtjdcaipgfolgoaaDoorProg.lean LOADS. Nothing in Lean hashes anything: it is a label: what it is worth is what the hold of that sum in a sandbox is worth. -/
noncomputable def Tryd.pinned : Pinned := { name := "ytjdcaipgfolgoaadoor", sum := "04138a21c2f611e33981de9b09aadc1b87bf6b59933afa543989d26ce73da95a", checked := Tryd.checked }
namespace Rows
def none {H : Type} : Left H := { results := [], args := [] }

/- WHAT THE LISTED PACKAGE-LEVEL VARIABLES READ AS WHEN THE CALL BEGINS. Each datum BY PROGRAM (the guide's laid-datum.mjs) off the statement by which the dump's own 'gosem.cut.vars' lays the variable. In a bare row this is a premise. The card (YtjdcaipgfolgoaaDoorCards.lean) ties it to the program's text. -/
def laid_tryst_sha_k256 {H : Type} : DataW H := .agg [.lit (.int .u32 1116352408), .lit (.int .u32 1899447441), .lit (.int .u32 3049323471), .lit (.int .u32 3921009573), .lit (.int .u32 961987163), .lit (.int .u32 1508970993), .lit (.int .u32 2453635748), .lit (.int .u32 2870763221), .lit (.int .u32 3624381080), .lit (.int .u32 310598401), .lit (.int .u32 607225278), .lit (.int .u32 1426881987), .lit (.int .u32 1925078388), .lit (.int .u32 2162078206), .lit (.int .u32 2614888103), .lit (.int .u32 3248222580), .lit (.int .u32 3835390401), .lit (.int .u32 4022224774), .lit (.int .u32 264347078), .lit (.int .u32 604807628), .lit (.int .u32 770255983), .lit (.int .u32 1249150122), .lit (.int .u32 1555081692), .lit (.int .u32 1996064986), .lit (.int .u32 2554220882), .lit (.int .u32 2821834349), .lit (.int .u32 2952996808), .lit (.int .u32 3210313671), .lit (.int .u32 3336571891), .lit (.int .u32 3584528711), .lit (.int .u32 113926993), .lit (.int .u32 338241895), .lit (.int .u32 666307205), .lit (.int .u32 773529912), .lit (.int .u32 1294757372), .lit (.int .u32 1396182291), .lit (.int .u32 1695183700), .lit (.int .u32 1986661051), .lit (.int .u32 2177026350), .lit (.int .u32 2456956037), .lit (.int .u32 2730485921), .lit (.int .u32 2820302411), .lit (.int .u32 3259730800), .lit (.int .u32 3345764771), .lit (.int .u32 3516065817), .lit (.int .u32 3600352804), .lit (.int .u32 4094571909), .lit (.int .u32 275423344), .lit (.int .u32 430227734), .lit (.int .u32 506948616), .lit (.int .u32 659060556), .lit (.int .u32 883997877), .lit (.int .u32 958139571), .lit (.int .u32 1322822218), .lit (.int .u32 1537002063), .lit (.int .u32 1747873779), .lit (.int .u32 1955562222), .lit (.int .u32 2024104815), .lit (.int .u32 2227730452), .lit (.int .u32 2361852424), .lit (.int .u32 2428436474), .lit (.int .u32 2756734187), .lit (.int .u32 3204031479), .lit (.int .u32 3329325298)]
def laid_tryst_sha_h256 {H : Type} : DataW H := .agg [.lit (.int .u32 1779033703), .lit (.int .u32 3144134277), .lit (.int .u32 1013904242), .lit (.int .u32 2773480762), .lit (.int .u32 1359893119), .lit (.int .u32 2600822924), .lit (.int .u32 528734635), .lit (.int .u32 1541459225)]
def laid_tryst_sha_k512 {H : Type} : DataW H := .agg [.lit (.int .u64 4794697086780616226), .lit (.int .u64 8158064640168781261), .lit (.int .u64 13096744586834688815), .lit (.int .u64 16840607885511220156), .lit (.int .u64 4131703408338449720), .lit (.int .u64 6480981068601479193), .lit (.int .u64 10538285296894168987), .lit (.int .u64 12329834152419229976), .lit (.int .u64 15566598209576043074), .lit (.int .u64 1334009975649890238), .lit (.int .u64 2608012711638119052), .lit (.int .u64 6128411473006802146), .lit (.int .u64 8268148722764581231), .lit (.int .u64 9286055187155687089), .lit (.int .u64 11230858885718282805), .lit (.int .u64 13951009754708518548), .lit (.int .u64 16472876342353939154), .lit (.int .u64 17275323862435702243), .lit (.int .u64 1135362057144423861), .lit (.int .u64 2597628984639134821), .lit (.int .u64 3308224258029322869), .lit (.int .u64 5365058923640841347), .lit (.int .u64 6679025012923562964), .lit (.int .u64 8573033837759648693), .lit (.int .u64 10970295158949994411), .lit (.int .u64 12119686244451234320), .lit (.int .u64 12683024718118986047), .lit (.int .u64 13788192230050041572), .lit (.int .u64 14330467153632333762), .lit (.int .u64 15395433587784984357), .lit (.int .u64 489312712824947311), .lit (.int .u64 1452737877330783856), .lit (.int .u64 2861767655752347644), .lit (.int .u64 3322285676063803686), .lit (.int .u64 5560940570517711597), .lit (.int .u64 5996557281743188959), .lit (.int .u64 7280758554555802590), .lit (.int .u64 8532644243296465576), .lit (.int .u64 9350256976987008742), .lit (.int .u64 10552545826968843579), .lit (.int .u64 11727347734174303076), .lit (.int .u64 12113106623233404929), .lit (.int .u64 14000437183269869457), .lit (.int .u64 14369950271660146224), .lit (.int .u64 15101387698204529176), .lit (.int .u64 15463397548674623760), .lit (.int .u64 17586052441742319658), .lit (.int .u64 1182934255886127544), .lit (.int .u64 1847814050463011016), .lit (.int .u64 2177327727835720531), .lit (.int .u64 2830643537854262169), .lit (.int .u64 3796741975233480872), .lit (.int .u64 4115178125766777443), .lit (.int .u64 5681478168544905931), .lit (.int .u64 6601373596472566643), .lit (.int .u64 7507060721942968483), .lit (.int .u64 8399075790359081724), .lit (.int .u64 8693463985226723168), .lit (.int .u64 9568029438360202098), .lit (.int .u64 10144078919501101548), .lit (.int .u64 10430055236837252648), .lit (.int .u64 11840083180663258601), .lit (.int .u64 13761210420658862357), .lit (.int .u64 14299343276471374635), .lit (.int .u64 14566680578165727644), .lit (.int .u64 15097957966210449927), .lit (.int .u64 16922976911328602910), .lit (.int .u64 17689382322260857208), .lit (.int .u64 500013540394364858), .lit (.int .u64 748580250866718886), .lit (.int .u64 1242879168328830382), .lit (.int .u64 1977374033974150939), .lit (.int .u64 2944078676154940804), .lit (.int .u64 3659926193048069267), .lit (.int .u64 4368137639120453308), .lit (.int .u64 4836135668995329356), .lit (.int .u64 5532061633213252278), .lit (.int .u64 6448918945643986474), .lit (.int .u64 6902733635092675308), .lit (.int .u64 7801388544844847127)]
def laid_tryst_sha_h512 {H : Type} : DataW H := .agg [.lit (.int .u64 7640891576956012808), .lit (.int .u64 13503953896175478587), .lit (.int .u64 4354685564936845355), .lit (.int .u64 11912009170470909681), .lit (.int .u64 5840696475078001361), .lit (.int .u64 11170449401992604703), .lit (.int .u64 2270897969802886507), .lit (.int .u64 6620516959819538809)]

/-- 'trystlaw01.ShaExact': WHATEVER THE INPUT: true; the input reads as it did. -/
def shaExactSpec : ChangeSpec := { name := "shaExact", fn := fun _ => fun
  | [d] => { results := [.lit (.bool true)], args := [d] }
  | _ => none }
def shaExactRow : OpenClaim := { program := "ytjdcaipgfolgoaadoor", sum := "04138a21c2f611e33981de9b09aadc1b87bf6b59933afa543989d26ce73da95a", func := "tryst/trystlaw01.ShaExact", spec := "shaExact", named := ["tryst/sha.h256", "tryst/sha.k256", "tryst/sha.h512", "tryst/sha.k512"], apart := false, laid := [("tryst/sha.k256", laid_tryst_sha_k256), ("tryst/sha.h256", laid_tryst_sha_h256), ("tryst/sha.k512", laid_tryst_sha_k512), ("tryst/sha.h512", laid_tryst_sha_h512)] }
def ShaExactSaid : Prop := shaExactRow.holds Tryd.pinned (OpenSpec.ofChange shaExactSpec)

/-- ITS FALSE NEIGHBOUR: 'it returns false'. Refute it at one input. -/
def shaExactWrong : ChangeSpec := { name := "shaExact", fn := fun _ => fun
  | [d] => { results := [.lit (.bool false)], args := [d] }
  | _ => none }
def ShaExactWrongFalsely : Prop := shaExactRow.holds Tryd.pinned (OpenSpec.ofChange shaExactWrong)

/-- 'trystlaw01.ShaRuns': WHATEVER THE INPUT: true; the input reads as it did. -/
def shaRunsSpec : ChangeSpec := { name := "shaRuns", fn := fun _ => fun
  | [d1, d2] => { results := [.lit (.bool true)], args := [d1, d2] }
  | _ => none }
def shaRunsRow : OpenClaim := { program := "ytjdcaipgfolgoaadoor", sum := "04138a21c2f611e33981de9b09aadc1b87bf6b59933afa543989d26ce73da95a", func := "tryst/trystlaw01.ShaRuns", spec := "shaRuns", named := ["tryst/sha.h256", "tryst/sha.k256", "tryst/sha.h512", "tryst/sha.k512"], apart := false, laid := [("tryst/sha.k256", laid_tryst_sha_k256), ("tryst/sha.h256", laid_tryst_sha_h256), ("tryst/sha.k512", laid_tryst_sha_k512), ("tryst/sha.h512", laid_tryst_sha_h512)] }
def ShaRunsSaid : Prop := shaRunsRow.holds Tryd.pinned (OpenSpec.ofChange shaRunsSpec)

/-- ITS FALSE NEIGHBOUR: 'it returns false'. Refute it at one input. -/
def shaRunsWrong : ChangeSpec := { name := "shaRuns", fn := fun _ => fun
  | [d1, d2] => { results := [.lit (.bool false)], args := [d1, d2] }
  | _ => none }
def ShaRunsWrongFalsely : Prop := shaRunsRow.holds Tryd.pinned (OpenSpec.ofChange shaRunsWrong)

/-- 'trystlaw01.ShaAlone': WHATEVER THE INPUT: true; the input reads as it did. -/
def shaAloneSpec : ChangeSpec := { name := "shaAlone", fn := fun _ => fun
  | [d1, d2, d3] => { results := [.lit (.bool true)], args := [d1, d2, d3] }
  | _ => none }
def shaAloneRow : OpenClaim := { program := "ytjdcaipgfolgoaadoor", sum := "04138a21c2f611e33981de9b09aadc1b87bf6b59933afa543989d26ce73da95a", func := "tryst/trystlaw01.ShaAlone", spec := "shaAlone", named := ["tryst/sha.h256", "tryst/sha.k256", "tryst/sha.h512", "tryst/sha.k512"], apart := false, laid := [("tryst/sha.k256", laid_tryst_sha_k256), ("tryst/sha.h256", laid_tryst_sha_h256), ("tryst/sha.k512", laid_tryst_sha_k512), ("tryst/sha.h512", laid_tryst_sha_h512)] }
def ShaAloneSaid : Prop := shaAloneRow.holds Tryd.pinned (OpenSpec.ofChange shaAloneSpec)

/-- ITS FALSE NEIGHBOUR: 'it returns false'. Refute it at one input. -/
def shaAloneWrong : ChangeSpec := { name := "shaAlone", fn := fun _ => fun
  | [d1, d2, d3] => { results := [.lit (.bool false)], args := [d1, d2, d3] }
  | _ => none }
def ShaAloneWrongFalsely : Prop := shaAloneRow.holds Tryd.pinned (OpenSpec.ofChange shaAloneWrong)

/-- 'trystlaw01.ShaLengths': WHATEVER THE INPUT: true; the input reads as it did. -/
def shaLengthsSpec : ChangeSpec := { name := "shaLengths", fn := fun _ => fun
  | [] => { results := [.lit (.bool true)], args := [] }
  | _ => none }
def shaLengthsRow : OpenClaim := { program := "ytjdcaipgfolgoaadoor", sum := "04138a21c2f611e33981de9b09aadc1b87bf6b59933afa543989d26ce73da95a", func := "tryst/trystlaw01.ShaLengths", spec := "shaLengths", named := ["tryst/sha.h256", "tryst/sha.k256", "tryst/sha.h512", "tryst/sha.k512"], apart := false, laid := [("tryst/sha.k256", laid_tryst_sha_k256), ("tryst/sha.h256", laid_tryst_sha_h256), ("tryst/sha.k512", laid_tryst_sha_k512), ("tryst/sha.h512", laid_tryst_sha_h512)] }
def ShaLengthsSaid : Prop := shaLengthsRow.holds Tryd.pinned (OpenSpec.ofChange shaLengthsSpec)

/-- ITS FALSE NEIGHBOUR: 'it returns false'. Refute it at one input. -/
def shaLengthsWrong : ChangeSpec := { name := "shaLengths", fn := fun _ => fun
  | [] => { results := [.lit (.bool false)], args := [] }
  | _ => none }
def ShaLengthsWrongFalsely : Prop := shaLengthsRow.holds Tryd.pinned (OpenSpec.ofChange shaLengthsWrong)

/-- 'trystlaw01.ShaChains': WHATEVER THE INPUT: true; the input reads as it did. -/
def shaChainsSpec : ChangeSpec := { name := "shaChains", fn := fun _ => fun
  | [d1, d2] => { results := [.lit (.bool true)], args := [d1, d2] }
  | _ => none }
def shaChainsRow : OpenClaim := { program := "ytjdcaipgfolgoaadoor", sum := "04138a21c2f611e33981de9b09aadc1b87bf6b59933afa543989d26ce73da95a", func := "tryst/trystlaw01.ShaChains", spec := "shaChains", named := ["tryst/sha.h256", "tryst/sha.k256", "tryst/sha.h512", "tryst/sha.k512"], apart := false, laid := [("tryst/sha.k256", laid_tryst_sha_k256), ("tryst/sha.h256", laid_tryst_sha_h256), ("tryst/sha.k512", laid_tryst_sha_k512), ("tryst/sha.h512", laid_tryst_sha_h512)] }
def ShaChainsSaid : Prop := shaChainsRow.holds Tryd.pinned (OpenSpec.ofChange shaChainsSpec)

/-- ITS FALSE NEIGHBOUR: 'it returns false'. Refute it at one input. -/
def shaChainsWrong : ChangeSpec := { name := "shaChains", fn := fun _ => fun
  | [d1, d2] => { results := [.lit (.bool false)], args := [d1, d2] }
  | _ => none }
def ShaChainsWrongFalsely : Prop := shaChainsRow.holds Tryd.pinned (OpenSpec.ofChange shaChainsWrong)

/-- 'trystlaw02.MacExact': WHATEVER THE INPUT: true; the input reads as it did. -/
def macExactSpec : ChangeSpec := { name := "macExact", fn := fun _ => fun
  | [d1, d2, d3] => { results := [.lit (.bool true)], args := [d1, d2, d3] }
  | _ => none }
def macExactRow : OpenClaim := { program := "ytjdcaipgfolgoaadoor", sum := "04138a21c2f611e33981de9b09aadc1b87bf6b59933afa543989d26ce73da95a", func := "tryst/trystlaw02.MacExact", spec := "macExact", named := ["tryst/sha.h256", "tryst/sha.k256"], apart := false, laid := [("tryst/sha.k256", laid_tryst_sha_k256), ("tryst/sha.h256", laid_tryst_sha_h256)] }
def MacExactSaid : Prop := macExactRow.holds Tryd.pinned (OpenSpec.ofChange macExactSpec)

/-- ITS FALSE NEIGHBOUR: 'it returns false'. Refute it at one input. -/
def macExactWrong : ChangeSpec := { name := "macExact", fn := fun _ => fun
  | [d1, d2, d3] => { results := [.lit (.bool false)], args := [d1, d2, d3] }
  | _ => none }
def MacExactWrongFalsely : Prop := macExactRow.holds Tryd.pinned (OpenSpec.ofChange macExactWrong)

/-- 'trystlaw02.MacKeys': WHATEVER THE INPUT: true; the input reads as it did. -/
def macKeysSpec : ChangeSpec := { name := "macKeys", fn := fun _ => fun
  | [d1, d2, d3] => { results := [.lit (.bool true)], args := [d1, d2, d3] }
  | _ => none }
def macKeysRow : OpenClaim := { program := "ytjdcaipgfolgoaadoor", sum := "04138a21c2f611e33981de9b09aadc1b87bf6b59933afa543989d26ce73da95a", func := "tryst/trystlaw02.MacKeys", spec := "macKeys", named := ["tryst/sha.h256", "tryst/sha.k256"], apart := false, laid := [("tryst/sha.k256", laid_tryst_sha_k256), ("tryst/sha.h256", laid_tryst_sha_h256)] }
def MacKeysSaid : Prop := macKeysRow.holds Tryd.pinned (OpenSpec.ofChange macKeysSpec)

/-- ITS FALSE NEIGHBOUR: 'it returns false'. Refute it at one input. -/
def macKeysWrong : ChangeSpec := { name := "macKeys", fn := fun _ => fun
  | [d1, d2, d3] => { results := [.lit (.bool false)], args := [d1, d2, d3] }
  | _ => none }
def MacKeysWrongFalsely : Prop := macKeysRow.holds Tryd.pinned (OpenSpec.ofChange macKeysWrong)

/-- 'trystlaw02.MacBegins': WHATEVER THE INPUT: true; the input reads as it did. -/
def macBeginsSpec : ChangeSpec := { name := "macBegins", fn := fun _ => fun
  | [d1, d2, d3, d4] => { results := [.lit (.bool true)], args := [d1, d2, d3, d4] }
  | _ => none }
def macBeginsRow : OpenClaim := { program := "ytjdcaipgfolgoaadoor", sum := "04138a21c2f611e33981de9b09aadc1b87bf6b59933afa543989d26ce73da95a", func := "tryst/trystlaw02.MacBegins", spec := "macBegins", named := ["tryst/sha.h256", "tryst/sha.k256"], apart := false, laid := [("tryst/sha.k256", laid_tryst_sha_k256), ("tryst/sha.h256", laid_tryst_sha_h256)] }
def MacBeginsSaid : Prop := macBeginsRow.holds Tryd.pinned (OpenSpec.ofChange macBeginsSpec)

/-- ITS FALSE NEIGHBOUR: 'it returns false'. Refute it at one input. -/
def macBeginsWrong : ChangeSpec := { name := "macBegins", fn := fun _ => fun
  | [d1, d2, d3, d4] => { results := [.lit (.bool false)], args := [d1, d2, d3, d4] }
  | _ => none }
def MacBeginsWrongFalsely : Prop := macBeginsRow.holds Tryd.pinned (OpenSpec.ofChange macBeginsWrong)

/-- 'trystlaw02.MacRows': WHATEVER THE INPUT: true; the input reads as it did. -/
def macRowsSpec : ChangeSpec := { name := "macRows", fn := fun _ => fun
  | [d1, d2, d3] => { results := [.lit (.bool true)], args := [d1, d2, d3] }
  | _ => none }
def macRowsRow : OpenClaim := { program := "ytjdcaipgfolgoaadoor", sum := "04138a21c2f611e33981de9b09aadc1b87bf6b59933afa543989d26ce73da95a", func := "tryst/trystlaw02.MacRows", spec := "macRows", named := ["tryst/sha.h256", "tryst/sha.k256"], apart := false, laid := [("tryst/sha.k256", laid_tryst_sha_k256), ("tryst/sha.h256", laid_tryst_sha_h256)] }
def MacRowsSaid : Prop := macRowsRow.holds Tryd.pinned (OpenSpec.ofChange macRowsSpec)

/-- ITS FALSE NEIGHBOUR: 'it returns false'. Refute it at one input. -/
def macRowsWrong : ChangeSpec := { name := "macRows", fn := fun _ => fun
  | [d1, d2, d3] => { results := [.lit (.bool false)], args := [d1, d2, d3] }
  | _ => none }
def MacRowsWrongFalsely : Prop := macRowsRow.holds Tryd.pinned (OpenSpec.ofChange macRowsWrong)

/-- 'trystlaw02.MacNone': WHATEVER THE INPUT: true; the input reads as it did. -/
def macNoneSpec : ChangeSpec := { name := "macNone", fn := fun _ => fun
  | [d1, d2] => { results := [.lit (.bool true)], args := [d1, d2] }
  | _ => none }
def macNoneRow : OpenClaim := { program := "ytjdcaipgfolgoaadoor", sum := "04138a21c2f611e33981de9b09aadc1b87bf6b59933afa543989d26ce73da95a", func := "tryst/trystlaw02.MacNone", spec := "macNone", named := ["tryst/sha.h256", "tryst/sha.k256"], apart := false, laid := [("tryst/sha.k256", laid_tryst_sha_k256), ("tryst/sha.h256", laid_tryst_sha_h256)] }
def MacNoneSaid : Prop := macNoneRow.holds Tryd.pinned (OpenSpec.ofChange macNoneSpec)

/-- ITS FALSE NEIGHBOUR: 'it returns false'. Refute it at one input. -/
def macNoneWrong : ChangeSpec := { name := "macNone", fn := fun _ => fun
  | [d1, d2] => { results := [.lit (.bool false)], args := [d1, d2] }
  | _ => none }
def MacNoneWrongFalsely : Prop := macNoneRow.holds Tryd.pinned (OpenSpec.ofChange macNoneWrong)

/- THE SECOND FORM. 'bulk': how many values and letters a reading holds, each counted each time it is reached (what is shared counts as often as it is met; a slice's spare places count too). A statement '..UptoSaid' is the law's where the arguments, and the package variables that the reading takes, are together of bulk at most 1048576: NARROWER than '..Said'. Prove '..Said' where nothing that the law and all that it calls make is longer than what came in: it says more and counts as full. Else prove '..UptoSaid'. A law counts once. -/
mutual
def uptoBulk {H : Type} : DataW H → Nat
  | .lit (.string bytes) => bytes.length + 1
  | .lit _ => 1
  | .nil => 1
  | .ptr d => uptoBulk d + 1
  | .slice elems spare => uptoBulkAll elems + uptoBulkAll spare + 1
  | .agg parts => uptoBulkAll parts + 1
  | .iface _ d => uptoBulk d + 1
  | .map entries => uptoBulkEntries entries + 1
  | .held _ => 1
def uptoBulkAll {H : Type} : List (DataW H) → Nat
  | [] => 0
  | d :: r => uptoBulk d + uptoBulkAll r
def uptoBulkEntries {H : Type} : List (Lit × DataW H) → Nat
  | [] => 0
  | x :: r => uptoBulkEntry x + uptoBulkEntries r
def uptoBulkEntry {H : Type} : Lit × DataW H → Nat
  | (.string bytes, d) => bytes.length + uptoBulk d + 1
  | (_, d) => uptoBulk d + 1
 end
def uptoSmall : (H : Type) → List (DataW H) → Bool := fun _ ds => decide (uptoBulkAll ds ≤ 1048576)
def OpenSpec.upto (s : _root_.Go.ChangeSpec) : _root_.Go.OpenSpec := { _root_.Go.OpenSpec.ofChange s with cond := some uptoSmall }

/-- 'trystlaw01.ShaExact', WHERE WHAT IT READS IS OF BULK AT MOST 1048576: true; the input reads as it did. -/
def shaExactUptoRow : OpenClaim := { program := "ytjdcaipgfolgoaadoor", sum := "04138a21c2f611e33981de9b09aadc1b87bf6b59933afa543989d26ce73da95a", func := "tryst/trystlaw01.ShaExact", spec := "shaExact", named := ["tryst/sha.h256", "tryst/sha.k256", "tryst/sha.h512", "tryst/sha.k512"], apart := false, laid := [("tryst/sha.k256", laid_tryst_sha_k256), ("tryst/sha.h256", laid_tryst_sha_h256), ("tryst/sha.k512", laid_tryst_sha_k512), ("tryst/sha.h512", laid_tryst_sha_h512)], narrowed := true }
def ShaExactUptoSaid : Prop := shaExactUptoRow.holds Tryd.pinned (OpenSpec.upto shaExactSpec)

/-- 'trystlaw01.ShaRuns', WHERE WHAT IT READS IS OF BULK AT MOST 1048576: true; the input reads as it did. -/
def shaRunsUptoRow : OpenClaim := { program := "ytjdcaipgfolgoaadoor", sum := "04138a21c2f611e33981de9b09aadc1b87bf6b59933afa543989d26ce73da95a", func := "tryst/trystlaw01.ShaRuns", spec := "shaRuns", named := ["tryst/sha.h256", "tryst/sha.k256", "tryst/sha.h512", "tryst/sha.k512"], apart := false, laid := [("tryst/sha.k256", laid_tryst_sha_k256), ("tryst/sha.h256", laid_tryst_sha_h256), ("tryst/sha.k512", laid_tryst_sha_k512), ("tryst/sha.h512", laid_tryst_sha_h512)], narrowed := true }
def ShaRunsUptoSaid : Prop := shaRunsUptoRow.holds Tryd.pinned (OpenSpec.upto shaRunsSpec)

/-- 'trystlaw01.ShaAlone', WHERE WHAT IT READS IS OF BULK AT MOST 1048576: true; the input reads as it did. -/
def shaAloneUptoRow : OpenClaim := { program := "ytjdcaipgfolgoaadoor", sum := "04138a21c2f611e33981de9b09aadc1b87bf6b59933afa543989d26ce73da95a", func := "tryst/trystlaw01.ShaAlone", spec := "shaAlone", named := ["tryst/sha.h256", "tryst/sha.k256", "tryst/sha.h512", "tryst/sha.k512"], apart := false, laid := [("tryst/sha.k256", laid_tryst_sha_k256), ("tryst/sha.h256", laid_tryst_sha_h256), ("tryst/sha.k512", laid_tryst_sha_k512), ("tryst/sha.h512", laid_tryst_sha_h512)], narrowed := true }
def ShaAloneUptoSaid : Prop := shaAloneUptoRow.holds Tryd.pinned (OpenSpec.upto shaAloneSpec)

/-- 'trystlaw01.ShaLengths', WHERE WHAT IT READS IS OF BULK AT MOST 1048576: true; the input reads as it did. -/
def shaLengthsUptoRow : OpenClaim := { program := "ytjdcaipgfolgoaadoor", sum := "04138a21c2f611e33981de9b09aadc1b87bf6b59933afa543989d26ce73da95a", func := "tryst/trystlaw01.ShaLengths", spec := "shaLengths", named := ["tryst/sha.h256", "tryst/sha.k256", "tryst/sha.h512", "tryst/sha.k512"], apart := false, laid := [("tryst/sha.k256", laid_tryst_sha_k256), ("tryst/sha.h256", laid_tryst_sha_h256), ("tryst/sha.k512", laid_tryst_sha_k512), ("tryst/sha.h512", laid_tryst_sha_h512)], narrowed := true }
def ShaLengthsUptoSaid : Prop := shaLengthsUptoRow.holds Tryd.pinned (OpenSpec.upto shaLengthsSpec)

/-- 'trystlaw01.ShaChains', WHERE WHAT IT READS IS OF BULK AT MOST 1048576: true; the input reads as it did. -/
def shaChainsUptoRow : OpenClaim := { program := "ytjdcaipgfolgoaadoor", sum := "04138a21c2f611e33981de9b09aadc1b87bf6b59933afa543989d26ce73da95a", func := "tryst/trystlaw01.ShaChains", spec := "shaChains", named := ["tryst/sha.h256", "tryst/sha.k256", "tryst/sha.h512", "tryst/sha.k512"], apart := false, laid := [("tryst/sha.k256", laid_tryst_sha_k256), ("tryst/sha.h256", laid_tryst_sha_h256), ("tryst/sha.k512", laid_tryst_sha_k512), ("tryst/sha.h512", laid_tryst_sha_h512)], narrowed := true }
def ShaChainsUptoSaid : Prop := shaChainsUptoRow.holds Tryd.pinned (OpenSpec.upto shaChainsSpec)

/-- 'trystlaw02.MacExact', WHERE WHAT IT READS IS OF BULK AT MOST 1048576: true; the input reads as it did. -/
def macExactUptoRow : OpenClaim := { program := "ytjdcaipgfolgoaadoor", sum := "04138a21c2f611e33981de9b09aadc1b87bf6b59933afa543989d26ce73da95a", func := "tryst/trystlaw02.MacExact", spec := "macExact", named := ["tryst/sha.h256", "tryst/sha.k256"], apart := false, laid := [("tryst/sha.k256", laid_tryst_sha_k256), ("tryst/sha.h256", laid_tryst_sha_h256)], narrowed := true }
def MacExactUptoSaid : Prop := macExactUptoRow.holds Tryd.pinned (OpenSpec.upto macExactSpec)

/-- 'trystlaw02.MacKeys', WHERE WHAT IT READS IS OF BULK AT MOST 1048576: true; the input reads as it did. -/
def macKeysUptoRow : OpenClaim := { program := "ytjdcaipgfolgoaadoor", sum := "04138a21c2f611e33981de9b09aadc1b87bf6b59933afa543989d26ce73da95a", func := "tryst/trystlaw02.MacKeys", spec := "macKeys", named := ["tryst/sha.h256", "tryst/sha.k256"], apart := false, laid := [("tryst/sha.k256", laid_tryst_sha_k256), ("tryst/sha.h256", laid_tryst_sha_h256)], narrowed := true }
def MacKeysUptoSaid : Prop := macKeysUptoRow.holds Tryd.pinned (OpenSpec.upto macKeysSpec)

/-- 'trystlaw02.MacBegins', WHERE WHAT IT READS IS OF BULK AT MOST 1048576: true; the input reads as it did. -/
def macBeginsUptoRow : OpenClaim := { program := "ytjdcaipgfolgoaadoor", sum := "04138a21c2f611e33981de9b09aadc1b87bf6b59933afa543989d26ce73da95a", func := "tryst/trystlaw02.MacBegins", spec := "macBegins", named := ["tryst/sha.h256", "tryst/sha.k256"], apart := false, laid := [("tryst/sha.k256", laid_tryst_sha_k256), ("tryst/sha.h256", laid_tryst_sha_h256)], narrowed := true }
def MacBeginsUptoSaid : Prop := macBeginsUptoRow.holds Tryd.pinned (OpenSpec.upto macBeginsSpec)

/-- 'trystlaw02.MacRows', WHERE WHAT IT READS IS OF BULK AT MOST 1048576: true; the input reads as it did. -/
def macRowsUptoRow : OpenClaim := { program := "ytjdcaipgfolgoaadoor", sum := "04138a21c2f611e33981de9b09aadc1b87bf6b59933afa543989d26ce73da95a", func := "tryst/trystlaw02.MacRows", spec := "macRows", named := ["tryst/sha.h256", "tryst/sha.k256"], apart := false, laid := [("tryst/sha.k256", laid_tryst_sha_k256), ("tryst/sha.h256", laid_tryst_sha_h256)], narrowed := true }
def MacRowsUptoSaid : Prop := macRowsUptoRow.holds Tryd.pinned (OpenSpec.upto macRowsSpec)

/-- 'trystlaw02.MacNone', WHERE WHAT IT READS IS OF BULK AT MOST 1048576: true; the input reads as it did. -/
def macNoneUptoRow : OpenClaim := { program := "ytjdcaipgfolgoaadoor", sum := "04138a21c2f611e33981de9b09aadc1b87bf6b59933afa543989d26ce73da95a", func := "tryst/trystlaw02.MacNone", spec := "macNone", named := ["tryst/sha.h256", "tryst/sha.k256"], apart := false, laid := [("tryst/sha.k256", laid_tryst_sha_k256), ("tryst/sha.h256", laid_tryst_sha_h256)], narrowed := true }
def MacNoneUptoSaid : Prop := macNoneUptoRow.holds Tryd.pinned (OpenSpec.upto macNoneSpec)

end Rows
end Go.Proofs.YtjdcaipgfolgoaaDoor

/-
  The page's Mac: its runs. Own work.
-/
import Derived.Test.YtjdcaipgfolgoaaDoorXl
namespace Go.Proofs.YtjdcaipgfolgoaaDoor
open Go.Sh
open Go.ChangeShapes Go.WideShapes Go.ChangeAt Go.RowKit
set_option maxRecDepth 100000

/-- A key's byte xor the pad, as the machine has it. -/
def pkA (k : Ky) (p j : Nat) : AI := match k with
  | .s n => if Nat.blt j n then .e .xor .u8 (.s (1000 + j)) (nA p) else nA p
  | .l => if Nat.blt j 32 then .e .xor .u8 (.s (700 + j)) (nA p) else nA p
  | _ => nA p
def pkB (k : Ky) (j : Nat) : AI := if Nat.blt j 64 then pkA k 92 j else .s (j - 64)
def pmX (k : Ky) (u : Hd) : AV := match u with
  | .c => slE (k.at + 3) (tg 6) 0
  | _ => .sl (k.at + 2) 0 (nA 64) (.own 1)
def pmXb (k : Ky) (u : Hd) : Gl := match u with
  | .c => [(k.at + 3, ⟨[], wg 6, true⟩)]
  | _ => [(k.at + 2, ⟨rowC .u8 (pkA k 54) 64, eU, true⟩)]
def pmY (k : Ky) (u : Hd) : Nat := match u with
  | .c => k.at + 7
  | _ => k.at + 6
def pmM (k : Ky) (u : Hd) : List RowM := (match k with | .l => [rowF 15 (sl8 64 2) [pin8 64 2] (rowC .u8 (nmA 700) 32)] | _ => []) ++ [rowF 15 (pmX k u) (pmXb k u) (rowC .u8 (nmA 0) 32), rowF 15 (.sl (pmY k u) 0 (nA 96) (.own 1)) [(pmY k u, ⟨rowC .u8 (pkB k) 96, eU, true⟩)] (rowC .u8 (nmA 100) 32)]
def pmF (k : Ky) (u : Hd) : Facts := ⟨[], (match k with | .l => [(.gtr, .s (pinL (tg 2)), nA 64, true)] | _ => []) ++ (match u with | .c => [(.gtr, .s (pinL (tg 4)), .c 0, true), (.lss, .s (pinL (tg 4)), .c 1099511627776, true), (.eql, pAe 6, .s (pinL (tg 6)), true), (.lss, .s (pinL (tg 6)), .c 1099511627776, true)] | _ => []), match u with | .c => [(0, (List.range 64).map (pkA k 54), tg 4, tg 6)] | _ => []⟩
noncomputable def pmGo (k : Ky) (u : Hd) : Bool := saysB (pmF k u) tree [] gl256 [] (pmM k u) (k.gl ++ u.gl 65 (tg 4)) 66 80 4 21 [k.av, u.av 65 (tg 4)] outM
end Go.Proofs.YtjdcaipgfolgoaaDoor

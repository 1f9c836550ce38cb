/-
  MacRows: its runs. Own work.
-/
import Derived.Test.YtjdcaipgfolgoaaDoorXl
namespace Go.Proofs.YtjdcaipgfolgoaaDoor
open Go.Sh
open Go.ChangeShapes Go.WideShapes Go.ChangeAt Go.RowKit
set_option maxRecDepth 100000

def rwL : IC := t11.body
def rwA : IC := rwL.sub [false]
def rwB : IC := rwL.sub [true, false]
def rwC : IC := rwL.sub [true, true, false]
def rwD : IC := rwL.sub [true, true, true, false]
def rwE : IC := rwL.sub [true, true, true, true, false]
def rwI : IC := rwL.sub [true, true, true, true, true, false, false]
def rwR : IC := rwL.sub [true, true, true, true, true, false, true, false, false]
def rwZ : IC := rwL.sub [true, true, true, true, true, true]
theorem rw_shape : t11 = ⟨.seq rwA (.seq rwB (.seq rwC (.seq rwD (.seq rwE (.seq (.seq rwI (.block 0 (.loop rwR))) rwZ))))), [.t 6], 87⟩ := by kernel_rfl
def hpR (s u : Hd) : Gl := s.gl 64 (tg 2) ++ u.gl 65 (tg 4)
def kvR (s : Hd) : AV := s.av 64 (tg 2)
def ivR (u : Hd) : AV := u.av 65 (tg 4)
def argR (s u : Hd) : List (Nat × AV) := [(0, kvR s), (1, ivR u), (2, sI 301)]
def rw0 (s u : Hd) : Now := ⟨argR s u, hpR s u, 66⟩
def rw1 (s u : Hd) (l : List (Nat × AV)) : Now := ⟨l ++ (argR s u ++ [(7, sl8 66 12), (8, iN 0)]), hpR s u ++ [(66, ⟨[], tg 12, false⟩)], 67⟩
def lastR (q : Bool) (b : Nat) : AV := if q then .sl b 0 (nA 32) (.own 1) else .nsl
def lastC (q : Bool) (b o : Nat) : Gl := if q then [(b, ⟨rowC .u8 (nmA o) 32, eU, true⟩)] else []
def winR (w : Nat) : Nat × ABlk := (66, ⟨rowC .u8 (nmA 400) w, wg 16, false⟩)
def winA' (w : Nat) : AV := .slw 66 1 (pAe 16) w (.s 301) .any
def rwN (q : Bool) (s u : Hd) (w : Nat) : Now := ⟨argR s u ++ [(7, winA' w), (9, lastR q 67), (10, .i .i64 (pAe 16)), (11, sI 302)], hpR s u ++ (winR w :: lastC q 67 200), if q then 68 else 67⟩
def nxR (q : Bool) (u : Hd) : Nat := (if q then 73 else 71) + (match u with | .c => 1 | _ => 0)
def rwM (q : Bool) (s u : Hd) (w : Nat) : Now := ⟨argR s u ++ [(7, winA' w), (9, lastR true (nxR q u - 1)), (10, .i .i64 (.e .add .i64 (pAe 16) (nA 32))), (11, .i .i64 (.e .add .i64 (.s 302) (nA 1)))], hpR s u ++ (winR w :: lastC true (nxR q u - 1) 400), nxR q u⟩
def rwX : Now := ⟨[(2, sI 301), (10, .i .i64 (pAe 16))], [], 67⟩
def atR (k : Nat) : AI := .e .add .i64 (pAe 16) (nA k)
def stR (k : Nat) : List Cm := [(.lss, atR k, .s 301, true), (.neq, .s (400 + k), .s (400 + k), false)]
def fRw (q : Bool) (u : Hd) (w : Nat) : Facts := ⟨[], [(.lss, pAe 16, .s 301, true)] ++ ((List.range w).flatMap stR ++ ((if Nat.blt w 32 then [(.lss, atR w, .s 301, false)] else []) ++ (match u with | .c => [(.gtr, .s (pinL (tg 4)), .c 0, true), (.lss, .s (pinL (tg 4)), .c 1099511627776, true), (.eql, pAe 8, .s (pinL (tg 8)), true), (.lss, .s (pinL (tg 8)), .c 1099511627776, true)] | _ => []))), match u with | .c => [(0, (List.range (if q then 32 else 0)).map (nmA 200), tg 4, tg 8)] | _ => []⟩
/-- The round's text, as the machine has it. -/
def txRw (q : Bool) (u : Hd) : AV := match u with
  | .c => slE (nxR q u - 3) (tg 8) 1
  | _ => .sl (nxR q u - 3) 0 (nA (if q then 33 else 1)) (.own 1)
def txRb (q : Bool) (u : Hd) : Gl := match u with
  | .c => [(nxR q u - 3, ⟨rowC .u8 (fun _ => byEx) 1, wg 8, true⟩)]
  | _ => [(nxR q u - 3, ⟨rowC .u8 (exTf q) (if q then 33 else 1), eU, true⟩)]
def rwMr (q : Bool) (s u : Hd) : List RowM := [⟨20, [kvR s, txRw q u], s.gl 64 (tg 2) ++ txRb q u, [.v (.ag (rowC .u8 (nmA 400) 32))]⟩]
def rwEx (s u : Hd) : List RowM := [rowEx (kvR s) (ivR u) (.s 301) (hpR s u) (tg 12)]
def fRwB (s u : Hd) : Facts := ⟨[], [(.gtr, s.len (tg 2), nA 1000, false), (.gtr, u.len (tg 4), nA 1000, false), (.lss, .s 301, .c 0, false), (.gtr, .s 301, nA 1000, false)], []⟩
def fRwD : Facts := ⟨[], [(.neq, .s (pinL (tg 12)), .s 301, false)], []⟩
noncomputable def rwHead (s u : Hd) : Bool := goesX noFacts tree [] gl256 [] [] [] 60 4 rwA (rw0 s u) .normal (rw0 s u) && (goesX (fRwB s u) tree [] gl256 [] [] [] 60 4 rwB (rw0 s u) .normal (rw0 s u) && (goesX noFacts tree [] gl256 [] (rwEx s u) [] 60 4 rwC (rw0 s u) .normal (rw1 s u []) && (goesX fRwD tree [] gl256 [] [] [] 60 4 rwD (rw1 s u []) .normal (rw1 s u []) && (goesX noFacts tree [] gl256 [] [] [] 60 4 rwE (rw1 s u []) .normal (rw1 s u [(9, .nsl)]) && goesX noFacts tree [] gl256 [] [] [] 60 4 rwI (rw1 s u [(9, .nsl)]) .normal (rw1 s u [(9, .nsl), (10, iN 0), (11, iN 1)])))))
noncomputable def rwRound (q : Bool) (s u : Hd) (w : Nat) : Bool := goesX (fRw q u w) tree [] gl256 [] (rwMr q s u) [] 60 4 rwR (rwN q s u w) .normal (rwM q s u w)
theorem rw_head : ∀ s u, rwHead s u = true := by intro s u; cases s <;> cases u <;> kernel_rfl
theorem rw_out : goesX ⟨[], [(.lss, pAe 16, .s 301, false)], []⟩ tree [] gl256 [] [] [] 60 4 rwR rwX (.exit 0) rwX = true := by kernel_rfl
theorem rw_z : goesX noFacts tree [] gl256 [] [rowWm] [] 60 4 rwZ rwX .ret ⟨[(6, .b true)], [], 67⟩ = true := by kernel_rfl
theorem rw_res : resA (trL (⟨[(6, .b true)], [], 67⟩ : Now).e) (heapL ((⟨[(6, .b true)], [], 67⟩ : Now).H ++ gl256) 67) [.t 6] = some (.b true) := by kernel_rfl
end Go.Proofs.YtjdcaipgfolgoaaDoor

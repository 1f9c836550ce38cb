/-
  SlotsAll: who meets whom, as rows; its rounds. Own work.
-/
import Derived.Test.YtcmcagpdajailaaSa
import Derived.Test.YtcmcagpdajailaaShG3
namespace Go.Proofs.Ytcmcagpdajailaa
open Go.Sh
set_option maxRecDepth 100000

/-! Who meets whom. -/

def meetsN (m i k : Nat) : Nat :=
  let n := m + m % 2
  let l := n - 1
  if i = l then k * (n / 2) % l else (let o := (k + l - i) % l; if o = i then l else o)
def xA (m o : Nat) : AV := if o < m then iS (10 + o) else .i .i64 cm1
def slM (m : Nat) : AV := .sl (63 + 2 * m) 0 (.c (.ofNat m)) (.own 1)
def cellsN (m : Nat) : List AV := (List.range m).map fun i => iS (10 + i)
def needM (m : Nat) : Gl := [(63 + 2 * m, blkC (cellsN m))]
def argsP (m i j : Nat) : List AV := [slM m, iS (10 + i), .i .i64 (eJ j)]
def resP (m r i j : Nat) : List AV := [xA m (meetsN m i ((r + j) % lastOf m)), ii 0]
def rowP (m r i j : Nat) : RowM := ⟨7, argsP m i j, needM m, (resP m r i j).map .v⟩
def tmP (m r : Nat) : List RowM := (List.range m).flatMap fun i => (List.range (lastOf m)).map fun j => rowP m r i j
noncomputable def goP (m r i j : Nat) : Bool := saysB (factsJ m r) tree [] [] [] [] (needM m) (64 + 2 * m) 60 3 7 (argsP m i j) (.tp (resP m r i j))
noncomputable def goPm (m : Nat) : Bool := (List.range (lastOf m)).all fun r => (List.range m).all fun i => (List.range (lastOf m)).all fun j => goP m r i j
theorem goP_1 : goPm 1 = true := by kernel_rfl
theorem goP_2 : goPm 2 = true := by kernel_rfl
theorem goP_3 : goPm 3 = true := by kernel_rfl
theorem goP_4 : goPm 4 = true := by kernel_rfl
theorem goP_5 : goPm 5 = true := by kernel_rfl
theorem goP_6 : goPm 6 = true := by kernel_rfl
theorem goP_7 : goPm 7 = true := by kernel_rfl
theorem goP_8 : goPm 8 = true := by kernel_rfl
theorem goP_all (m r i j : Nat) (h1 : 1 ≤ m) (h8 : m ≤ 8) (hr : r < lastOf m) (hi : i < m) (hj : j < lastOf m) : goP m r i j = true := by
  have h : goPm m = true := match m, h1, h8 with
    | 1, _, _ => goP_1
    | 2, _, _ => goP_2
    | 3, _, _ => goP_3
    | 4, _, _ => goP_4
    | 5, _, _ => goP_5
    | 6, _, _ => goP_6
    | 7, _, _ => goP_7
    | 8, _, _ => goP_8
    | n + 9, _, h => by omega
  exact List.all_eq_true.1 (List.all_eq_true.1 (List.all_eq_true.1 h r (List.mem_range.2 hr)) i (List.mem_range.2 hi)) j (List.mem_range.2 hj)
/-! Its rounds. -/

def icRAll : IC := t4.body.sub [true, true, true]
noncomputable def goRAll (m r : Nat) : Bool := goesA (factsJ m r) tree wkR [] [] (tmP m r) 400 6 icRAll (nowN m) .ret ⟨[(4, .b true)], [], 64 + 2 * m⟩
theorem goAll_1_0 : goRAll 1 0 = true := by kernel_rfl
theorem goAll_2_0 : goRAll 2 0 = true := by kernel_rfl
theorem goAll_3_0 : goRAll 3 0 = true := by kernel_rfl
theorem goAll_3_1 : goRAll 3 1 = true := by kernel_rfl
theorem goAll_3_2 : goRAll 3 2 = true := by kernel_rfl
theorem goAll_4_0 : goRAll 4 0 = true := by kernel_rfl
theorem goAll_4_1 : goRAll 4 1 = true := by kernel_rfl
theorem goAll_4_2 : goRAll 4 2 = true := by kernel_rfl
theorem goAll_5_0 : goRAll 5 0 = true := by kernel_rfl
theorem goAll_5_1 : goRAll 5 1 = true := by kernel_rfl
theorem goAll_5_2 : goRAll 5 2 = true := by kernel_rfl
theorem goAll_5_3 : goRAll 5 3 = true := by kernel_rfl
theorem goAll_5_4 : goRAll 5 4 = true := by kernel_rfl
theorem goAll_6_0 : goRAll 6 0 = true := by kernel_rfl
theorem goAll_6_1 : goRAll 6 1 = true := by kernel_rfl
theorem goAll_6_2 : goRAll 6 2 = true := by kernel_rfl
theorem goAll_6_3 : goRAll 6 3 = true := by kernel_rfl
theorem goAll_6_4 : goRAll 6 4 = true := by kernel_rfl
theorem goAll_7_0 : goRAll 7 0 = true := by kernel_rfl
theorem goAll_7_1 : goRAll 7 1 = true := by kernel_rfl
theorem goAll_7_2 : goRAll 7 2 = true := by kernel_rfl
theorem goAll_7_3 : goRAll 7 3 = true := by kernel_rfl
theorem goAll_7_4 : goRAll 7 4 = true := by kernel_rfl
theorem goAll_7_5 : goRAll 7 5 = true := by kernel_rfl
theorem goAll_7_6 : goRAll 7 6 = true := by kernel_rfl
theorem goAll_8_0 : goRAll 8 0 = true := by kernel_rfl
theorem goAll_8_1 : goRAll 8 1 = true := by kernel_rfl
theorem goAll_8_2 : goRAll 8 2 = true := by kernel_rfl
theorem goAll_8_3 : goRAll 8 3 = true := by kernel_rfl
theorem goAll_8_4 : goRAll 8 4 = true := by kernel_rfl
theorem goAll_8_5 : goRAll 8 5 = true := by kernel_rfl
theorem goAll_8_6 : goRAll 8 6 = true := by kernel_rfl
end Go.Proofs.Ytcmcagpdajailaa

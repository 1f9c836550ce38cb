/-
  MacKeys: its rows, its facts. Own work.
-/
import Derived.Test.YtjdcaipgfolgoaaDoorXl
namespace Go.Proofs.YtjdcaipgfolgoaaDoor
open Go.Sh
open Go.ChangeShapes Go.WideShapes Go.ChangeAt Go.RowKit
set_option maxRecDepth 100000

/-- A law's body, evaluated, as a row that says yes: as many rounds as need be. -/
theorem law_rowF {ν : Nat → Int} {F : Facts} {TM : List RowM} {need gl : Gl} {f n fuel : Nat} {args : List AV} (hG : GlOk gl) (hn : gmax ≤ n) (hF : F.Hold ν) (hTM : ∀ r ∈ TM, r.Ok ν Tryd.prog gl) (h : saysB F tree [] gl [] TM need n fuel 4 f args (.b true) = true) (hneed : ∀ p ∈ need, p.1 < n ∧ p.2.elem ≠ mapTag ∧ ∃ us, ∀ ν, concL ν p.2.cells = some us) (hin : args.all (inB need) = true) : RowM.Ok ν Tryd.prog gl ⟨f, args, need, [.v (.b true)]⟩ :=
  rowM_of (res := [.b true]) (us := [.bool true]) hF mixed tab_ok hG (fun r hr => by cases hr) (fun r hr => by cases hr) hTM h hn (fun p hp => ⟨(hneed p hp).1, (hneed p hp).2.1, let ⟨us, hu⟩ := (hneed p hp).2.2; ⟨us, hu ν⟩⟩) hin rfl rfl
def outN : AV := .ag (rowC .u8 (nmA 0) 32)
def sumRow (x y : AV) (need : Gl) : RowM := ⟨20, [x, y], need, [.v outN]⟩
def hp2 (s u : Hd) : Gl := s.gl 64 (tg 2) ++ u.gl 65 (tg 4)
def outH (b : Nat) : Nat × ABlk := (b, ⟨rowC .u8 (nmA 100) 32, eO, true⟩)
def kvK (s : Hd) : AV := s.av 64 (tg 2)
def bvK (u : Hd) : AV := u.av 65 (tg 4)
def baseK (s u : Hd) : List Cm := [(.gtr, s.len (tg 2), nA 1000, false), (.gtr, u.len (tg 4), nA 1000, false), (.lss, .s 302, .c 0, false)]
/-! a long key -/
def klM (u : Hd) : List RowM := [sumRow (kvK .c) (bvK u) (hp2 .c u), rowF 14 (kvK .c) (Hd.c.gl 64 (tg 2)) (rowC .u8 (nmA 100) 32), sumRow (slO 67) (bvK u) (outH 67 :: u.gl 65 (tg 4)), rowEq (slO 66) (slO 68) [outB 66, outB 68], rowWm]
def klF (u : Hd) : Facts := ⟨[], baseK .c u ++ [(.gtr, Hd.c.len (tg 2), nA 64, true)], []⟩
noncomputable def klGo (u : Hd) : Bool := saysB (klF u) tree [] gl256 [] (klM u) (hp2 .c u) 66 60 4 9 [kvK .c, bvK u, sI 302] (.b true)
theorem kl_go : ∀ u, klGo u = true := by intro u; cases u <;> kernel_rfl
/-! a short one: how many noughts are put behind it, and what ended that -/
def longB (s : Hd) (r : Nat) : Gl := match s with
  | .c => [(67 + 2 * r, ⟨rowC .u8 zeroA r, wg 6, true⟩)]
  | _ => if Nat.beq r 0 then [] else [(66 + 2 * r, ⟨rowC .u8 zeroA r, eU, true⟩)]
def longA (s : Hd) (r : Nat) : AV := match s with
  | .c => slE (67 + 2 * r) (tg 6) r
  | _ => if Nat.beq r 0 then .nsl else .sl (66 + 2 * r) 0 (nA r) (.own 1)
def yB (s : Hd) (r : Nat) : Nat := match s with
  | .c => 68 + 2 * r
  | _ => 67 + 2 * r
def ksM (s u : Hd) (r : Nat) : List RowM := [sumRow (kvK s) (bvK u) (hp2 s u), sumRow (longA s r) (bvK u) (longB s r ++ u.gl 65 (tg 4)), rowEq (slO 66) (slO (yB s r)) [outB 66, outB (yB s r)], rowWm]
def stepK (i : Nat) : List Cm := [(.lss, nA i, .s 302, true), (.lss, lenE (pAe 6) i, nA 64, true)]
def endK (r : Nat) (e : Bool) : List Cm := if e then [(.lss, nA r, .s 302, false)] else [(.lss, nA r, .s 302, true), (.lss, lenE (pAe 6) r, nA 64, false)]
def midK (s : Hd) : List Cm := [(.gtr, s.len (tg 2), nA 64, false), (.lss, .s (pinL (tg 2)), .c 1099511627776, true), (.eql, pAe 6, .s (pinL (tg 6)), true), (.lss, .s (pinL (tg 6)), .c 1099511627776, true)]
def gtrK (s : Hd) : List Cm := match s with
  | .c => [(.gtr, .s (pinL (tg 2)), .c 0, true)]
  | _ => []
def ksF (s u : Hd) (r : Nat) (e : Bool) : Facts := ⟨[], baseK s u ++ (midK s ++ (gtrK s ++ ((List.range r).flatMap stepK ++ endK r e))), [(0, [], tg 2, tg 6)]⟩
noncomputable def ksGo (s u : Hd) (r : Nat) (e : Bool) : Bool := saysB (ksF s u r e) tree [] gl256 [] (ksM s u r) (hp2 s u) 66 80 4 9 [kvK s, bvK u, sI 302] (.b true)
/-- What is asked of so many rounds. -/
noncomputable def kyG (s u : Hd) (r : Nat) : Bool := Nat.blt 64 r || (ksGo s u r true && ((match s with | .c => false | _ => Nat.blt r 64) || ksGo s u r false))
noncomputable def kyF (s u : Hd) (i : Nat) : Bool := kyG s u (4 * i) && (kyG s u (4 * i + 1) && (kyG s u (4 * i + 2) && kyG s u (4 * i + 3)))
theorem kyF_all {s u : Hd} (h : ∀ i, i < 17 → kyF s u i = true) {r : Nat} (hr : r ≤ 64) : kyG s u r = true := by
  have h1 := h (r / 4) (by omega)
  simp only [kyF, Bool.and_eq_true] at h1
  obtain ⟨q0, q1, q2, q3⟩ := h1
  rcases (by omega : r = 4 * (r / 4) ∨ r = 4 * (r / 4) + 1 ∨ r = 4 * (r / 4) + 2 ∨ r = 4 * (r / 4) + 3) with e | e | e | e
  · rw [e]; exact q0
  · rw [e]; exact q1
  · rw [e]; exact q2
  · rw [e]; exact q3
end Go.Proofs.YtjdcaipgfolgoaaDoor

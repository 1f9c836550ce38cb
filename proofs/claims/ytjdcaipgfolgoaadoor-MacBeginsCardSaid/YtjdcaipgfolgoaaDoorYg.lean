/-
  MacBegins: its rows, its facts. Own work.
-/
import Derived.Test.YtjdcaipgfolgoaaDoorXl
namespace Go.Proofs.YtjdcaipgfolgoaaDoor
open Go.Sh
open Go.ChangeShapes Go.WideShapes Go.ChangeAt Go.RowKit
set_option maxRecDepth 100000

/-- A law's body, evaluated, as a row that says yes: as many rounds as need be. -/
theorem law_rowF {ν : Nat → Int} {F : Facts} {TM : List RowM} {need gl : Gl} {f n fuel : Nat} {args : List AV} (hG : GlOk gl) (hn : gmax ≤ n) (hF : F.Hold ν) (hTM : ∀ r ∈ TM, r.Ok ν Tryd.prog gl) (h : saysB F tree [] gl [] TM need n fuel 4 f args (.b true) = true) (hneed : ∀ p ∈ need, p.1 < n ∧ p.2.elem ≠ mapTag ∧ ∃ us, ∀ ν, concL ν p.2.cells = some us) (hin : args.all (inB need) = true) : RowM.Ok ν Tryd.prog gl ⟨f, args, need, [.v (.b true)]⟩ :=
  rowM_of (res := [.b true]) (us := [.bool true]) hF mixed tab_ok hG (fun r hr => by cases hr) (fun r hr => by cases hr) hTM h hn (fun p hp => ⟨(hneed p hp).1, (hneed p hp).2.1, let ⟨us, hu⟩ := (hneed p hp).2.2; ⟨us, hu ν⟩⟩) hin rfl rfl
/-- The first ones of a text that is but read. -/
theorem isText_pre {ν : Nat → Int} {need : Gl} {b T m n : Nat} {l : AI} {cap : Cap} {z : Wd} {own : Bool} (hm : (b, ⟨[], T, own⟩) ∈ need) (hT : mapTag < T ∧ T ≤ winTag) (hK : pinK T = .u8) (h0 : 0 < m) (hl : l.val ν = (m : Int)) (hmn : m ≤ n) (hL : ν (pinL T) = (n : Int)) (hB : ∀ j, j < n → ν (pinB T j) = z j) : IsText ν need (.sl b 0 l cap) m z := by
  intro ρ w u hnd hu
  obtain ⟨pl, q1, q2⟩ := hnd _ hm
  have q1 : ρ b = some pl := q1
  have hp : Sh.Pinned ν w T pl := (if_pos hT.2 : (if T ≤ winTag then Sh.Pinned ν w T pl else Windowed ν w (T - mapTag) 0 pl) = _).mp (q2.pin hT.1)
  obtain ⟨C2, ty2, fz2, r1, r2⟩ := hp
  cases hu
  rename_i q m1 c2 hle2 hq hnn hcap
  have hq : ρ b = some q := hq
  rw [q1] at hq
  cases hq
  rw [hl] at hnn
  have hm' : m = m1 := by omega
  subst hm'
  refine .inr ⟨h0, pl.cb, pl.co + 0, c2, rfl, hle2, C2, ty2, fz2, r1, fun j hj => ?_⟩
  have h9 : C2[pl.co + j]? = some (.int (pinK T) (ν (pinB T j))) := r2 j (by show (j : Int) < ν (pinL T); omega)
  rw [Nat.add_zero, h9, hK, hB j (by omega)]
def outN : AV := .ag (rowC .u8 (nmA 0) 32)
def sumRow (x y : AV) (need : Gl) : RowM := ⟨20, [x, y], need, [.v outN]⟩
def hp2 (s u : Hd) : Gl := s.gl 64 (tg 2) ++ u.gl 65 (tg 4)
def kvK (s : Hd) : AV := s.av 64 (tg 2)
def ivK (u : Hd) : AV := u.av 65 (tg 4)
def bgOne (_ : Nat) : AI := nA 1
def bgxA (u : Hd) : AV := match u with
  | .c => slE 70 (tg 14) 1
  | _ => .sl 69 0 (nA 1) (.own 1)
def bgxB (u : Hd) : Gl := match u with
  | .c => [(70, ⟨rowC .u8 bgOne 1, wg 14, true⟩)]
  | _ => [(69, ⟨rowC .u8 bgOne 1, eU, true⟩)]
def bgEq : RowM := rowEq (.sl 66 0 (.s (pinL (tg 8))) .any) (.sl 67 0 (.s 302) .any) [(66, ⟨[], tg 8, true⟩), (67, ⟨[], tg 12, true⟩)]
def bgM (s u : Hd) (z : Bool) : List RowM := [rowEx (kvK s) (ivK u) (.s 302) (hp2 s u) (tg 8), rowEx (kvK s) (ivK u) (.s 303) (hp2 s u) (tg 12), sumRow (kvK s) (bgxA u) (s.gl 64 (tg 2) ++ bgxB u), rowWm] ++ (if z then [] else [bgEq])
def bgBase (s u : Hd) : List Cm := [(.gtr, s.len (tg 2), nA 1000, false), (.gtr, u.len (tg 4), nA 1000, false), (.lss, .s 302, .c 0, false), (.lss, .s 303, .s 302, false), (.gtr, .s 303, nA 400, false), (.neq, .s (pinL (tg 12)), .s 303, false), (.geq, .s 302, .c 0, true), (.leq, .s 302, .s (pinL (tg 12)), true), (.lss, .s (pinL (tg 4)), .c 1099511627776, true), (.eql, pAe 14, .s (pinL (tg 14)), true), (.lss, .s (pinL (tg 14)), .c 1099511627776, true)]
def bgGtr (u : Hd) : List Cm := match u with
  | .c => [(.gtr, .s (pinL (tg 4)), .c 0, true)]
  | _ => []
def bgZ (z : Bool) : List Cm := if z then [(.neq, .s (pinL (tg 8)), .s 302, false), (.lss, .c 0, .s (pinL (tg 8)), false)] else []
def bgStep (i : Nat) : List Cm := [(.lss, nA i, .s 303, true), (.lss, nA i, .s (pinL (tg 12)), true), (.neq, .s (pinB (tg 12) i), .s i, false)]
def bgF (s u : Hd) (z : Bool) (r : Nat) (e : Bool) : Facts := ⟨[], bgBase s u ++ (bgGtr u ++ (bgZ z ++ ((List.range r).flatMap bgStep ++ [(.lss, nA r, .s 303, e)]))), [(0, [], tg 4, tg 14)]⟩
noncomputable def bgGo (s u : Hd) (z : Bool) (r : Nat) (e : Bool) : Bool := saysB (bgF s u z r e) tree [] gl256 [] (bgM s u z) (hp2 s u) 66 60 4 10 [kvK s, ivK u, sI 302, sI 303] (.b true)
noncomputable def bgG (s u : Hd) (z : Bool) (r : Nat) : Bool := bgGo s u z r false && (Nat.blt r 32 || bgGo s u z 32 true)
/-- What is asked of so many rounds. -/
noncomputable def bgH (s u : Hd) (z : Bool) (r : Nat) : Bool := Nat.blt 32 r || bgG s u z r
noncomputable def bgP (s u : Hd) (z : Bool) (i : Nat) : Bool := bgH s u z (4 * i) && (bgH s u z (4 * i + 1) && (bgH s u z (4 * i + 2) && bgH s u z (4 * i + 3)))
theorem bgP_all {s u : Hd} {z : Bool} (h : ∀ i, i < 9 → bgP s u z i = true) {r : Nat} (hr : r ≤ 32) : bgH s u z r = true := by
  have h1 := h (r / 4) (by omega)
  simp only [bgP, Bool.and_eq_true] at h1
  obtain ⟨q0, q1, q2, q3⟩ := h1
  rcases (by omega : r = 4 * (r / 4) ∨ r = 4 * (r / 4) + 1 ∨ r = 4 * (r / 4) + 2 ∨ r = 4 * (r / 4) + 3) with e | e | e | e
  · rw [e]; exact q0
  · rw [e]; exact q1
  · rw [e]; exact q2
  · rw [e]; exact q3
end Go.Proofs.YtjdcaipgfolgoaaDoor

/-
  Laws over texts: their rows, their names. Own work.
-/
import Derived.Test.YtjdcaipgfolgoaaDoorXc
namespace Go.Proofs.YtjdcaipgfolgoaaDoor
open Go.Sh
open Go.ChangeShapes Go.WideShapes Go.ChangeAt Go.RowKit
set_option maxRecDepth 100000

abbrev Cm := BinOp × AI × AI × Bool
def loS (n : Nat) (z : Wd) : Wd := two (sum256 z n) 100 (sum256Q z n)
theorem loS_1 {n j : Nat} {z : Wd} (h : j < 32) : (nmA 0 j).val (nuL (loS n z) n z) = sum256 z n j := by
  show nuL (loS n z) n z (0 + j) = _
  rw [Nat.zero_add, nuL_lo (by omega)]
  exact two_lo (by omega)
theorem loS_2 {n j : Nat} {z : Wd} (h : j < 64) : (nmA 100 j).val (nuL (loS n z) n z) = sum256Q z n j := by
  show nuL (loS n z) n z (100 + j) = _
  rw [nuL_lo (by omega)]
  exact two_hi j
def outB (b : Nat) : Nat × ABlk := (b, ⟨rowC .u8 (nmA 0) 32, eO, true⟩)
def outC (b : Nat) : Nat × ABlk := (b, ⟨rowC .u8 (nmA 100) 64, eB, true⟩)
def slO (b : Nat) : AV := .sl b 0 (nA 32) (.ex 32)
def slC (b : Nat) : AV := .sl b 0 (nA 64) (.ex 64)
def sumRows (x : AV) (nx : Gl) (y : AV) (ny : Gl) : List RowM := [rowF 14 x nx (rowC .u8 (nmA 0) 32), rowF 15 y ny (rowC .u8 (nmA 0) 32), rowF 16 x nx (rowC .u8 (nmA 100) 64), rowF 17 y ny (rowC .u8 (nmA 100) 64)]
def eqRows (b : Nat) : List RowM := [rowEq (slO b) (slO (b + 1)) [outB b, outB (b + 1)], rowEq (slC (b + 2)) (slC (b + 3)) [outC (b + 2), outC (b + 3)], rowWk]
theorem sumRows_ok {n : Nat} {z : Wd} {x y : AV} {nx ny : Gl} (hx : IsText (nuL (loS n z) n z) nx x n z) (hy : IsText (nuL (loS n z) n z) ny y n z) (hb : Bytes z n) (hn : n < 100000000000) : ∀ r ∈ sumRows x nx y ny, r.Ok (nuL (loS n z) n z) Tryd.prog glS := by
  intro r hr
  simp only [sumRows, List.mem_cons, List.not_mem_nil, or_false] at hr
  rcases hr with rfl | rfl | rfl | rfl
  · exact rowS_ok hx hn fun j hj => loS_1 hj
  · exact rowR_ok hy hb hn fun j hj => loS_1 hj
  · exact rowS_okQ hx hn fun j hj => loS_2 hj
  · exact rowR_okQ hy hb hn fun j hj => loS_2 hj
theorem outB_text {n : Nat} {z : Wd} {b : Nat} {need : Gl} (hm : outB b ∈ need) : IsText (nuL (loS n z) n z) need (slO b) 32 (sum256 z n) := isText_row (off := 0) (n := 32) hm (by decide) (by decide) (by decide) fun j hj => by rw [Nat.zero_add]; exact loS_1 hj
theorem outC_text {n : Nat} {z : Wd} {b : Nat} {need : Gl} (hm : outC b ∈ need) : IsText (nuL (loS n z) n z) need (slC b) 64 (sum256Q z n) := isText_row (off := 0) (n := 64) hm (by decide) (by decide) (by decide) fun j hj => by rw [Nat.zero_add]; exact loS_2 hj
theorem eqRows_ok {n : Nat} {z : Wd} (b : Nat) : ∀ r ∈ eqRows b, r.Ok (nuL (loS n z) n z) Tryd.prog glS := by
  intro r hr
  simp only [eqRows, List.mem_cons, List.not_mem_nil, or_false] at hr
  rcases hr with rfl | rfl | rfl
  · exact rowEq_ok (outB_text (by simp)) (outB_text (by simp)) (by decide) (by decide)
  · exact rowEq_ok (outC_text (by simp)) (outC_text (by simp)) (by decide) (by decide)
  · exact rowWk_ok
def fM (b : Bool) : Facts := ⟨[], [(.gtr, lnT, nA 3000, b)], []⟩
theorem fM_hold {n : Nat} {lo z : Wd} {b : Bool} (h : decide (3000 < n) = b) : (fM b).Hold (nuL lo n z) := by
  refine ⟨fun p hp => (by cases hp), fun p hp => ?_, fun p hp => by cases hp⟩
  simp only [fM, List.mem_cons, List.not_mem_nil, or_false] at hp
  subst hp
  show decide (nuL lo n z (pinL T0) > ((3000 : Nat) : Int)) = b
  rw [nuL_L0, ← h]
  by_cases hh : 3000 < n
  · rw [decide_eq_true hh, decide_eq_true (show ((n : Nat) : Int) > ((3000 : Nat) : Int) by omega)]
  · rw [decide_eq_false hh, decide_eq_false (show ¬ ((n : Nat) : Int) > ((3000 : Nat) : Int) by omega)]
theorem rows_app {ν : Nat → Int} {P : Program} {gl : Gl} {A B : List RowM} (ha : ∀ r ∈ A, r.Ok ν P gl) (hb : ∀ r ∈ B, r.Ok ν P gl) : ∀ r ∈ A ++ B, r.Ok ν P gl := fun r hr => (List.mem_append.1 hr).elim (ha r) (hb r)
/-- What a row says of a call. -/
theorem yes_of {ν : Nat → Int} {f : Nat} {args : List AV} {need : Gl} {ρ : Emb} {w : World} {vs : Array Value} (h : RowM.Ok ν Tryd.prog glS ⟨f, args, need, [.v (.b true)]⟩) (hw : Laid glS w) (hn : NeedOk ν ρ w need) (ha : LR ν ρ args vs) : Calls Tryd.prog f vs w fun e w' => e = .returned (.bool true) ∧ Below w.heap.size w w' :=
  (h.2 ρ w vs hw hn ha).mono fun e w' ⟨us, he, hp, hB⟩ => ⟨by
    match us, hp with
    | [u], hp =>
      have : some (Value.bool true) = some u := hp.1
      cases this
      exact he, hB⟩
/-- A text that is too long. -/
def txO : Nat × ABlk := (64, ⟨[], 0, false⟩)
def slO0 : AV := .sl 64 0 (.s 0) .any
def fO (a : Nat) : Facts := ⟨[], [(.gtr, .s 0, nA a, true)], []⟩
theorem fO_hold {n a : Nat} (h : a < n) : (fO a).Hold (fun _ => (n : Int)) := by
  refine ⟨fun p hp => (by cases hp), fun p hp => ?_, fun p hp => by cases hp⟩
  simp only [fO, List.mem_cons, List.not_mem_nil, or_false] at hp
  subst hp
  show decide ((n : Int) > ((a : Nat) : Int)) = true
  exact decide_eq_true (by omega)
theorem over_need {w : World} {cb o c n : Nat} {z : Wd} (hle : n ≤ c) (hz : CellsAt w .u8 cb o n z) :
    NeedOk (fun _ => (n : Int)) (embF (at1 64 ⟨cb, o, 0⟩)) w [txO] ∧ VR (fun _ => (n : Int)) (embF (at1 64 ⟨cb, o, 0⟩)) slO0 (.slice (some ⟨cb, o, none⟩) n c) := by
  obtain ⟨C, ty, fz, hC, hz⟩ := hz
  refine ⟨fun p hp => ?_, .sl 64 0 _ .any ⟨cb, o, 0⟩ n c (at1_at (by decide)) rfl trivial hle⟩
  simp only [List.mem_cons, List.not_mem_nil, or_false] at hp
  subst hp
  exact ⟨⟨cb, o, 0⟩, at1_at (by decide), ⟨fun _ => ⟨C, ty, fz, hC, fun j c hc => by simp [txO, ABlk.shut] at hc, fun h => by cases h⟩, fun h => by exact absurd h (by decide), fun h => by exact absurd h (by decide)⟩⟩
theorem need_txP : ∀ p ∈ [txP], p.1 < 65 ∧ p.2.elem ≠ mapTag ∧ ∃ us, ∀ ν, concL ν p.2.cells = some us := fun p hp => by
  simp only [List.mem_cons, List.not_mem_nil, or_false] at hp
  subst hp
  exact ⟨by decide, by decide, [], fun _ => rfl⟩
theorem need_txO : ∀ p ∈ [txO], p.1 < 65 ∧ p.2.elem ≠ mapTag ∧ ∃ us, ∀ ν, concL ν p.2.cells = some us := fun p hp => by
  simp only [List.mem_cons, List.not_mem_nil, or_false] at hp
  subst hp
  exact ⟨by decide, by decide, [], fun _ => rfl⟩
/-- A law's body, evaluated, as a row that says yes. -/
theorem law_row {ν : Nat → Int} {F : Facts} {TM : List RowM} {need : Gl} {f : Nat} {args : List AV} (hF : F.Hold ν) (hTM : ∀ r ∈ TM, r.Ok ν Tryd.prog glS) (h : saysB F tree [] glS [] TM need 65 60 4 f args (.b true) = true) (hneed : ∀ p ∈ need, p.1 < 65 ∧ p.2.elem ≠ mapTag ∧ ∃ us, ∀ ν, concL ν p.2.cells = some us) (hin : args.all (inB need) = true) : RowM.Ok ν Tryd.prog glS ⟨f, args, need, [.v (.b true)]⟩ :=
  rowM_of (res := [.b true]) (us := [.bool true]) hF mixed tab_ok glS_ok (fun r hr => by cases hr) (fun r hr => by cases hr) hTM h (by decide) (fun p hp => ⟨(hneed p hp).1, (hneed p hp).2.1, let ⟨us, hu⟩ := (hneed p hp).2.2; ⟨us, hu ν⟩⟩) hin rfl rfl
/-! Sums under names of their own. -/
theorem wrap_u8 (x : Int) : ∃ b : Nat, IntKind.u8.wrap x = (b : Int) ∧ b < 256 := by
  refine ⟨(x % 256).toNat, ?_, by omega⟩
  simp only [IntKind.wrap, IntKind.bits, IntKind.signed]
  simp
  omega
theorem sum_bytes (z : Wd) (n m : Nat) : Bytes (sum256 z n) m := fun _ _ => wrap_u8 _
theorem sum_bytesQ (z : Wd) (n m : Nat) : Bytes (sum256Q z n) m := fun _ _ => wrap_u8 _
section
variable {ν : Nat → Int} {X U : Wd}
theorem outB_textG (hX : ∀ j, j < 32 → ν j = X j) {b : Nat} {need : Gl} (hm : outB b ∈ need) : IsText ν need (slO b) 32 X := isText_row (off := 0) (n := 32) hm (by decide) (by decide) (by decide) fun j hj => by show ν (0 + (0 + j)) = _; rw [Nat.zero_add, Nat.zero_add]; exact hX j hj
theorem outC_textG (hU : ∀ j, j < 64 → ν (100 + j) = U j) {b : Nat} {need : Gl} (hm : outC b ∈ need) : IsText ν need (slC b) 64 U := isText_row (off := 0) (n := 64) hm (by decide) (by decide) (by decide) fun j hj => by show ν (100 + (0 + j)) = _; rw [Nat.zero_add]; exact hU j hj
theorem eqRows_okG (hX : ∀ j, j < 32 → ν j = X j) (hU : ∀ j, j < 64 → ν (100 + j) = U j) (b : Nat) : ∀ r ∈ eqRows b, r.Ok ν Tryd.prog glS := by
  intro r hr
  simp only [eqRows, List.mem_cons, List.not_mem_nil, or_false] at hr
  rcases hr with rfl | rfl | rfl
  · exact rowEq_ok (outB_textG hX (by simp)) (outB_textG hX (by simp)) (by decide) (by decide)
  · exact rowEq_ok (outC_textG hU (by simp)) (outC_textG hU (by simp)) (by decide) (by decide)
  · exact rowWk_ok
end
end Go.Proofs.YtjdcaipgfolgoaaDoor

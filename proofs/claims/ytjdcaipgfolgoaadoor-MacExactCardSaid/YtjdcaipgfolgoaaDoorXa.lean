/-
  Calls over texts, as rows; "abc". Own work.
-/
import Derived.Test.YtjdcaipgfolgoaaDoorWb
import Derived.Test.YtjdcaipgfolgoaaDoorWc
namespace Go.Proofs.YtjdcaipgfolgoaaDoor
open Go.Sh
open Go.ChangeShapes Go.WideShapes Go.RowKit
set_option maxRecDepth 100000

/-- A slot that is a text. -/
def IsText (ν : Nat → Int) (need : Gl) (x : AV) (n : Nat) (z : Wd) : Prop := ∀ ρ w u, NeedOk ν ρ w need → VR ν ρ x u → TextAt w u n z
section
variable {ν : Nat → Int} {need : Gl}
theorem isText_nsl {z : Wd} : IsText ν need .nsl 0 z := fun ρ w u _ hu => by
  cases hu
  exact .inl ⟨rfl, .inl rfl⟩
theorem isText_sle {z : Wd} {b : Bool} : IsText ν need (.sle b) 0 z := fun ρ w u _ hu => by
  cases hu
  exact .inl ⟨rfl, .inr ⟨_, _, rfl⟩⟩
theorem isText_pin {b T n : Nat} {cap : Cap} {z : Wd} {own : Bool} (hm : (b, ⟨[], T, own⟩) ∈ need) (hT : mapTag < T ∧ T ≤ winTag) (hK : pinK T = .u8) (h0 : 0 < n) (hL : ν (pinL T) = (n : Int)) (hB : ∀ j, j < n → ν (pinB T j) = z j) : IsText ν need (.sl b 0 (.s (pinL T)) cap) n z := by
  intro ρ w u hnd hu
  obtain ⟨pl, q1, q2⟩ := hnd _ hm
  have q1 : ρ b = some pl := q1
  have hp : Sh.Pinned ν w T pl := (if_pos hT.2 : (if T ≤ winTag then Sh.Pinned ν w T pl else Windowed ν w (T - mapTag) 0 pl) = _).mp (q2.pin hT.1)
  obtain ⟨C2, ty2, fz2, r1, r2⟩ := hp
  cases hu
  rename_i q m c2 hle2 hq hnn hcap
  have hq : ρ b = some q := hq
  rw [q1] at hq
  cases hq
  have hnn : ν (pinL T) = (m : Int) := hnn
  have hm' : n = m := by omega
  subst hm'
  refine .inr ⟨h0, pl.cb, pl.co + 0, c2, rfl, hle2, C2, ty2, fz2, r1, fun j hj => ?_⟩
  have h9 : C2[pl.co + j]? = some (.int (pinK T) (ν (pinB T j))) := r2 j (by show (j : Int) < ν (pinL T); omega)
  rw [Nat.add_zero, h9, hK, hB j hj]
theorem isText_row {b e off m n : Nat} {own : Bool} {cap : Cap} {f : Nat → AI} {z : Wd} (hm : (b, ⟨rowC .u8 f n, e, own⟩) ∈ need) (he : e < mapTag) (h0 : 0 < m) (hle : off + m ≤ n) (hz : ∀ j, j < m → (f (off + j)).val ν = z j) : IsText ν need (.sl b off (nA m) cap) m z := by
  intro ρ w u hnd hu
  obtain ⟨pl, q1, q2⟩ := hnd _ hm
  have q1 : ρ b = some pl := q1
  obtain ⟨C, t, fz, g1, g2, _⟩ := q2.cells (Nat.ne_of_lt he)
  cases hu
  rename_i q m2 c2 hle2 hq hnn hcap
  have hq : ρ b = some q := hq
  rw [q1] at hq
  cases hq
  have hnn : ((m : Nat) : Int) = (m2 : Int) := hnn
  have hm' : m = m2 := by omega
  subst hm'
  refine .inr ⟨h0, pl.cb, pl.co + off, c2, rfl, hle2, C, t, fz, g1, fun j hj => ?_⟩
  obtain ⟨v, u1, u2⟩ := g2 (off + j) (.i .u8 (f (off + j))) (by show (rowC .u8 f n)[off + j]? = _; simp [rowC, show off + j < n by omega])
  cases u2
  rw [Nat.add_assoc, u1, hz j hj]
end
theorem one_arg {ν : Nat → Int} {ρ : Emb} {x : AV} {vs : Array Value} (hl : LR ν ρ [x] vs) : ∃ u, vs = #[u] ∧ VR ν ρ x u := by
  have hlen : vs.size = 1 := by rw [← hl.1]; rfl
  obtain ⟨u, rfl⟩ : ∃ u, vs = #[u] := by
    match vs, hlen with
    | ⟨[u]⟩, _ => exact ⟨u, rfl⟩
  exact ⟨u, rfl, hl.2 0 _ u rfl rfl⟩
theorem two_args {ν : Nat → Int} {ρ : Emb} {x y : AV} {vs : Array Value} (hl : LR ν ρ [x, y] vs) : ∃ u v, vs = #[u, v] ∧ VR ν ρ x u ∧ VR ν ρ y v := by
  have hlen : vs.size = 2 := by rw [← hl.1]; rfl
  obtain ⟨u, v, rfl⟩ : ∃ u v, vs = #[u, v] := by
    match vs, hlen with
    | ⟨[u, v]⟩, _ => exact ⟨u, v, rfl⟩
  exact ⟨u, v, rfl, hl.2 0 _ u rfl rfl, hl.2 1 _ v rfl rfl⟩
/-- What a row is that answers a row of numbers. -/
theorem packR {ν : Nat → Int} {n : Nat} {w : World} {k : IntKind} {g : Nat → AI} {m : Nat} {s : Wd} (hg : ∀ j, j < m + 1 → (g j).val ν = s j) : PartsR ν n w [.v (.ag (rowC k g (m + 1)))] [aggI k (m + 1) s] :=
  ⟨by show conc2 ν _ = _; rw [conc2_row]; exact congrArg some (aggI_congr hg), trivial⟩
def rowF (f : Nat) (x : AV) (need : Gl) (r : List AV) : RowM := ⟨f, [x], need, [.v (.ag r)]⟩
section
variable {ν : Nat → Int} {need : Gl} {x y : AV} {n : Nat} {z : Wd} {g : Nat → AI}
/-- A text again, in new memory. -/
def rowTw (T : Nat) (x : AV) (need : Gl) : RowM := ⟨13, [x], need, [.new T]⟩
/-- Two texts that are one. -/
def rowEq (x y : AV) (need : Gl) : RowM := ⟨18, [x, y], need, [.v (.b true)]⟩
end
end Go.Proofs.YtjdcaipgfolgoaaDoor

/-
  WHAT IS GENERAL OF TEXTS: rows, windows, calls over texts; twins, comparisons. Own work, merged by program.
-/
import Derived.Test.YtheidgcgdkmmiaaDoorSa
namespace Go.Proofs.YtheidgcgdkmmiaaDoor
open Go.Sh
open Go.ChangeShapes Go.WideShapes Go.ChangeAt Go.RowKit
set_option maxRecDepth 100000
theorem seqN {P : Program} {N : Nat} {x y : IC} {Pre Mid : Act → World → Prop} {Post : Ex → Act → World → Prop} (h1 : Tri P N x Pre fun ex a w => ex = .normal ∧ Mid a w) (h2 : Tri P N y Mid Post) : Tri P N (.seq x y) Pre Post :=
  Tri.seq h1 (h2.weak (fun _ _ h => h.2) (fun _ _ _ h => h)) (fun _ _ _ hne h => (hne h.1).elim)
theorem gl0_ok : GlOk [] := fun p hp => by cases hp
theorem none_f (ν : Nat → Int) : noFacts.Hold ν := noFacts_hold ν
def zeroA (_ : Nat) : AI := .c 0
def iN (n : Nat) : AV := .i .i64 (.c (.ofNat n))
def nmA (b : Nat) (j : Nat) : AI := .s (b + j)
def setA (f : Nat → AI) (t : Nat) (x : AI) (j : Nat) : AI := if Nat.beq j t then x else f j
def sI (k : Nat) : AV := .i .i64 (.s k)
theorem w_u64 {n : Nat} (h : n < 18446744073709551616) : IntKind.u64.wrap ((n : Nat) : Int) = n := by
  simp only [IntKind.wrap, IntKind.bits, IntKind.signed]
  simp
  omega
theorem w_u32 (n : Nat) : IntKind.u32.wrap ((n : Nat) : Int) = ((n % 4294967296 : Nat) : Int) := by
  simp only [IntKind.wrap, IntKind.bits, IntKind.signed]
  simp
theorem w_u8 (n : Nat) : IntKind.u8.wrap ((n : Nat) : Int) = ((n % 256 : Nat) : Int) := by
  simp only [IntKind.wrap, IntKind.bits, IntKind.signed]
  simp
theorem shrN {k : IntKind} (n s : Nat) (h : s ≤ k.bits) : arith .shr k ((n : Nat) : Int) ((s : Nat) : Int) = ((n / 2 ^ s : Nat) : Int) := by
  show ((n : Nat) : Int).fdiv (2 ^ (min ((s : Nat) : Int).toNat k.bits)) = _
  rw [Int.toNat_natCast, Nat.min_eq_left h, Int.fdiv_eq_ediv_of_nonneg _ (Int.pow_nonneg (by decide))]
  norm_cast
theorem shl64 (n s : Nat) (h : s ≤ 64) (hb : n * 2 ^ s < 18446744073709551616) : arith .shl .u64 ((n : Nat) : Int) ((s : Nat) : Int) = ((n * 2 ^ s : Nat) : Int) := by
  show IntKind.u64.wrap (((n : Nat) : Int) * 2 ^ (min ((s : Nat) : Int).toNat 64)) = _
  rw [Int.toNat_natCast, Nat.min_eq_left h]
  have : ((n : Nat) : Int) * 2 ^ s = ((n * 2 ^ s : Nat) : Int) := by push_cast; rfl
  rw [this]
  exact w_u64 hb
def TextAt (w : World) (v : Value) (n : Nat) (z : Wd) : Prop :=
  (n = 0 ∧ (v = .slice none 0 0 ∨ ∃ a c, v = .slice (some a) 0 c)) ∨ (0 < n ∧ ∃ cb o c, v = .slice (some ⟨cb, o, none⟩) n c ∧ n ≤ c ∧ CellsAt w .u8 cb o n z)
theorem i64_small {a : Int} (h0 : 0 ≤ a) (h1 : a < 4611686018427387904) : IntKind.i64.wrap a = a := by
  simp only [IntKind.wrap, IntKind.bits, IntKind.signed]
  simp
  omega
def T0 : Nat := mapTag + 2
def lnT : AI := .s (pinL T0)
def atT : AI := .s (pinA T0)
def T1 : Nat := mapTag + 4
def Bytes (m : Wd) (n : Nat) : Prop := ∀ j, j < n → ∃ b : Nat, m j = (b : Int) ∧ b < 256
theorem Tri.ex {P : Program} {N : Nat} {ic : IC} {ι : Type} {Pre : ι → Act → World → Prop} {Post : Ex → Act → World → Prop} (h : ∀ i, Tri P N ic (Pre i) Post) : Tri P N ic (fun a w => ∃ i, Pre i a w) Post :=
  fun c hc a w ⟨i, hp⟩ => h i c hc a w hp
def fT : Facts := ⟨[], [(.gtr, lnT, .c 0, true), (.lss, lnT, .c 1099511627776, true), (.eql, atT, lnT, true)], [(0, [], T0, T0)]⟩
def IsText (ν : Nat → Int) (need : Gl) (x : AV) (n : Nat) (z : Wd) : Prop := ∀ ρ w u, NeedOk ν ρ w need → VR ν ρ x u → TextAt w u n z
section
variable {ν : Nat → Int} {need : Gl}
theorem isText_row {b e off m n : Nat} {own : Bool} {cap : Cap} {f : Nat → AI} {z : Wd} (hm : (b, ⟨rowC .u8 f n, e, own⟩) ∈ need) (he : e < mapTag) (h0 : 0 < m) (hle : off + m ≤ n) (hz : ∀ j, j < m → (f (off + j)).val ν = z j) : IsText ν need (.sl b off (nA m) cap) m z := by
  intro ρ w u hnd hu
  obtain ⟨pl, q1, q2⟩ := hnd _ hm
  have q1 : ρ b = some pl := q1
  obtain ⟨C, t, fz, g1, g2, _⟩ := q2.cells (Nat.ne_of_lt he)
  cases hu
  rename_i q m2 c2 hle2 hq hnn hcap
  have hq : ρ b = some q := hq
  rw [q1] at hq
  cases hq
  have hnn : ((m : Nat) : Int) = (m2 : Int) := hnn
  have hm' : m = m2 := by omega
  subst hm'
  refine .inr ⟨h0, pl.cb, pl.co + off, c2, rfl, hle2, C, t, fz, g1, fun j hj => ?_⟩
  obtain ⟨v, u1, u2⟩ := g2 (off + j) (.i .u8 (f (off + j))) (by show (rowC .u8 f n)[off + j]? = _; simp [rowC, show off + j < n by omega])
  cases u2
  rw [Nat.add_assoc, u1, hz j hj]
end
theorem one_arg {ν : Nat → Int} {ρ : Emb} {x : AV} {vs : Array Value} (hl : LR ν ρ [x] vs) : ∃ u, vs = #[u] ∧ VR ν ρ x u := by
  have hlen : vs.size = 1 := by rw [← hl.1]; rfl
  obtain ⟨u, rfl⟩ : ∃ u, vs = #[u] := by
    match vs, hlen with
    | ⟨[u]⟩, _ => exact ⟨u, rfl⟩
  exact ⟨u, rfl, hl.2 0 _ u rfl rfl⟩
theorem packR {ν : Nat → Int} {n : Nat} {w : World} {k : IntKind} {g : Nat → AI} {m : Nat} {s : Wd} (hg : ∀ j, j < m + 1 → (g j).val ν = s j) : PartsR ν n w [.v (.ag (rowC k g (m + 1)))] [aggI k (m + 1) s] :=
  ⟨by show conc2 ν _ = _; rw [conc2_row]; exact congrArg some (aggI_congr hg), trivial⟩
def tg (t : Nat) : Nat := mapTag + t
def nuR (lo : Nat → Int) (len at_ : Nat → Nat) (z : Nat → Wd) : Nat → Int := fun k => if k < 10000 then lo k else if k % 1099511627776 = 0 then ((len (k / 1099511627776) : Nat) : Int) else if k % 1099511627776 = 1099511627775 then ((at_ (k / 1099511627776) : Nat) : Int) else z (k / 1099511627776) (k % 1099511627776 - 1)
section
variable {lo : Nat → Int} {len at_ : Nat → Nat} {z : Nat → Wd} {t : Nat}
theorem nuR_lo {k : Nat} (h : k < 10000) : nuR lo len at_ z k = lo k := if_pos h
end
section
variable {lo : Nat → Int} {len at_ : Nat → Nat} {z : Nat → Wd} {t : Nat}
theorem tg_L (t : Nat) : pinL (tg t) = t * 1099511627776 := by
  show (mapTag + t - mapTag) * _ = _
  rw [Nat.add_sub_cancel_left]
end
section
variable {lo : Nat → Int} {len at_ : Nat → Nat} {z : Nat → Wd} {t : Nat}
theorem tg_A (t : Nat) : pinA (tg t) = t * 1099511627776 + 1099511627775 := by
  show (mapTag + t - mapTag) * _ + _ = _
  rw [Nat.add_sub_cancel_left]
end
section
variable {lo : Nat → Int} {len at_ : Nat → Nat} {z : Nat → Wd} {t : Nat}
theorem tg_B (t j : Nat) : pinB (tg t) j = t * 1099511627776 + (j + 1) := by
  show (mapTag + t - mapTag) * _ + _ = _
  rw [Nat.add_sub_cancel_left]
end
section
variable {lo : Nat → Int} {len at_ : Nat → Nat} {z : Nat → Wd} {t : Nat}
theorem nuR_L (ht : 0 < t) : nuR lo len at_ z (pinL (tg t)) = (len t : Int) := by
  unfold nuR
  rw [tg_L, if_neg (by omega), Nat.mul_mod_left, if_pos rfl, Nat.mul_div_left _ (by decide)]
end
section
variable {lo : Nat → Int} {len at_ : Nat → Nat} {z : Nat → Wd} {t : Nat}
theorem nuR_A (ht : 0 < t) : nuR lo len at_ z (pinA (tg t)) = (at_ t : Int) := by
  unfold nuR
  rw [tg_A, if_neg (by omega), if_neg (by omega), if_pos (by omega), show (t * 1099511627776 + 1099511627775) / 1099511627776 = t by omega]
end
section
variable {lo : Nat → Int} {len at_ : Nat → Nat} {z : Nat → Wd} {t : Nat}
theorem nuR_B (ht : 0 < t) {j : Nat} (hj : j < 1099511627774) : nuR lo len at_ z (pinB (tg t) j) = z t j := by
  unfold nuR
  rw [tg_B, if_neg (by omega), if_neg (by omega), if_neg (by omega), show (t * 1099511627776 + (j + 1)) / 1099511627776 = t by omega, show (t * 1099511627776 + (j + 1)) % 1099511627776 - 1 = j by omega]
end
def AgreeS (n b0 : Nat) (f : Pl → Pl) (ρ ρ' : Emb) : Prop := (∀ pl, ρ b0 = some pl → ρ' b0 = some (f pl)) ∧ ∀ b, b < n → b ≠ b0 → ρ' b = ρ b
def SlotS (ν ν' : Nat → Int) (n b0 : Nat) (f : Pl → Pl) (x y : AV) : Prop := ∀ ρ ρ' v, AgreeS n b0 f ρ ρ' → VR ν ρ x v → VR ν' ρ' y v
def BlkS (ν ν' : Nat → Int) (n b0 : Nat) (f : Pl → Pl) (b : Nat) (x y : ABlk) : Prop := ∀ ρ ρ' w pl, AgreeS n b0 f ρ ρ' → BR ν ρ w x pl → BR ν' ρ' w y (if b = b0 then f pl else pl)
def mv (a a' : Nat) (pl : Pl) : Pl := ⟨pl.cb, pl.co - a + a', pl.tot⟩
section
variable {N : Nat} {w0 : World} {ν ν' : Nat → Int} {gl : Gl} {L fx fx' : List (Nat × Pl)} {kp kp' : List (Nat × Obj)}
def wg (t : Nat) : Nat := tg t + mapTag
end
section
variable {N : Nat} {w0 : World} {ν ν' : Nat → Int} {gl : Gl} {L fx fx' : List (Nat × Pl)} {kp kp' : List (Nat × Obj)}
theorem wg_big {t : Nat} (ht : 0 < t) : ¬ wg t ≤ winTag := by
  unfold wg tg winTag mapTag
  omega
end
section
variable {N : Nat} {w0 : World} {ν ν' : Nat → Int} {gl : Gl} {L fx fx' : List (Nat × Pl)} {kp kp' : List (Nat × Obj)}
theorem wg_no (t : Nat) : wg t ≠ mapTag := by
  unfold wg tg mapTag
  omega
end
section
variable {N : Nat} {w0 : World} {ν ν' : Nat → Int} {gl : Gl} {L fx fx' : List (Nat × Pl)} {kp kp' : List (Nat × Obj)}
theorem wg_map (t : Nat) : mapTag < wg t := by
  unfold wg tg mapTag
  omega
end
section
variable {N : Nat} {w0 : World} {ν ν' : Nat → Int} {gl : Gl} {L fx fx' : List (Nat × Pl)} {kp kp' : List (Nat × Obj)}
theorem wg_sub (t : Nat) : wg t - mapTag = tg t := Nat.add_sub_cancel _ _
end
section
variable {N : Nat} {w0 : World} {ν ν' : Nat → Int} {gl : Gl} {L fx fx' : List (Nat × Pl)} {kp kp' : List (Nat × Obj)}
theorem pinB_win {w : World} {e T : Nat} {cs : List AV} {o : Bool} {pl : Pl} (h1 : ¬ e ≤ winTag) (h2 : e - mapTag = T) (h : PinB ν w ⟨cs, e, o⟩ pl) : Windowed ν w T cs.length pl := by
  unfold PinB at h
  rw [if_neg (show ¬ (ABlk.mk cs e o).elem ≤ winTag from h1)] at h
  subst h2
  exact h
end
section
variable {N : Nat} {w0 : World} {ν ν' : Nat → Int} {gl : Gl} {L fx fx' : List (Nat × Pl)} {kp kp' : List (Nat × Obj)}
theorem br_win {ρ : Emb} {w : World} {e T : Nat} {cs : List AV} {o : Bool} {pl : Pl} (hm : mapTag < e) (h1 : ¬ e ≤ winTag) (h2 : e - mapTag = T) (h : BR ν ρ w ⟨cs, e, o⟩ pl) : Windowed ν w T cs.length pl := pinB_win h1 h2 (h.pin hm)
end
section
variable {N : Nat} {w0 : World} {ν ν' : Nat → Int} {gl : Gl} {L fx fx' : List (Nat × Pl)} {kp kp' : List (Nat × Obj)}
theorem shut_win {ρ : Emb} {w : World} {b e T : Nat} {o : Bool} {pl : Pl} (hm : mapTag < e) (h1 : ¬ e ≤ winTag) (h2 : e - mapTag = T) (h : BR ν ρ w (b, (⟨[], e, o⟩ : ABlk)).2.shut pl) : Windowed ν w T 0 pl := br_win (cs := []) (o := false) hm h1 h2 h
end
section
variable {N : Nat} {w0 : World} {ν ν' : Nat → Int} {gl : Gl} {L fx fx' : List (Nat × Pl)} {kp kp' : List (Nat × Obj)}
variable {n b0 : Nat} {f : Pl → Pl}
theorem SlotS.conc {x y : AV} {u : Value} (h1 : conc ν x = some u) (h2 : Sh.conc ν' y = some u) : SlotS ν ν' n b0 f x y := by
  intro ρ ρ' v _ hv
  rw [(conc_vr h1).2 v hv]
  exact (conc_vr h2).1
end
section
variable {N : Nat} {w0 : World} {ν ν' : Nat → Int} {gl : Gl} {L fx fx' : List (Nat × Pl)} {kp kp' : List (Nat × Obj)}
variable {n b0 : Nat} {f : Pl → Pl}
theorem SlotS.p {b : Nat} (o : Nat) (hb : b < n) (hne : b ≠ b0) : SlotS ν ν' n b0 f (.p b o) (.p b o) := by
  intro ρ ρ' v hA h
  cases h
  rename_i pl hp
  exact .p b o pl (by rw [hA.2 b hb hne]; exact hp)
end
section
variable {N : Nat} {w0 : World} {ν ν' : Nat → Int} {gl : Gl} {L fx fx' : List (Nat × Pl)} {kp kp' : List (Nat × Obj)}
variable {n b0 : Nat} {f : Pl → Pl}
theorem SlotS.sl {b : Nat} (o : Nat) {l l' : AI} {c : Cap} (hb : b < n) (hne : b ≠ b0) (hl : l'.val ν' = l.val ν) : SlotS ν ν' n b0 f (.sl b o l c) (.sl b o l' c) := by
  intro ρ ρ' v hA h
  cases h
  rename_i pl m cc h4 h1 h2 h3
  exact .sl b o l' c pl m cc (by rw [hA.2 b hb hne]; exact h1) (hl.trans h2) h3 h4
end
section
variable {N : Nat} {w0 : World} {ν ν' : Nat → Int} {gl : Gl} {L fx fx' : List (Nat × Pl)} {kp kp' : List (Nat × Obj)}
variable {n b0 : Nat} {f : Pl → Pl}
theorem SlotS.nsl : SlotS ν ν' n b0 f .nsl .nsl := by
  intro ρ ρ' v _ h
  cases h
  exact .nsl
end
section
variable {N : Nat} {w0 : World} {ν ν' : Nat → Int} {gl : Gl} {L fx fx' : List (Nat × Pl)} {kp kp' : List (Nat × Obj)}
variable {n b0 : Nat} {f : Pl → Pl}
theorem SlotS.sle {z : Bool} : SlotS ν ν' n b0 f (.sle z) (.sle z) := by
  intro ρ ρ' v _ h
  cases h
  rename_i a c hz
  exact .sle z a c hz
end
section
variable {N : Nat} {w0 : World} {ν ν' : Nat → Int} {gl : Gl} {L fx fx' : List (Nat × Pl)} {kp kp' : List (Nat × Obj)}
variable {n b0 : Nat} {f : Pl → Pl}
theorem BlkS.row {b e : Nat} {k : IntKind} {g g' : Nat → AI} {m : Nat} {o : Bool} (hb : b ≠ b0) (he : e < mapTag) (h : ∀ j, j < m → (g j).val ν = (g' j).val ν') : BlkS ν ν' n b0 f b ⟨rowC k g m, e, o⟩ ⟨rowC k g' m, e, o⟩ := by
  intro ρ ρ' w pl _ hbr
  rw [if_neg hb]
  refine ⟨fun _ => ?_, fun e9 => absurd e9 (Nat.ne_of_lt he), fun e9 => absurd e9 (Nat.not_lt_of_lt he)⟩
  obtain ⟨C, t, fz, q1, q2, q3⟩ := hbr.cells (Nat.ne_of_lt he)
  refine ⟨C, t, fz, q1, fun j c hc => ?_, q3⟩
  obtain ⟨hj, rfl⟩ := row_get hc
  obtain ⟨v, r1, r2⟩ := q2 j (.i k (g j)) (by simp [rowC, hj])
  cases r2
  refine ⟨_, r1, ?_⟩
  rw [h j hj]
  exact .i _ _
end
section
variable {N : Nat} {w0 : World} {ν ν' : Nat → Int} {gl : Gl} {L fx fx' : List (Nat × Pl)} {kp kp' : List (Nat × Obj)}
variable {n b0 : Nat} {f : Pl → Pl}
theorem BlkS.pin {b T : Nat} {o : Bool} (hb : b ≠ b0) (hT : mapTag < T ∧ T ≤ winTag) (hL : ν' (pinL T) = ν (pinL T)) (hB : ∀ j : Nat, (j : Int) < ν (pinL T) → ν' (pinB T j) = ν (pinB T j)) : BlkS ν ν' n b0 f b ⟨[], T, o⟩ ⟨[], T, o⟩ := by
  intro ρ ρ' w pl _ hbr
  rw [if_neg hb]
  have hp : Sh.Pinned ν w T pl := (if_pos hT.2 : (if T ≤ winTag then Sh.Pinned ν w T pl else Windowed ν w (T - mapTag) 0 pl) = _).mp (hbr.pin hT.1)
  obtain ⟨C2, ty2, fz2, r1, r2⟩ := hp
  refine ⟨fun e9 => ?_, fun e9 => absurd e9 (Nat.ne_of_gt hT.1), fun _ => ?_⟩
  · obtain ⟨C, t, fz, q1, q2, q3⟩ := hbr.cells e9
    exact ⟨C, t, fz, q1, fun j c hc => by simp at hc, q3⟩
  · unfold PinB
    rw [if_pos (show (ABlk.mk [] T o).elem ≤ winTag from hT.2)]
    refine (⟨C2, ty2, fz2, r1, fun j hj => ?_⟩ : Sh.Pinned ν' w T pl)
    rw [hL] at hj
    rw [hB j hj]
    exact r2 j hj
end
theorem isText_win {ν : Nat → Int} {need : Gl} {b t m : Nat} {own : Bool} {cap : Cap} {k l : AI} {z : Wd} (hm : (b, ⟨[], wg t, own⟩) ∈ need) (ht : 0 < t) (hK : pinK (tg t) = .u8) (hk : k.val ν = ν (pinA (tg t))) (hl : l.val ν = (m : Int)) (hL : (m : Int) ≤ ν (pinL (tg t))) (hB : ∀ j, j < m → ν (pinB (tg t) j) = z j) : IsText ν need (.slw b 1 k 0 l cap) m z := by
  intro ρ w u hnd hu
  obtain ⟨pl, q1, q2⟩ := hnd _ hm
  have q1 : ρ b = some pl := q1
  have hp := shut_win (wg_map t) (wg_big ht) (wg_sub t) q2
  obtain ⟨C, ty, fz, o, a, r1, r2, r3, r4⟩ := hp
  cases hu
  rename_i q o' a1 n' cc h7 h8 h1 h3 h2 h4 h5 h6
  have h1 : ρ b = some q := h1
  rw [q1] at h1
  cases h1
  have e1 : a1 = a := by rw [hk, r2] at h2; omega
  subst e1
  have e2 : o' = o := by omega
  subst e2
  have e3 : n' = m := by rw [hl] at h5; omega
  subst e3
  rcases Nat.eq_zero_or_pos n' with h0 | h0
  · subst h0
    exact .inl ⟨rfl, .inr ⟨_, _, rfl⟩⟩
  · refine .inr ⟨h0, pl.cb, o', cc, rfl, h7, C, ty, fz, r1, fun j hj => ?_⟩
    rw [r4 j (by omega) (by omega), hK, hB j hj]
theorem tg_Ke {t : Nat} (h : t % 2 = 0) : pinK (tg t) = .u8 := by
  unfold pinK tg
  rw [Nat.add_sub_cancel_left, if_pos h]
inductive Hd where
  | a | b | c
def Hd.len (T : Nat) : Hd → AI
  | .c => .s (pinL T)
  | _ => .c 0
def Hd.Fits (s : Hd) (n : Nat) : Prop := match s with | .c => 0 < n | _ => n = 0
def Came (w : World) (v : Value) (s : Hd) (n : Nat) (z : Wd) (pl : Option Pl) : Prop :=
  match s with
  | .a => v = .slice none 0 0 ∧ n = 0 ∧ pl = none
  | .b => (∃ a c, v = .slice (some a) 0 c) ∧ n = 0 ∧ pl = none
  | .c => ∃ cb o c, v = .slice (some ⟨cb, o, none⟩) n c ∧ n ≤ c ∧ 0 < n ∧ CellsAt w .u8 cb o n z ∧ pl = some ⟨cb, o, 0⟩
theorem Came.fits {w : World} {v : Value} {s : Hd} {n : Nat} {z : Wd} {pl : Option Pl} (h : Came w v s n z pl) : s.Fits n := by
  cases s
  · exact h.2.1
  · exact h.2.1
  · obtain ⟨_, _, _, _, _, h0, _⟩ := h
    exact h0
theorem yes_ofN {ν : Nat → Int} {gl : Gl} {f : Nat} {args : List AV} {need : Gl} {ρ : Emb} {w : World} {vs : Array Value} (h : RowM.Ok ν Tryd.prog gl ⟨f, args, need, [.v (.b true)]⟩) (hw : Laid gl w) (hn : NeedOk ν ρ w need) (ha : LR ν ρ args vs) : Calls Tryd.prog f vs w fun e w' => e = .returned (.bool true) ∧ Below w.heap.size w w' :=
  (h.2 ρ w vs hw hn ha).mono fun e w' ⟨us, he, hp, hB⟩ => ⟨by
    match us, hp with
    | [u], hp =>
      have : some (Value.bool true) = some u := hp.1
      cases this
      exact he, hB⟩
def AgreeR (D : List Nat) (σ : Nat → Nat) (f : Nat → Pl → Pl) (ρ ρ' : Emb) : Prop := ∀ b, b ∈ D → ∀ pl, ρ (σ b) = some pl → ρ' b = some (f b pl)
def SlotR (ν ν' : Nat → Int) (D : List Nat) (σ : Nat → Nat) (f : Nat → Pl → Pl) (x y : AV) : Prop := ∀ ρ ρ' v, AgreeR D σ f ρ ρ' → VR ν ρ x v → VR ν' ρ' y v
def BlkR (ν ν' : Nat → Int) (g : Pl → Pl) (x y : ABlk) : Prop := ∀ ρ ρ' w pl, BR ν ρ w x pl → BR ν' ρ' w y (g pl)
section
variable {N : Nat} {w0 : World} {ν ν' : Nat → Int} {gl : Gl} {L fx : List (Nat × Pl)} {kp : List (Nat × Obj)}
variable {D : List Nat} {σ : Nat → Nat} {f : Nat → Pl → Pl}
theorem SlotR.conc {x y : AV} {u : Value} (h1 : conc ν x = some u) (h2 : Sh.conc ν' y = some u) : SlotR ν ν' D σ f x y := by
  intro ρ ρ' v _ hv
  rw [(conc_vr h1).2 v hv]
  exact (conc_vr h2).1
end
section
variable {N : Nat} {w0 : World} {ν ν' : Nat → Int} {gl : Gl} {L fx : List (Nat × Pl)} {kp : List (Nat × Obj)}
variable {D : List Nat} {σ : Nat → Nat} {f : Nat → Pl → Pl}
theorem SlotR.nsl : SlotR ν ν' D σ f .nsl .nsl := by
  intro ρ ρ' v _ h
  cases h
  exact .nsl
end
section
variable {N : Nat} {w0 : World} {ν ν' : Nat → Int} {gl : Gl} {L fx : List (Nat × Pl)} {kp : List (Nat × Obj)}
variable {D : List Nat} {σ : Nat → Nat} {f : Nat → Pl → Pl}
theorem SlotR.sle {z : Bool} : SlotR ν ν' D σ f (.sle z) (.sle z) := by
  intro ρ ρ' v _ h
  cases h
  rename_i a c hz
  exact .sle z a c hz
end
section
variable {N : Nat} {w0 : World} {ν ν' : Nat → Int} {gl : Gl} {L fx : List (Nat × Pl)} {kp : List (Nat × Obj)}
variable {D : List Nat} {σ : Nat → Nat} {f : Nat → Pl → Pl}
theorem SlotR.p {b b0 o : Nat} (hb : b ∈ D) (hσ : σ b = b0) (hf : ∀ pl, f b pl = pl) : SlotR ν ν' D σ f (.p b0 o) (.p b o) := by
  subst hσ
  intro ρ ρ' v hA h
  cases h
  rename_i pl hp
  have := hA b hb pl hp
  rw [hf pl] at this
  exact .p b o pl this
end
section
variable {N : Nat} {w0 : World} {ν ν' : Nat → Int} {gl : Gl} {L fx : List (Nat × Pl)} {kp : List (Nat × Obj)}
variable {D : List Nat} {σ : Nat → Nat} {f : Nat → Pl → Pl}
theorem SlotR.sl {b b0 o : Nat} {l l' : AI} {c : Cap} (hb : b ∈ D) (hσ : σ b = b0) (hf : ∀ pl, f b pl = pl) (hl : l'.val ν' = l.val ν) : SlotR ν ν' D σ f (.sl b0 o l c) (.sl b o l' c) := by
  subst hσ
  intro ρ ρ' v hA h
  cases h
  rename_i pl m cc h4 h1 h2 h3
  have := hA b hb pl h1
  rw [hf pl] at this
  exact .sl b o l' c pl m cc this (hl.trans h2) h3 h4
end
section
variable {N : Nat} {w0 : World} {ν ν' : Nat → Int} {gl : Gl} {L fx : List (Nat × Pl)} {kp : List (Nat × Obj)}
variable {D : List Nat} {σ : Nat → Nat} {f : Nat → Pl → Pl}
theorem SlotR.any {b b0 o : Nat} {l l' : AI} {c : Cap} (hb : b ∈ D) (hσ : σ b = b0) (hf : ∀ pl, f b pl = pl) (hl : l'.val ν' = l.val ν) : SlotR ν ν' D σ f (.sl b0 o l c) (.sl b o l' .any) := by
  subst hσ
  intro ρ ρ' v hA h
  cases h
  rename_i pl m cc h4 h1 h2 h3
  have := hA b hb pl h1
  rw [hf pl] at this
  exact .sl b o l' .any pl m cc this (hl.trans h2) trivial h4
end
section
variable {N : Nat} {w0 : World} {ν ν' : Nat → Int} {gl : Gl} {L fx : List (Nat × Pl)} {kp : List (Nat × Obj)}
variable {D : List Nat} {σ : Nat → Nat} {f : Nat → Pl → Pl}
theorem SlotR.shut {b b0 a m wd : Nat} {k l l' : AI} {cap : Cap} (hb : b ∈ D) (hσ : σ b = b0) (hf : ∀ pl, f b pl = mv a 0 pl) (hk : k.val ν = (a : Int)) (hl : l.val ν = (m : Int)) (hl' : l'.val ν' = (m : Int)) : SlotR ν ν' D σ f (.slw b0 1 k wd l cap) (.sl b 0 l' .any) := by
  subst hσ
  intro ρ ρ' v hA h
  cases h
  rename_i q o a1 n' cc h7 h8 h1 h3 h2 h4 h5 h6
  have e2 : a1 = a := by rw [hk] at h2; omega
  have e3 : n' = m := by rw [hl] at h5; omega
  subst e2; subst e3
  have h9 := hA b hb q h1
  rw [hf q] at h9
  have hco : (mv a1 0 q).co + 0 = o := by show q.co - a1 + 0 + 0 = o; omega
  have := VR.sl (ν := ν') (ρ := ρ') b 0 l' .any (mv a1 0 q) n' cc h9 hl' trivial h7
  rw [hco] at this
  exact this
end
section
variable {N : Nat} {w0 : World} {ν ν' : Nat → Int} {gl : Gl} {L fx : List (Nat × Pl)} {kp : List (Nat × Obj)}
variable {D : List Nat} {σ : Nat → Nat} {f : Nat → Pl → Pl}
theorem BlkR.row {e : Nat} {k : IntKind} {g g' : Nat → AI} {m : Nat} {o : Bool} (he : e < mapTag) (h : ∀ j, j < m → (g j).val ν = (g' j).val ν') : BlkR ν ν' (fun pl => pl) ⟨rowC k g m, e, o⟩ ⟨rowC k g' m, e, o⟩ := by
  intro ρ ρ' w pl hbr
  refine ⟨fun _ => ?_, fun e9 => absurd e9 (Nat.ne_of_lt he), fun e9 => absurd e9 (Nat.not_lt_of_lt he)⟩
  obtain ⟨C, t, fz, q1, q2, q3⟩ := hbr.cells (Nat.ne_of_lt he)
  refine ⟨C, t, fz, q1, fun j c hc => ?_, q3⟩
  obtain ⟨hj, rfl⟩ := row_get hc
  obtain ⟨v, r1, r2⟩ := q2 j (.i k (g j)) (by simp [rowC, hj])
  cases r2
  refine ⟨_, r1, ?_⟩
  rw [h j hj]
  exact .i _ _
end
section
variable {N : Nat} {w0 : World} {ν ν' : Nat → Int} {gl : Gl} {L fx : List (Nat × Pl)} {kp : List (Nat × Obj)}
variable {D : List Nat} {σ : Nat → Nat} {f : Nat → Pl → Pl}
theorem BlkR.pin {T : Nat} {o : Bool} (hT : mapTag < T ∧ T ≤ winTag) (hL : ν' (pinL T) = ν (pinL T)) (hB : ∀ j : Nat, (j : Int) < ν (pinL T) → ν' (pinB T j) = ν (pinB T j)) : BlkR ν ν' (fun pl => pl) ⟨[], T, o⟩ ⟨[], T, o⟩ := by
  intro ρ ρ' w pl hbr
  have hp : Sh.Pinned ν w T pl := (if_pos hT.2 : (if T ≤ winTag then Sh.Pinned ν w T pl else Windowed ν w (T - mapTag) 0 pl) = _).mp (hbr.pin hT.1)
  obtain ⟨C2, ty2, fz2, r1, r2⟩ := hp
  refine ⟨fun e9 => ?_, fun e9 => absurd e9 (Nat.ne_of_gt hT.1), fun _ => ?_⟩
  · obtain ⟨C, t, fz, q1, q2, q3⟩ := hbr.cells e9
    exact ⟨C, t, fz, q1, fun j c hc => by simp at hc, q3⟩
  · unfold PinB
    rw [if_pos (show (ABlk.mk [] T o).elem ≤ winTag from hT.2)]
    refine (⟨C2, ty2, fz2, r1, fun j hj => ?_⟩ : Sh.Pinned ν' w T pl)
    rw [hL] at hj
    rw [hB j hj]
    exact r2 j hj
end
section
variable {N : Nat} {w0 : World} {ν ν' : Nat → Int} {gl : Gl} {L fx : List (Nat × Pl)} {kp : List (Nat × Obj)}
variable {D : List Nat} {σ : Nat → Nat} {f : Nat → Pl → Pl}
theorem own_all {ρ : Emb} {w : World} {pl : Pl} {t a m0 wd : Nat} {k : IntKind} {h : Nat → AI} (ht : 0 < t) (hK : pinK (tg t) = k) (hA : ν (pinA (tg t)) = (a : Int)) (hL : ν (pinL (tg t)) = (m0 : Int)) (hbr : BR ν ρ w ⟨rowC k h wd, wg t, true⟩ pl) :
    ∃ C ty o, w.heap[pl.cb]? = some (.cells C ty (0, 0)) ∧ C.size = pl.tot ∧ pl.co = o + a ∧ (∀ j, j < m0 → (j < a ∨ a + wd ≤ j) → C[o + j]? = some (.int k (ν (pinB (tg t) j)))) ∧ ∀ j, j < wd → C[o + (a + j)]? = some (.int k ((h j).val ν)) := by
  obtain ⟨C, ty, fz, q1, q2, q3⟩ := hbr.cells (wg_no t)
  obtain ⟨rfl, q4⟩ := q3 rfl
  have hp := br_win (wg_map t) (wg_big ht) (wg_sub t) hbr
  obtain ⟨C2, ty2, fz2, o, a2, r1, r2, r3, r4⟩ := hp
  rw [q1] at r1
  cases r1
  have ea : a2 = a := by rw [hA] at r2; omega
  subst ea
  have lrow : (rowC k h wd).length = wd := by simp [rowC]
  rw [lrow] at r4
  refine ⟨C, ty, o, q1, q4, r3, fun j hj hjw => by rw [r4 j (by rw [hL]; omega) hjw, hK], fun j hj => ?_⟩
  obtain ⟨v, u1, u2⟩ := q2 j (.i k (h j)) (by simp [rowC, hj])
  cases u2
  rw [show o + (a2 + j) = pl.co + j by omega]
  exact u1
end
section
variable {N : Nat} {w0 : World} {ν ν' : Nat → Int} {gl : Gl} {L fx : List (Nat × Pl)} {kp : List (Nat × Obj)}
variable {D : List Nat} {σ : Nat → Nat} {f : Nat → Pl → Pl}
theorem BlkR.shut {t t' a m wd : Nat} {k : IntKind} {h : Nat → AI} {g : Wd} (ht : 0 < t) (ht' : mapTag < tg t' ∧ tg t' ≤ winTag) (hK : pinK (tg t) = k) (hK' : pinK (tg t') = k) (hA : ν (pinA (tg t)) = (a : Int)) (hL : ν (pinL (tg t)) = (m : Int)) (hL' : ν' (pinL (tg t')) = (m : Int)) (hB : ∀ j, j < m → (j < a ∨ a + wd ≤ j) → ν (pinB (tg t) j) = g j) (hf : ∀ j, j < wd → (h j).val ν = g (a + j)) (hB' : ∀ j, j < m → ν' (pinB (tg t') j) = g j) :
    BlkR ν ν' (mv a 0) ⟨rowC k h wd, wg t, true⟩ ⟨[], tg t', false⟩ := by
  intro ρ ρ' w pl hbr
  obtain ⟨C, ty, o, q1, q4, hco, r1, r2⟩ := own_all ht hK hA hL hbr
  refine ⟨fun _ => ⟨C, ty, (0, 0), q1, fun j c hc => by simp at hc, fun hh => by cases hh⟩, fun e9 => absurd e9 (Nat.ne_of_gt ht'.1), fun _ => ?_⟩
  unfold PinB
  rw [if_pos (show (ABlk.mk [] (tg t') false).elem ≤ winTag from ht'.2)]
  refine (⟨C, ty, (0, 0), q1, fun j hj => ?_⟩ : Sh.Pinned ν' w (tg t') (mv a 0 pl))
  have hj : j < m := by rw [hL'] at hj; omega
  show C[pl.co - a + 0 + j]? = _
  rw [show pl.co - a + 0 + j = o + j by omega, hK', hB' j hj]
  by_cases hjw : j < a ∨ a + wd ≤ j
  · rw [r1 j hj hjw, hB j hj hjw]
  · have := r2 (j - a) (by omega)
    rw [hf _ (by omega), show a + (j - a) = j by omega] at this
    exact this
end
theorem IsText.mono {ν : Nat → Int} {a b : Gl} {x : AV} {n : Nat} {z : Wd} (h : IsText ν a x n z) (hs : ∀ p ∈ a, p ∈ b) : IsText ν b x n z := fun ρ w u hn hu => h ρ w u (fun p hp => hn p (hs p hp)) hu
section
variable {nk ni n k : Nat} {zk zi : Wd}
theorem tgT {t : Nat} (h0 : 0 < t) (h1 : t < 1000) : mapTag < tg t ∧ tg t ≤ winTag := by
  unfold tg winTag mapTag
  omega
end
end Go.Proofs.YtheidgcgdkmmiaaDoor

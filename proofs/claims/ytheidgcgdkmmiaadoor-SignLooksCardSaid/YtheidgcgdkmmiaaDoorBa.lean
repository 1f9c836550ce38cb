/-
 WHAT IS GENERAL OF TEXTS: rows, windows, calls over texts; twins, comparisons. Own work, merged by program.
-/
import Derived.Test.YtheidgcgdkmmiaaDoorSa
namespace Go.Proofs.YtheidgcgdkmmiaaDoor
open Go.Sh
open Go.ChangeShapes Go.WideShapes Go.ChangeAt Go.RowKit
set_option maxRecDepth 100000
theorem seqN {P : Program} {N : Nat} {x y : IC} {Pre Mid : Act → World → Prop} {Post : Ex → Act → World → Prop} (h1 : Tri P N x Pre fun ex a w => ex = .normal ∧ Mid a w) (h2 : Tri P N y Mid Post) : Tri P N (.seq x y) Pre Post :=
 Tri.seq h1 (h2.weak (fun _ _ h => h.2) (fun _ _ _ h => h)) (fun _ _ _ hne h => (hne h.1).elim)
theorem qbG : GlOk [] := fun p hp => by cases hp
theorem qaP (ν : Nat → Int) : qae.Hold ν := qab ν
def zeroA (_ : Nat) : AI := .c 0
def iN (n : Nat) : AV := .i .i64 (.c (.ofNat n))
def nmA (b : Nat) (j : Nat) : AI := .s (b + j)
def setA (f : Nat → AI) (t : Nat) (x : AI) (j : Nat) : AI := if Nat.beq j t then x else f j
def sI (k : Nat) : AV := .i .i64 (.s k)
theorem w_u64 {n : Nat} (h : n < 18446744073709551616) : IntKind.u64.wrap ((n : Nat) : Int) = n := by
 simp only [IntKind.wrap, IntKind.bits, IntKind.signed]
 simp
 omega
theorem w_u32 (n : Nat) : IntKind.u32.wrap ((n : Nat) : Int) = ((n % 4294967296 : Nat) : Int) := by
 simp only [IntKind.wrap, IntKind.bits, IntKind.signed]
 simp
theorem w_u8 (n : Nat) : IntKind.u8.wrap ((n : Nat) : Int) = ((n % 256 : Nat) : Int) := by
 simp only [IntKind.wrap, IntKind.bits, IntKind.signed]
 simp
theorem shrN {k : IntKind} (n s : Nat) (h : s ≤ k.bits) : qaj .shr k ((n : Nat) : Int) ((s : Nat) : Int) = ((n / 2 ^ s : Nat) : Int) := by
 show ((n : Nat) : Int).fdiv (2 ^ (min ((s : Nat) : Int).toNat k.bits)) = _
 rw [Int.toNat_natCast, Nat.min_eq_left h, Int.fdiv_eq_ediv_of_nonneg _ (Int.pow_nonneg (by decide))]
 norm_cast
theorem shl64 (n s : Nat) (h : s ≤ 64) (hb : n * 2 ^ s < 18446744073709551616) : qaj .shl .u64 ((n : Nat) : Int) ((s : Nat) : Int) = ((n * 2 ^ s : Nat) : Int) := by
 show IntKind.u64.wrap (((n : Nat) : Int) * 2 ^ (min ((s : Nat) : Int).toNat 64)) = _
 rw [Int.toNat_natCast, Nat.min_eq_left h]
 have : ((n : Nat) : Int) * 2 ^ s = ((n * 2 ^ s : Nat) : Int) := by push_cast; rfl
 rw [this]
 exact w_u64 hb
def TextAt (w : World) (v : Value) (n : Nat) (z : Wd) : Prop :=
 (n = 0 ∧ (v = .slice none 0 0 ∨ ∃ a c, v = .slice (some a) 0 c)) ∨ (0 < n ∧ ∃ cb o c, v = .slice (some ⟨cb, o, none⟩) n c ∧ n ≤ c ∧ qaZ w .u8 cb o n z)
theorem i64_small {a : Int} (h0 : 0 ≤ a) (h1 : a < 4611686018427387904) : IntKind.i64.wrap a = a := by
 simp only [IntKind.wrap, IntKind.bits, IntKind.signed]
 simp
 omega
def T0 : Nat := qac + 2
def txP : Nat × ABlk := (64, ⟨[], T0, false⟩)
def lnT : AI := .s (pinL T0)
def atT : AI := .s (pinA T0)
def slP0 : AV := .sl 64 0 lnT .any
def nuP (n : Nat) (z : Wd) : Nat → Int := fun k => if k = pinL T0 then (n : Int) else if k = pinA T0 then (n : Int) else if pinL T0 < k ∧ k < pinA T0 then z (k - pinL T0 - 1) else 0
theorem T0_L : pinL T0 = 2199023255552 := by decide
theorem T0_A : pinA T0 = 3298534883327 := by decide
theorem T0_B (j : Nat) : pinB T0 j = 2199023255552 + (j + 1) := by
 show (qac + 2 - qac) * 1099511627776 + (j + 1) = _
 rw [Nat.add_sub_cancel_left]
theorem nuP_L {n : Nat} {z : Wd} : nuP n z (pinL T0) = (n : Int) := if_pos rfl
theorem nuP_A {n : Nat} {z : Wd} : nuP n z (pinA T0) = (n : Int) := by
 unfold nuP
 rw [if_neg (by rw [T0_L, T0_A]; decide), if_pos rfl]
theorem nuP_B {n : Nat} {z : Wd} {j : Nat} (h : j < 1000000000000) : nuP n z (pinB T0 j) = z j := by
 unfold nuP
 rw [T0_L, T0_A, T0_B, if_neg (by omega), if_neg (by omega), if_pos (by omega), show 2199023255552 + (j + 1) - 2199023255552 - 1 = j by omega]
theorem T0_K : pinK T0 = .u8 := by decide
theorem pinned_T0 {w : World} {cb o n : Nat} {C : Array Value} {ty : TypeId} {fz : Nat × Nat} {z : Wd} (hn : n < 1000000000000) (hC : w.heap[cb]? = some (.cells C ty fz)) (hz : ∀ j, j < n → C[o + j]? = some (.int .u8 (z j))) : Sh.Pinned (nuP n z) w T0 ⟨cb, o, 0⟩ := by
 refine ⟨C, ty, fz, hC, fun j hj => ?_⟩
 rw [nuP_L] at hj
 have hj : j < n := by omega
 rw [T0_K, nuP_B (by omega)]
 exact hz j hj
theorem lnT_val {n : Nat} {z : Wd} : lnT.val (nuP n z) = (n : Int) := nuP_L
theorem atT_val {n : Nat} {z : Wd} : atT.val (nuP n z) = (n : Int) := nuP_A
def Padded (w w' : World) (v : Value) (N : Nat) (p : Wd) : Prop := ∃ cb o c, v = .slice (some ⟨cb, o, none⟩) N c ∧ N ≤ c ∧ w.heap.size ≤ cb ∧ qaZ w' .u8 cb o N p
def T1 : Nat := qac + 4
def Bytes (m : Wd) (n : Nat) : Prop := ∀ j, j < n → ∃ b : Nat, m j = (b : Int) ∧ b < 256
theorem Tri.ex {P : Program} {N : Nat} {ic : IC} {ι : Type} {Pre : ι → Act → World → Prop} {Post : Ex → Act → World → Prop} (h : ∀ i, Tri P N ic (Pre i) Post) : Tri P N ic (fun a w => ∃ i, Pre i a w) Post :=
 fun c hc a w ⟨i, hp⟩ => h i c hc a w hp
def twp : IC := t9.body
theorem twp_shape : t9 = ⟨twp, [.t 2], 7⟩ := by kernel_rfl
def fT : Facts := ⟨[], [(.gtr, lnT, .c 0, true), (.lss, lnT, .c 1099511627776, true), (.eql, atT, lnT, true)], [(0, [], T0, T0)]⟩
def tw0 : Now := ⟨[(0, slP0)], [txP], 65⟩
def tw1 : Now := ⟨[(2, slE 65 T0 0)], [(65, ⟨[], T0 + qac, true⟩)], 66⟩
theorem tw_go : qaF fT tree [] [] [] [] [] 60 4 twp tw0 .ret tw1 = true := by kernel_rfl
theorem tw_res : resA (trL tw1.e) (qam (tw1.H ++ []) tw1.n) [.t 2] = some (slE 65 T0 0) := by kernel_rfl
theorem fT_hold {n : Nat} {z : Wd} (h0 : 0 < n) (hn : n < 1000000000000) : fT.Hold (nuP n z) := by
 refine ⟨fun p hp => (by cases hp), fun p hp => ?_, fun p hp => ?_⟩
 ·simp only [fT, List.mem_cons, List.not_mem_nil, or_false] at hp
  rcases hp with rfl | rfl | rfl
  ·show decide (lnT.val (nuP n z) > 0) = true
   rw [lnT_val]
   exact decide_eq_true (by omega)
  ·show decide (lnT.val (nuP n z) < 1099511627776) = true
   rw [lnT_val]
   exact decide_eq_true (by omega)
  ·show (atT.val (nuP n z) == lnT.val (nuP n z)) = true
   rw [lnT_val, atT_val]
   exact beq_self_eq_true _
 ·simp only [fT, List.mem_cons, List.not_mem_nil, or_false] at hp
  subst hp
  refine ⟨by show 0 ≤ nuP n z (pinL T0); rw [nuP_L]; omega, ?_⟩
  show lst (nuP n z) T0 = lst0 (nuP n z) 0 ++ [].map _ ++ lst0 (nuP n z) T0
  rw [lst0_zero, lst0_row _ (by decide)]
  rfl
theorem txP_br {w : World} {cb o n t : Nat} {C : Array Value} {ty : TypeId} {fz : Nat × Nat} {z : Wd} {ρ : Emb} (hn : n < 1000000000000) (hC : w.heap[cb]? = some (.cells C ty fz)) (hz : ∀ j, j < n → C[o + j]? = some (.int .u8 (z j))) : BR (nuP n z) ρ w txP.2 ⟨cb, o, t⟩ := by
 refine ⟨fun _ => ⟨C, ty, fz, hC, fun j c hc => by simp [txP] at hc, fun h => by cases h⟩, fun h => by exact absurd h (by decide), fun _ => ?_⟩
 unfold PinB
 rw [if_pos (by decide)]
 obtain ⟨C', ty', fz', q1, q2⟩ := pinned_T0 (o := o) hn hC hz
 exact ⟨C', ty', fz', q1, q2⟩
theorem twin_ok {w : World} {cb o c n : Nat} {z : Wd} (h0 : 0 < n) (hle : n ≤ c) (hz : qaZ w .u8 cb o n z) (hn : n < 1000000000000) :
  (∃ fn, Tryd.prog.funcs[9]? = some fn ∧ fn.body.isSome = true ∧ (fn.name == "runtime.NumGoroutine") = false) ∧
  Calls Tryd.prog 9 #[.slice (some ⟨cb, o, none⟩) n c] w fun e w' => ∃ u, e = .returned u ∧ Padded w w' u n z ∧ Below w.heap.size w w' := by
 obtain ⟨C, ty, fz, hC, hz⟩ := hz
 have below : ∀ {w' : World}, BelowL [] w w' → Below w.heap.size w w' := fun hB => ⟨hB.os, hB.tape, hB.output, hB.size, fun k hk => hB.block k hk fun p hp => by cases hp⟩
 have start := qa2 (N := 7) (ν := nuP n z) (L := []) (fx := []) (kp := []) (vs := #[.slice (some ⟨cb, o, none⟩) n c]) (e0 := tw0.e) (H0 := [txP]) (n0 := 65) qbG (w := w) (fun p hp => by cases hp) (at1 64 ⟨cb, o, 0⟩) (by show 1 ≤ 7; decide) (by decide) (fun b hb => at1_none (by omega)) (fun p hp => by cases hp)
  (fun p hp => by
   simp only [tw0, List.mem_cons, List.not_mem_nil, or_false] at hp
   subst hp
   exact ⟨_, rfl, .sl 64 0 _ .any ⟨cb, o, 0⟩ n c (at1_at (by decide)) lnT_val trivial hle⟩)
  (fun p hp => by
   simp only [List.mem_cons, List.not_mem_nil, or_false] at hp
   subst hp
   exact ⟨show gmax ≤ 64 by decide, _, if_pos rfl, txP_br hn hC hz, fun h => by cases h⟩)
  (fun p hp => by cases hp)
 refine And.imp id (fun h2 => h2.mono fun e w' ⟨u, he, hv, hB⟩ => ⟨u, he, hv, hB⟩) (callsX (L := []) (gl := []) (Q := fun u w' => Padded w w' u n z ∧ Below w.heap.size w w') qaf (by kernel_rfl) twp_shape start ?_)
 refine (Tri.runX (L := []) (fT_hold h0 hn) qak qaf qbG (fun r hr => by cases hr) (fun r hr => by cases hr) (fun r hr => by cases hr) (fun r hr => by cases hr) tw_go).weak (fun _ _ h => h) fun ex a w' h => ⟨.inr h.1, _, tw1, slE 65 T0 0, [], [], h.2, tw_res, fun ρ v _ hh ho hB hv => ⟨?_, below hB⟩⟩
 obtain ⟨pl, k1, k2⟩ := hh.blk 65 ⟨[], T0 + qac, true⟩ (by kernel_rfl)
 cases hv
 rename_i q o' a' m c' hl hb hq hqo ha hw hlen hcap
 have hq : ρ 65 = some q := hq
 rw [k1] at hq
 cases hq
 have ha : nuP n z (pinA T0) = (a' : Int) := ha
 rw [nuP_A] at ha
 have ha : a' = n := by omega
 subst ha
 have hlen : nuP a' z (pinA T0) = (m : Int) := hlen
 rw [nuP_A] at hlen
 have hm : m = a' := by omega
 subst hm
 have hpb := k2.pin (show qac < T0 + qac by decide)
 unfold PinB at hpb
 rw [if_neg (show ¬ T0 + qac ≤ qaO by decide)] at hpb
 obtain ⟨C2, ty2, fz2, o2, a2, p1, p2, p3, p4⟩ := hpb
 have eT : (T0 + qac - qac) = T0 := Nat.add_sub_cancel _ _
 have p2 : nuP m z (pinA (T0 + qac - qac)) = (a2 : Int) := p2
 rw [eT, nuP_A] at p2
 have e2 : a2 = m := by omega
 subst e2
 have e3 : o2 = o' := by omega
 subst e3
 refine ⟨pl.cb, o2, c', rfl, hl, ?_, C2, ty2, fz2, p1, fun j hj => ?_⟩
 ·rcases ho pl.cb ⟨65, ⟨[], T0 + qac, true⟩, pl, by kernel_rfl, rfl, k1, rfl⟩ with h | ⟨p, hp, _⟩
  ·exact h
  ·cases hp
 ·have h9 := p4 j (by
   show (j : Int) < nuP a2 z (pinL (T0 + qac - qac))
   rw [eT, nuP_L]
   omega) (.inl hj)
  have e9 : C2[o2 + j]? = some (.int (pinK T0) (nuP a2 z (pinB T0 j))) := by
   rw [← eT]
   exact h9
  rw [e9, T0_K, nuP_B (by omega)]
def by18 : IC := t14.body
def byA : IC := by18.sub [false]
def byG : IC := by18.sub [true, false]
def byD : IC := by18.sub [true, true, false, false]
def byR : IC := by18.sub [true, true, false, true, false, false]
def byE : IC := by18.sub [true, true, true]
theorem by_shape : t14 = ⟨.seq byA (.seq byG (.seq (.seq byD (.block 0 (.loop byR))) byE)), [.t 4], 26⟩ := by kernel_rfl
def ceB (b wd : Nat) : Nat × ABlk := (b, ⟨rowC .u8 (nmA 10) wd, 0, false⟩)
def slB (b wd : Nat) : AV := .slw b 1 (.s 0) wd (.s 1) .any
def byN (wd : Nat) (l : List (Nat × AV)) : Now := ⟨l ++ [(0, slB 64 wd), (1, slB 65 wd)], [ceB 64 wd, ceB 65 wd], 66⟩
def fB (b : Bool) : Facts := ⟨[], [(.neq, .s 1, .s 1, false), (.neq, .s 10, .s 10, false), (.lss, .s 0, .s 1, b)], []⟩
theorem by_goA : qaF qae tree [] [] [] [] [] 60 4 byA (byN 0 []) .normal (byN 0 []) = true := by kernel_rfl
theorem by_goG : qaF (fB true) tree [] [] [] [] [] 60 4 byG (byN 0 []) .normal (byN 0 []) = true := by kernel_rfl
theorem by_goD : qaF qae tree [] [] [] [] [] 60 4 byD (byN 0 []) .normal (byN 0 [(5, iN 0)]) = true := by kernel_rfl
theorem by_goR : qaF (fB true) tree [] [] [] [] [] 60 4 byR (byN 1 [(5, sI 0)]) .normal (byN 1 [(5, .i .i64 (.e .add .i64 (.s 0) (nA 1)))]) = true := by kernel_rfl
theorem by_goRe : qaF (fB false) tree [] [] [] [] [] 60 4 byR (byN 0 [(5, sI 0)]) (.exit 0) (byN 0 []) = true := by kernel_rfl
def byZ : Now := ⟨[(4, .b true)], [], 66⟩
theorem by_goE : qaF qae tree [] [] [] [] [] 60 4 byE (byN 0 []) .ret byZ = true := by kernel_rfl
theorem by_res : resA (trL byZ.e) (qam (byZ.H ++ []) byZ.n) [.t 4] = some (.b true) := by kernel_rfl
def nuB (i n x : Int) : Nat → Int := fun k => if k = 0 then i else if k = 1 then n else x
def wdB (k : Nat) : Nat := if k = 0 then 0 else 1
section
variable {w0 : World} {cb o cb' o' n : Nat} {C C' : Array Value} {ty ty' : TypeId} {fz fz' : Nat × Nat} {z : Wd}
theorem by_ren {ν ν' : Nat → Int} {wd wd' i i' : Nat} {l l' : List (Nat × AV)} {a : Act} {w : World} (hz : ∀ j, j < n → C[o + j]? = some (.int .u8 (z j))) (hz' : ∀ j, j < n → C'[o' + j]? = some (.int .u8 (z j)))
  (h : HoldsX 26 w0 ν [] [] [(64, ⟨cb, o + i, 0⟩), (65, ⟨cb', o' + i, 0⟩)] [(cb, .cells C ty fz), (cb', .cells C' ty' fz')] (byN wd l) a w)
  (ha : ν 0 = (i : Int)) (ha' : ν' 0 = (i' : Int)) (hN : ν 1 = (n : Int)) (hN' : ν' 1 = (n : Int)) (hw : i' + wd' ≤ n) (hwin : ∀ j, j < wd' → ν' (10 + j) = z (i' + j)) (hl : ∀ p ∈ l', ∃ x u, (p.1, x) ∈ l ∧ conc ν x = some u ∧ conc ν' p.2 = some u) :
  HoldsX 26 w0 ν' [] [] [(64, ⟨cb, o + i', 0⟩), (65, ⟨cb', o' + i', 0⟩)] [(cb, .cells C ty fz), (cb', .cells C' ty' fz')] (byN wd' l') a w := by
 have k1 := h.kept (cb, .cells C ty fz) List.mem_cons_self
 have k2 := h.kept (cb', .cells C' ty' fz') (List.mem_cons_of_mem _ List.mem_cons_self)
 refine HoldsX.rename qbG h (fun b => if b = 64 then some ⟨cb, o + i', 0⟩ else if b = 65 then some ⟨cb', o' + i', 0⟩ else none) (by decide) (fun _ hp => hp) (fun b pl hv => ?_) (fun p hp => ?_) (fun p hp => ?_) fun p hp => ?_
 ·by_cases hb : b = 64
  ·subst hb; exact ⟨by decide, by decide⟩
  ·by_cases hb2 : b = 65
   ·subst hb2; exact ⟨by decide, by decide⟩
   ·rw [if_neg hb, if_neg hb2] at hv; cases hv
 ·simp only [List.mem_cons, List.not_mem_nil, or_false] at hp
  rcases hp with rfl | rfl
  ·exact .inl rfl
  ·exact .inl rfl
 ·rcases List.mem_append.1 hp with hp | hp
  ·obtain ⟨x, u, q1, q2, q3⟩ := hl p hp
   exact ⟨x, List.mem_append.2 (.inl q1), qaT.conc q2 q3⟩
  ·simp only [List.mem_cons, List.not_mem_nil, or_false] at hp
   rcases hp with rfl | rfl
   ·exact ⟨slB 64 wd, List.mem_append.2 (.inr (by simp)), qaT.slw (pl := ⟨cb, o + i, 0⟩) (pl' := ⟨cb, o + i', 0⟩) (i := i) (i' := i') (m := n) List.mem_cons_self rfl rfl rfl ha ha' (by show o + i' + i * 1 = o + i + i' * 1; omega) hN hN' hw⟩
   ·exact ⟨slB 65 wd, List.mem_append.2 (.inr (by simp)), qaT.slw (pl := ⟨cb', o' + i, 0⟩) (pl' := ⟨cb', o' + i', 0⟩) (i := i) (i' := i') (m := n) (List.mem_cons_of_mem _ List.mem_cons_self) rfl rfl rfl ha ha' (by show o' + i' + i * 1 = o' + i + i' * 1; omega) hN hN' hw⟩
 ·simp only [List.mem_cons, List.not_mem_nil, or_false] at hp
  rcases hp with rfl | rfl
  ·refine ⟨show gmax ≤ 64 by decide, show 64 < 66 by decide, .inl ⟨_, rfl, rfl, ⟨_, List.mem_cons_self⟩, fun ρ' => ?_⟩⟩
   have hc : qaZ w .u8 cb (o + i') wd' (fun j => z (i' + j)) := ⟨C, ty, fz, k1, fun j hj => by rw [Nat.add_assoc]; exact hz _ (by omega)⟩
   exact hc.br (by decide) fun j hj => hwin j hj
  ·refine ⟨show gmax ≤ 65 by decide, show 65 < 66 by decide, .inl ⟨_, rfl, rfl, ⟨_, List.mem_cons_of_mem _ List.mem_cons_self⟩, fun ρ' => ?_⟩⟩
   have hc : qaZ w .u8 cb' (o' + i') wd' (fun j => z (i' + j)) := ⟨C', ty', fz', k2, fun j hj => by rw [Nat.add_assoc]; exact hz' _ (by omega)⟩
   exact hc.br (by decide) fun j hj => hwin j hj
end
section
variable {w0 : World} {cb o cb' o' n : Nat} {C C' : Array Value} {ty ty' : TypeId} {fz fz' : Nat × Nat} {z : Wd}
theorem fB_hold {i x : Int} {b : Bool} (hb : decide (i < (n : Int)) = b) : (fB b).Hold (nuB i n x) := by
 refine ⟨fun p hp => (by cases hp), fun p hp => ?_, fun p hp => by cases hp⟩
 simp only [fB, List.mem_cons, List.not_mem_nil, or_false] at hp
 rcases hp with rfl | rfl | rfl
 ·show (nuB i n x 1 != nuB i n x 1) = false
  simp
 ·show (nuB i n x 10 != nuB i n x 10) = false
  simp
 ·exact hb
end
theorem bytes_ok {w : World} {cb o c cb' o' c' n : Nat} {z : Wd} (h0 : 0 < n) (hle : n ≤ c) (hle' : n ≤ c') (hz : qaZ w .u8 cb o n z) (hz' : qaZ w .u8 cb' o' n z) (hn : n < 1000000000000) :
  (∃ fn, Tryd.prog.funcs[14]? = some fn ∧ fn.body.isSome = true ∧ (fn.name == "runtime.NumGoroutine") = false) ∧
  Calls Tryd.prog 14 #[.slice (some ⟨cb, o, none⟩) n c, .slice (some ⟨cb', o', none⟩) n c'] w fun e w' => e = .returned (.bool true) ∧ Below w.heap.size w w' := by
 obtain ⟨C, ty, fz, hC, hz⟩ := hz
 obtain ⟨C', ty', fz', hC', hz'⟩ := hz'
 have below : ∀ {w' : World}, BelowL [] w w' → Below w.heap.size w w' := fun hB => ⟨hB.os, hB.tape, hB.output, hB.size, fun k hk => hB.block k hk fun p hp => by cases hp⟩
 let g : Nat → Option Pl := fun b => if b = 64 then some ⟨cb, o + 0, 0⟩ else if b = 65 then some ⟨cb', o' + 0, 0⟩ else none
 have g64 : g 64 = some ⟨cb, o + 0, 0⟩ := rfl
 have g65 : g 65 = some ⟨cb', o' + 0, 0⟩ := rfl
 let KP : List (Nat × Obj) := [(cb, .cells C ty fz), (cb', .cells C' ty' fz')]
 have b1 : BR (nuB 0 n 0) (embF g) w (ceB 64 0).2 ⟨cb, o + 0, 0⟩ := qaZ.br (m := z) ⟨C, ty, fz, hC, fun j hj => by omega⟩ (by decide) fun j hj => by omega
 have b2 : BR (nuB 0 n 0) (embF g) w (ceB 65 0).2 ⟨cb', o' + 0, 0⟩ := qaZ.br (m := z) ⟨C', ty', fz', hC', fun j hj => by omega⟩ (by decide) fun j hj => by omega
 have start := qa2 (N := 26) (ν := nuB 0 n 0) (L := []) (fx := [(64, ⟨cb, o + 0, 0⟩), (65, ⟨cb', o' + 0, 0⟩)]) (kp := KP) (vs := #[.slice (some ⟨cb, o, none⟩) n c, .slice (some ⟨cb', o', none⟩) n c']) (e0 := (byN 0 []).e) (H0 := (byN 0 []).H) (n0 := 66) qbG (w := w) (fun p hp => by cases hp) g (by show 2 ≤ 26; decide) (by decide)
  (fun b hb => by show (if b = 64 then _ else if b = 65 then _ else _) = _; rw [if_neg (by omega), if_neg (by omega)])
  (fun p hp => by
   simp only [List.mem_cons, List.not_mem_nil, or_false] at hp
   rcases hp with rfl | rfl
   ·exact (qaB (show gmax ≤ 64 by decide)).trans g64
   ·exact (qaB (show gmax ≤ 65 by decide)).trans g65)
  (fun p hp => by
   simp only [byN, List.nil_append, List.mem_cons, List.not_mem_nil, or_false] at hp
   rcases hp with rfl | rfl
   ·exact ⟨_, rfl, .slw 64 1 _ 0 _ .any ⟨cb, o + 0, 0⟩ o 0 n c ((qaB (by decide)).trans g64) rfl (by show o + 0 = o + 0 * 1; omega) (by omega) rfl trivial hle (by omega)⟩
   ·exact ⟨_, rfl, .slw 65 1 _ 0 _ .any ⟨cb', o' + 0, 0⟩ o' 0 n c' ((qaB (by decide)).trans g65) rfl (by show o' + 0 = o' + 0 * 1; omega) (by omega) rfl trivial hle' (by omega)⟩)
  (fun p hp => by
   simp only [byN, List.mem_cons, List.not_mem_nil, or_false] at hp
   rcases hp with rfl | rfl
   ·exact ⟨show gmax ≤ 64 by decide, _, g64, b1, fun h => by cases h⟩
   ·exact ⟨show gmax ≤ 65 by decide, _, g65, b2, fun h => by cases h⟩)
  (fun p hp => by
   simp only [KP, List.mem_cons, List.not_mem_nil, or_false] at hp
   rcases hp with rfl | rfl
   ·exact hC
   ·exact hC')
 refine And.imp id (fun h2 => h2.mono fun e w' ⟨v, he, hv, hB⟩ => ⟨by rw [he, hv], hB⟩) (callsX (L := []) (gl := []) (Q := fun v w' => v = .bool true ∧ Below w.heap.size w w') qaf (by kernel_rfl) by_shape start ?_)
 have run : ∀ {ic : IC} {s s' : Now} {ex : Ex} {F : Facts} {ν : Nat → Int} {fx : List (Nat × Pl)}, qaF F tree [] [] [] [] [] 60 4 ic s ex s' = true → F.Hold ν → Tri Tryd.prog 26 ic (HoldsX 26 w ν [] [] fx KP s) fun ex' a w' => ex' = ex ∧ HoldsX 26 w ν [] [] fx KP s' a w' := fun h hF =>
  Tri.runX hF qak qaf qbG (fun r hr => by cases hr) (fun r hr => by cases hr) (fun r hr => by cases hr) (fun r hr => by cases hr) h
 have loop : Tri Tryd.prog 26 (.loop byR) (HoldsX 26 w (nuB ((0 : Nat) : Int) n (z 0)) [] [] [(64, ⟨cb, o + 0, 0⟩), (65, ⟨cb', o' + 0, 0⟩)] KP (byN 1 [(5, sI 0)])) fun ex a w' => ex = .exit 0 ∧ HoldsX 26 w (nuB (n : Int) n (z n)) [] [] [(64, ⟨cb, o + n, 0⟩), (65, ⟨cb', o' + n, 0⟩)] KP (byN 0 []) a w' := by
  have key := Tri.loop (P := Tryd.prog) (N := 26) (x := byR) (J := fun k a w' => k ≤ n ∧ HoldsX 26 w (nuB ((n - k : Nat) : Int) n (z (n - k))) [] [] [(64, ⟨cb, o + (n - k), 0⟩), (65, ⟨cb', o' + (n - k), 0⟩)] KP (byN (wdB k) [(5, sI 0)]) a w')
   (Post := fun ex a w' => ex = .exit 0 ∧ HoldsX 26 w (nuB (n : Int) n (z n)) [] [] [(64, ⟨cb, o + n, 0⟩), (65, ⟨cb', o' + n, 0⟩)] KP (byN 0 []) a w') n ?_ ?_
  ·exact key.weak (fun a w' h => ⟨Nat.le_refl _, by rw [Nat.sub_self, show wdB n = 1 from if_neg (by omega)]; exact h⟩) (fun _ _ _ h => h)
  ·intro k c1 hc a w' ⟨hk, hp⟩
   rw [show wdB (k + 1) = 1 from if_neg (by omega)] at hp
   refine ((run by_goR (fB_hold (decide_eq_true (by omega)))).weak (fun _ _ h => h) (fun ex a w' h => .inl ⟨h.1, by omega, ?_⟩)) c1 hc a w' hp
   refine by_ren (i' := n - k) hz hz' h.2 rfl rfl rfl rfl (by unfold wdB; split <;> omega) (fun j hj => ?_) fun p hp => ?_
   ·have : j = 0 := by unfold wdB at hj; split at hj <;> omega
    subst this
    rfl
   ·simp only [List.mem_cons, List.not_mem_nil, or_false] at hp
    subst hp
    refine ⟨_, .int .i64 ((n - k : Nat) : Int), List.mem_cons_self, ?_, rfl⟩
    show some (Value.int .i64 (IntKind.i64.wrap (((n - (k + 1) : Nat) : Int) + ((1 : Nat) : Int)))) = _
    rw [i64_small (by omega) (by omega)]
    congr 2
    omega
  ·intro c1 hc a w' ⟨_, hp⟩
   rw [Nat.sub_zero, show wdB 0 = 0 from rfl] at hp
   exact ((run by_goRe (fB_hold (decide_eq_false (by omega)))).weak (fun _ _ h => h) (fun ex a w' h => ⟨by rw [h.1]; simp, h.1, h.2⟩)) c1 hc a w' hp
 refine seqN (run by_goA (qaP _)) (seqN (run by_goG (fB_hold (decide_eq_true (by omega)))) (seqN (Mid := HoldsX 26 w (nuB (n : Int) n (z n)) [] [] [(64, ⟨cb, o + n, 0⟩), (65, ⟨cb', o' + n, 0⟩)] KP (byN 0 [])) ?_ ?_))
 ·refine seqN (Mid := HoldsX 26 w (nuB ((0 : Nat) : Int) n (z 0)) [] [] [(64, ⟨cb, o + 0, 0⟩), (65, ⟨cb', o' + 0, 0⟩)] KP (byN 1 [(5, sI 0)])) ((run by_goD (qaP _)).weak (fun _ _ h => h) fun ex a w' h => ⟨h.1, ?_⟩) ?_
  ·refine by_ren (i' := 0) hz hz' h.2 rfl rfl rfl rfl (by omega) (fun j hj => ?_) fun p hp => ?_
   ·have : j = 0 := by omega
    subst this
    rfl
   ·simp only [List.mem_cons, List.not_mem_nil, or_false] at hp
    subst hp
    exact ⟨iN 0, .int .i64 0, List.mem_cons_self, rfl, rfl⟩
  ·refine Tri.block loop (fun a w h => by cases h.1) (fun a w h => ⟨rfl, h.2⟩) (fun j a w hj h => ?_) (fun a w h => by cases h.1)
   have := h.1
   simp only [Ex.exit.injEq] at this
   exact (hj this).elim
 ·exact (run by_goE (qaP _)).weak (fun _ _ h => h) fun ex a w' h => ⟨.inr h.1, _, byZ, .b true, _, _, h.2, by_res, fun ρ v _ _ _ hB hv => ⟨by cases hv; rfl, below hB⟩⟩
def gl256 : Gl := []
def IsText (ν : Nat → Int) (need : Gl) (x : AV) (n : Nat) (z : Wd) : Prop := ∀ ρ w u, NeedOk ν ρ w need → VR ν ρ x u → TextAt w u n z
section
variable {ν : Nat → Int} {need : Gl}
theorem isText_pin {b T n : Nat} {cap : Cap} {z : Wd} {own : Bool} (hm : (b, ⟨[], T, own⟩) ∈ need) (hT : qac < T ∧ T ≤ qaO) (hK : pinK T = .u8) (h0 : 0 < n) (hL : ν (pinL T) = (n : Int)) (hB : ∀ j, j < n → ν (pinB T j) = z j) : IsText ν need (.sl b 0 (.s (pinL T)) cap) n z := by
 intro ρ w u hnd hu
 obtain ⟨pl, q1, q2⟩ := hnd _ hm
 have q1 : ρ b = some pl := q1
 have hp : Sh.Pinned ν w T pl := (if_pos hT.2 : (if T ≤ qaO then Sh.Pinned ν w T pl else Windowed ν w (T - qac) 0 pl) = _).mp (q2.pin hT.1)
 obtain ⟨C2, ty2, fz2, r1, r2⟩ := hp
 cases hu
 rename_i q m c2 hle2 hq hnn hcap
 have hq : ρ b = some q := hq
 rw [q1] at hq
 cases hq
 have hnn : ν (pinL T) = (m : Int) := hnn
 have hm' : n = m := by omega
 subst hm'
 refine .inr ⟨h0, pl.cb, pl.co + 0, c2, rfl, hle2, C2, ty2, fz2, r1, fun j hj => ?_⟩
 have h9 : C2[pl.co + j]? = some (.int (pinK T) (ν (pinB T j))) := r2 j (by show (j : Int) < ν (pinL T); omega)
 rw [Nat.add_zero, h9, hK, hB j hj]
end
section
variable {ν : Nat → Int} {need : Gl}
theorem isText_row {b e off m n : Nat} {own : Bool} {cap : Cap} {f : Nat → AI} {z : Wd} (hm : (b, ⟨rowC .u8 f n, e, own⟩) ∈ need) (he : e < qac) (h0 : 0 < m) (hle : off + m ≤ n) (hz : ∀ j, j < m → (f (off + j)).val ν = z j) : IsText ν need (.sl b off (nA m) cap) m z := by
 intro ρ w u hnd hu
 obtain ⟨pl, q1, q2⟩ := hnd _ hm
 have q1 : ρ b = some pl := q1
 obtain ⟨C, t, fz, g1, g2, _⟩ := q2.cells (Nat.ne_of_lt he)
 cases hu
 rename_i q m2 c2 hle2 hq hnn hcap
 have hq : ρ b = some q := hq
 rw [q1] at hq
 cases hq
 have hnn : ((m : Nat) : Int) = (m2 : Int) := hnn
 have hm' : m = m2 := by omega
 subst hm'
 refine .inr ⟨h0, pl.cb, pl.co + off, c2, rfl, hle2, C, t, fz, g1, fun j hj => ?_⟩
 obtain ⟨v, u1, u2⟩ := g2 (off + j) (.i .u8 (f (off + j))) (by show (rowC .u8 f n)[off + j]? = _; simp [rowC, show off + j < n by omega])
 cases u2
 rw [Nat.add_assoc, u1, hz j hj]
end
theorem one_arg {ν : Nat → Int} {ρ : Emb} {x : AV} {vs : Array Value} (hl : LR ν ρ [x] vs) : ∃ u, vs = #[u] ∧ VR ν ρ x u := by
 have hlen : vs.size = 1 := by rw [← hl.1]; rfl
 obtain ⟨u, rfl⟩ : ∃ u, vs = #[u] := by
  match vs, hlen with
  | ⟨[u]⟩, _ => exact ⟨u, rfl⟩
 exact ⟨u, rfl, hl.2 0 _ u rfl rfl⟩
theorem two_args {ν : Nat → Int} {ρ : Emb} {x y : AV} {vs : Array Value} (hl : LR ν ρ [x, y] vs) : ∃ u v, vs = #[u, v] ∧ VR ν ρ x u ∧ VR ν ρ y v := by
 have hlen : vs.size = 2 := by rw [← hl.1]; rfl
 obtain ⟨u, v, rfl⟩ : ∃ u v, vs = #[u, v] := by
  match vs, hlen with
  | ⟨[u, v]⟩, _ => exact ⟨u, v, rfl⟩
 exact ⟨u, v, rfl, hl.2 0 _ u rfl rfl, hl.2 1 _ v rfl rfl⟩
theorem packR {ν : Nat → Int} {n : Nat} {w : World} {k : IntKind} {g : Nat → AI} {m : Nat} {s : Wd} (hg : ∀ j, j < m + 1 → (g j).val ν = s j) : PartsR ν n w [.v (.ag (rowC k g (m + 1)))] [aggI k (m + 1) s] :=
 ⟨by show qag ν _ = _; rw [conc2_row]; exact congrArg some (aggI_congr hg), trivial⟩
section
variable {ν : Nat → Int} {need : Gl} {x y : AV} {n : Nat} {z : Wd} {g : Nat → AI}
def rowTw (T : Nat) (x : AV) (need : Gl) : RowM := ⟨9, [x], need, [.new T]⟩
end
section
variable {ν : Nat → Int} {need : Gl} {x y : AV} {n : Nat} {z : Wd} {g : Nat → AI}
def rowEq (x y : AV) (need : Gl) : RowM := ⟨14, [x, y], need, [.v (.b true)]⟩
end
theorem cellsAt_of {w : World} {k : IntKind} {b o n : Nat} {z : Wd} (h0 : 0 < n) (h : ∀ i, i < n → w.cell? ⟨b, o + i, none⟩ = some (.int k (z i))) : qaZ w k b o n z := by
 have h1 := h 0 h0
 unfold World.cell? at h1
 split at h1
 ·rename_i C t fz hC
  refine ⟨C, t, fz, hC, fun j hj => ?_⟩
  have h2 := h j hj
  unfold World.cell? at h2
  rw [hC] at h2
  simpa using h2
 all_goals cases h1
theorem bytes_of {zs : List Int} (hw : ∀ z ∈ zs, (Lit.int .u8 z).wf = true) (n : Nat) : Bytes (fun i => zs.getD i 0) n := by
 obtain ⟨f, hf, hz⟩ := nat_bytes hw
 exact fun j _ => ⟨f j, hz j, hf j⟩
def tg (t : Nat) : Nat := qac + t
def nuR (lo : Nat → Int) (len at_ : Nat → Nat) (z : Nat → Wd) : Nat → Int := fun k => if k < 10000 then lo k else if k % 1099511627776 = 0 then ((len (k / 1099511627776) : Nat) : Int) else if k % 1099511627776 = 1099511627775 then ((at_ (k / 1099511627776) : Nat) : Int) else z (k / 1099511627776) (k % 1099511627776 - 1)
section
variable {lo : Nat → Int} {len at_ : Nat → Nat} {z : Nat → Wd} {t : Nat}
theorem nuR_lo {k : Nat} (h : k < 10000) : nuR lo len at_ z k = lo k := if_pos h
end
section
variable {lo : Nat → Int} {len at_ : Nat → Nat} {z : Nat → Wd} {t : Nat}
theorem tg_L (t : Nat) : pinL (tg t) = t * 1099511627776 := by
 show (qac + t - qac) * _ = _
 rw [Nat.add_sub_cancel_left]
end
section
variable {lo : Nat → Int} {len at_ : Nat → Nat} {z : Nat → Wd} {t : Nat}
theorem tg_A (t : Nat) : pinA (tg t) = t * 1099511627776 + 1099511627775 := by
 show (qac + t - qac) * _ + _ = _
 rw [Nat.add_sub_cancel_left]
end
section
variable {lo : Nat → Int} {len at_ : Nat → Nat} {z : Nat → Wd} {t : Nat}
theorem tg_B (t j : Nat) : pinB (tg t) j = t * 1099511627776 + (j + 1) := by
 show (qac + t - qac) * _ + _ = _
 rw [Nat.add_sub_cancel_left]
end
section
variable {lo : Nat → Int} {len at_ : Nat → Nat} {z : Nat → Wd} {t : Nat}
theorem nuR_L (ht : 0 < t) : nuR lo len at_ z (pinL (tg t)) = (len t : Int) := by
 unfold nuR
 rw [tg_L, if_neg (by omega), Nat.mul_mod_left, if_pos rfl, Nat.mul_div_left _ (by decide)]
end
section
variable {lo : Nat → Int} {len at_ : Nat → Nat} {z : Nat → Wd} {t : Nat}
theorem nuR_A (ht : 0 < t) : nuR lo len at_ z (pinA (tg t)) = (at_ t : Int) := by
 unfold nuR
 rw [tg_A, if_neg (by omega), if_neg (by omega), if_pos (by omega), show (t * 1099511627776 + 1099511627775) / 1099511627776 = t by omega]
end
section
variable {lo : Nat → Int} {len at_ : Nat → Nat} {z : Nat → Wd} {t : Nat}
theorem nuR_B (ht : 0 < t) {j : Nat} (hj : j < 1099511627774) : nuR lo len at_ z (pinB (tg t) j) = z t j := by
 unfold nuR
 rw [tg_B, if_neg (by omega), if_neg (by omega), if_neg (by omega), show (t * 1099511627776 + (j + 1)) / 1099511627776 = t by omega, show (t * 1099511627776 + (j + 1)) % 1099511627776 - 1 = j by omega]
end
def mv (a a' : Nat) (pl : Pl) : Pl := ⟨pl.cb, pl.co - a + a', pl.tot⟩
section
variable {N : Nat} {w0 : World} {ν ν' : Nat → Int} {gl : Gl} {L fx fx' : List (Nat × Pl)} {kp kp' : List (Nat × Obj)}
def wg (t : Nat) : Nat := tg t + qac
end
section
variable {N : Nat} {w0 : World} {ν ν' : Nat → Int} {gl : Gl} {L fx fx' : List (Nat × Pl)} {kp kp' : List (Nat × Obj)}
theorem wg_big {t : Nat} (ht : 0 < t) : ¬ wg t ≤ qaO := by
 unfold wg tg qaO qac
 omega
end
section
variable {N : Nat} {w0 : World} {ν ν' : Nat → Int} {gl : Gl} {L fx fx' : List (Nat × Pl)} {kp kp' : List (Nat × Obj)}
theorem wg_map (t : Nat) : qac < wg t := by
 unfold wg tg qac
 omega
end
section
variable {N : Nat} {w0 : World} {ν ν' : Nat → Int} {gl : Gl} {L fx fx' : List (Nat × Pl)} {kp kp' : List (Nat × Obj)}
theorem wg_sub (t : Nat) : wg t - qac = tg t := Nat.add_sub_cancel _ _
end
section
variable {N : Nat} {w0 : World} {ν ν' : Nat → Int} {gl : Gl} {L fx fx' : List (Nat × Pl)} {kp kp' : List (Nat × Obj)}
theorem pinB_win {w : World} {e T : Nat} {cs : List AV} {o : Bool} {pl : Pl} (h1 : ¬ e ≤ qaO) (h2 : e - qac = T) (h : PinB ν w ⟨cs, e, o⟩ pl) : Windowed ν w T cs.length pl := by
 unfold PinB at h
 rw [if_neg (show ¬ (ABlk.mk cs e o).elem ≤ qaO from h1)] at h
 subst h2
 exact h
end
section
variable {N : Nat} {w0 : World} {ν ν' : Nat → Int} {gl : Gl} {L fx fx' : List (Nat × Pl)} {kp kp' : List (Nat × Obj)}
theorem br_win {ρ : Emb} {w : World} {e T : Nat} {cs : List AV} {o : Bool} {pl : Pl} (hm : qac < e) (h1 : ¬ e ≤ qaO) (h2 : e - qac = T) (h : BR ν ρ w ⟨cs, e, o⟩ pl) : Windowed ν w T cs.length pl := pinB_win h1 h2 (h.pin hm)
end
section
variable {N : Nat} {w0 : World} {ν ν' : Nat → Int} {gl : Gl} {L fx fx' : List (Nat × Pl)} {kp kp' : List (Nat × Obj)}
theorem shut_win {ρ : Emb} {w : World} {b e T : Nat} {o : Bool} {pl : Pl} (hm : qac < e) (h1 : ¬ e ≤ qaO) (h2 : e - qac = T) (h : BR ν ρ w (b, (⟨[], e, o⟩ : ABlk)).2.shut pl) : Windowed ν w T 0 pl := br_win (cs := []) (o := false) hm h1 h2 h
end
theorem isText_win {ν : Nat → Int} {need : Gl} {b t m : Nat} {own : Bool} {cap : Cap} {k l : AI} {z : Wd} (hm : (b, ⟨[], wg t, own⟩) ∈ need) (ht : 0 < t) (hK : pinK (tg t) = .u8) (hk : k.val ν = ν (pinA (tg t))) (hl : l.val ν = (m : Int)) (hL : (m : Int) ≤ ν (pinL (tg t))) (hB : ∀ j, j < m → ν (pinB (tg t) j) = z j) : IsText ν need (.slw b 1 k 0 l cap) m z := by
 intro ρ w u hnd hu
 obtain ⟨pl, q1, q2⟩ := hnd _ hm
 have q1 : ρ b = some pl := q1
 have hp := shut_win (wg_map t) (wg_big ht) (wg_sub t) q2
 obtain ⟨C, ty, fz, o, a, r1, r2, r3, r4⟩ := hp
 cases hu
 rename_i q o' a1 n' cc h7 h8 h1 h3 h2 h4 h5 h6
 have h1 : ρ b = some q := h1
 rw [q1] at h1
 cases h1
 have e1 : a1 = a := by rw [hk, r2] at h2; omega
 subst e1
 have e2 : o' = o := by omega
 subst e2
 have e3 : n' = m := by rw [hl] at h5; omega
 subst e3
 rcases Nat.eq_zero_or_pos n' with h0 | h0
 ·subst h0
  exact .inl ⟨rfl, .inr ⟨_, _, rfl⟩⟩
 ·refine .inr ⟨h0, pl.cb, o', cc, rfl, h7, C, ty, fz, r1, fun j hj => ?_⟩
  rw [r4 j (by omega) (by omega), hK, hB j hj]
theorem tg_Ke {t : Nat} (h : t % 2 = 0) : pinK (tg t) = .u8 := by
 unfold pinK tg
 rw [Nat.add_sub_cancel_left, if_pos h]
inductive Hd where
 | a | b | c
def Hd.av (blk T : Nat) : Hd → AV
 | .a => .nsl
 | .b => .sle false
 | .c => .sl blk 0 (.s (pinL T)) .any
def Hd.gl (blk T : Nat) : Hd → Gl
 | .c => [(blk, ⟨[], T, false⟩)]
 | _ => []
def Hd.len (T : Nat) : Hd → AI
 | .c => .s (pinL T)
 | _ => .c 0
def Hd.Fits (s : Hd) (n : Nat) : Prop := match s with | .c => 0 < n | _ => n = 0
def Came (w : World) (v : Value) (s : Hd) (n : Nat) (z : Wd) (pl : Option Pl) : Prop :=
 match s with
 | .a => v = .slice none 0 0 ∧ n = 0 ∧ pl = none
 | .b => (∃ a c, v = .slice (some a) 0 c) ∧ n = 0 ∧ pl = none
 | .c => ∃ cb o c, v = .slice (some ⟨cb, o, none⟩) n c ∧ n ≤ c ∧ 0 < n ∧ qaZ w .u8 cb o n z ∧ pl = some ⟨cb, o, 0⟩
theorem Came.fits {w : World} {v : Value} {s : Hd} {n : Nat} {z : Wd} {pl : Option Pl} (h : Came w v s n z pl) : s.Fits n := by
 cases s
 ·exact h.2.1
 ·exact h.2.1
 ·obtain ⟨_, _, _, _, _, h0, _⟩ := h
  exact h0
theorem came_of {w : World} {v : Value} {zs : List Int} (hv : ReadsAs w .u8 v zs) (hw : ∀ z ∈ zs, (Lit.int .u8 z).wf = true) : ∃ s n pl, Came w v s n (fun i => zs.getD i 0) pl ∧ Bytes (fun i => zs.getD i 0) n := by
 rcases hv with ⟨rfl, _⟩ | ⟨a, c, rfl, _⟩ | ⟨b, o, n, c, rfl, hc, hn, h0, hcell⟩
 ·exact ⟨.a, 0, none, ⟨rfl, rfl, rfl⟩, fun j hj => by omega⟩
 ·exact ⟨.b, 0, none, ⟨⟨a, c, rfl⟩, rfl, rfl⟩, fun j hj => by omega⟩
 ·exact ⟨.c, n, _, ⟨b, o, c, rfl, hc, h0, cellsAt_of h0 hcell, rfl⟩, bytes_of hw n⟩
theorem Came.here {w : World} {v : Value} {s : Hd} {n : Nat} {z : Wd} {pl : Option Pl} {ν : Nat → Int} {gp : Nat → Option Pl} {blk T : Nat} (h : Came w v s n z pl) (hb : gmax ≤ blk) (hg : gp blk = pl) (hT : qac < T ∧ T ≤ qaO) (hK : pinK T = .u8) (hL : ν (pinL T) = (n : Int)) (hB : ∀ j, j < n → ν (pinB T j) = z j) :
  VR ν (embF gp) (s.av blk T) v ∧ ∀ p ∈ s.gl blk T, p.1 = blk ∧ p.2.own = false ∧ ∃ pl', gp blk = some pl' ∧ BR ν (embF gp) w p.2 pl' := by
 cases s
 ·obtain ⟨rfl, _, _⟩ := h
  exact ⟨.nsl, fun p hp => by cases hp⟩
 ·obtain ⟨⟨a, c, rfl⟩, _, _⟩ := h
  exact ⟨.sle _ _ _ (fun h => by cases h), fun p hp => by cases hp⟩
 ·obtain ⟨cb, o, c, rfl, hle, h0, ⟨C, ty, fz, hC, hz⟩, rfl⟩ := h
  have he : embF gp blk = some ⟨cb, o, 0⟩ := (qaB hb).trans hg
  refine ⟨.sl blk 0 _ .any ⟨cb, o, 0⟩ n c he hL trivial hle, fun p hp => ?_⟩
  simp only [Hd.gl, List.mem_cons, List.not_mem_nil, or_false] at hp
  subst hp
  refine ⟨rfl, rfl, _, hg, ⟨fun _ => ⟨C, ty, fz, hC, fun j c hc => by simp at hc, fun h => by cases h⟩, fun h => absurd h (Nat.ne_of_gt hT.1), fun _ => ?_⟩⟩
  unfold PinB
  rw [if_pos (show (ABlk.mk [] T false).elem ≤ qaO from hT.2)]
  refine (⟨C, ty, fz, hC, fun j hj => ?_⟩ : Sh.Pinned ν w T ⟨cb, o, 0⟩)
  rw [hL] at hj
  rw [hK, hB j (by omega)]
  exact hz j (by omega)
def Hd.av0 (blk k : Nat) : Hd → AV
 | .a => .nsl
 | .b => .sle false
 | .c => .sl blk 0 (.s k) .any
def Hd.gl0 (blk : Nat) : Hd → Gl
 | .c => [(blk, ⟨[], 0, false⟩)]
 | _ => []
theorem Came.here0 {w : World} {v : Value} {s : Hd} {n : Nat} {z : Wd} {pl : Option Pl} {ν : Nat → Int} {gp : Nat → Option Pl} {blk k : Nat} (h : Came w v s n z pl) (hb : gmax ≤ blk) (hg : gp blk = pl) (hL : ν k = (n : Int)) :
  VR ν (embF gp) (s.av0 blk k) v ∧ NeedOk ν (embF gp) w (s.gl0 blk) := by
 cases s
 ·obtain ⟨rfl, _, _⟩ := h
  exact ⟨.nsl, fun p hp => by cases hp⟩
 ·obtain ⟨⟨a, c, rfl⟩, _, _⟩ := h
  exact ⟨.sle _ _ _ (fun h => by cases h), fun p hp => by cases hp⟩
 ·obtain ⟨cb, o, c, rfl, hle, h0, ⟨C, ty, fz, hC, hz⟩, rfl⟩ := h
  have he : embF gp blk = some ⟨cb, o, 0⟩ := (qaB hb).trans hg
  refine ⟨.sl blk 0 _ .any ⟨cb, o, 0⟩ n c he hL trivial hle, fun p hp => ?_⟩
  simp only [Hd.gl0, List.mem_cons, List.not_mem_nil, or_false] at hp
  subst hp
  exact ⟨_, he, ⟨fun _ => ⟨C, ty, fz, hC, fun j c hc => by simp [ABlk.shut] at hc, fun h => by cases h⟩, fun h => absurd (show (0 : Nat) = qac from h) (by decide), fun h => absurd (show qac < 0 from h) (by decide)⟩⟩
theorem yes_ofN {ν : Nat → Int} {gl : Gl} {f : Nat} {args : List AV} {need : Gl} {ρ : Emb} {w : World} {vs : Array Value} (h : RowM.Ok ν Tryd.prog gl ⟨f, args, need, [.v (.b true)]⟩) (hw : Laid gl w) (hn : NeedOk ν ρ w need) (ha : LR ν ρ args vs) : Calls Tryd.prog f vs w fun e w' => e = .returned (.bool true) ∧ Below w.heap.size w w' :=
 (h.2 ρ w vs hw hn ha).mono fun e w' ⟨us, he, hp, hB⟩ => ⟨by
  match us, hp with
  | [u], hp =>
    have : some (Value.bool true) = some u := hp.1
    cases this
    exact he, hB⟩
section
variable {ν : Nat → Int} {need : Gl} {x y : AV} {n : Nat} {z : Wd} {g : Nat → AI}
theorem rowTw_T {T : Nat} (hx : IsText ν need x n z) (h0 : 0 < n) (hn : n < 100000000000) (hT : qac < T ∧ T ≤ qaO) (hK : pinK T = .u8) (hL : ν (pinL T) = (n : Int)) (hB : ∀ j, j < n → ν (pinB T j) = z j) : (rowTw T x need).Ok ν Tryd.prog gl256 := by
 refine ⟨⟨_, Tryd.func9, by kernel_rfl, by kernel_rfl⟩, fun ρ w vs hw hnd hl => ?_⟩
 obtain ⟨u, rfl, hu⟩ := one_arg hl
 rcases hx ρ w u hnd hu with ⟨h, _⟩ | ⟨_, cb, o, c, rfl, hle, hz⟩
 ·omega
 refine (twin_ok h0 hle hz (by omega)).2.mono fun e w' ⟨u, he, ⟨cb', o', c', hr, hc, hcb, C, ty, fz, hC, hzz⟩, hBw⟩ => ⟨[u], he, ⟨⟨hT, cb', o', n, c', hr, hc, hL, hcb, C, ty, fz, hC, fun j hj => ?_⟩, trivial⟩, hBw⟩
 have hj : (j : Int) < ν (pinL T) := hj
 rw [hL] at hj
 rw [hK, hB j (by omega)]
 exact hzz j (by omega)
end
section
variable {ν : Nat → Int} {need : Gl} {x y : AV} {n : Nat} {z : Wd} {g : Nat → AI}
theorem rowEq_T (hx : IsText ν need x n z) (hy : IsText ν need y n z) (h0 : 0 < n) (hn : n < 100000000000) : (rowEq x y need).Ok ν Tryd.prog gl256 := by
 refine ⟨⟨_, Tryd.func14, by kernel_rfl, by kernel_rfl⟩, fun ρ w vs hw hnd hl => ?_⟩
 obtain ⟨u, v, rfl, hu, hv⟩ := two_args hl
 rcases hx ρ w u hnd hu with ⟨h, _⟩ | ⟨_, cb, o, c, rfl, hle, hz⟩
 ·omega
 rcases hy ρ w v hnd hv with ⟨h, _⟩ | ⟨_, cb', o', c', rfl, hle', hz'⟩
 ·omega
 exact (bytes_ok h0 hle hle' hz hz' (by omega)).2.mono fun e w' ⟨he, hB⟩ => ⟨[.bool true], he, ⟨rfl, trivial⟩, hB⟩
end
section
variable {nk ni n k : Nat} {zk zi : Wd}
theorem tgT {t : Nat} (h0 : 0 < t) (h1 : t < 1000) : qac < tg t ∧ tg t ≤ qaO := by
 unfold tg qaO qac
 omega
end
end Go.Proofs.YtheidgcgdkmmiaaDoor

/-
  The page's mod1305: its contract. Own work.
-/
import Derived.Test.YtbdihdncnpajgaaPoi
namespace Go.Proofs.Ytbdihdncnpajgaa
open Go.Sh
open Go.ChangeShapes Go.WideShapes Go.ChangeAt Go.RowKit
set_option maxRecDepth 100000

def nuD (u : Nat → Nat) (r : Nat) : Nat → Int := fun k => if k < 64 then (u k : Int) else (r : Int)
theorem nuD_u {u : Nat → Nat} {r j : Nat} (h : j < 64) : nuD u r j = (u j : Int) := if_pos h
theorem nuD_r {u : Nat → Nat} {r : Nat} : nuD u r 900 = (r : Int) := if_neg (by decide)
theorem nuD_g {u : Nat → Nat} {r j : Nat} (h : j < 64) : (nmA 0 j).val (nuD u r) = (u j : Int) := by rw [nm_val, Nat.zero_add, nuD_u h]
theorem md_get (l : List (Nat × AV)) (g : Nat → AI) {n : Nat} (hn : n = 66 ∨ n = 67) : ∀ p ∈ (mdS l g n).H, (heapL ((mdS l g n).H ++ []) n).get p.1 = some p.2 := by
  intro p hp
  simp only [mdS, List.mem_cons, List.not_mem_nil, or_false] at hp
  rcases hn with rfl | rfl <;> rcases hp with rfl | rfl <;> kernel_rfl
theorem md_re {w0 w : World} {ac : Act} {u u' : Nat → Nat} {r r' n : Nat} {l l' : List (Nat × AV)} {g : Nat → AI} (hn : n = 66 ∨ n = 67) (hg : ∀ j, j < 64 → (g j).val (nuD u r) = (u' j : Int))
    (hl : ∀ p ∈ l', ∃ x, (p.1, x) ∈ l ∧ SlotR (nuD u r) (nuD u' r') [64, 65] (fun b => b) (fun _ pl => pl) x p.2) (h : HoldsX 122 w0 (nuD u r) [] [] [] [] (mdS l g n) ac w) : HoldsX 122 w0 (nuD u' r') [] [] [] [] (mdS l' (nmA 0) 66) ac w := by
  have gt := md_get l g hn
  refine HoldsX.re [64, 65] (fun b => b) (fun _ pl => pl) gl0_ok h (by decide) (fun x pl => rfl) (fun b hb => ?_) (fun b hb b' hb' e => e) (fun p hp => ?_) (fun p hp => ?_)
  · simp only [List.mem_cons, List.not_mem_nil, or_false] at hb
    rcases hb with rfl | rfl <;> exact ⟨by decide, by decide⟩
  · rcases List.mem_append.1 (show p ∈ l' ++ [(1, AV.p 64 0), (2, .p 65 0)] from hp) with hp | hp
    · obtain ⟨x, h1, h2⟩ := hl p hp
      exact ⟨x, List.mem_append.2 (.inl h1), h2⟩
    · simp only [List.mem_cons, List.not_mem_nil, or_false] at hp
      rcases hp with rfl | rfl
      · exact ⟨.p 64 0, List.mem_append.2 (.inr (by simp)), SlotR.p (by simp) rfl fun _ => rfl⟩
      · exact ⟨.p 65 0, List.mem_append.2 (.inr (by simp)), SlotR.p (by simp) rfl fun _ => rfl⟩
  · simp only [List.mem_cons, List.not_mem_nil, or_false] at hp
    rcases hp with rfl | rfl
    · refine ⟨by simp [m64], _, gt (m64 64 g) (by simp [mdS]), id, ?_⟩
      exact BlkR.row (by decide) fun j hj => by rw [hg j hj, nuD_g hj]
    · refine ⟨by simp [m64], _, gt (m64 65 zeroA) (by simp [mdS]), id, ?_⟩
      exact BlkR.row (g := zeroA) (g' := zeroA) (by decide) fun j hj => by rw [zeroA_val, zeroA_val]
def vR (v : Nat → Nat) : Nat → Nat → Nat
  | 0 => v
  | r + 1 => rmN (vR v r)
section
variable {v : Nat → Nat}
theorem vR_lt (h : ∀ j, j < 64 → v j < 16777216) : ∀ r j, j < 64 → vR v r j < 16777216
  | 0, j, hj => h j hj
  | r + 1, j, _ => by
    have := rm_lt (vR v r) j
    show rmN (vR v r) j < _
    omega
theorem red_lt {x : Nat} : red x < 1361129467683753853853498429727072845824 + 5 * (x / 1361129467683753853853498429727072845824) := by
  have := Nat.mod_lt x (show 0 < 1361129467683753853853498429727072845824 by decide)
  unfold red
  omega
theorem red_mod (x : Nat) : red x % pp = x % pp := by
  have e : x = red x + pp * (x / 1361129467683753853853498429727072845824) := by
    unfold red pp
    omega
  rw [show x % pp = (red x + pp * (x / 1361129467683753853853498429727072845824)) % pp by rw [← e], Nat.add_mul_mod_self_left]
def big : Nat := 256 ^ 33
theorem vR_dv (h : dv v 64 < big) : dv (vR v 1) 64 < 256 ^ 18 ∧ dv (vR v 2) 64 < 1361129467683753853853498429727072845824 + 100000 ∧ dv (vR v 3) 64 < 1361129467683753853853498429727072845824 ∧ dv (vR v 4) 64 < 1361129467683753853853498429727072845824 ∧ dv (vR v 4) 64 % pp = dv v 64 % pp := by
  have b33 : big < 256 ^ 64 := by decide
  have e1 : dv (vR v 1) 64 = red (dv v 64) := dv_rm (Nat.lt_trans h b33)
  have h1 : dv (vR v 1) 64 < 256 ^ 18 := by
    rw [e1]
    have b : big = 1361129467683753853853498429727072845824 * 21778071482940061661655974875633165533184 := by decide
    have c := Nat.div_lt_of_lt_mul (b ▸ h)
    have d := red_lt (x := dv v 64)
    have b3 : (256 : Nat) ^ 18 = 22300745198530623141535718272648361505980416 := by decide
    rw [b3]
    omega
  have e2 : dv (vR v 2) 64 = red (dv (vR v 1) 64) := dv_rm (Nat.lt_trans h1 (by decide))
  have h2 : dv (vR v 2) 64 < 1361129467683753853853498429727072845824 + 100000 := by
    rw [e2]
    have b3 : (256 : Nat) ^ 18 = 22300745198530623141535718272648361505980416 := by decide
    rw [b3] at h1
    have d := red_lt (x := dv (vR v 1) 64)
    omega
  have e3 : dv (vR v 3) 64 = red (dv (vR v 2) 64) := dv_rm (Nat.lt_trans h2 (by decide))
  have h3 : dv (vR v 3) 64 < 1361129467683753853853498429727072845824 := by
    rw [e3]
    unfold red
    omega
  have e4 : dv (vR v 4) 64 = red (dv (vR v 3) 64) := dv_rm (Nat.lt_trans h3 (by decide))
  have h4 : dv (vR v 4) 64 < 1361129467683753853853498429727072845824 := by
    rw [e4]
    unfold red
    omega
  exact ⟨h1, h2, h3, h4, by rw [e4, red_mod, e3, red_mod, e2, red_mod, e1, red_mod]⟩
theorem digit_off (Y i : Nat) (hi : i < 16) : (Y + 1361129467683753853853498429727072845824) / 256 ^ i % 256 = Y / 256 ^ i % 256 := by
  have e : (1361129467683753853853498429727072845824 : Nat) = 256 ^ i * (256 * (4 * 256 ^ (15 - i))) := by
    rw [← Nat.mul_assoc, ← Nat.pow_succ, Nat.mul_left_comm, ← Nat.pow_add, show i + 1 + (15 - i) = 16 by omega]
  rw [e, Nat.add_mul_div_left _ _ (Nat.pow_pos (by decide)), Nat.add_mul_mod_self_left]
theorem digit_top {X i : Nat} (h : X < 256 ^ 17) (hi : 16 < i) : X / 256 ^ i % 256 = 0 := by
  have : 256 ^ 17 ≤ 256 ^ i := Nat.pow_le_pow_right (by decide) hi
  rw [Nat.div_eq_of_lt (Nat.lt_of_lt_of_le h this)]
/-! the end -/
def mE (v : Nat → Nat) : Nat := dv (vR v 4) 64
def ovM (v : Nat → Nat) : Bool := decide (4 ≤ (5 + mE v) / 256 ^ 16 % 256)
theorem mE_dg (h : dv v 64 < big) : dv (dgN 0 (vR v 4)) 64 = mE v := by
  have h4 := (vR_dv h).2.2.2.1
  have e : dv (dgN 0 (vR v 4)) 64 = dv (fun i => mE v / 256 ^ i % 256) 64 := dv_congr fun j hj => by
    rw [dg_at 0 _ hj, Nat.zero_add]
    rfl
  rw [e, dv_of]
  exact Nat.mod_eq_of_lt (Nat.lt_trans h4 (by decide))
theorem fv_num (h : dv v 64 < big) {i : Nat} (hi : i < 64) : (fvA i).val (nuD (dgN 0 (vR v 4)) 0) = (((5 + mE v) / 256 ^ i % 256 : Nat) : Int) := by
  unfold fvA
  rw [dgA_num (cn := 5) (v := dgN 0 (vR v 4)) rfl (by decide) (fun j hj => ⟨nuD_g hj, by have := dg_lt (c := 0) (v := vR v 4) (i := j); omega⟩) hi, dg_at 5 _ hi, mE_dg h]
theorem mr_num (h : dv v 64 < big) {i : Nat} (hi : i < 64) : (mrA (ovM v) i).val (nuD (dgN 0 (vR v 4)) 0) = ((dv v 64 % pp / 256 ^ i % 256 : Nat) : Int) := by
  obtain ⟨_, _, _, h4, h5⟩ := vR_dv h
  have h4 : mE v < 1361129467683753853853498429727072845824 := h4
  have h5 : mE v % pp = dv v 64 % pp := h5
  have q : (256 : Nat) ^ 16 = 340282366920938463463374607431768211456 := by decide
  have q17 : (256 : Nat) ^ 17 = 87112285931760246646623899502532662132736 := by decide
  rw [← h5]
  unfold mrA ovM
  by_cases c : 4 ≤ (5 + mE v) / 256 ^ 16 % 256
  · rw [decide_eq_true c, if_pos rfl]
    rw [q] at c
    obtain ⟨Y, hY⟩ : ∃ Y, 5 + mE v = Y + 1361129467683753853853498429727072845824 := ⟨5 + mE v - 1361129467683753853853498429727072845824, by omega⟩
    have hm : mE v % pp = Y := by
      rw [show mE v = Y + pp by unfold pp; omega, Nat.add_mod_right, Nat.mod_eq_of_lt (by unfold pp; omega)]
    rw [hm]
    by_cases c16 : i = 16
    · subst c16
      have t : ∀ B, B = 340282366920938463463374607431768211456 → (5 + mE v) / B % 256 % 2 ^ 2 = Y / B % 256 := by
        intro B hB
        rw [hY, hB]
        omega
      show (eA .and .u32 (fvA 16) (nA 3)).val _ = _
      rw [eA_val, fv_num h (by decide), nA_val]
      have t := t _ q
      generalize (256 : Nat) ^ 16 = B at t ⊢
      have t2 : (5 + mE v) / B % 256 < 4294967296 := by omega
      rw [andW _ 3 2 (by decide) (by decide) t2, t]
    · rw [if_neg (by simpa using c16), fv_num h hi, hY]
      refine congrArg (fun n : Nat => (n : Int)) ?_
      by_cases c2 : i < 16
      · exact digit_off Y i c2
      · rw [digit_top (by rw [q17]; omega) (by omega), digit_top (by rw [q17]; omega) (by omega)]
  · rw [decide_eq_false c, if_neg (by decide)]
    rw [q] at c
    have hm : mE v % pp = mE v := Nat.mod_eq_of_lt (by unfold pp; omega)
    rw [hm]
    show nuD (dgN 0 (vR v 4)) 0 i = _
    rw [nuD_u hi, dg_at 0 _ hi, Nat.zero_add]
    rfl
theorem md_loop {w0 : World} (hv : ∀ j, j < 64 → v j < 16777216) : Tri Try.prog 122 (.loop mdR) (fun a w => HoldsX 122 w0 (nuD v 0) [] [] [] [] (mdS [(3, sI 900)] (nmA 0) 66) a w) fun ex a w => ex = .exit 0 ∧ HoldsX 122 w0 (nuD (vR v 4) 4) [] [] [] [] (mdS [] (nmA 0) 66) a w := by
  have key := Tri.loop (P := Try.prog) (N := 122) (x := mdR) (J := fun r a w => r ≤ 4 ∧ HoldsX 122 w0 (nuD (vR v (4 - r)) (4 - r)) [] [] [] [] (mdS [(3, sI 900)] (nmA 0) 66) a w) (Post := fun ex a w => ex = .exit 0 ∧ HoldsX 122 w0 (nuD (vR v 4) 4) [] [] [] [] (mdS [] (nmA 0) 66) a w) 4 ?_ ?_
  · exact key.weak (fun a w h => ⟨Nat.le_refl _, h⟩) (fun _ _ _ h => h)
  · intro r cc hc a w ⟨hr, hp⟩
    have e2 : 4 - r = 4 - (r + 1) + 1 := by omega
    have hlt : 4 - (r + 1) < 4 := by omega
    rw [e2]
    generalize 4 - (r + 1) = q at *
    refine ((Tri.runX (L := []) (fx := []) (kp := []) (w0 := w0) ⟨fun p hp => (by cases hp), fun p hp => ?_, fun p hp => by cases hp⟩ mixed tab_ok gl0_ok (fun r hr => by cases hr) (fun r hr => by cases hr) (fun r hr => by cases hr) (fun r hr => by cases hr) md_goR).weak (fun _ _ h => h) (fun ex a w h => .inl ⟨h.1, by omega, ?_⟩)) cc hc a w hp
    · simp only [fMd, List.mem_cons, List.not_mem_nil, or_false] at hp
      subst hp
      show decide (nuD (vR v q) q 900 < ((4 : Nat) : Int)) = true
      rw [nuD_r]
      exact decide_eq_true (by omega)
    · refine md_re (.inr rfl) (fun j hj => rm_num (v := vR v q) (fun j hj => ⟨nuD_g hj, vR_lt hv q j hj⟩) hj) (fun p hp => ?_) h.2
      simp only [List.mem_cons, List.not_mem_nil, or_false] at hp
      subst hp
      refine ⟨.i .i64 (.e .add .i64 (.s 900) (nA 1)), by simp, SlotR.conc (u := .int .i64 ((q + 1 : Nat) : Int)) ?_ (sI_conc nuD_r)⟩
      show some (Value.int .i64 (IntKind.i64.wrap (nuD (vR v q) q 900 + ((1 : Nat) : Int)))) = _
      rw [nuD_r, i64_small (by omega) (by omega)]
      rfl
  · intro cc hc a w ⟨_, hp⟩
    refine ((Tri.runX (L := []) (fx := []) (kp := []) (w0 := w0) ⟨fun p hp => (by cases hp), fun p hp => ?_, fun p hp => by cases hp⟩ mixed tab_ok gl0_ok (fun r hr => by cases hr) (fun r hr => by cases hr) (fun r hr => by cases hr) (fun r hr => by cases hr) md_goX).weak (fun _ _ h => h) (fun ex a w h => ⟨by rw [h.1]; simp, h⟩)) cc hc a w hp
    simp only [fMd, List.mem_cons, List.not_mem_nil, or_false] at hp
    subst hp
    show decide (nuD (vR v 4) 4 900 < ((4 : Nat) : Int)) = false
    rw [nuD_r]
    decide
/-- WHAT IS LEFT. -/
theorem Md_ok (hv : ∀ j, j < 64 → v j < 16777216) (hb : dv v 64 < big) : Pure Try.prog 16 [aggI .u32 64 fun j => (v j : Int)] (aggI .u32 64 fun j => ((dv v 64 % pp / 256 ^ j % 256 : Nat) : Int)) := by
  refine .inl ⟨fn_there (g := t16) (by kernel_rfl), fun w => ?_⟩
  have e1 : conc2 (nuD v 0) (.ag (rowC .u32 (nmA 0) (63 + 1))) = some (aggI .u32 64 fun j => (v j : Int)) := by
    rw [conc2_row]
    exact congrArg some (aggI_congr fun j hj => nuD_g hj)
  have start := holdsX_start (N := 122) (ν := nuD v 0) (L := []) (fx := []) (kp := []) (vs := #[aggI .u32 64 fun j => (v j : Int)]) (e0 := md0.e) (H0 := []) (n0 := 64) gl0_ok (w := w) (fun p hp => by cases hp) (fun _ => none) (by show 1 ≤ 122; decide) (by decide) (fun _ _ => rfl) (fun p hp => by cases hp)
    (fun p hp => by
      simp only [md0, List.mem_cons, List.not_mem_nil, or_false] at hp
      subst hp
      exact ⟨_, rfl, (conc2_vr e1).1⟩)
    (fun p hp => by cases hp) (fun p hp => by cases hp)
  refine (callsX (L := []) (gl := []) (Q := fun u w' => u = (aggI .u32 64 fun j => ((dv v 64 % pp / 256 ^ j % 256 : Nat) : Int)) ∧ Below w.heap.size w w') tab_ok (by kernel_rfl) md_shape start ?_).2.mono fun e w' ⟨v, he, hv, hB⟩ => ⟨by rw [he, hv], hB⟩
  have run : ∀ {ic : IC} {i o : Now} {ex : Ex} {ν : Nat → Int} {F : Facts}, F.Hold ν → goesX F tree [] [] [] [] [] 300 4 ic i ex o = true → Tri Try.prog 122 ic (HoldsX 122 w ν [] [] [] [] i) fun ex' a w' => ex' = ex ∧ HoldsX 122 w ν [] [] [] [] o a w' := fun hF h =>
    Tri.runX hF mixed tab_ok gl0_ok (fun r hr => by cases hr) (fun r hr => by cases hr) (fun r hr => by cases hr) (fun r hr => by cases hr) h
  refine seqN (run (none_f _) md_goA) (seqN (Mid := HoldsX 122 w (nuD (vR v 4) 4) [] [] [] [] (mdS [] (nmA 0) 66)) ?_ (seqN (run (none_f _) md_goB) (seqN (Mid := HoldsX 122 w (nuD (dgN 0 (vR v 4)) 0) [] [] [] [] (mdS [] (nmA 0) 66)) ?_ ?_)))
  · refine seqN (Mid := HoldsX 122 w (nuD v 0) [] [] [] [] (mdS [(3, sI 900)] (nmA 0) 66)) ((run (none_f _) md_goD).weak (fun _ _ h => h) fun ex a w' h => ⟨h.1, ?_⟩) ?_
    · refine md_re (.inl rfl) (fun j hj => nuD_g hj) (fun p hp => ?_) h.2
      simp only [List.mem_cons, List.not_mem_nil, or_false] at hp
      subst hp
      exact ⟨iN 0, by simp, SlotR.conc (u := .int .i64 ((0 : Nat) : Int)) rfl (sI_conc nuD_r)⟩
    refine Tri.block (md_loop hv) (fun a w h => by cases h.1) (fun a w h => ⟨rfl, h.2⟩) (fun j a w hj h => ?_) (fun a w h => by cases h.1)
    have := h.1
    simp only [Ex.exit.injEq] at this
    exact (hj this).elim
  · refine (run (none_f _) md_goC).weak (fun _ _ h => h) fun ex a w' h => ⟨h.1, ?_⟩
    exact md_re (.inl rfl) (fun j hj => dgA_num (cn := 0) rfl (by decide) (fun j hj => ⟨nuD_g hj, vR_lt hv 4 j hj⟩) hj) (fun p hp => by cases hp) h.2
  · refine (run (F := fMe (ovM v)) ⟨fun p hp => (by cases hp), fun p hp => ?_, fun p hp => by cases hp⟩ (md_goE _)).weak (fun _ _ h => h) fun ex a w' h => ⟨.inr h.1, _, mdZ _, .ag (rowC .u32 (mrA (ovM v)) 64), [], [], h.2, md_res _, fun ρ u _ _ _ hB hv => ⟨?_, ⟨hB.os, hB.tape, hB.output, hB.size, fun k hk => hB.block k hk fun p hp => by cases hp⟩⟩⟩
    · simp only [fMe, List.mem_cons, List.not_mem_nil, or_false] at hp
      subst hp
      show decide ((fvA 16).val (nuD (dgN 0 (vR v 4)) 0) ≥ ((4 : Nat) : Int)) = ovM v
      rw [fv_num hb (by decide)]
      unfold ovM
      exact decide_eq_decide.2 (by omega)
    · refine (conc2_vr ?_).2 u hv
      show conc2 _ (.ag (rowC .u32 (mrA (ovM v)) (63 + 1))) = _
      rw [conc2_row]
      exact congrArg some (aggI_congr fun j hj => mr_num hb hj)
theorem rowMd_ok {ν : Nat → Int} {g g' : Nat → AI} (hg : ∀ j, j < 64 → (g j).val ν = (v j : Int) ∧ v j < 16777216) (hb : dv v 64 < big) (h' : ∀ j, j < 64 → (g' j).val ν = ((dv v 64 % pp / 256 ^ j % 256 : Nat) : Int)) :
    Row.Ok ν Try.prog ⟨16, [.ag (rowC .u32 g 64)], .ag (rowC .u32 g' 64)⟩ := by
  refine ⟨_, _, ?_, ?_, Md_ok (fun j hj => (hg j hj).2) hb⟩
  · have e1 : conc2 ν (.ag (rowC .u32 g (63 + 1))) = some (aggI .u32 64 fun j => (v j : Int)) := by
      rw [conc2_row]
      exact congrArg some (aggI_congr fun j hj => (hg j hj).1)
    simp only [concT]
    rw [e1]
  · show conc2 ν (.ag (rowC .u32 g' (63 + 1))) = _
    rw [conc2_row]
    exact congrArg some (aggI_congr h')
end
end Go.Proofs.Ytbdihdncnpajgaa

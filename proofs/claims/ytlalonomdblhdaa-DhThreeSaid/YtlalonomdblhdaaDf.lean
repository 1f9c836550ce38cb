/-
  THE PAGE's LADDER: what trystref06's Ladder answers. Own work.
-/
import Derived.Test.YtlalonomdblhdaaDe
namespace Go.Proofs.Ytlalonomdblhdaa
open Go.Sh
set_option maxRecDepth 100000

/-- So many rounds are left. -/
def rlJ (w0 : World) (k u i : Nat) (act : Act) (w : World) : Prop :=
  i ≤ 255 ∧ ∃ x2 z2 x3 z3, x2 < B4 ∧ z2 < B4 ∧ x3 < B4 ∧ z3 < B4 ∧ (⟨em x2, em z2, em x3, em z3⟩ : L4) = flad (em u) k (255 - i) ∧ ∀ l, Holds 117 w0 (nuw (k :: u :: x2 :: z2 :: x3 :: z3 :: l)) (rlN ((i : Int) - 1)) act w

theorem rl_loop (w0 : World) (k u : Nat) (hu : u < B4) : Tri Try.prog 117 (.loop rlBody) (rlJ w0 k u 255) (fun ex act w => ex = .exit 0 ∧ rlJ w0 k u 0 act w) := by
  refine Tri.loop (P := Try.prog) (N := 117) (x := rlBody) (J := fun i => rlJ w0 k u i) 255 ?_ ?_
  · intro i c hc act w ⟨hi, x2, z2, x3, z3, l2, m2, l3, m3, hs, hH⟩
    have hH' : ∀ l, Holds 117 w0 (nuw (k :: u :: x2 :: z2 :: x3 :: z3 :: l)) (rlN (.ofNat i)) act w := by
      intro l
      have := hH l
      have e : (((i + 1 : Nat) : Int) - 1) = .ofNat i := by rw [Int.ofNat_eq_natCast]; omega
      rw [e] at this
      exact this
    have hg := rl_goes i (by omega)
    simp only [rlGo, Bool.and_eq_true] at hg
    have hfl : flad (em u) k (255 - i) = frnd (em u) (flad (em u) k (255 - (i + 1))) (k.testBit i) := by
      have e1 : 255 - i = 254 - i + 1 := by omega
      have e2 : 255 - (i + 1) = 254 - i := by omega
      have e3 : 254 - (254 - i) = i := by omega
      rw [e1, e2]
      show frnd (em u) (flad (em u) k (254 - i)) (k.testBit (254 - (254 - i))) = _
      rw [e3]
    rw [← hs] at hfl
    cases hb : k.testBit i
    · rw [hb] at hfl
      obtain ⟨l, hl⟩ := rnd_is u x2 z2 x3 z3
      have hf := rnd_field hl
      have hr := r_rows (k := k) (x2 := x2) (z2 := z2) (x3 := x3) (z3 := z3) hu l2 m2 l3 m3 hl 2 3 4 5 (fun l' => nuwR (k :: u :: x2 :: z2 :: x3 :: z3 :: l') 2) (fun l' => nuwR (k :: u :: x2 :: z2 :: x3 :: z3 :: l') 3) (fun l' => nuwR (k :: u :: x2 :: z2 :: x3 :: z3 :: l') 4) (fun l' => nuwR (k :: u :: x2 :: z2 :: x3 :: z3 :: l') 5)
      refine ((Tri.run (rlbit_hold (by omega) false hb) mixed tab_ok hr hg.2).weak (fun _ _ h => h) (fun ex act w h => ?_)) c hc act w (hH' l)
      obtain ⟨a, b, c', d, aa, bb, e, da, cb, s, m, x3', mm, z3', x2', e1, e2, z2', rfl, _⟩ := hl
      obtain ⟨f1, f2, f3, f4, g1, g2, g3, g4⟩ := hf
      obtain ⟨q0, q1, q2, q3, q4, q5, q6⟩ := rlget' (wel 20) (wel 23) (wel 17) (wel 19)
      refine .inl ⟨h.1, by omega, x2', z2', x3', z3', g1, g2, g3, g4, ?_, fun l => rl_named h.2 q0 q1 q2 q3 q4 q5 q6 (nuw_wel _ 0) (nuw_wel _ 1) (nuw_wel _ 20) (nuw_wel _ 23) (nuw_wel _ 17) (nuw_wel _ 19) (nuw_wel _ 0) (nuw_wel _ 1) (nuw_wel _ 2) (nuw_wel _ 3) (nuw_wel _ 4) (nuw_wel _ 5)⟩
      rw [hfl]
      show (⟨em x2', em z2', em x3', em z3'⟩ : L4) = fstep (em u) ⟨em x2, em z2, em x3, em z3⟩
      have f1' : em x2' = _ := f1
      have f2' : em z2' = _ := f2
      have f3' : em x3' = _ := f3
      have f4' : em z3' = _ := f4
      rw [f1', f2', f3', f4']
    · rw [hb] at hfl
      obtain ⟨l, hl⟩ := rnd_is u x3 z3 x2 z2
      have hf := rnd_field hl
      have hr := r_rows (k := k) (x2 := x2) (z2 := z2) (x3 := x3) (z3 := z3) hu l3 m3 l2 m2 hl 4 5 2 3 (fun l' => nuwR (k :: u :: x2 :: z2 :: x3 :: z3 :: l') 4) (fun l' => nuwR (k :: u :: x2 :: z2 :: x3 :: z3 :: l') 5) (fun l' => nuwR (k :: u :: x2 :: z2 :: x3 :: z3 :: l') 2) (fun l' => nuwR (k :: u :: x2 :: z2 :: x3 :: z3 :: l') 3)
      refine ((Tri.run (rlbit_hold (by omega) true hb) mixed tab_ok hr hg.1).weak (fun _ _ h => h) (fun ex act w h => ?_)) c hc act w (hH' l)
      obtain ⟨a, b, c', d, aa, bb, e, da, cb, s, m, x3', mm, z3', x2', e1, e2, z2', rfl, _⟩ := hl
      obtain ⟨f1, f2, f3, f4, g1, g2, g3, g4⟩ := hf
      obtain ⟨q0, q1, q2, q3, q4, q5, q6⟩ := rlget' (wel 17) (wel 19) (wel 20) (wel 23)
      refine .inl ⟨h.1, by omega, x3', z3', x2', z2', g3, g4, g1, g2, ?_, fun l => rl_named h.2 q0 q1 q2 q3 q4 q5 q6 (nuw_wel _ 0) (nuw_wel _ 1) (nuw_wel _ 17) (nuw_wel _ 19) (nuw_wel _ 20) (nuw_wel _ 23) (nuw_wel _ 0) (nuw_wel _ 1) (nuw_wel _ 2) (nuw_wel _ 3) (nuw_wel _ 4) (nuw_wel _ 5)⟩
      rw [hfl]
      show (⟨em x3', em z3', em x2', em z2'⟩ : L4) = fsw true (fstep (em u) ⟨em x3, em z3, em x2, em z2⟩)
      have f1' : em x2' = _ := f1
      have f2' : em z2' = _ := f2
      have f3' : em x3' = _ := f3
      have f4' : em z3' = _ := f4
      rw [f1', f2', f3', f4']
      rfl
  · intro c hc act w hJ
    obtain ⟨hi, x2, z2, x3, z3, l2, m2, l3, m3, hs, hH⟩ := hJ
    refine ((Tri.run (i := rlN (-1)) (noFacts_hold _) mixed tab_ok (fun r hr => by cases hr) rl_ends).weak (fun _ _ h => h) (fun ex act w h => ?_)) c hc act w (hH [])
    refine ⟨by rw [h.1]; simp, h.1, hi, x2, z2, x3, z3, l2, m2, l3, m3, hs, fun l => ?_⟩
    obtain ⟨q0, q1, q2, q3, q4, q5, q6⟩ := rlget (wel 2) (wel 3) (wel 4) (wel 5)
    exact rl_named h.2 q0 q1 q2 q3 q4 q5 q6 (nuw_wel _ 0) (nuw_wel _ 1) (nuw_wel _ 2) (nuw_wel _ 3) (nuw_wel _ 4) (nuw_wel _ 5) (nuw_wel _ 0) (nuw_wel _ 1) (nuw_wel _ 2) (nuw_wel _ 3) (nuw_wel _ 4) (nuw_wel _ 5)

/-! from the start to the end -/

/-- Key's and place's bytes, the key's number, the place's, and that modulo the prime. -/
def nuS (k p kk pm u : Nat) : Nat → Int := nu (byL k ++ (byL p ++ (numL kk ++ (numL pm ++ numL u))))
def rlnow0 : Now := ⟨[(0, rw8 0), (1, rw8 1)], [], gmax⟩
def rlnowA : Now := ⟨[(2, .p 64 0), (3, .p 65 0), (4, .p 66 0)], [(64, b32 (cel 0)), (65, b32 (cel 1)), (66, b32 z32)], 67⟩
def rlnowB : Now := ⟨[(3, .p 65 0), (4, .p 66 0), (5, .p 67 0)], [(65, b32 (cel 1)), (66, b32 z32), (67, bN (wel 16))], 68⟩
def rlnowC : Now := ⟨[(3, .p 65 0), (4, .p 66 0), (5, .p 67 0)], [(65, b32 (plB 32)), (66, b32 z32), (67, bN (wel 16))], 68⟩
def rlnowD : Now := ⟨[(4, .p 66 0), (5, .p 67 0), (6, .p 68 0)], [(66, b32 z32), (67, bN (wel 16)), (68, bN (wel 18))], 69⟩
def w4c (n : Nat) : List AV := [cK n, cK 0, cK 0, cK 0]
def rlH0 : List (Nat × ABlk) := [(66, b32 z32), (67, bN (wel 16)), (68, bN (wel 18)), (69, bN (w4c 1)), (70, bN (w4c 0)), (71, bN (wel 18)), (72, bN (w4c 1))]
def rlnowE' : Now := ⟨rlE0, rlH0, 73⟩
def rlnowF : Now := ⟨(11, .i .i64 (.c 254)) :: rlE0, rlH0, 73⟩
def rSB : List Row := [⟨17, [rw8 0], rw4 16⟩]
def rSD : List Row := [⟨19, [.ag (plB 32)], rw4 17⟩, ⟨18, [rw4 17], rw4 18⟩]
theorem rlgoA : goes noFacts tree [] 60 2 rlA rlnow0 .normal rlnowA = true := by kernel_rfl
theorem rlgoB : goes noFacts tree rSB 60 2 rlB rlnowA .normal rlnowB = true := by kernel_rfl
theorem rlgoC : goes noFacts tree [] 60 2 rlC rlnowB .normal rlnowC = true := by kernel_rfl
theorem rlgoD : goes noFacts tree rSD 60 2 rlD rlnowC .normal rlnowD = true := by kernel_rfl
theorem rlgoE : goes noFacts tree [] 60 2 rlE rlnowD .normal rlnowE' = true := by kernel_rfl
theorem rlgoF : goes noFacts tree [] 60 2 rlF rlnowE' .normal rlnowF = true := by kernel_rfl

def rET : List Row := [⟨23, [rw4 3], rw4 6⟩, ⟨22, [rw4 2, rw4 6], rw4 7⟩, ⟨14, [rw4 7], .ag ((List.range 32).map fun i => bt (1000 + i))⟩]
def rlnowG : Now := ⟨[(4, .p 66 0)], [(66, b32 ((List.range 32).map fun i => bt (1000 + i)))], 73⟩
theorem rlgoG : goes noFacts tree rET 60 2 rlG (rlN (-1)) .ret rlnowG = true := by kernel_rfl
/-- Words, and from 1000 on the answer's bytes. -/
def nuE (l : List Nat) (r : Nat) : Nat → Int := fun k => if k < 1000 then nuw l k else (((byL r).getD (k - 1000) 0 : Nat) : Int)

theorem nuE_wel (l : List Nat) (r j : Nat) (hj : j < 200) : concT (nuE l r) (wel j) = some (welV (l.getD j 0)) := by
  have h : ∀ i, i < 4 → nuE l r (4 * j + i) = nuw l (4 * j + i) := by
    intro i hi
    unfold nuE
    rw [if_pos (by omega)]
  rw [← nuw_wel l j]
  show some [Value.int .u64 (nuE l r (4 * j)), .int .u64 (nuE l r (4 * j + 1)), .int .u64 (nuE l r (4 * j + 2)), .int .u64 (nuE l r (4 * j + 3))] = some [Value.int .u64 (nuw l (4 * j)), .int .u64 (nuw l (4 * j + 1)), .int .u64 (nuw l (4 * j + 2)), .int .u64 (nuw l (4 * j + 3))]
  rw [show nuE l r (4 * j) = nuE l r (4 * j + 0) from rfl, h 0 (by decide), h 1 (by decide), h 2 (by decide), h 3 (by decide)]
  rfl
theorem nuER (l : List Nat) (r j : Nat) (hj : j < 200) : conc2 (nuE l r) (rw4 j) = some (num (l.getD j 0)) := by
  have h := nuE_wel l r j hj
  show (concL (nuE l r) (wel j)).map (fun vs => Value.agg vs.toArray) = _
  have e : concL (nuE l r) (wel j) = concT (nuE l r) (wel j) := rfl
  rw [e, h]
  rfl
def rB : List AV := (List.range 32).map fun i => bt (1000 + i)
theorem nuE_b (l : List Nat) (r : Nat) : concT (nuE l r) rB = some (celV r) := by kernel_rfl
theorem nuE_bv (l : List Nat) (r : Nat) : conc (nuE l r) (.ag rB) = some (byt r) := by kernel_rfl
theorem nuE_bv2 (l : List Nat) (r : Nat) : conc2 (nuE l r) (.ag rB) = some (byt r) := by kernel_rfl

theorem rgetG : (heapL rlnowG.H rlnowG.n).get 66 = some (b32 rB) := by kernel_rfl
theorem rG_named {w0 : World} {l : List Nat} {r : Nat} {act : Act} {w : World} (h : Holds 117 w0 (nuE l r) rlnowG act w) : Holds 117 w0 (nuE [] r) rlnowG act w := by
  refine Holds.renumS (e := rlnowG.e) (H := rlnowG.H) (n := rlnowG.n) h (by decide) (fun p hp => ?_) fun p hp => ?_
  · rcases List.mem_cons.1 hp with rfl | hp
    · exact .inr ⟨66, 0, rfl, by decide, List.mem_cons_self⟩
    · cases hp
  · rcases List.mem_cons.1 hp with rfl | hp
    · exact ⟨by decide, by decide, b32 rB, celV r, rgetG, rfl, rfl, blk32_map _, nuE_b l r, nuE_b [] r⟩
    · cases hp

theorem lad_endR {k u x2 z2 x3 z3 : Nat} (hs : (⟨em x2, em z2, em x3, em z3⟩ : L4) = flad (em u) k 255) : x2 * (z2 ^ expInv % prime) % prime = (lad k (em u)).val := lad_end hs

theorem r_row1 {l : List Nat} {x z q r : Nat} (h : l.getD 3 0 = z) (h6 : l.getD 6 0 = q) (m2 : z < B4) (hq : z ^ expInv % prime = q) : (⟨23, [rw4 3], rw4 6⟩ : Row).Ok (nuE l r) Try.prog := by
  have _ := x
  have h1 := nuER l r 3 (by decide)
  have h2 := nuER l r 6 (by decide)
  rw [h] at h1
  rw [h6, ← hq] at h2
  exact ⟨[num z], _, by simp [concT, h1], h2, rInv_ok z m2⟩
theorem r_row2 {l : List Nat} {x q r : Nat} (h : l.getD 2 0 = x) (h6 : l.getD 6 0 = q) (h7 : l.getD 7 0 = r) (l2 : x < B4) (lq : q < B4) (hr : x * q % prime = r) : (⟨22, [rw4 2, rw4 6], rw4 7⟩ : Row).Ok (nuE l r) Try.prog := by
  have h1 := nuER l r 2 (by decide)
  have h2 := nuER l r 6 (by decide)
  have h3 := nuER l r 7 (by decide)
  rw [h] at h1
  rw [h6] at h2
  rw [h7, ← hr] at h3
  exact rowMulP l2 lq h1 h2 h3
theorem r_row3 {l : List Nat} {r : Nat} (h7 : l.getD 7 0 = r) : (⟨14, [rw4 7], .ag rB⟩ : Row).Ok (nuE l r) Try.prog := by
  have h3 := nuER l r 7 (by decide)
  rw [h7] at h3
  exact ⟨[num r], byt r, by simp [concT, h3], nuE_bv l r, Bytes_ok r⟩

theorem nuS_k (k p kk pm u : Nat) : conc2 (nuS k p kk pm u) (rw8 0) = some (byt k) := by kernel_rfl
theorem nuS_kk (k p kk pm u : Nat) : conc (nuS k p kk pm u) (rw4 16) = some (num kk) := by kernel_rfl
theorem nuS_pm (k p kk pm u : Nat) : conc (nuS k p kk pm u) (rw4 17) = some (num pm) := by kernel_rfl
theorem nuS_pm2 (k p kk pm u : Nat) : conc2 (nuS k p kk pm u) (rw4 17) = some (num pm) := by kernel_rfl
theorem nuS_u (k p kk pm u : Nat) : conc (nuS k p kk pm u) (rw4 18) = some (num u) := by kernel_rfl
theorem nuS_w16 (k p kk pm u : Nat) : concT (nuS k p kk pm u) (wel 16) = some (welV kk) := by kernel_rfl
theorem nuS_w18 (k p kk pm u : Nat) : concT (nuS k p kk pm u) (wel 18) = some (welV u) := by kernel_rfl
theorem w4c_v (ν : Nat → Int) : concT ν (w4c 1) = some (welV 1) ∧ concT ν (w4c 0) = some (welV 0) := ⟨by kernel_rfl, by kernel_rfl⟩
theorem nuS_p (k p kk pm u : Nat) : ∀ i, i < 32 → nuS k p kk pm u (32 + i) = (((byL p).getD i 0 : Nat) : Int) := by
  intro i hi
  unfold nuS nu
  rw [List.getD_eq_getElem?_getD, List.getD_eq_getElem?_getD, List.getElem?_append_right (by rw [byL_len]; omega), byL_len, show 32 + i - 32 = i by omega, List.getElem?_append_left (by rw [byL_len]; exact hi)]
theorem rlgetF : (heapL rlH0 73).get 66 = some (b32 z32) ∧ (heapL rlH0 73).get 67 = some (bN (wel 16)) ∧ (heapL rlH0 73).get 68 = some (bN (wel 18)) ∧ (heapL rlH0 73).get 69 = some (bN (w4c 1)) ∧ (heapL rlH0 73).get 70 = some (bN (w4c 0)) ∧ (heapL rlH0 73).get 71 = some (bN (wel 18)) ∧ (heapL rlH0 73).get 72 = some (bN (w4c 1)) := ⟨by kernel_rfl, by kernel_rfl, by kernel_rfl, by kernel_rfl, by kernel_rfl, by kernel_rfl, by kernel_rfl⟩

theorem rF_named {w0 : World} {k p pm kk u : Nat} {ν' : Nat → Int} {act : Act} {w : World} (h : Holds 117 w0 (nuS k p kk pm u) rlnowF act w) (d0 : concT ν' (wel 0) = some (welV kk)) (d1 : concT ν' (wel 1) = some (welV u)) (d2 : concT ν' (wel 2) = some (welV 1)) (d3 : concT ν' (wel 3) = some (welV 0)) (d4 : concT ν' (wel 4) = some (welV u)) (d5 : concT ν' (wel 5) = some (welV 1)) : Holds 117 w0 ν' (rlN 254) act w := by
  obtain ⟨g0, g1, g2, g3, g4, g5, g6⟩ := rlgetF
  refine Holds.renumS (e := rlnowF.e) (H := rlnowF.H) (n := rlnowF.n) h (by decide) (fun p hp => ?_) fun p hp => ?_
  · simp only [rlE0, List.mem_cons, List.not_mem_nil, or_false] at hp
    rcases hp with rfl | rfl | rfl | rfl | rfl | rfl | rfl | rfl
    · exact .inl ⟨.i .i64 (.c 254), .int .i64 254, by simp [rlnowF], rfl, rfl⟩
    · exact .inr ⟨66, 0, rfl, by decide, by simp [rlnowF, rlE0]⟩
    · exact .inr ⟨67, 0, rfl, by decide, by simp [rlnowF, rlE0]⟩
    · exact .inr ⟨68, 0, rfl, by decide, by simp [rlnowF, rlE0]⟩
    · exact .inr ⟨69, 0, rfl, by decide, by simp [rlnowF, rlE0]⟩
    · exact .inr ⟨70, 0, rfl, by decide, by simp [rlnowF, rlE0]⟩
    · exact .inr ⟨71, 0, rfl, by decide, by simp [rlnowF, rlE0]⟩
    · exact .inr ⟨72, 0, rfl, by decide, by simp [rlnowF, rlE0]⟩
  · simp only [rlH, List.mem_cons, List.not_mem_nil, or_false] at hp
    rcases hp with rfl | rfl | rfl | rfl | rfl | rfl | rfl
    · exact ⟨by decide, by decide, _, List.replicate 32 (u8 0), g0, rfl, rfl, blk32_map _, rfl, rfl⟩
    · exact ⟨by decide, by decide, _, _, g1, rfl, rfl, blkN_map' _, nuS_w16 _ _ _ _ _, d0⟩
    · exact ⟨by decide, by decide, _, _, g2, rfl, rfl, blkN_map' _, nuS_w18 _ _ _ _ _, d1⟩
    · exact ⟨by decide, by decide, _, _, g3, rfl, rfl, blkN_map' _, (w4c_v _).1, d2⟩
    · exact ⟨by decide, by decide, _, _, g4, rfl, rfl, blkN_map' _, (w4c_v _).2, d3⟩
    · exact ⟨by decide, by decide, _, _, g5, rfl, rfl, blkN_map' _, nuS_w18 _ _ _ _ _, d4⟩
    · exact ⟨by decide, by decide, _, _, g6, rfl, rfl, blkN_map' _, (w4c_v _).1, d5⟩

theorem rG_to {w0 : World} {ν : Nat → Int} {k u x2 z2 x3 z3 q r : Nat} {act : Act} {w : World} (h : ∀ l, Holds 117 w0 (nuw (k :: u :: x2 :: z2 :: x3 :: z3 :: l)) (rlN (-1)) act w) (hν : ν = nuE [k, u, x2, z2, x3, z3, q, r] r) : Holds 117 w0 ν (rlN (-1)) act w := by
  subst hν
  obtain ⟨q0, q1, q2, q3, q4, q5, q6⟩ := rlget (wel 2) (wel 3) (wel 4) (wel 5)
  exact rl_named (h []) q0 q1 q2 q3 q4 q5 q6 (nuw_wel _ 0) (nuw_wel _ 1) (nuw_wel _ 2) (nuw_wel _ 3) (nuw_wel _ 4) (nuw_wel _ 5) (nuE_wel _ _ 0 (by decide)) (nuE_wel _ _ 1 (by decide)) (nuE_wel _ _ 2 (by decide)) (nuE_wel _ _ 3 (by decide)) (nuE_wel _ _ 4 (by decide)) (nuE_wel _ _ 5 (by decide))

theorem r_start (k p : Nat) : ∀ r ∈ rSB, r.Ok (nuS k p (kmask k) (pmask p) (pmask p % prime)) Try.prog := by
  intro r hr
  simp only [rSB, List.mem_cons, List.not_mem_nil, or_false] at hr
  subst hr
  exact ⟨[byt k], num (kmask k), by simp [concT, nuS_k], nuS_kk _ _ _ _ _, Key_ok k⟩
theorem r_start2 (k p : Nat) : ∀ r ∈ rSD, r.Ok (nuS k p (kmask k) (pmask p) (pmask p % prime)) Try.prog := by
  intro r hr
  simp only [rSD, List.mem_cons, List.not_mem_nil, or_false] at hr
  rcases hr with rfl | rfl
  · exact rowOf (plB_val _ 32 _ (pl_conc (nuS_p k p _ _ _))) (nuS_pm _ _ _ _ _)
  · exact rowModR (pmask_lt p) (nuS_pm2 _ _ _ _ _) (nuS_u _ _ _ _ _)

theorem r_rows3 {k u x2 z2 q r : Nat} {x3 z3 : Nat} (l2 : x2 < B4) (m2 : z2 < B4) (lq : q < B4) (hq : z2 ^ expInv % prime = q) (hr : x2 * q % prime = r) : ∀ y ∈ rET, y.Ok (nuE [k, u, x2, z2, x3, z3, q, r] r) Try.prog := by
  intro y hy
  simp only [rET, List.mem_cons, List.not_mem_nil, or_false] at hy
  rcases hy with rfl | rfl | rfl
  · exact r_row1 (x := 0) (z := z2) (q := q) rfl rfl m2 hq
  · exact r_row2 (x := x2) (q := q) rfl rfl rfl l2 lq hr
  · exact r_row3 rfl

theorem ladder_run (k p : Nat) (w0 : World) : Tri Try.prog 117 (.seq rlA (.seq rlB (.seq rlC (.seq rlD (.seq rlE (.seq (.seq rlF (.block 0 (.loop rlBody))) rlG)))))) (Holds 117 w0 (nuS k p (kmask k) (pmask p) (pmask p % prime)) rlnow0) fun ex act w => (ex = .normal ∨ ex = .ret) ∧ Holds 117 w0 (nuE [] (lad (kmask k) (em (pmask p))).val) rlnowG act w := by
  refine Tri.seq (Tri.run (noFacts_hold _) mixed tab_ok (fun r hr => by cases hr) rlgoA) ?_ (fun ex a w hne h => (hne h.1).elim)
  refine Tri.weak (Pre := Holds 117 w0 (nuS k p (kmask k) (pmask p) (pmask p % prime)) rlnowA) ?_ (fun _ _ h => h.2) (fun _ _ _ h => h)
  refine Tri.seq (Tri.run (noFacts_hold _) mixed tab_ok (r_start k p) rlgoB) ?_ (fun ex a w hne h => (hne h.1).elim)
  refine Tri.weak (Pre := Holds 117 w0 (nuS k p (kmask k) (pmask p) (pmask p % prime)) rlnowB) ?_ (fun _ _ h => h.2) (fun _ _ _ h => h)
  refine Tri.seq (Tri.run (noFacts_hold _) mixed tab_ok (fun r hr => by cases hr) rlgoC) ?_ (fun ex a w hne h => (hne h.1).elim)
  refine Tri.weak (Pre := Holds 117 w0 (nuS k p (kmask k) (pmask p) (pmask p % prime)) rlnowC) ?_ (fun _ _ h => h.2) (fun _ _ _ h => h)
  refine Tri.seq (Tri.run (noFacts_hold _) mixed tab_ok (r_start2 k p) rlgoD) ?_ (fun ex a w hne h => (hne h.1).elim)
  refine Tri.weak (Pre := Holds 117 w0 (nuS k p (kmask k) (pmask p) (pmask p % prime)) rlnowD) ?_ (fun _ _ h => h.2) (fun _ _ _ h => h)
  refine Tri.seq (Tri.run (noFacts_hold _) mixed tab_ok (fun r hr => by cases hr) rlgoE) ?_ (fun ex a w hne h => (hne h.1).elim)
  refine Tri.weak (Pre := Holds 117 w0 (nuS k p (kmask k) (pmask p) (pmask p % prime)) rlnowE') ?_ (fun _ _ h => h.2) (fun _ _ _ h => h)
  have hu : pmask p % prime < B4 := prime_lt _
  have heq : lad (kmask k) (em (pmask p)) = lad (kmask k) (em (pmask p % prime)) := by rw [em_mod]
  rw [heq]
  generalize pmask p % prime = u at *
  generalize pmask p = pm at *
  generalize kmask k = kk at *
  refine Tri.seq (Mid := fun ex act w => ex = .normal ∧ rlJ w0 kk u 0 act w) ?_ ?_ (fun ex a w hne h => (hne h.1).elim)
  · refine Tri.seq (Tri.run (noFacts_hold _) mixed tab_ok (fun r hr => by cases hr) rlgoF) ?_ (fun ex a w hne h => (hne h.1).elim)
    refine Tri.weak (Pre := rlJ w0 kk u 255) ?_ (fun act w h => ?_) (fun _ _ _ h => h)
    · refine Tri.block (rl_loop w0 kk u hu) (fun a w h => by cases h.1) (fun act w h => ⟨rfl, h.2⟩) (fun j a w hj h => ?_) (fun a w h => by cases h.1)
      have := h.1
      simp only [Ex.exit.injEq] at this
      exact (hj this).elim
    · refine ⟨Nat.le_refl _, 1, 0, u, 1, by decide, by decide, hu, by decide, lad_begin kk u, fun l => ?_⟩
      exact rF_named h.2 (nuw_wel _ 0) (nuw_wel _ 1) (nuw_wel _ 2) (nuw_wel _ 3) (nuw_wel _ 4) (nuw_wel _ 5)
  · intro c hc act w ⟨_, hi, x2, z2, x3, z3, l2, m2, l3, m3, hs, hH⟩
    have rows := r_rows3 (k := kk) (u := u) (x3 := x3) (z3 := z3) l2 m2 (prime_lt _) rfl (lad_endR hs)
    exact ((Tri.run (noFacts_hold _) mixed tab_ok rows rlgoG).weak (fun _ _ h => h) (fun ex act w h => ⟨.inr h.1, rG_named h.2⟩)) c hc act w (rG_to hH rfl)

theorem rl_args : ∀ p ∈ rlnow0.e, ([rw8 0, rw8 1] : List AV)[p.1]? = some p.2 := by
  intro p hp
  simp only [rlnow0, List.mem_cons, List.not_mem_nil, or_false] at hp
  rcases hp with rfl | rfl <;> rfl
theorem rl_ins (k p kk pm u : Nat) : concT (nuS k p kk pm u) [rw8 0, rw8 1] = some [byt k, byt p] := by kernel_rfl
theorem rl_res : resA (trL rlnowG.e) (heapL rlnowG.H rlnowG.n) [.c 4 (some 32)] = some (.ag rB) := by kernel_rfl
theorem rl_tab : tree.get 10 = some t10 := by kernel_rfl

/-- WHAT Ladder ANSWERS. -/
theorem Ladder_ok (k p : Nat) : Pure Try.prog 10 [byt k, byt p] (byt (lad (kmask k) (em (pmask p))).val) := by
  have key := ladder_run k p
  generalize (lad (kmask k) (em (pmask p))).val = r at key ⊢
  exact pure_tri (ν := nuS k p (kmask k) (pmask p) (pmask p % prime)) (ν' := nuE [] r) (args := [rw8 0, rw8 1]) (r := .ag rB) (o := rlnowG) tree tab_ok rl_tab rl_shape (rl_ins k p _ _ _) (by decide) rlnow0.e rl_args key rl_res (nuE_bv [] r)

end Go.Proofs.Ytlalonomdblhdaa

/-
  ShaChains: for all its arguments the law returns true, where the program's variables are laid as the program's text lays them. Conditions: none beside that one (the card ties it to the text).
-/
import Derived.Test.YtjdcaipgfolgoaaDoorXd
namespace Go.Proofs.YtjdcaipgfolgoaaDoor
open Go.Sh
open Go.ChangeShapes Go.WideShapes Go.ChangeAt Go.RowKit
set_option maxRecDepth 100000

/-! Sums of sums. -/
theorem vr_i {ν : Nat → Int} {ρ : Emb} {k : Nat} {x : Int} (h : ν k = x) : VR ν ρ (sI k) (.int .i64 x) := by rw [← h]; exact .i _ _
theorem nm_val {ν : Nat → Int} {b j : Nat} : (nmA b j).val ν = ν (b + j) := rfl
theorem sI_conc {ν : Nat → Int} {k : Nat} {x : Int} (h : ν k = x) : conc ν (sI k) = some (.int .i64 x) := by rw [← h]; rfl
theorem add1_conc {ν : Nat → Int} {k : Nat} {x : Int} (h : ν k = x) : conc ν (.i .i64 (.e .add .i64 (.s k) (nA 1))) = some (.int .i64 (IntKind.i64.wrap (x + ((1 : Nat) : Int)))) := by rw [← h]; rfl
def chX (z : Wd) (n : Nat) : Nat → Wd
  | 0 => sum256 z n
  | i + 1 => sum256 (chX z n i) 32
def chU (z : Wd) (n : Nat) : Nat → Wd
  | 0 => sum256Q z n
  | i + 1 => sum256Q (chU z n i) 64
theorem chX_zero (z : Wd) (n : Nat) : chX z n 0 = sum256 z n := rfl
theorem chU_zero (z : Wd) (n : Nat) : chU z n 0 = sum256Q z n := rfl
theorem chX_succ (z : Wd) (n i : Nat) : chX z n (i + 1) = sum256 (chX z n i) 32 := rfl
theorem chU_succ (z : Wd) (n i : Nat) : chU z n (i + 1) = sum256Q (chU z n i) 64 := rfl
theorem chX_bytes (z : Wd) (n : Nat) : ∀ i, Bytes (chX z n i) 32
  | 0 => sum_bytes _ _ _
  | _ + 1 => sum_bytes _ _ _
theorem chU_bytes (z : Wd) (n : Nat) : ∀ i, Bytes (chU z n i) 64
  | 0 => sum_bytesQ _ _ _
  | _ + 1 => sum_bytesQ _ _ _
def nuC (X U : Wd) (i m : Int) (X' U' : Wd) : Nat → Int := two (two (two X 100 U) 200 fun j => if j = 0 then i else m) 300 (two X' 100 U')
section
variable {X U X' U' : Wd} {i m : Int}
theorem nuC_X {j : Nat} (h : j < 32) : nuC X U i m X' U' j = X j := by
  unfold nuC
  rw [two_lo (by omega), two_lo (by omega), two_lo (by omega)]
theorem nuC_U {j : Nat} (h : j < 64) : nuC X U i m X' U' (100 + j) = U j := by
  unfold nuC
  rw [two_lo (by omega), two_lo (by omega), two_hi]
theorem nuC_X' {j : Nat} (h : j < 32) : nuC X U i m X' U' (300 + j) = X' j := by
  unfold nuC
  rw [two_hi, two_lo (by omega)]
theorem nuC_U' {j : Nat} : nuC X U i m X' U' (400 + j) = U' j := by
  unfold nuC
  rw [show 400 + j = 300 + (100 + j) by omega, two_hi, two_hi]
end
theorem nuC_m {X U X' U' : Wd} {i m : Int} : nuC X U i m X' U' 201 = m := by
  unfold nuC
  rw [two_lo (by decide), show 201 = 200 + 1 by decide, two_hi]
  exact if_neg (by decide)
theorem nuC_i {X U X' U' : Wd} {i m : Int} : nuC X U i m X' U' 200 = i := by
  unfold nuC
  rw [two_lo (by decide), show 200 = 200 + 0 by decide, two_hi]
  exact if_pos rfl
def ch : IC := t7.body
def chA : IC := ch.sub [false]
def chB : IC := ch.sub [true, false]
def chC : IC := ch.sub [true, true, false]
def chD : IC := ch.sub [true, true, true, false]
def chE : IC := ch.sub [true, true, true, true, false, false]
def chR : IC := ch.sub [true, true, true, true, false, true, false, false]
def chF : IC := ch.sub [true, true, true, true, true]
theorem ch_shape : t7 = ⟨.seq chA (.seq chB (.seq chC (.seq chD (.seq (.seq chE (.block 0 (.loop chR))) chF)))), [.t 4], 53⟩ := by kernel_rfl
def bX (b : Nat) (f : Nat → AI) : Nat × ABlk := (b, ⟨rowC .u8 f 32, eO, true⟩)
def bU (b : Nat) (f : Nat → AI) : Nat × ABlk := (b, ⟨rowC .u8 f 64, eB, true⟩)
def ch0 (x : AV) (H : List (Nat × ABlk)) : Now := ⟨[(0, x), (1, sI 201)], H, 65⟩
def ch2 (x : AV) (H : List (Nat × ABlk)) : Now := ⟨[(0, x), (1, sI 201), (5, .p 65 0), (6, .p 66 0)], H ++ [bX 65 (nmA 0), bX 66 (nmA 0)], 67⟩
def chN (l : List (Nat × AV)) (f g : Nat → AI) : Now := ⟨l ++ [(1, sI 201), (5, .p 65 0), (6, .p 66 0), (7, .p 67 0), (8, .p 68 0)], [bX 65 f, bX 66 f, bU 67 g, bU 68 g], 69⟩
def fN (a b c : Bool) : List Cm := [(.lss, .s 201, .c 0, b), (.gtr, .s 201, nA 100, c)]
def fCh : Facts := ⟨[], [(.gtr, lnT, nA 3000, false), (.lss, .s 201, .c 0, false), (.gtr, .s 201, nA 100, false)], []⟩
noncomputable def chStart (x : AV) (H : Gl) : Bool := goesX noFacts tree [] glS [] [] [] 60 4 chA (ch0 x H) .normal (ch0 x H) && goesX fCh tree [] glS [] [] [] 60 4 chB (ch0 x H) .normal (ch0 x H) && goesX noFacts tree [] glS [] (sumRows x H x H) [] 60 4 chC (ch0 x H) .normal (ch2 x H) && goesX noFacts tree [] glS [] (sumRows x H x H) [] 60 4 chD (ch2 x H) .normal (chN [] (nmA 0) (nmA 100)) && goesX noFacts tree [] glS [] [] [] 60 4 chE (chN [] (nmA 0) (nmA 100)) .normal (chN [(9, iN 0)] (nmA 0) (nmA 100))
theorem ch_start0 : chStart .nsl [] = true := by kernel_rfl
theorem ch_start1 : chStart (.sle false) [] = true := by kernel_rfl
theorem ch_start2 : chStart slP0 [txP] = true := by kernel_rfl
def fLt (b : Bool) : Facts := ⟨[], [(.lss, .s 200, .s 201, b)], []⟩
def chRows : List RowM := [rowF 14 (slO 65) [outB 65] (rowC .u8 (nmA 300) 32), rowF 15 (slO 66) [outB 66] (rowC .u8 (nmA 300) 32), rowF 16 (slC 67) [outC 67] (rowC .u8 (nmA 400) 64), rowF 17 (slC 68) [outC 68] (rowC .u8 (nmA 400) 64)]
theorem ch_goR : goesX (fLt true) tree [] glS [] chRows [] 60 4 chR (chN [(9, sI 200)] (nmA 0) (nmA 100)) .normal (chN [(9, .i .i64 (.e .add .i64 (.s 200) (nA 1)))] (nmA 300) (nmA 400)) = true := by kernel_rfl
theorem ch_goRe : goesX (fLt false) tree [] glS [] [] [] 60 4 chR (chN [(9, sI 200)] (nmA 0) (nmA 100)) (.exit 0) (chN [] (nmA 0) (nmA 100)) = true := by kernel_rfl
def chY : Now := ⟨[(4, .b true)], [], 69⟩
theorem ch_goF : goesX noFacts tree [] glS [] (eqRows 65) [] 60 4 chF (chN [] (nmA 0) (nmA 100)) .ret chY = true := by kernel_rfl
theorem ch_res : resA (trL chY.e) (heapL (chY.H ++ glS) chY.n) [.t 4] = some (.b true) := by kernel_rfl
theorem ch_get (f g : Nat → AI) : (heapL ((chN [] f g).H ++ glS) 69).get 65 = some (bX 65 f).2 ∧ (heapL ((chN [] f g).H ++ glS) 69).get 66 = some (bX 66 f).2 ∧ (heapL ((chN [] f g).H ++ glS) 69).get 67 = some (bU 67 g).2 ∧ (heapL ((chN [] f g).H ++ glS) 69).get 68 = some (bU 68 g).2 := ⟨by kernel_rfl, by kernel_rfl, by kernel_rfl, by kernel_rfl⟩
theorem ch_ren {w0 : World} {ν ν' : Nat → Int} {f g f' g' : Nat → AI} {l l' : List (Nat × AV)} {a : Act} {w : World} (h : HoldsX 53 w0 ν glS [] [] [] (chN l f g) a w) (hm : ν 201 = ν' 201) (hf : ∀ j, j < 32 → (f j).val ν = (f' j).val ν') (hg : ∀ j, j < 64 → (g j).val ν = (g' j).val ν')
    (hl : ∀ p ∈ l', ∃ x u, (p.1, x) ∈ l ∧ conc ν x = some u ∧ conc ν' p.2 = some u) : HoldsX 53 w0 ν' glS [] [] [] (chN l' f' g') a w := by
  refine renumX (P := Tryd.prog) glS_ok h (by decide) (fun p hp => by cases hp) (fun p hp => ?_) fun p hp => ?_
  · rcases List.mem_append.1 hp with hp | hp
    · obtain ⟨x, u, q1, q2, q3⟩ := hl p hp
      exact ⟨x, List.mem_append.2 (.inl q1), SlotTo.conc q2 q3⟩
    · simp only [List.mem_cons, List.not_mem_nil, or_false] at hp
      rcases hp with rfl | rfl | rfl | rfl | rfl
      · exact ⟨sI 201, List.mem_append.2 (.inr (by simp)), SlotTo.conc (u := .int .i64 (ν 201)) rfl (by show some (Value.int .i64 (ν' 201)) = _; rw [hm])⟩
      · exact ⟨.p 65 0, List.mem_append.2 (.inr (by simp)), SlotTo.p _ (by decide) rfl⟩
      · exact ⟨.p 66 0, List.mem_append.2 (.inr (by simp)), SlotTo.p _ (by decide) rfl⟩
      · exact ⟨.p 67 0, List.mem_append.2 (.inr (by simp)), SlotTo.p _ (by decide) rfl⟩
      · exact ⟨.p 68 0, List.mem_append.2 (.inr (by simp)), SlotTo.p _ (by decide) rfl⟩
  · obtain ⟨g1, g2, g3, g4⟩ := ch_get f g
    simp only [chN, List.mem_cons, List.not_mem_nil, or_false] at hp
    rcases hp with rfl | rfl | rfl | rfl
    · exact ⟨show gmax ≤ 65 by decide, show 65 < 69 by decide, _, g1, rfl, blkTo_row (by decide) hf⟩
    · exact ⟨show gmax ≤ 66 by decide, show 66 < 69 by decide, _, g2, rfl, blkTo_row (by decide) hf⟩
    · exact ⟨show gmax ≤ 67 by decide, show 67 < 69 by decide, _, g3, rfl, blkTo_row (by decide) hg⟩
    · exact ⟨show gmax ≤ 68 by decide, show 68 < 69 by decide, _, g4, rfl, blkTo_row (by decide) hg⟩
theorem fLt_hold {X U X' U' : Wd} {i m : Int} {b : Bool} (h : decide (i < m) = b) : (fLt b).Hold (nuC X U i m X' U') := by
  refine ⟨fun p hp => (by cases hp), fun p hp => ?_, fun p hp => by cases hp⟩
  simp only [fLt, List.mem_cons, List.not_mem_nil, or_false] at hp
  subst hp
  show decide (nuC X U i m X' U' 200 < nuC X U i m X' U' 201) = b
  rw [nuC_i, nuC_m]
  exact h
theorem chRows_ok {X U : Wd} {i m : Int} (hX : Bytes X 32) (hU : Bytes U 64) : ∀ r ∈ chRows, r.Ok (nuC X U i m (sum256 X 32) (sum256Q U 64)) Tryd.prog glS := by
  have tX : ∀ j, j < 32 → nuC X U i m (sum256 X 32) (sum256Q U 64) j = X j := fun j hj => nuC_X hj
  have tU : ∀ j, j < 64 → nuC X U i m (sum256 X 32) (sum256Q U 64) (100 + j) = U j := fun j hj => nuC_U hj
  intro r hr
  simp only [chRows, List.mem_cons, List.not_mem_nil, or_false] at hr
  rcases hr with rfl | rfl | rfl | rfl
  · exact rowS_ok (outB_textG tX (by simp)) (by decide) fun j hj => nuC_X' hj
  · exact rowR_ok (outB_textG tX (by simp)) hX (by decide) fun j hj => nuC_X' hj
  · exact rowS_okQ (outC_textG tU (by simp)) (by decide) fun j hj => nuC_U'
  · exact rowR_okQ (outC_textG tU (by simp)) hU (by decide) fun j hj => nuC_U'
theorem ch_loop {w0 : World} {z : Wd} {n m : Nat} (hm : m < 1000) : Tri Tryd.prog 53 (.loop chR) (fun a w => ∀ X' U', HoldsX 53 w0 (nuC (chX z n 0) (chU z n 0) ((0 : Nat) : Int) m X' U') glS [] [] [] (chN [(9, sI 200)] (nmA 0) (nmA 100)) a w)
    fun ex a w => ex = .exit 0 ∧ HoldsX 53 w0 (nuC (chX z n m) (chU z n m) (m : Int) m (fun _ => 0) (fun _ => 0)) glS [] [] [] (chN [] (nmA 0) (nmA 100)) a w := by
  have key := Tri.loop (P := Tryd.prog) (N := 53) (x := chR) (J := fun k a w => k ≤ m ∧ ∀ X' U', HoldsX 53 w0 (nuC (chX z n (m - k)) (chU z n (m - k)) ((m - k : Nat) : Int) m X' U') glS [] [] [] (chN [(9, sI 200)] (nmA 0) (nmA 100)) a w)
    (Post := fun ex a w => ex = .exit 0 ∧ HoldsX 53 w0 (nuC (chX z n m) (chU z n m) (m : Int) m (fun _ => 0) (fun _ => 0)) glS [] [] [] (chN [] (nmA 0) (nmA 100)) a w) m ?_ ?_
  · exact key.weak (fun a w h => ⟨Nat.le_refl _, by rw [Nat.sub_self]; exact h⟩) (fun _ _ _ h => h)
  · intro k c hc a w ⟨hk, hp⟩
    have e2 : m - k = m - (k + 1) + 1 := by omega
    have hlt : m - (k + 1) < m := by omega
    generalize m - (k + 1) = i at *
    have hp := hp (sum256 (chX z n i) 32) (sum256Q (chU z n i) 64)
    refine ((Tri.runX (L := []) (fx := []) (kp := []) (w0 := w0) (fLt_hold (decide_eq_true (by omega))) mixed tab_ok glS_ok (fun r hr => by cases hr) (fun r hr => by cases hr) (chRows_ok (chX_bytes z n i) (chU_bytes z n i)) (fun r hr => by cases hr) ch_goR).weak (fun _ _ h => h) (fun ex a w h => ?_)) c hc a w hp
    refine .inl ⟨h.1, by omega, fun X' U' => ?_⟩
    rw [e2]
    refine ch_ren h.2 (nuC_m.trans nuC_m.symm) (fun j hj => ?_) (fun j hj => ?_) fun p hp => ?_
    · rw [nm_val, nm_val, nuC_X' hj, Nat.zero_add, nuC_X hj, chX_succ]
    · rw [nm_val, nm_val, nuC_U', nuC_U hj, chU_succ]
    · simp only [List.mem_cons, List.not_mem_nil, or_false] at hp
      subst hp
      refine ⟨_, .int .i64 ((i + 1 : Nat) : Int), List.mem_cons_self, ?_, sI_conc nuC_i⟩
      refine (add1_conc nuC_i).trans ?_
      rw [i64_small (by omega) (by omega)]
      congr 2
  · intro c hc a w ⟨_, hp⟩
    have hp := hp (fun _ => 0) (fun _ => 0)
    rw [Nat.sub_zero] at hp
    exact ((Tri.runX (L := []) (fx := []) (kp := []) (w0 := w0) (fLt_hold (decide_eq_false (by omega))) mixed tab_ok glS_ok (fun r hr => by cases hr) (fun r hr => by cases hr) (fun r hr => by cases hr) (fun r hr => by cases hr) ch_goRe).weak (fun _ _ h => h) (fun ex a w h => ⟨by rw [h.1]; simp, h⟩)) c hc a w hp
def loC (n : Nat) (z : Wd) (m : Int) : Nat → Int := two (two (sum256 z n) 100 (sum256Q z n)) 200 fun _ => m
section
variable {n : Nat} {z : Wd} {m : Int}
theorem loC_m : nuL (loC n z m) n z 201 = m := by
  rw [nuL_lo (by decide)]
  unfold loC
  rw [show 201 = 200 + 1 by decide, two_hi]
theorem loC_1 {j : Nat} (h : j < 32) : nuL (loC n z m) n z j = sum256 z n j := by
  rw [nuL_lo (by omega)]
  unfold loC
  rw [two_lo (by omega), two_lo (by omega)]
theorem loC_2 {j : Nat} (h : j < 64) : nuL (loC n z m) n z (100 + j) = sum256Q z n j := by
  rw [nuL_lo (by omega)]
  unfold loC
  rw [two_lo (by omega), two_hi]
theorem sumRows_okC {x y : AV} {nx ny : Gl} (hx : IsText (nuL (loC n z m) n z) nx x n z) (hy : IsText (nuL (loC n z m) n z) ny y n z) (hb : Bytes z n) (hn : n < 100000000000) : ∀ r ∈ sumRows x nx y ny, r.Ok (nuL (loC n z m) n z) Tryd.prog glS := by
  intro r hr
  simp only [sumRows, List.mem_cons, List.not_mem_nil, or_false] at hr
  have e1 : ∀ j, j < 32 → (nmA 0 j).val (nuL (loC n z m) n z) = sum256 z n j := fun j hj => by show nuL _ _ _ (0 + j) = _; rw [Nat.zero_add]; exact loC_1 hj
  have e2 : ∀ j, j < 64 → (nmA 100 j).val (nuL (loC n z m) n z) = sum256Q z n j := fun j hj => loC_2 hj
  rcases hr with rfl | rfl | rfl | rfl
  · exact rowS_ok hx hn e1
  · exact rowR_ok hy hb hn e1
  · exact rowS_okQ hx hn e2
  · exact rowR_okQ hy hb hn e2
end
/-- From the text on. -/
theorem ch_call {w : World} {v : Value} {x : AV} {H : Gl} {g : Nat → Option Pl} {n m : Nat} {z : Wd} (hw : Laid glS w) (hgo : chStart x H = true) (hlen : n ≤ 3000) (hm : m ≤ 100) (hb : Bytes z n) (hx : IsText (nuL (loC n z m) n z) H x n z) (hg : ∀ b, 65 ≤ b → g b = none) (hv : VR (nuL (loC n z m) n z) (embF g) x v)
    (hH : ∀ p ∈ H, gmax ≤ p.1 ∧ ∃ pl, g p.1 = some pl ∧ BR (nuL (loC n z m) n z) (embF g) w p.2 pl ∧ p.2.own = false) :
    Calls Tryd.prog 7 #[v, .int .i64 (m : Int)] w fun e w' => e = .returned (.bool true) ∧ Below w.heap.size w w' := by
  have start := holdsX_start (N := 53) (ν := nuL (loC n z m) n z) (L := []) (fx := []) (kp := []) (vs := #[v, .int .i64 (m : Int)]) (e0 := (ch0 x H).e) (H0 := H) (n0 := 65) glS_ok (w := w) hw g (by show 2 ≤ 53; decide) (by decide) hg (fun p hp => by cases hp)
    (fun p hp => by
      simp only [ch0, List.mem_cons, List.not_mem_nil, or_false] at hp
      rcases hp with rfl | rfl
      · exact ⟨_, rfl, hv⟩
      · exact ⟨_, rfl, vr_i loC_m⟩)
    (fun p hp => by
      obtain ⟨q1, pl, q2, q3, q4⟩ := hH p hp
      exact ⟨q1, pl, q2, q3, fun h => by rw [q4] at h; cases h⟩)
    (fun p hp => by cases hp)
  refine ((callsX (L := []) (gl := glS) (Q := fun v w' => v = .bool true ∧ Below w.heap.size w w') tab_ok (by kernel_rfl) ch_shape start ?_ : (∃ fn, Tryd.prog.funcs[7]? = some fn ∧ fn.body.isSome = true ∧ (fn.name == "runtime.NumGoroutine") = false) ∧ Calls Tryd.prog 7 #[v, .int .i64 (m : Int)] w fun e w' => ∃ v, e = .returned v ∧ (v = .bool true ∧ Below w.heap.size w w'))).2.mono fun e w' ⟨v, he, hv, hB⟩ => ⟨by rw [he, hv], hB⟩
  have run : ∀ {ic : IC} {i o : Now} {ex : Ex} {d : Nat} {ν : Nat → Int} {F : Facts} {TM : List RowM}, F.Hold ν → (∀ r ∈ TM, r.Ok ν Tryd.prog glS) → goesX F tree [] glS [] TM [] 60 d ic i ex o = true → Tri Tryd.prog 53 ic (HoldsX 53 w ν glS [] [] [] i) fun ex' a w' => ex' = ex ∧ HoldsX 53 w ν glS [] [] [] o a w' := fun hF hT h =>
    Tri.runX hF mixed tab_ok glS_ok (fun r hr => by cases hr) (fun r hr => by cases hr) hT (fun r hr => by cases hr) h
  have no : ∀ ν, ∀ r ∈ ([] : List RowM), r.Ok ν Tryd.prog glS := fun ν r hr => by cases hr
  have hF : fCh.Hold (nuL (loC n z m) n z) := by
    refine ⟨fun p hp => (by cases hp), fun p hp => ?_, fun p hp => by cases hp⟩
    simp only [fCh, List.mem_cons, List.not_mem_nil, or_false] at hp
    rcases hp with rfl | rfl | rfl
    · show decide (nuL (loC n z m) n z (pinL T0) > ((3000 : Nat) : Int)) = false
      rw [nuL_L0]
      exact decide_eq_false (by omega)
    · show decide (nuL (loC n z m) n z 201 < 0) = false
      rw [loC_m]
      exact decide_eq_false (by omega)
    · show decide (nuL (loC n z m) n z 201 > ((100 : Nat) : Int)) = false
      rw [loC_m]
      exact decide_eq_false (by omega)
  simp only [chStart, Bool.and_eq_true] at hgo
  obtain ⟨⟨⟨⟨g1, g2⟩, g3⟩, g4⟩, g5⟩ := hgo
  have rs := sumRows_okC (m := m) hx hx hb (by omega)
  refine seqN (run (none_f _) (no _) g1) (seqN (run hF (no _) g2) (seqN (run (none_f _) rs g3) (seqN (run (none_f _) rs g4) (seqN (Mid := HoldsX 53 w (nuC (chX z n m) (chU z n m) (m : Int) m (fun _ => 0) (fun _ => 0)) glS [] [] [] (chN [] (nmA 0) (nmA 100))) ?_ ?_))))
  · refine seqN (Mid := fun a w' => ∀ X' U', HoldsX 53 w (nuC (chX z n 0) (chU z n 0) ((0 : Nat) : Int) m X' U') glS [] [] [] (chN [(9, sI 200)] (nmA 0) (nmA 100)) a w') ((run (none_f _) (no _) g5).weak (fun _ _ h => h) fun ex a w' h => ⟨h.1, fun X' U' => ?_⟩) ?_
    · refine ch_ren h.2 (loC_m.trans nuC_m.symm) (fun j hj => ?_) (fun j hj => ?_) fun p hp => ?_
      · rw [nm_val, nm_val, Nat.zero_add, loC_1 hj, nuC_X hj]
        exact congrFun (chX_zero z n).symm j
      · rw [nm_val, nm_val, loC_2 hj, nuC_U hj]
        exact congrFun (chU_zero z n).symm j
      · simp only [List.mem_cons, List.not_mem_nil, or_false] at hp
        subst hp
        exact ⟨iN 0, .int .i64 0, List.mem_cons_self, rfl, sI_conc nuC_i⟩
    · refine Tri.block (ch_loop (by omega)) (fun a w h => by cases h.1) (fun a w h => ⟨rfl, h.2⟩) (fun j a w hj h => ?_) (fun a w h => by cases h.1)
      have := h.1
      simp only [Ex.exit.injEq] at this
      exact (hj this).elim
  · exact (run (none_f _) (eqRows_okG (X := chX z n m) (U := chU z n m) (fun j hj => nuC_X hj) (fun j hj => nuC_U hj) 65) ch_goF).weak (fun _ _ h => h) fun ex a w' h => ⟨.inr h.1, _, chY, .b true, [], [], h.2, ch_res, fun ρ v _ _ _ hB hv => ⟨by cases hv; rfl, ⟨hB.os, hB.tape, hB.output, hB.size, fun k hk => hB.block k hk fun p hp => by cases hp⟩⟩⟩
/-! what is not played -/
def fNo (c : Cm) : Facts := ⟨[], [c], []⟩
theorem ch_no0 : saysB (fO 3000) tree [] glS [] [] [txO] 65 60 4 7 [slO0, sI 1] (.b true) = true := by kernel_rfl
noncomputable def chNo (x : AV) (H : Gl) (l : List Cm) : Bool := saysB ⟨[], l, []⟩ tree [] glS [] [] H 65 60 4 7 [x, sI 1] (.b true)
def cLo : List Cm := [(.lss, .s 1, .c 0, true)]
def cHi : List Cm := [(.lss, .s 1, .c 0, false), (.gtr, .s 1, nA 100, true)]
def cLn : Cm := (.gtr, .s 0, nA 3000, false)
theorem ch_noA : chNo .nsl [] cLo = true := by kernel_rfl
theorem ch_noB : chNo (.sle false) [] cLo = true := by kernel_rfl
theorem ch_noC : chNo slO0 [txO] (cLn :: cLo) = true := by kernel_rfl
theorem ch_noD : chNo .nsl [] cHi = true := by kernel_rfl
theorem ch_noE : chNo (.sle false) [] cHi = true := by kernel_rfl
theorem ch_noF : chNo slO0 [txO] (cLn :: cHi) = true := by kernel_rfl
def nu2 (n : Nat) (m : Int) : Nat → Int := fun k => if k = 0 then (n : Int) else m
theorem over_need2 {w : World} {cb o c n : Nat} {z : Wd} (m : Int) (hle : n ≤ c) (hz : CellsAt w .u8 cb o n z) :
    NeedOk (nu2 n m) (embF (at1 64 ⟨cb, o, 0⟩)) w [txO] ∧ VR (nu2 n m) (embF (at1 64 ⟨cb, o, 0⟩)) slO0 (.slice (some ⟨cb, o, none⟩) n c) := by
  obtain ⟨C, ty, fz, hC, hz⟩ := hz
  refine ⟨fun p hp => ?_, .sl 64 0 _ .any ⟨cb, o, 0⟩ n c (at1_at (by decide)) rfl trivial hle⟩
  simp only [List.mem_cons, List.not_mem_nil, or_false] at hp
  subst hp
  exact ⟨⟨cb, o, 0⟩, at1_at (by decide), ⟨fun _ => ⟨C, ty, fz, hC, fun j c hc => by simp [txO, ABlk.shut] at hc, fun h => by cases h⟩, fun h => by exact absurd h (by decide), fun h => by exact absurd h (by decide)⟩⟩
theorem cm_hold {ν : Nat → Int} {l : List Cm} (h : ∀ p ∈ l, compare p.1 (p.2.1.val ν) (p.2.2.1.val ν) = p.2.2.2) : Facts.Hold ⟨[], l, []⟩ ν := ⟨fun p hp => (by cases hp), h, fun p hp => by cases hp⟩
theorem cLo_at {n : Nat} {m : Int} (h : m < 0) : ∀ p ∈ cLo, compare p.1 (p.2.1.val (nu2 n m)) (p.2.2.1.val (nu2 n m)) = p.2.2.2 := by
  intro p hp
  simp only [cLo, List.mem_cons, List.not_mem_nil, or_false] at hp
  subst hp
  exact decide_eq_true h
theorem cHi_at {n : Nat} {m : Int} (h : 100 < m) : ∀ p ∈ cHi, compare p.1 (p.2.1.val (nu2 n m)) (p.2.2.1.val (nu2 n m)) = p.2.2.2 := by
  intro p hp
  simp only [cHi, List.mem_cons, List.not_mem_nil, or_false] at hp
  rcases hp with rfl | rfl
  · exact decide_eq_false (show ¬ m < 0 by omega)
  · exact decide_eq_true (show m > ((100 : Nat) : Int) by omega)
theorem cLn_at {n : Nat} {m : Int} {l : List Cm} (h : n ≤ 3000) (hl : ∀ p ∈ l, compare p.1 (p.2.1.val (nu2 n m)) (p.2.2.1.val (nu2 n m)) = p.2.2.2) : ∀ p ∈ cLn :: l, compare p.1 (p.2.1.val (nu2 n m)) (p.2.2.1.val (nu2 n m)) = p.2.2.2 := by
  intro p hp
  rcases List.mem_cons.1 hp with rfl | hp
  · exact decide_eq_false (show ¬ ((n : Nat) : Int) > ((3000 : Nat) : Int) by omega)
  · exact hl p hp
theorem in2 {H : Gl} {x : AV} {k : Nat} (h : inB H x = true) : [x, sI k].all (inB H) = true := by
  rw [List.all_cons, h]
  rfl
theorem shaChains_law {W : World} (hL : Laid glS W) {v : Value} {zs : List Int} (hv : ReadsAs W .u8 v zs) (hw : ∀ z ∈ zs, (Lit.int .u8 z).wf = true) (m : Int) (_ : (Lit.int .i64 m).wf = true) :
    Calls Tryd.prog 7 #[v, .int .i64 m] W fun e W' => e = .returned (.bool true) ∧ Below W.heap.size W W' := by
  have bad : ∀ (x : AV) (H : Gl) (ρ : Emb) (n : Nat) (l : List Cm), chNo x H l = true → (∀ p ∈ H, p.1 < 65 ∧ p.2.elem ≠ mapTag ∧ ∃ us, ∀ ν, concL ν p.2.cells = some us) → inB H x = true → NeedOk (nu2 n m) ρ W H → VR (nu2 n m) ρ x v → (∀ p ∈ l, compare p.1 (p.2.1.val (nu2 n m)) (p.2.2.1.val (nu2 n m)) = p.2.2.2) →
      Calls Tryd.prog 7 #[v, .int .i64 m] W fun e W' => e = .returned (.bool true) ∧ Below W.heap.size W W' := fun x H ρ n l hgo hH hin hnd hx hl =>
    yes_of (law_row (cm_hold hl) (fun r hr => by cases hr) hgo hH (in2 hin)) hL hnd (lr_of (vs := [v, .int .i64 m]) ⟨hx, .i .i64 (.s 1), trivial⟩)
  rcases hv with ⟨rfl, _⟩ | ⟨a, c, rfl, _⟩ | ⟨b, o, n, c, rfl, hc, hn, h0, hcell⟩
  · by_cases h1 : m < 0
    · exact bad .nsl [] (embF fun _ => none) 0 cLo ch_noA (fun p hp => by cases hp) rfl (fun p hp => by cases hp) .nsl (cLo_at h1)
    by_cases h2 : 100 < m
    · exact bad .nsl [] (embF fun _ => none) 0 cHi ch_noD (fun p hp => by cases hp) rfl (fun p hp => by cases hp) .nsl (cHi_at h2)
    obtain ⟨k, rfl⟩ : ∃ k : Nat, m = (k : Int) := ⟨m.toNat, by omega⟩
    exact ch_call (n := 0) (z := fun _ => 0) hL ch_start0 (by decide) (by omega) (fun j hj => by omega) isText_nsl (fun _ _ => rfl) (g := fun _ => none) .nsl (fun p hp => by cases hp)
  · by_cases h1 : m < 0
    · exact bad (.sle false) [] (embF fun _ => none) 0 cLo ch_noB (fun p hp => by cases hp) rfl (fun p hp => by cases hp) (.sle _ _ _ (fun h => by cases h)) (cLo_at h1)
    by_cases h2 : 100 < m
    · exact bad (.sle false) [] (embF fun _ => none) 0 cHi ch_noE (fun p hp => by cases hp) rfl (fun p hp => by cases hp) (.sle _ _ _ (fun h => by cases h)) (cHi_at h2)
    obtain ⟨k, rfl⟩ : ∃ k : Nat, m = (k : Int) := ⟨m.toNat, by omega⟩
    exact ch_call (n := 0) (z := fun _ => 0) hL ch_start1 (by decide) (by omega) (fun j hj => by omega) isText_sle (fun _ _ => rfl) (g := fun _ => none) (.sle _ _ _ (fun h => by cases h)) (fun p hp => by cases hp)
  · have hz : CellsAt W .u8 b o n fun i => zs.getD i 0 := cellsAt_of h0 hcell
    have hb := bytes_of hw n
    by_cases hm : 3000 < n
    · obtain ⟨nd, sl⟩ := over_need2 m hc hz
      exact yes_of (law_row (F := fO 3000) ⟨fun p hp => (by cases hp), fun p hp => by
        simp only [fO, List.mem_cons, List.not_mem_nil, or_false] at hp
        subst hp
        exact decide_eq_true (show ((n : Nat) : Int) > ((3000 : Nat) : Int) by omega), fun p hp => by cases hp⟩ (fun r hr => by cases hr) ch_no0 need_txO (by kernel_rfl)) hL nd (lr_of (vs := [_, .int .i64 m]) ⟨sl, .i .i64 (.s 1), trivial⟩)
    by_cases h1 : m < 0
    · obtain ⟨nd, sl⟩ := over_need2 m hc hz
      exact bad slO0 [txO] _ n _ ch_noC need_txO (by kernel_rfl) nd sl (cLn_at (by omega) (cLo_at h1))
    by_cases h2 : 100 < m
    · obtain ⟨nd, sl⟩ := over_need2 m hc hz
      exact bad slO0 [txO] _ n _ ch_noF need_txO (by kernel_rfl) nd sl (cLn_at (by omega) (cHi_at h2))
    obtain ⟨k, rfl⟩ : ∃ k : Nat, m = (k : Int) := ⟨m.toNat, by omega⟩
    obtain ⟨nd, sl⟩ := text_need (ν := nuL (loC n (fun i => zs.getD i 0) k) n fun i => zs.getD i 0) nuL_L0 (fun j hj => nuL_B0 (by omega)) hc hz
    refine ch_call (g := at1 64 ⟨b, o, 0⟩) hL ch_start2 (by omega) (by omega) hb (tx0_text List.mem_cons_self h0 (by omega)) (fun b hb => at1_none (by omega)) sl fun p hp => ?_
    obtain ⟨pl, q1, q2⟩ := nd p hp
    simp only [List.mem_cons, List.not_mem_nil, or_false] at hp
    subst hp
    have q3 : embF (at1 64 ⟨b, o, 0⟩) 64 = some pl := q1
    rw [at1_at (by decide)] at q3
    cases q3
    exact ⟨by decide, _, if_pos rfl, q2, rfl⟩

abbrev shaChainsLaid : List (String × DataW Unit) := Rows.shaChainsRow.laid
theorem shaChains_met (os : Os) (args : Array Value) : laidMetH Tryd.prog shaChainsLaid ((World.doorLaid Tryd.prog 400 os).forCall (fun _ _ => 0) ⟨#[], args, []⟩).memory :=
  laidMetH_of_parts3 (fuel := 8) (laidMet_of_run' 8 (by kernel_rfl) (by kernel_rfl)) (by kernel_rfl) (by kernel_rfl)

theorem shaChains_lifted (os : Os) (started : os.Started) (H : Type) (enc : TypeId × Value → H) :
    ReturnsInHanded {} Tryd.checked os 7 .any (fun w args => (Rows.shaChainsSpec.pre enc Tryd.prog Tryd.f7 [] false w args ∧ laidMetH Tryd.prog shaChainsLaid w) ∧ sizedMet enc Tryd.prog Tryd.f7 (OpenSpec.ofChange Rows.shaChainsSpec) false w args)
      (Rows.shaChainsSpec.post enc Tryd.prog Tryd.f7 false true false false) := by
  refine returnsInHanded_of_change_and (C := Tryd.checked) (X := fun w _ => laidMetH Tryd.prog shaChainsLaid w) (fun _ _ _ hh h => h.of_heap hh) own started (by kernel_rfl) Tryd.func7
    (ChangeSpec.witness_shaped (enc := enc) (C := Tryd.checked) (os := os) (X := fun w _ => laidMetH Tryd.prog shaChainsLaid w) false (World.doorLaid Tryd.prog 400 os) #[.slice none 0 0, .int .i64 0] 8 rfl (World.shaped_of_RefB (by kernel_rfl) (by kernel_rfl)) (by kernel_rfl) (by kernel_rfl) (by kernel_rfl) (shaChains_met os _)) ?_
  intro W base args ds gs before hval0 hW _ _ hL _
  have hval : ∀ (j : Nat) t v, Tryd.f7.params[j]? = some t → args[j]? = some v → Value.okWide Tryd.prog W .any base t v := hval0
  have hW' := hW
  obtain ⟨p, q, hA0, hV, rfl, hfz, hnd⟩ := hW
  have hA : DataW.TrodAll enc Tryd.prog W 0 (fun _ => true) true Tryd.f7.params.toList args.toList ds p := hA0
  rw [Tryd.params7] at hA hval
  obtain ⟨v0, vs0, d0, ds0, p0, q0, hargs, rfl, rfl, h0, r0⟩ := trodAll_cons hA
  obtain ⟨v1, vs1, d1, ds1, p1, q1, rfl, rfl, rfl, h1, r1⟩ := trodAll_cons r0
  obtain ⟨rfl, rfl, rfl⟩ := trodAll_nil r1
  obtain rfl : args = #[v0, v1] := by cases args; simp_all
  obtain ⟨rfl, rfl⟩ := trodVars_none hV
  obtain ⟨z0, k0, w0, _⟩ := reads_open Tryd.underlying22 Tryd.underlying5 cells1 (hval 0 _ v0 rfl rfl) h0
  obtain ⟨a1, rfl, rfl, rfl, b1⟩ := open_int Tryd.underlying3 (hval 1 _ v1 rfl rfl) h1
  have s1 := plain_int (H := H) Tryd.underlying3 b1
  clear hA0 hval0
  simp only [List.append_nil, List.nil_append] at hW'
  have hlt : ∀ x ∈ p0, x.block < W.heap.size := fun x hx => hW'.lt x hx
  refine (shaChains_law (laidS hL) k0 w0 a1 b1).mono fun e W' ⟨he, hg⟩ => ?_
  subst he
  exact ⟨_, rfl, post_below (pa := p0) (pv := []) hW' (fun _ _ _ => trodAll_cons_mk (shut_bool Tryd.underlying4 _) trodAll_mk0) (fun sp hsp => (by have hh := (trodAll_cons_mk (kept_arg laidOut (by kernel_rfl) (of_decide_eq_true (by kernel_rfl)) h0 hg (fun x hx => hlt x (by simp [hx])) (fun x hx => hsp x (by simp [hx]))) (trodAll_cons_mk (s1 _ _ _ _ _) trodAll_mk0)); simp only [List.append_nil] at hh; exact hh)) (fun _ _ => rfl) (by simp)
    hg (ok_one (by kernel_rfl) rfl (okWide_bool_mk Tryd.underlying4 _))⟩

theorem shaChains_over : Rows.ShaChainsSaid :=
  OpenClaim.holds_of_wide 7 Tryd.f7 rfl rfl rfl rfl rfl rfl rfl ⟨rfl, rfl, rfl, rfl, rfl⟩ rfl rfl rfl rfl rfl (by kernel_rfl) Tryd.func7 (by kernel_rfl)
    (of_decide_eq_true (by kernel_rfl)) (by unfold Func.isWrapper; first | (rw [if_pos (by decide +kernel)]; kernel_rfl) | (rw [if_neg (by decide +kernel)]; exact ⟨rfl, rfl⟩))
    (fun os started H enc _ => shaChains_lifted os started H enc)

/-- THE STATEMENT. -/
theorem shaChains_holds : Rows.ShaChainsCardSaid :=
  Claim7.holds_tied_plain_at .later [] [.data, .data, .data, .data] true (true, "eacd4a9b634becba1168d16158cd96469b7c30e91a6ec0f5f91653d0d1963b9e") false
    shaChains_over (fun _ h => by cases h) (by kernel_rfl) (fun _ h => by cases h) shaChains_row_tie rfl ⟨rfl, rfl⟩ (by kernel_rfl) rfl
    (fun f fn hf hfn => by
      obtain rfl : f = 7 := Option.some.inj ((show Tryd.prog.funcNamed "tryst/trystlaw01.ShaChains" = some 7 by kernel_rfl).symm.trans hf) |>.symm
      obtain rfl : fn = Tryd.f7 := (Option.some.inj (Tryd.func7.symm.trans hfn)).symm
      exact ⟨by kernel_rfl, fun j t ht => by
        rw [Tryd.params7] at ht
        have hm : t ∈ [22, 3] := by simpa using Array.mem_of_getElem? ht
        have hall : ([22, 3].all fun u => !Tryd.prog.wantsStandIn u) = true := by kernel_rfl
        exact (show Tryd.prog.wantsStandIn t = false by simpa using List.all_eq_true.1 hall t hm)⟩)
    (by kernel_rfl)
#print axioms shaChains_holds
end Go.Proofs.YtjdcaipgfolgoaaDoor

/-
 sha.Sum512: what it answers, whatever the text. Own work.
-/
import Derived.Test.YtheidgcgdkmmiaaDoorTe
namespace Go.Proofs.YtheidgcgdkmmiaaDoor
open Go.Sh
open Go.ChangeShapes Go.WideShapes Go.RowKit
set_option maxRecDepth 100000
section
variable {w0 : World} {cb o n : Nat} {C : Array Value} {ty : TypeId} {fz : Nat × Nat} {z : Wd}
theorem sget65Q (t : AV) (wd : Nat) (f : Nat → AI) : (qam ((suNQ t wd f []).H ++ qat) 67).get 65 = some reBQ.2 := by kernel_rfl
theorem sget66Q (t : AV) (wd : Nat) (f : Nat → AI) : (qam ((suNQ t wd f []).H ++ qat) 67).get 66 = some (hsBQ f).2 := by kernel_rfl
theorem su_namedQ {ν ν' : Nat → Int} {k k' : AI} {wd wd' i i' : Nat} {f f' : Nat → AI} {l l' : List (Nat × AV)} {a : Act} {w : World} (hz : ∀ j, j < n → C[o + j]? = some (.int .u8 (z j)))
  (h : HoldsX 46 w0 ν qat [] [(64, ⟨cb, o + i, 0⟩)] [(cb, .cells C ty fz)] (suNQ (slTQ k wd) wd f l) a w) (hk : k.val ν = (i : Int)) (hk' : k'.val ν' = (i' : Int)) (hn : ν 201 = (n : Int)) (hn' : ν' 201 = (n : Int)) (hw : i' + wd' ≤ n)
  (hf : ∀ j, j < 8 → (f j).val ν = (f' j).val ν') (hwin : ∀ j, j < wd' → ν' (64 + j) = z (i' + j)) (hl : ∀ p ∈ l', ∃ x u, (p.1, x) ∈ l ∧ conc ν x = some u ∧ conc ν' p.2 = some u) :
  HoldsX 46 w0 ν' qat [] [(64, ⟨cb, o + i', 0⟩)] [(cb, .cells C ty fz)] (suNQ (slTQ k' wd') wd' f' l') a w := by
 have hkept := h.kept (cb, .cells C ty fz) List.mem_cons_self
 refine HoldsX.rename qa6 h (fun b => if b = 64 then some ⟨cb, o + i', 0⟩ else none) (by decide) (fun _ hp => hp) (fun b pl hv => ?_) (fun p hp => ?_) (fun p hp => ?_) fun p hp => ?_
 ·by_cases hb : b = 64
  ·subst hb; exact ⟨by decide, by decide⟩
  ·rw [if_neg hb] at hv; cases hv
 ·simp only [List.mem_cons, List.not_mem_nil, or_false] at hp
  subst hp
  exact .inl rfl
 ·rcases List.mem_append.1 hp with hp | hp
  ·obtain ⟨x, u, q1, q2, q3⟩ := hl p hp
   exact ⟨x, List.mem_append.2 (.inl q1), qaT.conc q2 q3⟩
  ·simp only [List.mem_cons, List.not_mem_nil, or_false] at hp
   rcases hp with rfl | rfl | rfl
   ·exact ⟨slTQ k wd, List.mem_append.2 (.inr (by simp)), qaT.slw (pl := ⟨cb, o + i, 0⟩) (pl' := ⟨cb, o + i', 0⟩) (i := i) (i' := i') (m := n) List.mem_cons_self rfl rfl rfl hk hk' (by show o + i' + i * 1 = o + i + i' * 1; omega) hn hn' hw⟩
   ·exact ⟨.p 65 0, List.mem_append.2 (.inr (by simp)), qaT.p _ (by decide) rfl⟩
   ·exact ⟨.p 66 0, List.mem_append.2 (.inr (by simp)), qaT.p _ (by decide) rfl⟩
 ·simp only [List.mem_cons, List.not_mem_nil, or_false] at hp
  rcases hp with rfl | rfl | rfl
  ·refine ⟨show gmax ≤ 64 by decide, show 64 < 67 by decide, .inl ⟨_, rfl, rfl, ⟨_, List.mem_cons_self⟩, fun ρ' => ?_⟩⟩
   have hc : qaZ w .u8 cb (o + i') wd' (fun j => z (i' + j)) := ⟨C, ty, fz, hkept, fun j hj => by rw [Nat.add_assoc]; exact hz _ (by omega)⟩
   exact hc.br (by decide) fun j hj => hwin j hj
  ·exact ⟨by decide, by decide, .inr ⟨rfl, _, sget65Q (slTQ k wd) wd f, rfl, qaS (by decide) fun j _ => rfl⟩⟩
  ·exact ⟨show gmax ≤ 66 by decide, show 66 < 67 by decide, .inr ⟨rfl, _, sget66Q (slTQ k wd) wd f, rfl, qaS (by decide) hf⟩⟩
def wdSQ (r i : Nat) : Nat := if i = 0 then r else 128
theorem fL_holdQ {h win h1 h2 : Wd} {a m wh : Int} {b : Bool} (hb : decide (a < wh) = b) : (fLQ b).Hold (nuSQ h win a m wh h1 h2) := by
 refine ⟨fun p hp => (by cases hp), fun p hp => ?_, fun p hp => by cases hp⟩
 simp only [fLQ, List.mem_cons, List.not_mem_nil, or_false] at hp
 subst hp
 exact hb
theorem su_loopQ (hz : ∀ j, j < n → C[o + j]? = some (.int .u8 (z j))) (hn : n < 1099511627776) {q r : Nat} (hq : n = 128 * q + r) (hr : r < 128) (h1 h2 : Wd) :
  Tri Tryd.prog 46 (.loop suRQ) (fun a w => HoldsX 46 w0 (nuSQ (qaR (qaq z n) 0) (fun j => z (0 + j)) 0 n ((128 * q : Nat) : Int) h1 h2) qat [] [(64, ⟨cb, o + 0, 0⟩)] [(cb, .cells C ty fz)] (suNQ (slTQ (.s 200) (wdSQ r q)) (wdSQ r q) (nmA 0) [(4, sI 202), (5, sI 200)]) a w)
   fun ex a w => ex = .exit 0 ∧ HoldsX 46 w0 (nuSQ (qaR (qaq z n) q) (fun j => z (128 * q + j)) ((128 * q : Nat) : Int) n ((128 * q : Nat) : Int) h1 h2) qat [] [(64, ⟨cb, o + 128 * q, 0⟩)] [(cb, .cells C ty fz)] (suNQ (slTQ (.s 200) r) r (nmA 0) [(4, sI 202)]) a w := by
 have key := Tri.loop (P := Tryd.prog) (N := 46) (x := suRQ)
  (J := fun i a w => i ≤ q ∧ ∀ h1 h2, HoldsX 46 w0 (nuSQ (qaR (qaq z n) (q - i)) (fun j => z (128 * (q - i) + j)) ((128 * (q - i) : Nat) : Int) n ((128 * q : Nat) : Int) h1 h2) qat [] [(64, ⟨cb, o + 128 * (q - i), 0⟩)] [(cb, .cells C ty fz)] (suNQ (slTQ (.s 200) (wdSQ r i)) (wdSQ r i) (nmA 0) [(4, sI 202), (5, sI 200)]) a w)
  (Post := fun ex a w => ex = .exit 0 ∧ HoldsX 46 w0 (nuSQ (qaR (qaq z n) q) (fun j => z (128 * q + j)) ((128 * q : Nat) : Int) n ((128 * q : Nat) : Int) h1 h2) qat [] [(64, ⟨cb, o + 128 * q, 0⟩)] [(cb, .cells C ty fz)] (suNQ (slTQ (.s 200) r) r (nmA 0) [(4, sI 202)]) a w) q ?_ ?_
 ·refine key.weak (fun a w h => ⟨Nat.le_refl _, fun g1 g2 => ?_⟩) (fun _ _ _ h => h)
  rw [Nat.sub_self, Nat.mul_zero]
  have hwd : 0 + wdSQ r q ≤ n := by unfold wdSQ; split <;> omega
  exact su_namedQ hz h rfl rfl rfl rfl hwd (fun j hj => by simp only [nmA, Nat.zero_add, AI.val]; rw [nuS_hQ hj, nuS_hQ hj]) (fun j hj => nuS_wQ (by unfold wdSQ at hj; split at hj <;> omega)) fun p hp => ⟨p.2, by
   simp only [List.mem_cons, List.not_mem_nil, or_false] at hp
   rcases hp with rfl | rfl
   ·exact ⟨_, by simp, rfl, rfl⟩
   ·exact ⟨_, by simp, rfl, rfl⟩⟩
 ·intro i c hc a w ⟨hi, hp⟩
  have hp := hp (qbH (fun j => z (128 * (q - (i + 1)) + j)) (qaR (qaq z n) (q - (i + 1)))) h2
  have e1 : wdSQ r (i + 1) = 128 := if_neg (by omega)
  rw [e1] at hp
  have e2 : q - i = q - (i + 1) + 1 := by omega
  generalize hk : q - (i + 1) = k at hp
  rw [hk] at e2
  have hkq : k < q := by omega
  refine ((Tri.runX (L := []) (w0 := w0) (fL_holdQ (decide_eq_true (by omega))) qak qaf qa6 (fun r hr => by cases hr) (fun r hr => by cases hr) (fun r hr => by cases hr) (fun rr hrr => ?_) su_roundQ).weak (fun _ _ h => h) (fun ex a w h => ?_)) c hc a w hp
  ·simp only [List.mem_cons, List.not_mem_nil, or_false] at hrr
   subst hrr
   refine rowU_turnQ (by decide) fun j hj => ?_
   have ea : (fun j => (nmA 0 j).val (nuSQ (qaR (qaq z n) k) (fun j => z (128 * k + j)) ((128 * k : Nat) : Int) n ((128 * q : Nat) : Int) (qbH (fun j => z (128 * k + j)) (qaR (qaq z n) k)) h2)) = (fun j => nuSQ (qaR (qaq z n) k) (fun j => z (128 * k + j)) ((128 * k : Nat) : Int) n ((128 * q : Nat) : Int) (qbH (fun j => z (128 * k + j)) (qaR (qaq z n) k)) h2 j) := funext fun j => by simp only [nmA, Nat.zero_add, AI.val]
   refine (nuS_1Q hj).trans ?_
   rw [ea]
   have eb := cp512_congrQ (h := fun j => nuSQ (qaR (qaq z n) k) (fun j => z (128 * k + j)) ((128 * k : Nat) : Int) n ((128 * q : Nat) : Int) (qbH (fun j => z (128 * k + j)) (qaR (qaq z n) k)) h2 j) (m := fun j => (nmA 64 j).val (nuSQ (qaR (qaq z n) k) (fun j => z (128 * k + j)) ((128 * k : Nat) : Int) n ((128 * q : Nat) : Int) (qbH (fun j => z (128 * k + j)) (qaR (qaq z n) k)) h2)) (m' := fun j => z (128 * k + j)) fun j hj => nuS_wQ hj
   rw [eb]
   exact comp_congr (fun j hj => (nuS_hQ hj).symm) 80 j hj
  ·refine .inl ⟨h.1, by omega, fun g1 g2 => ?_⟩
   rw [e2]
   have e3 : 128 * (k + 1) + wdSQ r i ≤ n := by
    unfold wdSQ
    split <;> omega
   refine su_namedQ (i := 128 * k) (i' := 128 * (k + 1)) hz h.2 rfl rfl rfl rfl e3 (fun j hj => ?_) (fun j hj => nuS_wQ (by unfold wdSQ at hj; split at hj <;> omega)) fun p hp => ?_
   ·simp only [nmA, Nat.zero_add, AI.val]
    rw [nuS_1Q hj, nuS_hQ hj]
    exact congrFun (cp512_congrQ fun j hj => (pd_ltQ (z := z) (n := n) (by omega)).symm) j
   ·simp only [List.mem_cons, List.not_mem_nil, or_false] at hp
    rcases hp with rfl | rfl
    ·exact ⟨sI 202, .int .i64 ((128 * q : Nat) : Int), by simp, rfl, rfl⟩
    ·refine ⟨_, .int .i64 ((128 * (k + 1) : Nat) : Int), List.mem_cons_of_mem _ List.mem_cons_self, ?_, rfl⟩
     show some (Value.int .i64 (IntKind.i64.wrap (((128 * k : Nat) : Int) + ((128 : Nat) : Int)))) = _
     rw [i64_small (by omega) (by omega)]
     congr 2
 ·intro c hc a w ⟨_, hp⟩
  have hp := hp h1 h2
  have hg : suEndQ r = true := List.all_eq_true.1 su_endsQ _ (List.mem_range.2 hr)
  have e1 : wdSQ r 0 = r := if_pos rfl
  rw [e1, Nat.sub_zero] at hp
  refine ((Tri.runX (L := []) (w0 := w0) (fL_holdQ (decide_eq_false (by omega))) qak qaf qa6 (fun r hr => by cases hr) (fun r hr => by cases hr) (fun r hr => by cases hr) (fun r hr => by cases hr) hg).weak (fun _ _ h => h) (fun ex a w h => ⟨by rw [h.1]; simp, h.1, h.2⟩)) c hc a w hp
end
end Go.Proofs.YtheidgcgdkmmiaaDoor

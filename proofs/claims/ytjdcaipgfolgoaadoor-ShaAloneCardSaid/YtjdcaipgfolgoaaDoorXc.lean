/-
  "abc"; a text that came in. Own work.
-/
import Derived.Test.YtjdcaipgfolgoaaDoorXb
namespace Go.Proofs.YtjdcaipgfolgoaaDoor
open Go.Sh
open Go.ChangeShapes Go.WideShapes Go.ChangeAt Go.RowKit
set_option maxRecDepth 100000

def abcA (j : Nat) : AI := nA (97 + j)
def ab1 (j : Nat) : AI := if Nat.beq j 0 then nA 186 else if Nat.beq j 1 then nA 120 else if Nat.beq j 31 then nA 173 else .s j
def ab2 (j : Nat) : AI := if Nat.beq j 0 then nA 221 else if Nat.beq j 1 then nA 175 else if Nat.beq j 63 then nA 159 else .s (100 + j)
def eU : Nat := 5
def abB (b : Nat) : Nat × ABlk := (b, ⟨rowC .u8 abcA 3, eU, false⟩)
def abS (b : Nat) : AV := .sl b 0 (nA 3) (.ex 3)
def wkM : List RowM := [rowF 14 (abS 64) [abB 64] (rowC .u8 ab1 32), rowF 16 (abS 65) [abB 65] (rowC .u8 ab2 64)]
theorem wk_go : saysB noFacts tree [] glS [] wkM [] 64 60 4 19 [] (.b true) = true := by kernel_rfl
def nuA : Nat → Int := two (sum256 zAbc 3) 100 (sum256Q zAbc 3)
theorem ab1_val {j : Nat} (hj : j < 32) : (ab1 j).val nuA = sum256 zAbc 3 j := by
  unfold ab1
  by_cases h0 : j = 0
  · subst h0; exact abc_0.symm
  · rw [if_neg (fun h => h0 (Nat.eq_of_beq_eq_true h))]
    by_cases h1 : j = 1
    · subst h1; exact abc_1.symm
    · rw [if_neg (fun h => h1 (Nat.eq_of_beq_eq_true h))]
      by_cases h2 : j = 31
      · subst h2; exact abc_31.symm
      · rw [if_neg (fun h => h2 (Nat.eq_of_beq_eq_true h))]
        exact two_lo (by omega)
theorem ab2_val {j : Nat} (hj : j < 64) : (ab2 j).val nuA = sum256Q zAbc 3 j := by
  unfold ab2
  by_cases h0 : j = 0
  · subst h0; exact abc_0Q.symm
  · rw [if_neg (fun h => h0 (Nat.eq_of_beq_eq_true h))]
    by_cases h1 : j = 1
    · subst h1; exact abc_1Q.symm
    · rw [if_neg (fun h => h1 (Nat.eq_of_beq_eq_true h))]
      by_cases h2 : j = 63
      · subst h2; exact abc_63Q.symm
      · rw [if_neg (fun h => h2 (Nat.eq_of_beq_eq_true h))]
        exact two_hi j
theorem abB_text (b : Nat) : IsText nuA [abB b] (abS b) 3 zAbc := isText_row (off := 0) (n := 3) (f := abcA) List.mem_cons_self (by decide) (by decide) (by decide) fun j hj => by
  rw [Nat.zero_add]
  match j, hj with
  | 0, _ => rfl
  | 1, _ => rfl
  | 2, _ => rfl
def rowWk : RowM := ⟨19, [], [], [.v (.b true)]⟩
theorem wk_ok : rowWk.Ok nuA Tryd.prog glS :=
  rowM_of (res := [.b true]) (us := [.bool true]) (none_f _) mixed tab_ok glS_ok (fun r hr => by cases hr) (fun r hr => by cases hr) (fun r hr => by
    simp only [wkM, List.mem_cons, List.not_mem_nil, or_false] at hr
    rcases hr with rfl | rfl
    · exact rowS_ok (abB_text 64) (by decide) fun j hj => ab1_val hj
    · exact rowS_okQ (abB_text 65) (by decide) fun j hj => ab2_val hj) wk_go (by decide) (fun p hp => by cases hp) rfl rfl rfl
theorem rowWk_ok {ν : Nat → Int} : rowWk.Ok ν Tryd.prog glS := by
  refine ⟨wk_ok.1, fun ρ w vs hw _ hl => ?_⟩
  have hlen : vs = #[] := by
    have : vs.size = 0 := by rw [← hl.1]; rfl
    exact Array.eq_empty_of_size_eq_zero this
  subst hlen
  refine (wk_ok.2 ρ w #[] hw (fun p hp => by cases hp) ⟨rfl, fun j x v hx => by simp [rowWk] at hx⟩).mono fun e w' ⟨us, he, hp, hB⟩ => ⟨us, he, ?_, hB⟩
  match us, hp with
  | [u], hp => exact ⟨hp.1, trivial⟩
/-! A text that came in. -/
theorem cellsAt_of {w : World} {k : IntKind} {b o n : Nat} {z : Wd} (h0 : 0 < n) (h : ∀ i, i < n → w.cell? ⟨b, o + i, none⟩ = some (.int k (z i))) : CellsAt w k b o n z := by
  have h1 := h 0 h0
  unfold World.cell? at h1
  split at h1
  · rename_i C t fz hC
    refine ⟨C, t, fz, hC, fun j hj => ?_⟩
    have h2 := h j hj
    unfold World.cell? at h2
    rw [hC] at h2
    simpa using h2
  all_goals cases h1
theorem bytes_of {zs : List Int} (hw : ∀ z ∈ zs, (Lit.int .u8 z).wf = true) (n : Nat) : Bytes (fun i => zs.getD i 0) n := by
  obtain ⟨f, hf, hz⟩ := nat_bytes hw
  exact fun j _ => ⟨f j, hz j, hf j⟩
theorem text_need {ν : Nat → Int} {w : World} {cb o c n : Nat} {z : Wd} (hL : ν (pinL T0) = (n : Int)) (hB : ∀ j, j < n → ν (pinB T0 j) = z j) (hle : n ≤ c) (hz : CellsAt w .u8 cb o n z) :
    NeedOk ν (embF (at1 64 ⟨cb, o, 0⟩)) w [txP] ∧ VR ν (embF (at1 64 ⟨cb, o, 0⟩)) slP0 (.slice (some ⟨cb, o, none⟩) n c) := by
  obtain ⟨C, ty, fz, hC, hz⟩ := hz
  refine ⟨fun p hp => ?_, .sl 64 0 _ .any ⟨cb, o, 0⟩ n c (at1_at (by decide)) hL trivial hle⟩
  simp only [List.mem_cons, List.not_mem_nil, or_false] at hp
  subst hp
  refine ⟨⟨cb, o, 0⟩, at1_at (by decide), ⟨fun _ => ⟨C, ty, fz, hC, fun j c hc => by simp [txP, ABlk.shut] at hc, fun h => by cases h⟩, fun h => by exact absurd h (by decide), fun _ => ?_⟩⟩
  unfold PinB
  rw [if_pos (by decide)]
  have hpn : Sh.Pinned ν w T0 ⟨cb, o, 0⟩ := by
    refine ⟨C, ty, fz, hC, fun j hj => ?_⟩
    rw [hL] at hj
    have hj : j < n := by omega
    rw [T0_K, hB j hj]
    exact hz j hj
  exact hpn
/-- The names: sums below, a text's row, its twin's. -/
def nuL (lo : Wd) (n : Nat) (z : Wd) : Nat → Int := fun k => if k < 10000 then lo k else nuG n z n z k
section
variable {lo z : Wd} {n : Nat}
theorem nuL_lo {k : Nat} (h : k < 10000) : nuL lo n z k = lo k := if_pos h
theorem nuL_L0 : nuL lo n z (pinL T0) = (n : Int) := (if_neg (by rw [T0_L]; decide)).trans nuG_L0
theorem nuL_B0 {j : Nat} (h : j < 1000000000000) : nuL lo n z (pinB T0 j) = z j := (if_neg (by rw [T0_B]; omega)).trans (nuG_B0 h)
theorem nuL_L1 : nuL lo n z (pinL T1) = (n : Int) := (if_neg (by rw [T1_L]; decide)).trans nuG_L
theorem nuL_B1 (j : Nat) : nuL lo n z (pinB T1 j) = z j := (if_neg (by rw [T1_B]; omega)).trans (nuG_B j)
end
def txQ1 : Nat × ABlk := (65, ⟨[], T1, false⟩)
def slQ1 : AV := .sl 65 0 (.s (pinL T1)) .any
theorem tx0_text {lo z : Wd} {n : Nat} {need : Gl} (hm : txP ∈ need) (h0 : 0 < n) (hn : n < 100000000000) : IsText (nuL lo n z) need slP0 n z := isText_pin hm ⟨by decide, by decide⟩ T0_K h0 nuL_L0 fun j hj => nuL_B0 (by omega)
theorem tx1_text {lo z : Wd} {n : Nat} {need : Gl} (hm : txQ1 ∈ need) (h0 : 0 < n) (hn : n < 100000000000) : IsText (nuL lo n z) need slQ1 n z := isText_pin hm ⟨by decide, by decide⟩ T1_K h0 nuL_L1 fun j hj => nuL_B1 j
end Go.Proofs.YtjdcaipgfolgoaaDoor

/-
  OnionHidden: slices of bools that came in; the law. Own work.
-/
import Derived.Test.YtcikcmphnaogbaaDoorOHb
import Derived.Test.YtcikcmphnaogbaaDoorOHc
import Derived.Test.YtcikcmphnaogbaaDoorOHd
import Derived.Test.YtcikcmphnaogbaaDoorCards
import Derived.Test.YtcikcmphnaogbaaDoorTie
import Derived.LaidMore
import Derived.LaidSub
import Derived.LaidHandle
import Derived.OpenShut
import Derived.Stop.Joined
import Derived.MakeChecks
namespace Go.Proofs.YtcikcmphnaogbaaDoor
open Go.Sh
open Go.ChangeShapes Go.WideShapes Go.ChangeAt Go.RowKit
set_option maxRecDepth 100000

theorem own : ownKnob Tryd.prog.godebug = none := by kernel_rfl
theorem laidOut : laidOutB Tryd.prog = true := by kernel_rfl
theorem cellsB : Tryd.prog.cellsOf 4 = 1 := by kernel_rfl
theorem laidO {W : World} (_h : laidMetH Tryd.prog [("errors.errorType", Rows.laid_errors_errorType)] W) : Laid [] W := fun p hp => by cases hp
theorem glO_ok : GlOk [] := fun p hp => by cases hp

/-- A slice of bools that came in. -/
def ReadsB (w : World) (v : Value) (bs : List Bool) : Prop :=
  (v = .slice none 0 0 ∧ bs = []) ∨ (∃ a c, v = .slice (some a) 0 c ∧ bs = []) ∨
  ∃ b o n c, v = .slice (some ⟨b, o, none⟩) n c ∧ n ≤ c ∧ bs.length = n ∧ 0 < n ∧ ∀ i, i < n → w.cell? ⟨b, o + i, none⟩ = some (.bool (bs.getD i false))
def boolOf {H : Type} (y : DataW H × List MemPlace) : Bool := match y.1 with | .lit (.bool b) => b | _ => false
theorem readsB_open {H : Type} {enc : TypeId × Value → H} {P : Program} {w : World} {r : Reach} {b0 base : Nat} {sp : Nat → Bool} {held : Bool} {t e : TypeId} {v : Value} {d : DataW H} {ps : List MemPlace} (ht : P.underlying t = some (.slice e)) (he : P.underlying e = some .bool) (hc : P.cellsOf e = 1)
    (hval : Value.okWide P w r b0 t v) (h : DataW.Trod enc P w base sp held t v d ps) : ∃ bs, ReadsB w v bs := by
  obtain ⟨fuel, hf⟩ := h
  obtain ⟨a0, len, cap, rfl⟩ := okWide_slice ht hval
  rcases DataW.trod_slice ht hf with ⟨hcs, _⟩ | ⟨a, len', cap', elems, rest, n, _, hcs, _, _, hl, _, hlen, hel, _, _⟩
  · simp [Value.cells] at hcs
    obtain ⟨rfl, rfl, rfl⟩ := hcs
    exact ⟨[], .inl ⟨rfl, rfl⟩⟩
  · simp [Value.cells] at hcs
    obtain ⟨rfl, rfl, rfl⟩ := hcs
    by_cases h0 : len = 0
    · subst h0
      exact ⟨[], .inr (.inl ⟨a, cap, rfl, rfl⟩)⟩
    · have each : ∀ i, i < len → w.cell? (a.add i) = some (.bool ((elems.map boolOf).getD i false)) := by
        intro i hi
        have h1 := hel i hi
        have hi' : i < elems.length := by omega
        rw [List.getElem?_eq_getElem hi', hc, Nat.mul_one, Option.bind_eq_some_iff] at h1
        obtain ⟨cs', hcs, hy⟩ := h1
        obtain ⟨b', hb1, hb2⟩ := DataW.trod_bool he hy
        subst hb1
        rw [cell_of_cells?_one hcs]
        simp only [List.getD, List.getElem?_map, List.getElem?_eq_getElem hi', hb2, boolOf, Option.map_some, Option.getD_some]
      obtain ⟨b, off, spot⟩ := a
      have hspot : spot = none := by simpa [Addr.add] using World.cell?_spot (each 0 (by omega))
      subst hspot
      refine ⟨elems.map boolOf, .inr (.inr ⟨b, off, len, cap, rfl, hl, by simpa using hlen, by omega, fun i hi => ?_⟩)⟩
      have h1 := each i hi
      rw [add_plain] at h1
      exact h1

/-! the law -/
theorem lawN_s65 : saysM fN tree [] [] [] [] 65 400 40 4 [iS 0, .sl 64 0 (.s 1) .any] (.b true) = true := by kernel_rfl
theorem lawM_s65 : saysM fM tree [] [] [] [] 65 400 40 4 [iS 0, .sl 64 0 (.s 1) .any] (.b true) = true := by kernel_rfl
def nu2 (n : Int) (l : Nat) : Nat → Int := fun k => if k = 0 then n else (l : Int)
theorem lawK_all : ∀ k m, 1 ≤ k → k ≤ 3 → m < 2 ^ k → lawK k m = true
  | 0, _, h, _, _ => by omega
  | 1, 0, _, _, _ => lawK_1_0
  | 1, 1, _, _, _ => lawK_1_1
  | 1, m + 2, _, _, h => by omega
  | 2, 0, _, _, _ => lawK_2_0
  | 2, 1, _, _, _ => lawK_2_1
  | 2, 2, _, _, _ => lawK_2_2
  | 2, 3, _, _, _ => lawK_2_3
  | 2, m + 4, _, _, h => by omega
  | 3, 0, _, _, _ => lawK_3_0
  | 3, 1, _, _, _ => lawK_3_1
  | 3, 2, _, _, _ => lawK_3_2
  | 3, 3, _, _, _ => lawK_3_3
  | 3, 4, _, _, _ => lawK_3_4
  | 3, 5, _, _, _ => lawK_3_5
  | 3, 6, _, _, _ => lawK_3_6
  | 3, 7, _, _, _ => lawK_3_7
  | 3, m + 8, _, _, h => by omega
  | k + 4, _, _, h, _ => by omega
def bitN (b : Bool) : Nat := if b then 1 else 0
/-- The first bools, as a number. -/
theorem bits_of (f : Nat → Bool) : ∀ k, 1 ≤ k → k ≤ 3 → ∃ m, m < 2 ^ k ∧ bitsL k m = (List.range k).map fun j => AV.b (f j)
  | 0, h, _ => by omega
  | 1, _, _ => by
    refine ⟨bitN (f 0), ?_, ?_⟩
    · generalize f 0 = a; cases a <;> decide
    · show _ = [AV.b (f 0)]
      generalize f 0 = a; cases a <;> rfl
  | 2, _, _ => by
    refine ⟨bitN (f 0) + 2 * bitN (f 1), ?_, ?_⟩
    · generalize f 0 = a; generalize f 1 = b; cases a <;> cases b <;> decide
    · show _ = [AV.b (f 0), AV.b (f 1)]
      generalize f 0 = a; generalize f 1 = b; cases a <;> cases b <;> rfl
  | 3, _, _ => by
    refine ⟨bitN (f 0) + 2 * bitN (f 1) + 4 * bitN (f 2), ?_, ?_⟩
    · generalize f 0 = a; generalize f 1 = b; generalize f 2 = c; cases a <;> cases b <;> cases c <;> decide
    · show _ = [AV.b (f 0), AV.b (f 1), AV.b (f 2)]
      generalize f 0 = a; generalize f 1 = b; generalize f 2 = c; cases a <;> cases b <;> cases c <;> rfl
  | k + 4, _, h => by omega
theorem wk_ok : PureG Tryd.prog [] 19 [] (.bool true) := pureG_of (ν := fun _ => 0) (args := []) (noF_hold _) mixed tab_ok glO_ok (fun r hr => by cases hr) (fun r hr => by cases hr) wk_says rfl rfl
theorem wk_row (ν : Nat → Int) : ∀ r ∈ [wkR], r.OkG ν Tryd.prog [] := by
  intro r hr
  simp only [List.mem_cons, List.not_mem_nil, or_false] at hr
  subst hr
  exact ⟨_, _, rfl, rfl, wk_ok⟩
theorem wide_val (ν : Nat → Int) : ∀ p ∈ wideV, p.1.val ν = p.2 := by
  intro p hp
  simp only [wideV, List.mem_cons, List.not_mem_nil, or_false] at hp
  rcases hp with rfl | rfl <;> rfl
/-- The slice as the machine has it. -/
theorem sl_vr {ν : Nat → Int} {b o n c : Nat} (h1 : ν 1 = (n : Int)) (hl : n ≤ c) : VR ν (embF (at1 64 ⟨b, o, 0⟩)) (.sl 64 0 (.s 1) .any) (.slice (some ⟨b, o, none⟩) n c) := .sl 64 0 _ .any ⟨b, o, 0⟩ n c (at1_at (by decide)) h1 trivial hl
theorem onionHidden_law {W : World} (hL : Laid [] W) {v : Value} {bs : List Bool} (hr : ReadsB W v bs) (n : Int) (_ : (Lit.int .i64 n).wf = true) : Calls Tryd.prog 4 #[.int .i64 n, v] W fun e w' => e = .returned (.bool true) ∧ Below W.heap.size W w' := by
  have hF : ∀ {ν : Nat → Int}, ν 0 = n → n < 0 → fN.Hold ν := fun h0 h1 => ⟨fun p hp => (by cases hp), fun p hp => by
    simp only [fN, List.mem_cons, List.not_mem_nil, or_false] at hp
    subst hp
    show decide (_ < (0 : Int)) = true
    rw [show (AI.s 0).val _ = _ from h0]
    exact decide_eq_true h1⟩
  have emp : ∀ {x : AV}, (∀ ν ρ, VR ν ρ x v) → lawN x = true → lawZ x = true → Calls Tryd.prog 4 #[.int .i64 n, v] W fun e w' => e = .returned (.bool true) ∧ Below W.heap.size W w' := by
    intro x hx hN hZ
    by_cases h1 : n < 0
    · exact memG_of (ν := fun _ => n) (g := fun _ => none) (hF rfl h1) mixed tab_ok glO_ok (fun r hr => by cases hr) (fun r hr => by cases hr) hN (Nat.le_refl _) (fun _ _ => rfl) hL (fun p hp => by cases hp) (@lr_of _ _ [iS 0, x] [.int .i64 n, v] ⟨.i _ _, hx _ _, trivial⟩) rfl
    · have hF : fZ.Hold (fun _ => n) := ⟨wide_val _, fun p hp => by
        simp only [fZ, List.mem_cons, List.not_mem_nil, or_false] at hp
        subst hp
        exact decide_eq_false h1⟩
      exact memG_of (ν := fun _ => n) (g := fun _ => none) hF mixed tab_ok glO_ok (fun r hr => by cases hr) (wk_row _) hZ (Nat.le_refl _) (fun _ _ => rfl) hL (fun p hp => by cases hp) (@lr_of _ _ [iS 0, x] [.int .i64 n, v] ⟨.i _ _, hx _ _, trivial⟩) rfl
  rcases hr with ⟨rfl, rfl⟩ | ⟨a, c, rfl, rfl⟩ | ⟨b, o, l, c, rfl, hl, hbs, h0, hcell⟩
  · exact emp (fun _ _ => .nsl) lawN_nsl lawZ_nsl
  · exact emp (fun _ _ => .sle _ _ _ (fun h => by cases h)) lawN_sle lawZ_sle
  · have hg : ∀ b', 65 ≤ b' → at1 64 (⟨b, o, 0⟩ : Pl) b' = none := fun b' hb => at1_none (by omega)
    have lr : LR (nu2 n l) (embF (at1 64 ⟨b, o, 0⟩)) [iS 0, .sl 64 0 (.s 1) .any] #[.int .i64 n, .slice (some ⟨b, o, none⟩) l c] := @lr_of _ _ [iS 0, .sl 64 0 (.s 1) .any] [.int .i64 n, .slice (some ⟨b, o, none⟩) l c] ⟨.i _ _, sl_vr rfl hl, trivial⟩
    by_cases h1 : n < 0
    · exact memG_of (ν := nu2 n l) (xs := []) (n := 65) (hF rfl h1) mixed tab_ok glO_ok (fun r hr => by cases hr) (fun r hr => by cases hr) lawN_s65 (by decide) hg hL (fun p hp => by cases hp) lr rfl
    · by_cases h2 : l > 10
      · have hF : fM.Hold (nu2 n l) := ⟨fun p hp => (by cases hp), fun p hp => by
          simp only [fM, List.mem_cons, List.not_mem_nil, or_false] at hp
          rcases hp with rfl | rfl
          · exact decide_eq_false h1
          · exact decide_eq_true (show (l : Int) > 10 by omega)⟩
        exact memG_of (xs := []) (n := 65) hF mixed tab_ok glO_ok (fun r hr => by cases hr) (fun r hr => by cases hr) lawM_s65 (by decide) hg hL (fun p hp => by cases hp) lr rfl
      · obtain ⟨k, hk1, hk2, hk3⟩ : ∃ k, 1 ≤ k ∧ k ≤ 3 ∧ ∀ j, j < 3 → (j < l ↔ j < k) := by
          by_cases e : l ≤ 3
          · exact ⟨l, by omega, e, fun j _ => Iff.rfl⟩
          · exact ⟨3, by omega, by omega, fun j hj => by omega⟩
        have hkl : k ≤ l := by
          have := (hk3 (k - 1) (by omega)).2 (by omega)
          omega
        obtain ⟨m, hm, hb⟩ := bits_of (fun j => bs.getD j false) k hk1 hk2
        have hF : (fK k).Hold (nu2 n l) := ⟨wide_val _, fun p hp => by
          rcases List.mem_append.1 hp with hp | hp
          · simp only [List.mem_cons, List.not_mem_nil, or_false] at hp
            rcases hp with rfl | rfl | rfl
            · exact decide_eq_false h1
            · exact decide_eq_false (show ¬ (l : Int) > 10 by omega)
            · exact decide_eq_true (show (l : Int) > 0 by omega)
          · simp only [List.mem_map, List.mem_range] at hp
            obtain ⟨j, hj, rfl⟩ := hp
            show decide ((j : Int) < (l : Int)) = Nat.blt j k
            rw [Bool.eq_iff_iff, decide_eq_true_iff, Nat.blt_eq, Int.ofNat_lt]
            exact hk3 j hj⟩
        refine memG_of (xs := xsK k m) (n := 65) hF mixed tab_ok glO_ok (fun r hr => by cases hr) (wk_row _) (lawK_all k m hk1 hk2 hm) (by decide) hg hL (fun p hp => ?_) lr rfl
        simp only [xsK, List.mem_cons, List.not_mem_nil, or_false] at hp
        subst hp
        refine ⟨⟨b, o, 0⟩, at1_at (by decide), br_cells ?_ (by decide) fun j c' hc' => ?_⟩
        · show bitsL k m ≠ []
          rw [hb]
          intro h
          have := congrArg List.length h
          simp at this
          omega
        · replace hc' : (bitsL k m)[j]? = some c' := hc'
          rw [hb, List.getElem?_map, Option.map_eq_some_iff] at hc'
          obtain ⟨i, hi, rfl⟩ := hc'
          obtain ⟨hi1, hi2⟩ := List.getElem?_eq_some_iff.1 hi
          simp only [List.length_range] at hi1
          simp only [List.getElem_range] at hi2
          subst hi2
          exact ⟨_, hcell j (by omega), .b _⟩
end Go.Proofs.YtcikcmphnaogbaaDoor

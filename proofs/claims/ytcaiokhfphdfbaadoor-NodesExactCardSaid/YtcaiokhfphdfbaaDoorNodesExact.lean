/-
  NodesExact: for all its arguments the law returns true, where the table of bits (de Bruijn) is laid as the text of the program lays it. Conditions: none beside that one (the card ties it to the text).
-/
import Derived.Test.YtcaiokhfphdfbaaDoorNXc
namespace Go.Proofs.YtcaiokhfphdfbaaDoor
open Go.Sh
open Go.ChangeShapes Go.WideShapes Go.ChangeAt Go.RowKit
set_option maxRecDepth 100000

def nuL (x n i : Int) (k : Nat) (l r p s : Int) : Nat → Int := fun j => match j with | 0 => x | 1 => n | 2 => i | 3 => (k : Int) | 4 => l | 5 => r | 6 => p | _ => s
theorem fC_ok {x n i l r p s : Int} {k : Nat} (hk : x < 0 → k = 0) : ∀ c ∈ fC (decide (x ≥ 0)), compare c.1 (c.2.1.val (nuL x n i k l r p s)) (c.2.2.1.val (nuL x n i k l r p s)) = c.2.2.2 := by
  intro c hc
  rcases List.mem_append.1 hc with hc | hc
  · simp only [List.mem_cons, List.not_mem_nil, or_false] at hc
    rcases hc with rfl | rfl | rfl | rfl | rfl | rfl
    · rfl
    · exact bne_self_eq_false' (a := (k : Int))
    · exact bne_self_eq_false' (a := l)
    · exact bne_self_eq_false' (a := r)
    · exact bne_self_eq_false' (a := p)
    · exact bne_self_eq_false' (a := s)
  · by_cases h0 : x ≥ 0
    · rw [decide_eq_true h0] at hc
      cases hc
    · rw [decide_eq_false h0] at hc
      simp only [List.mem_cons, List.not_mem_nil, or_false] at hc
      subst hc
      rw [hk (by omega)]
      rfl
theorem parRow {n : Nat} (hn : n ∈ ns) {x : Nat} (hx : x < 2 * n - 1) : ParOk x n (parT x n).1 (parT x n).2.1 (parT x n).2.2 :=
  parR_pure (ν := fun _ => 0) (noF_hold _) (fun r hr => by cases hr) (rg_all (List.all_eq_true.1 par_in n hn) x hx) rfl
theorem parP_ok {n : Nat} (hn : n ∈ ns) (ν : Nat → Int) : ∀ r ∈ parP n, r.Ok ν Tryd.prog := by
  intro r hr
  simp only [parP, List.mem_map, List.mem_range] at hr
  obtain ⟨x, hx, rfl⟩ := hr
  exact ⟨_, _, rfl, rfl, (parRow hn hx).2.2.1⟩
theorem parG_ok {n : Nat} (hn : n ∈ ns) (ν : Nat → Int) : ∀ r ∈ parG n, r.OkG ν Tryd.prog glD := by
  intro r hr
  simp only [parG, List.mem_map, List.mem_range] at hr
  obtain ⟨x, hx, rfl⟩ := hr
  refine ⟨_, .tuple #[I64 (parT x n).1, I64 (eV (parT x n).2.2)], rfl, ?_, (parRow hn hx).1⟩
  cases (parT x n).2.2 <;> rfl
theorem app_all {α : Type} {a b : List α} {P : α → Prop} (ha : ∀ x ∈ a, P x) (hb : ∀ x ∈ b, P x) : ∀ x ∈ a ++ b, P x := fun x hx => (List.mem_append.1 hx).elim (ha x) (hb x)
section
variable {x n i l r p s : Int} {kk : Nat} {h k q : Bool} {N I : AV}
theorem rowsP_ok (hN : concT (nuL x n i kk l r p s) [iS 0, N] = some [I64 x, I64 n]) (hI : concT (nuL x n i kk l r p s) [iS 0, I] = some [I64 x, I64 i])
    (h1 : Pure Tryd.prog 4 [I64 x] (I64 (kk : Int))) (h2 : Pure Tryd.prog 10 [I64 x, I64 i] (.bool h)) (h3 : KidsOk x l r k) (h4 : ParOk x n p s q) : ∀ w ∈ rowsP N I h k q, w.Ok (nuL x n i kk l r p s) Tryd.prog := by
  intro w hw
  simp only [rowsP, List.mem_cons, List.not_mem_nil, or_false] at hw
  rcases hw with rfl | rfl | rfl | rfl | rfl
  · exact ⟨_, _, rfl, rfl, h1⟩
  · exact ⟨_, _, hI, rfl, h2⟩
  · exact ⟨_, _, rfl, rfl, h3.2.2⟩
  · exact ⟨_, _, hN, rfl, h4.2.2.1⟩
  · exact ⟨_, _, hN, rfl, h4.2.2.2⟩
theorem rowsG_ok (hN : concT (nuL x n i kk l r p s) [iS 0, N] = some [I64 x, I64 n]) (hI : concT (nuL x n i kk l r p s) [iS 0, I] = some [I64 x, I64 i])
    (h1 : PureG Tryd.prog glD 7 [I64 x] (I64 (kk : Int))) (h2 : PureG Tryd.prog glD 9 [I64 x, I64 i] (.bool h)) (h3 : KidsOk x l r k) (h4 : ParOk x n p s q) : ∀ w ∈ rowsG N I h k q, w.OkG (nuL x n i kk l r p s) Tryd.prog glD := by
  intro w hw
  simp only [rowsG, List.mem_cons, List.not_mem_nil, or_false] at hw
  rcases hw with rfl | rfl | rfl | rfl | rfl | rfl | rfl
  · exact ⟨_, _, rfl, rfl, h1⟩
  · exact ⟨_, _, hI, rfl, h2⟩
  · exact ⟨_, .tuple #[I64 l, I64 (eV k)], rfl, by cases k <;> rfl, h3.1⟩
  · exact ⟨_, .tuple #[I64 r, I64 (eV k)], rfl, by cases k <;> rfl, h3.2.1⟩
  · exact ⟨_, .tuple #[I64 p, I64 (eV q)], hN, by cases q <;> rfl, h4.1⟩
  · exact ⟨_, .tuple #[I64 s, I64 (eV q)], hN, by cases q <;> rfl, h4.2.1⟩
  · exact ⟨_, _, rfl, rfl, wakes_ok⟩
end
theorem b2_4 {f : Bool → Bool → Bool → Bool → Bool} (hh : (b2.all fun g => b2.all fun h => b2.all fun k => b2.all fun q => f g h k q) = true) (g h k q : Bool) : f g h k q = true := b2_all (b2_all (b2_all (b2_all hh g) h) k) q
theorem law2_all {n i : Nat} (hn : n ∈ ns) (hi : i < n) (g h k q : Bool) : law2 n i g h k q = true := by
  simp only [ns, List.mem_cons, List.not_mem_nil, or_false] at hn
  rcases hn with rfl | rfl | rfl | rfl
  · exact b2_4 (rg_all law2_1 i hi) g h k q
  · exact b2_4 (rg_all law2_2 i hi) g h k q
  · exact b2_4 (rg_all law2_4 i hi) g h k q
  · cases g
    · exact b2_all (b2_all (b2_all (rg_all law2_8f i hi) h) k) q
    · exact b2_all (b2_all (b2_all (rg_all law2_8t i hi) h) k) q
theorem nodesExact_law (x n i : Int) (bx : (Lit.int .i64 x).wf = true) (_ : (Lit.int .i64 n).wf = true) (_ : (Lit.int .i64 i).wf = true) : PureG Tryd.prog glD 3 [.int .i64 x, .int .i64 n, .int .i64 i] (.bool true) := by
  have hx : x < 9223372036854775808 := by
    simp [Lit.wf, IntKind.min, IntKind.max, IntKind.signed, IntKind.bits] at bx
    omega
  obtain ⟨kk, hk0, e1, e2⟩ := lev_ok hx
  obtain ⟨h, e3, e4⟩ := has_ok x i
  obtain ⟨l, r, k, e5⟩ := kids_ok hx
  rcases may_ok n with hn | hn
  · obtain ⟨m, rfl, hm⟩ : ∃ m : Nat, n = m ∧ m ∈ ns := by
      rcases hn with rfl | rfl | rfl | rfl
      · exact ⟨1, rfl, by decide⟩
      · exact ⟨2, rfl, by decide⟩
      · exact ⟨4, rfl, by decide⟩
      · exact ⟨8, rfl, by decide⟩
    obtain ⟨p, s, q, e6⟩ := par_ok x hm
    by_cases hin : 0 ≤ i ∧ i < m
    · obtain ⟨h1, h2⟩ := hin
      obtain ⟨a, rfl⟩ := Int.eq_ofNat_of_zero_le h1
      exact pureG_of (ν := nuL x m a kk l r p s) (args := [iS 0, iC m, iC a]) ⟨fun p hp => (by cases hp), fC_ok hk0⟩ mixed tab_ok glD_ok (app_all (rowsP_ok rfl rfl e2 e4 e5 e6) (parP_ok hm _)) (app_all (rowsG_ok rfl rfl e1 e3 e5 e6) (parG_ok hm _))
        (law2_all hm (by omega) (decide (x ≥ 0)) h k q) rfl rfl
    · refine pureG_of (ν := nuL x m i kk l r p s) (args := [iS 0, iC m, iS 2]) ⟨fun p hp => (by cases hp), app_all (fun c hc => ?_) (fC_ok hk0)⟩ mixed tab_ok glD_ok (rowsP_ok rfl rfl e2 e4 e5 e6) (rowsG_ok rfl rfl e1 e3 e5 e6)
        (b2_4 (b2_all (List.all_eq_true.1 law1_all m hm) (decide (i < 0))) (decide (x ≥ 0)) h k q) rfl rfl
      simp only [fI, List.mem_cons, List.not_mem_nil, or_false] at hc
      rcases hc with rfl | rfl
      · rfl
      · show decide (i ≥ (m : Int)) = !(decide (i < 0))
        by_cases hi : i < 0
        · rw [decide_eq_true hi, decide_eq_false (by omega)]
          rfl
        · rw [decide_eq_false hi, decide_eq_true (show i ≥ (m : Int) by omega)]
          rfl
  · have e6 : ParOk x n 0 0 false := par_none hn
    refine pureG_of (ν := nuL x n i kk l r 0 0) (args := [iS 0, iS 1, iS 2]) ⟨fun p hp => (by cases hp), fC_ok hk0⟩ mixed tab_ok glD_ok (app_all (fun w hw => ?_) (rowsP_ok rfl rfl e2 e4 e5 e6)) (rowsG_ok rfl rfl e1 e3 e5 e6)
      (b2_4 law0_all (decide (x ≥ 0)) h k false) rfl rfl
    simp only [rowsN, List.mem_cons, List.not_mem_nil, or_false] at hw
    rcases hw with rfl | rfl | rfl
    · exact ⟨_, _, rfl, rfl, hn.1⟩
    · exact ⟨_, _, rfl, rfl, hn.2⟩
    · exact ⟨_, _, rfl, rfl, root_ok hn.1⟩

abbrev nodesExactLaid : List (String × DataW Unit) := Rows.nodesExactRow.laid
theorem nodesExact_met (os : Os) (args : Array Value) : laidMetH Tryd.prog nodesExactLaid ((World.doorLaid Tryd.prog 400 os).forCall (fun _ _ => 0) ⟨#[], args, []⟩).memory :=
  laidMetH_of_parts3 (fuel := 8) (laidMet_of_run' 8 (by kernel_rfl) (by kernel_rfl)) (by kernel_rfl) (by kernel_rfl)

theorem nodesExact_lifted (os : Os) (started : os.Started) (H : Type) (enc : TypeId × Value → H) :
    ReturnsInHanded {} Tryd.checked os 3 .any (fun w args => (Rows.nodesExactSpec.pre enc Tryd.prog Tryd.f3 [] false w args ∧ laidMetH Tryd.prog nodesExactLaid w) ∧ sizedMet enc Tryd.prog Tryd.f3 (OpenSpec.ofChange Rows.nodesExactSpec) false w args)
      (Rows.nodesExactSpec.post enc Tryd.prog Tryd.f3 false true false false) := by
  refine returnsInHanded_of_change_and (C := Tryd.checked) (X := fun w _ => laidMetH Tryd.prog nodesExactLaid w) (fun _ _ _ hh h => h.of_heap hh) own started (by kernel_rfl) Tryd.func3
    (ChangeSpec.witness_shaped (enc := enc) (C := Tryd.checked) (os := os) (X := fun w _ => laidMetH Tryd.prog nodesExactLaid w) false (World.doorLaid Tryd.prog 400 os) #[.int .i64 0, .int .i64 0, .int .i64 0] 8 rfl (World.shaped_of_RefB (by kernel_rfl) (by kernel_rfl)) (by kernel_rfl) (by kernel_rfl) (by kernel_rfl) (nodesExact_met os _)) ?_
  intro W base args ds gs before hval0 hW _ _ hL _
  have hval : ∀ (j : Nat) t v, Tryd.f3.params[j]? = some t → args[j]? = some v → Value.okWide Tryd.prog W .any base t v := hval0
  have hW' := hW
  obtain ⟨p, q, hA0, hV, rfl, hfz, hnd⟩ := hW
  have hA : DataW.TrodAll enc Tryd.prog W 0 (fun _ => true) true Tryd.f3.params.toList args.toList ds p := hA0
  rw [Tryd.params3] at hA hval
  obtain ⟨v0, vs0, d0, ds0, p0, q0, hargs, rfl, rfl, h0, r0⟩ := trodAll_cons hA
  obtain ⟨v1, vs1, d1, ds1, p1, q1, rfl, rfl, rfl, h1, r1⟩ := trodAll_cons r0
  obtain ⟨v2, vs2, d2, ds2, p2, q2, rfl, rfl, rfl, h2, r2⟩ := trodAll_cons r1
  obtain ⟨rfl, rfl, rfl⟩ := trodAll_nil r2
  obtain rfl : args = #[v0, v1, v2] := by cases args; simp_all
  obtain ⟨rfl, rfl⟩ := trodVars_none hV
  obtain ⟨a0, rfl, rfl, rfl, b0⟩ := open_int Tryd.underlying3 (hval 0 _ v0 rfl rfl) h0
  have s0 := plain_int (H := H) Tryd.underlying3 b0
  obtain ⟨a1, rfl, rfl, rfl, b1⟩ := open_int Tryd.underlying3 (hval 1 _ v1 rfl rfl) h1
  have s1 := plain_int (H := H) Tryd.underlying3 b1
  obtain ⟨a2, rfl, rfl, rfl, b2⟩ := open_int Tryd.underlying3 (hval 2 _ v2 rfl rfl) h2
  have s2 := plain_int (H := H) Tryd.underlying3 b2
  clear hA0 hval0
  simp only [List.append_nil] at hW'
  refine ((nodesExact_law a0 a1 a2 b0 b1 b2).2 W (laidD hL)).mono fun e W' ⟨he, hg⟩ => ?_
  subst he
  exact ⟨_, rfl, post_below (pa := []) (pv := []) hW' (fun _ _ _ => trodAll_cons_mk (shut_bool Tryd.underlying4 _) trodAll_mk0) (fun sp _ => (trodAll_cons_mk (s0 _ _ _ _ _) (trodAll_cons_mk (s1 _ _ _ _ _) (trodAll_cons_mk (s2 _ _ _ _ _) trodAll_mk0)))) (fun _ _ => rfl) rfl
    hg (ok_one (by kernel_rfl) rfl (okWide_bool_mk Tryd.underlying4 _))⟩

theorem nodesExact_over : Rows.NodesExactSaid :=
  OpenClaim.holds_of_wide 3 Tryd.f3 rfl rfl rfl rfl rfl rfl rfl ⟨rfl, rfl, rfl, rfl, rfl⟩ rfl rfl rfl rfl rfl (by kernel_rfl) Tryd.func3 (by kernel_rfl)
    (of_decide_eq_true (by kernel_rfl)) (by unfold Func.isWrapper; first | (rw [if_pos (by decide +kernel)]; kernel_rfl) | (rw [if_neg (by decide +kernel)]; exact ⟨rfl, rfl⟩))
    (fun os started H enc _ => nodesExact_lifted os started H enc)

/-- THE STATEMENT. -/
theorem nodesExact_holds : Rows.NodesExactCardSaid :=
  Claim7.holds_tied_plain_at .later [] [.data] true (true, "5e8b0bfd05748aa1c0ee99585b3c89aebf736f91b07eb6108b9c8ba9b3131543") false
    nodesExact_over (fun _ h => by cases h) (by kernel_rfl) (fun _ h => by cases h) nodesExact_row_tie rfl ⟨rfl, rfl⟩ (by kernel_rfl) rfl
    (fun f fn hf hfn => by
      obtain rfl : f = 3 := Option.some.inj ((show Tryd.prog.funcNamed "tryst/trystlaw15.NodesExact" = some 3 by kernel_rfl).symm.trans hf) |>.symm
      obtain rfl : fn = Tryd.f3 := (Option.some.inj (Tryd.func3.symm.trans hfn)).symm
      exact ⟨by kernel_rfl, fun j t ht => by
        rw [Tryd.params3] at ht
        have hm : t ∈ [3, 3, 3] := by simpa using Array.mem_of_getElem? ht
        have hall : ([3, 3, 3].all fun u => !Tryd.prog.wantsStandIn u) = true := by kernel_rfl
        exact (show Tryd.prog.wantsStandIn t = false by simpa using List.all_eq_true.1 hall t hm)⟩)
    (by kernel_rfl)
#print axioms nodesExact_holds
end Go.Proofs.YtcaiokhfphdfbaaDoor

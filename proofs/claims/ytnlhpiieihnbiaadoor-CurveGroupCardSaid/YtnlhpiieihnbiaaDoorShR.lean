/-
  THE SHADOW MACHINE: a call from outside, which is handed memory that it but reads. Own work.
-/
import Derived.Test.YtnlhpiieihnbiaaDoorShQ
import Derived.Below
import Derived.ChangeSame
import Derived.OpenShut
import Derived.ProofKit
namespace Go.Sh
open Go.RowKit Go.WideShapes Go.ChangeShapes

def trOf : List (Nat × ABlk) → Tr ABlk
  | [] => .l
  | p :: r => if Nat.blt p.1 room then Tr.put depth (trOf r) p.1 (some p.2) else trOf r

theorem trOf_get : ∀ (l : List (Nat × ABlk)) (b : Nat) (x : ABlk), (trOf l).get b = some x → (b, x) ∈ l := by
  intro l
  induction l with
  | nil => intro b x h; simp [trOf, Tr.get] at h
  | cons p r ih =>
    intro b x h
    simp only [trOf] at h
    split at h
    · rename_i hb
      simp only [Nat.blt_eq] at hb
      rw [Tr.get_put _ _ _ _ _ (by unfold room at hb; show p.1 + 1 < 2 ^ 24; omega)] at h
      split at h
      · rename_i e
        cases h
        subst e
        exact List.mem_cons_self
      · exact List.mem_cons_of_mem _ (ih b x h)
    · exact List.mem_cons_of_mem _ (ih b x h)

/-- The heap at the beginning: all of it is but read. -/
def heap0 (l : List (Nat × ABlk)) (n : Nat) : AH := { tr := trOf l, next := n, low := n, hid := [] }

section
variable {ν : Nat → Int} {F : Facts} {P : Program}

theorem heap0_get {l : List (Nat × ABlk)} {n b : Nat} {x : ABlk} (h : (heap0 l n).get b = some x) : ∃ y, (b, y) ∈ l ∧ x = y.shut := by
  unfold heap0 AH.get at h
  simp only [hidden, Bool.false_eq_true, if_false] at h
  split at h
  · simp only [Option.map_eq_some_iff] at h
    obtain ⟨y, hy, rfl⟩ := h
    exact ⟨y, trOf_get l b y hy, rfl⟩
  · cases h

theorem heap0_rel {l : List (Nat × ABlk)} {n : Nat} {ρ : Emb} {w : World} (hl : ∀ p ∈ l, ∃ pl, ρ p.1 = some pl ∧ BR ν ρ w p.2.shut pl) : HR ν ρ (heap0 l n) w := by
  refine ⟨fun b x hx => ?_, fun b b' x x' pl pl' _ hx _ ho _ _ => ?_⟩
  · obtain ⟨y, hy, rfl⟩ := heap0_get hx
    exact hl _ hy
  · obtain ⟨y, hy, rfl⟩ := heap0_get hx
    cases ho

/-- WHAT THE MACHINE ANSWERS IS WHAT THE CALL ANSWERS. -/
theorem law_calls (hF : F.Hold ν) (hm : P.follows .mixedOrders = true) {tab : Nat → Option IFn} (ht : TabOk P tab) {l : List (Nat × ABlk)} {n fuel d f : Nat} {args : List AV} {vs : Array Value} {ρ : Emb} {w : World} {r : AV} {H' : AH}
    (h : callA F tab fuel d f args (heap0 l n) = some (r, H')) (hl : ∀ p ∈ l, ∃ pl, ρ p.1 = some pl ∧ BR ν ρ w p.2.shut pl) (hn : ∀ b, n ≤ b → ρ b = none) (hargs : LR ν ρ args vs) :
    Calls P f vs w fun e w' => ∃ v ρ', e = .returned v ∧ VR ν ρ' r v ∧ Below w.heap.size w w' := by
  refine ((callA_runs hF hm ht fuel d f args _ r H' h).2.2 ρ w vs hargs (heap0_rel hl) (fun b h1 _ => hn b h1)).mono ?_
  rintro e w' ⟨v, rfl, ρ', hv, _, hs⟩
  refine ⟨v, ρ', rfl, hv, ⟨hs.os, hs.tape, hs.output, hs.size, fun k hk => hs.frame k hk ?_⟩⟩
  rintro ⟨b, x, pl, h1, h2, _⟩
  obtain ⟨y, _, rfl⟩ := heap0_get h1
  cases h2

theorem law_true (hF : F.Hold ν) (hm : P.follows .mixedOrders = true) {tab : Nat → Option IFn} (ht : TabOk P tab) {l : List (Nat × ABlk)} {n fuel d f : Nat} {args : List AV} {vs : Array Value} {ρ : Emb} {w : World} {t : Bool} {H' : AH}
    (h : callA F tab fuel d f args (heap0 l n) = some (.b t, H')) (hl : ∀ p ∈ l, ∃ pl, ρ p.1 = some pl ∧ BR ν ρ w p.2.shut pl) (hn : ∀ b, n ≤ b → ρ b = none) (hargs : LR ν ρ args vs) :
    Calls P f vs w fun e w' => e = .returned (.bool t) ∧ Below w.heap.size w w' := by
  refine (law_calls hF hm ht h hl hn hargs).mono ?_
  rintro e w' ⟨v, ρ', rfl, hv, hb⟩
  cases hv
  exact ⟨rfl, hb⟩

end

def saysTrue : Option (AV × AH) → Bool
  | some (.b true, _) => true
  | _ => false

theorem saysTrue_some {x : Option (AV × AH)} (h : saysTrue x = true) : ∃ H', x = some (.b true, H') := by
  unfold saysTrue at h
  split at h
  · rename_i H'; exact ⟨H', rfl⟩
  · cases h

def tabOf : List (Nat × IFn) → Nat → Option IFn
  | [], _ => none
  | p :: r, f => if Nat.beq p.1 f then some p.2 else tabOf r f

theorem tab_nil {P : Program} : TabOk P (tabOf []) := fun f x h => by cases h

theorem tab_cons {P : Program} {f : Nat} {fn : Func} {x : IFn} {r : List (Nat × IFn)} (hf : P.funcs[f]? = some fn) (hx : cFn P fn = some x) (hr : TabOk P (tabOf r)) : TabOk P (tabOf ((f, x) :: r)) := by
  intro g y h
  simp only [tabOf] at h
  split at h
  · rename_i hb
    have := Nat.eq_of_beq_eq_true hb
    subst this
    cases h
    exact ⟨fn, hf, hx⟩
  · exact hr g y h

/-- Nothing is named. -/
def noFacts : Facts := ⟨[], []⟩
theorem noFacts_hold (ν : Nat → Int) : noFacts.Hold ν := ⟨(fun p hp => by cases hp), (fun p hp => by cases hp)⟩

def embF (g : Nat → Option Pl) : Emb where
  f := fun b => if b < gmax then some ⟨b, 0, 0⟩ else g b
  glob := fun b hb => ⟨0, by simp [hb]⟩

theorem embF_glob {g : Nat → Option Pl} {b : Nat} (h : b < gmax) : embF g b = some ⟨b, 0, 0⟩ := by
  show (if b < gmax then some ⟨b, 0, 0⟩ else g b) = _
  rw [if_pos h]

theorem embF_other {g : Nat → Option Pl} {b : Nat} (h : gmax ≤ b) : embF g b = g b := by
  show (if b < gmax then some ⟨b, 0, 0⟩ else g b) = _
  rw [if_neg (by omega)]

/-- A row of cells that are known. -/
theorem br_cells {ν : Nat → Int} {ρ : Emb} {w : World} {cs : List AV} {e : Nat} {pl : Pl} (hne : cs ≠ []) (hm : Nat.beq e mapTag = false) (h : ∀ (j : Nat) c, cs[j]? = some c → ∃ v, w.cell? ⟨pl.cb, pl.co + j, none⟩ = some v ∧ VR ν ρ c v) : BR ν ρ w (ABlk.shut ⟨cs, e, true⟩) pl := by
  cases cs with
  | nil => exact absurd rfl hne
  | cons c r =>
    obtain ⟨v, h1, _⟩ := h 0 c rfl
    unfold World.cell? at h1
    split at h1
    · rename_i C ty fz hC
      have hm' : e ≠ mapTag := fun h => by rw [h, Nat.beq_refl] at hm; cases hm
      refine ⟨fun _ => ⟨C, ty, fz, hC, fun j c' hc' => ?_, fun ho => by cases ho⟩, fun h => (hm' h).elim⟩
      obtain ⟨v', h2, h3⟩ := h j c' hc'
      simp only [World.cell?, hC] at h2
      exact ⟨v', by simpa using h2, h3⟩
    · cases h1

/-- The row's last step, where of the world behind the call this alone is known: what was there is as it was. -/
theorem post_below {H : Type} {enc : TypeId × Value → H} {P : Program} {f : Func} {s : ChangeSpec} {apart fresh handsOn again : Bool} {W W' : World} {args : Array Value} {v : Value} {ds gs : List (DataW H)} {before pa pv : List MemPlace}
    (hW : DataW.Whole enc P f.params.toList s.vars apart W args.toList ds gs before)
    (hr : ∀ (b : Nat) (sp : Nat → Bool) (hd : Bool), DataW.TrodAll enc P W' b sp hd f.resultTypes.toList (v.resultList f.resultTypes.size) (s.fn H (ds ++ gs)).results [])
    (ha : ∀ sp : Nat → Bool, (∀ p ∈ before, sp p.block = true) → DataW.TrodAll enc P W' 0 sp true f.params.toList args.toList (s.fn H (ds ++ gs)).args pa)
    (hv : ∀ sp : Nat → Bool, (∀ p ∈ before, sp p.block = true) → DataW.TrodVars enc P W' sp s.vars (s.fn H (ds ++ gs)).vars pv)
    (hps : before = pa ++ pv) (hb : Below W.heap.size W W')
    (hok : ∀ (j : Nat) (t : TypeId) (r : Value), f.resultTypes[j]? = some t → (v.resultList f.resultTypes.size)[j]? = some r → Value.okWide P W' .any 0 t r) :
    s.post enc P f apart fresh handsOn again W args v W' := by
  have lt : ∀ p ∈ before, p.block < W.heap.size := fun p hp => hW.lt p hp
  have sp0 : ∀ p ∈ before, (fun b => decide (b < W.heap.size)) p.block = true := fun p hp => by simpa using lt p hp
  refine ⟨ds, gs, before, [], pa, pv, hW, hr _ _ _, ha _ sp0, hv _ sp0, World.keptBut_mono (fun p hp => ⟨hp, ?_⟩) (hb.frame (· ∈ before)), fun _ => ?_⟩
  · rw [hps, List.mem_append] at hp
    exact .inr hp
  · obtain ⟨_, _, _, _, _, hz, hn⟩ := hW
    refine ⟨hok, _, _, ([] ++ pa) ++ pv, ⟨[] ++ pa, pv, trodAll_append (ha _ (fun _ _ => rfl)) (hr _ _ _), hv _ (fun _ _ => rfl), rfl, ?_, ?_⟩, ?_⟩
    · intro b off hp
      have hin : MemPlace.cell b off ∈ before := by rw [hps]; simpa using hp
      rw [hb.frozen (lt _ hin)]
      exact hz b off hin
    · intro hx
      have := hn hx
      rw [hps] at this
      simpa using this
    · intro p hp _
      rw [hps]
      simpa using hp

/-- An array of whole numbers, read: its cells. -/
theorem array_cells {H : Type} {enc : TypeId × Value → H} {P : Program} {w : World} {base : Nat} {spare : Nat → Bool} {held : Bool} {fuel : Nat} {t : TypeId} {cs : List Value} {n : Nat} {e : TypeId} {k : IntKind} {zs : List Int} {q : List MemPlace}
    (ht : P.underlying t = some (.array n e)) (he : P.underlying e = some (.int k)) (hc : P.cellsOf e = 1)
    (h : DataW.trod enc P w base spare held fuel t cs = some (.agg (zs.map fun z => .lit (.int k z)), q)) (j : Nat) (z : Int) (hz : zs[j]? = some z) : cs[j]? = some (.int k z) := by
  obtain ⟨xs, m, _, hx, _, hn, hel⟩ := DataW.trod_array ht h
  simp only [Prod.mk.injEq, DataW.agg.injEq] at hx
  have hlen : zs.length = n := by rw [← hn]; simpa using congrArg List.length hx.1
  have hj : j < n := by rw [← hlen]; exact (List.getElem?_eq_some_iff.1 hz).1
  have h1 := hel j hj
  rw [hc, Nat.mul_one] at h1
  have hjx : j < xs.length := by omega
  rw [List.getElem?_eq_getElem hjx] at h1
  obtain ⟨y, e1, e2, _⟩ := DataW.trod_int he h1
  have h2 : (zs.map fun z => (DataW.lit (.int k z) : DataW H))[j]? = (xs.map (·.1))[j]? := by rw [hx.1]
  rw [List.getElem?_map, List.getElem?_map, hz, List.getElem?_eq_getElem hjx, e2] at h2
  simp only [Option.map_some, Option.some.injEq, DataW.lit.injEq, Lit.int.injEq, true_and] at h2
  have h3 : ((cs.drop j).take 1)[0]? = some (.int k y) := by rw [e1]; rfl
  simp only [List.getElem?_take, List.getElem?_drop] at h3
  rw [h2]
  simpa using h3

end Go.Sh

/-
  ARGUMENTS THAT NEED NO MEMORY: opened, and shut again in any world; thirty-two bytes are a number. Own work.
-/
import Derived.Test.YtnlhpiieihnbiaaDoorSh1
import Derived.ProofKit
import Derived.OpenShut
namespace Go.Sh
open Go.ChangeShapes Go.WideShapes Go.ChangeAt Go.RowKit
set_option maxRecDepth 100000

/-- It reads as that, whatever the world. -/
def Plain {H : Type} (P : Program) (t : TypeId) (v : Value) (d : DataW H) : Prop := ∀ (enc : TypeId × Value → H) (W : World) (base : Nat) (sp : Nat → Bool) (held : Bool), DataW.Trod enc P W base sp held t v d []

theorem mapM_range' {α : Type} (f : Nat → Option α) : ∀ (l : List α) (s : Nat), (∀ (i : Nat) (hi : i < l.length), f (s + i) = some l[i]) → (List.range' s l.length).mapM f = some l
  | [], s, _ => rfl
  | a :: r, s, h => by
    have h0 := h 0 (by simp)
    have h1 := mapM_range' f r (s + 1) fun i hi => by
      have := h (i + 1) (by simpa using hi)
      rw [show s + 1 + i = s + (i + 1) by omega, this]
      simp
    rw [List.length_cons, List.range'_succ, List.mapM_cons]
    simp only [Nat.add_zero] at h0
    rw [h0, h1]
    rfl

section
variable {H : Type} {P : Program} {t e : TypeId} {n : Nat} {k : IntKind}

theorem plain_int (ht : P.underlying t = some (.int k)) {z : Int} (hw : (Lit.int k z).wf = true) : Plain (H := H) P t (.int k z) (.lit (.int k z)) := fun _ _ _ _ _ => shut_int ht hw
theorem plain_bool (ht : P.underlying t = some .bool) (b : Bool) : Plain (H := H) P t (.bool b) (.lit (.bool b)) := fun _ _ _ _ _ => shut_bool ht b

theorem plain_arr (hu : P.underlying t = some (.array n e)) (he : P.underlying e = some (.int k)) (hc : P.cellsOf e = 1) (hct : P.cellsOf t = n) (zs : List Int) (hz : zs.length = n) (wf : ∀ z ∈ zs, (Lit.int k z).wf = true) :
    Plain (H := H) P t (.agg (zs.map (Value.int k)).toArray) (.agg (zs.map fun z => .lit (.int k z))) := by
  intro enc W base sp held
  refine ⟨2, ?_⟩
  rw [DataW.trod_step]
  unfold DataW.trodStep
  simp only [hu, Value.cells]
  rw [if_pos (by rw [hct]; simpa using hz)]
  have key : (List.range n).mapM (fun i => DataW.trod enc P W base sp held 1 e (((zs.map (Value.int k)).toArray.toList.drop (i * P.cellsOf e)).take (P.cellsOf e))) = some (zs.map fun z => ((.lit (.int k z) : DataW H), ([] : List MemPlace))) := by
    rw [hc, List.range_eq_range']
    have hl : n = (zs.map fun z => ((.lit (.int k z) : DataW H), ([] : List MemPlace))).length := by simp [hz]
    conv => lhs; rw [hl]
    refine mapM_range' _ _ 0 fun i hi => ?_
    have hi' : i < zs.length := by simpa using hi
    have e1 : (((zs.map (Value.int k)).toArray.toList.drop ((0 + i) * 1)).take 1) = [Value.int k zs[i]] := by
      rw [Nat.zero_add, Nat.mul_one, List.toList_toArray, List.drop_eq_getElem_cons (by simpa using hi')]
      simp
    rw [e1]
    simp [DataW.trod, he, wf zs[i] (List.getElem_mem hi')]
  rw [key]
  simp [Function.comp_def, List.flatMap_eq_nil_iff]

theorem open_array (hu : P.underlying t = some (.array n e)) (he : P.underlying e = some (.int k)) (hc : P.cellsOf e = 1) (hct : P.cellsOf t = n) {enc : TypeId × Value → H} {w : World} {r : Reach} {b0 base : Nat} {sp : Nat → Bool} {held : Bool} {v : Value} {d : DataW H} {ps : List MemPlace}
    (hval : Value.okWide P w r b0 t v) (hd : DataW.Trod enc P w base sp held t v d ps) : ∃ zs : List Int, zs.length = n ∧ v = .agg (zs.map (Value.int k)).toArray ∧ (∀ z ∈ zs, (Lit.int k z).wf = true) ∧ ps = [] ∧ Plain P t v d := by
  simp only [Value.okWide, hu] at hval
  obtain ⟨cs, rfl, hsz, _⟩ := hval
  obtain ⟨fuel, hf⟩ := hd
  obtain ⟨xs, m, rfl, hx, hlen, hxl, hel⟩ := DataW.trod_array hu hf
  simp only [Prod.mk.injEq] at hx
  have hcs : cs.toList.length = n := by rw [hct] at hlen; simpa [Value.cells] using hlen
  have each : ∀ i, i < n → ∃ z, cs.toList[i]? = some (.int k z) ∧ xs[i]? = some (.lit (.int k z), []) ∧ (Lit.int k z).wf = true := by
    intro i hi
    have h1 := hel i hi
    rw [hc, Nat.mul_one] at h1
    have hix : i < xs.length := by omega
    rw [List.getElem?_eq_getElem hix] at h1
    obtain ⟨z, e1, e2, e3⟩ := DataW.trod_int he h1
    refine ⟨z, ?_, by rw [List.getElem?_eq_getElem hix, e2], e3⟩
    have h3 : ((cs.toList.drop i).take 1)[0]? = some (Value.int k z) := by
      have : ((Value.agg cs).cells.toList.drop i).take 1 = [Value.int k z] := e1
      rw [show (Value.agg cs).cells.toList = cs.toList from rfl] at this
      rw [this]; rfl
    simp only [List.getElem?_take, List.getElem?_drop] at h3
    simpa using h3
  let g : Value → Int := fun v => match v with | .int _ z => z | _ => 0
  have hcz : cs.toList = (cs.toList.map g).map (Value.int k) := by
    apply List.ext_getElem?
    intro i
    by_cases hi : i < n
    · obtain ⟨z, h1, _, _⟩ := each i hi
      rw [List.getElem?_map, List.getElem?_map, h1]
      rfl
    · rw [List.getElem?_eq_none (by omega), List.getElem?_eq_none (by simpa using by omega)]
  have hds : d = .agg ((cs.toList.map g).map fun z => .lit (.int k z)) := by
    rw [hx.1]
    congr 1
    apply List.ext_getElem?
    intro i
    by_cases hi : i < n
    · obtain ⟨z, h1, h2, _⟩ := each i hi
      rw [List.getElem?_map, List.getElem?_map, List.getElem?_map, h1, h2]
      rfl
    · rw [List.getElem?_eq_none (by simpa using by omega), List.getElem?_eq_none (by simpa using by omega)]
  have hwf : ∀ z ∈ cs.toList.map g, (Lit.int k z).wf = true := by
    intro z hz
    obtain ⟨i, hi, he⟩ := List.mem_iff_getElem.1 hz
    have hi' : i < n := by rw [← hcs]; simpa using hi
    obtain ⟨z', h1, _, h3⟩ := each i hi'
    have : (cs.toList.map g)[i]? = some z' := by rw [List.getElem?_map, h1]; rfl
    rw [List.getElem?_eq_getElem hi] at this
    rw [← he, Option.some.inj this]
    exact h3
  have hv : (Value.agg cs) = .agg ((cs.toList.map g).map (Value.int k)).toArray := by rw [← hcz]
  refine ⟨cs.toList.map g, by simpa using hcs, hv, hwf, ?_, ?_⟩
  · rw [hx.2, List.flatMap_eq_nil_iff]
    intro x hxm
    obtain ⟨i, hi, he⟩ := List.mem_iff_getElem.1 hxm
    obtain ⟨z, _, h2, _⟩ := each i (by omega)
    rw [List.getElem?_eq_getElem hi, he] at h2
    rw [Option.some.inj h2]
  · rw [hv, hds]
    exact plain_arr hu he hc hct _ (by simpa using hcs) hwf

end

theorem list32 {α : Type} (l : List α) (h : l.length = 32) : ∃ a0 a1 a2 a3 a4 a5 a6 a7 a8 a9 a10 a11 a12 a13 a14 a15 a16 a17 a18 a19 a20 a21 a22 a23 a24 a25 a26 a27 a28 a29 a30 a31 : α, l = [a0, a1, a2, a3, a4, a5, a6, a7, a8, a9, a10, a11, a12, a13, a14, a15, a16, a17, a18, a19, a20, a21, a22, a23, a24, a25, a26, a27, a28, a29, a30, a31] := by
  match l, h with
  | [a0, a1, a2, a3, a4, a5, a6, a7, a8, a9, a10, a11, a12, a13, a14, a15, a16, a17, a18, a19, a20, a21, a22, a23, a24, a25, a26, a27, a28, a29, a30, a31], _ => exact ⟨a0, a1, a2, a3, a4, a5, a6, a7, a8, a9, a10, a11, a12, a13, a14, a15, a16, a17, a18, a19, a20, a21, a22, a23, a24, a25, a26, a27, a28, a29, a30, a31, rfl⟩

theorem bL_of (b0 b1 b2 b3 b4 b5 b6 b7 : Nat) (l0 : b0 < 256) (l1 : b1 < 256) (l2 : b2 < 256) (l3 : b3 < 256) (l4 : b4 < 256) (l5 : b5 < 256) (l6 : b6 < 256) (l7 : b7 < 256) :
    bL (b0 + 256 * b1 + 65536 * b2 + 16777216 * b3 + 4294967296 * b4 + 1099511627776 * b5 + 281474976710656 * b6 + 72057594037927936 * b7) = [b0, b1, b2, b3, b4, b5, b6, b7] ∧
    b0 + 256 * b1 + 65536 * b2 + 16777216 * b3 + 4294967296 * b4 + 1099511627776 * b5 + 281474976710656 * b6 + 72057594037927936 * b7 < 18446744073709551616 := by
  refine ⟨?_, by omega⟩
  unfold bL
  simp only [List.cons.injEq, and_true]
  refine ⟨by omega, by omega, by omega, by omega, by omega, by omega, by omega, by omega⟩

theorem words_num (a b c d : Nat) (ha : a < 18446744073709551616) (hb : b < 18446744073709551616) (hc : c < 18446744073709551616) (hd : d < 18446744073709551616) : ∃ x, x < B4 ∧ w0 x = a ∧ w1 x = b ∧ w2 x = c ∧ w3 x = d := by
  obtain ⟨h0, h1, h2, h3, h4⟩ := dig4 (e := 0) ha hb hc hd (x := a + b * 18446744073709551616 + c * 340282366920938463463374607431768211456 + d * 6277101735386680763835789423207666416102355444464034512896) (by omega)
  exact ⟨_, by unfold B4; omega, h0, h1, h2, h3⟩

/-- Thirty-two bytes are a number. -/
theorem bytes_num (zs : List Int) (hl : zs.length = 32) (hw : ∀ z ∈ zs, (Lit.int .u8 z).wf = true) : ∃ x, x < B4 ∧ (Value.agg (zs.map (Value.int .u8)).toArray) = byt x := by
  have hn : ∃ bs : List Nat, bs.length = 32 ∧ zs = bs.map (fun b : Nat => (b : Int)) ∧ ∀ b ∈ bs, b < 256 := by
    refine ⟨zs.map Int.toNat, by simpa using hl, ?_, fun b hb => ?_⟩
    · rw [List.map_map]
      apply List.ext_getElem?
      intro i
      rw [List.getElem?_map]
      cases h : zs[i]? with
      | none => rfl
      | some z =>
        have := hw z (List.mem_of_getElem? h)
        simp [Lit.wf, IntKind.min, IntKind.max, IntKind.signed, IntKind.bits] at this
        simp only [Option.map_some, Function.comp_apply, Option.some.injEq]
        omega
    · obtain ⟨z, hz, rfl⟩ := List.mem_map.1 hb
      have := hw z hz
      simp [Lit.wf, IntKind.min, IntKind.max, IntKind.signed, IntKind.bits] at this
      omega
  obtain ⟨l, hlen, rfl, hb⟩ := hn
  obtain ⟨b0, b1, b2, b3, b4, b5, b6, b7, b8, b9, b10, b11, b12, b13, b14, b15, b16, b17, b18, b19, b20, b21, b22, b23, b24, b25, b26, b27, b28, b29, b30, b31, rfl⟩ := list32 l hlen
  simp only [List.mem_cons, List.not_mem_nil, or_false, forall_eq_or_imp, forall_eq] at hb
  obtain ⟨l0, l1, l2, l3, l4, l5, l6, l7, l8, l9, l10, l11, l12, l13, l14, l15, l16, l17, l18, l19, l20, l21, l22, l23, l24, l25, l26, l27, l28, l29, l30, l31⟩ := hb
  obtain ⟨e0, g0⟩ := bL_of b0 b1 b2 b3 b4 b5 b6 b7 l0 l1 l2 l3 l4 l5 l6 l7
  obtain ⟨e1, g1⟩ := bL_of b8 b9 b10 b11 b12 b13 b14 b15 l8 l9 l10 l11 l12 l13 l14 l15
  obtain ⟨e2, g2⟩ := bL_of b16 b17 b18 b19 b20 b21 b22 b23 l16 l17 l18 l19 l20 l21 l22 l23
  obtain ⟨e3, g3⟩ := bL_of b24 b25 b26 b27 b28 b29 b30 b31 l24 l25 l26 l27 l28 l29 l30 l31
  obtain ⟨x, hx, h0, h1, h2, h3⟩ := words_num _ _ _ _ g0 g1 g2 g3
  refine ⟨x, hx, ?_⟩
  unfold byt byL
  rw [h0, h1, h2, h3, e0, e1, e2, e3]
  rfl

end Go.Sh

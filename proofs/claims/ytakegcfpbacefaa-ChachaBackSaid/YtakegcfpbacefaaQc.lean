/-
  chacha.Block and the page's: one block of numbers. Own work.
-/
import Derived.Test.YtakegcfpbacefaaQb
namespace Go.Proofs.Ytakegcfpbacefaa
open Go.Sh
open Go.ChangeShapes Go.WideShapes Go.ChangeAt Go.RowKit
set_option maxRecDepth 100000

theorem fn_there {f : Nat} {g : IFn} (hf : tree.get f = some g) : ∃ fn, Try.prog.funcs[f]? = some fn ∧ fn.body.isSome = true ∧ (fn.name == "runtime.NumGoroutine") = false := by
  obtain ⟨fn, g1, g2⟩ := tab_ok f _ hf
  unfold cFn at g2
  split at g2
  case h_2 => cases g2
  rename_i c hb
  split at g2
  case h_2 => cases g2
  rename_i ic' rs' hic hrs
  split at g2
  case isFalse => cases g2
  rename_i hname
  exact ⟨fn, g1, by rw [hb]; rfl, by simpa using hname⟩
/-- Key, nonce, counter. -/
def nuK0 (K : Wd) (c : Int) (Nn : Wd) : Wd := fun k => if k < 32 then K k else if k < 44 then Nn (k - 32) else c
def stI (K : Wd) (c : Int) (Nn : Wd) : Nat → Wd
  | 0 => fun j => (inA j).val (nuK0 K c Nn)
  | i + 1 => qI i (stI K c Nn i)
/-- THE BLOCK. -/
def blkI (K : Wd) (c : Int) (Nn : Wd) : Wd := fun j => IntKind.u8.wrap (arith .shr .u32 (arith .add .u32 (stI K c Nn 80 (j / 4)) (stI K c Nn 0 (j / 4))) ((8 * (j % 4) : Nat) : Int))
def nuK (K : Wd) (c : Int) (Nn : Wd) : Nat → Int := fun k => if k < 100 then nuK0 K c Nn k else stI K c Nn ((k - 100) / 16) ((k - 100) % 16)
section
variable {K Nn : Wd} {c : Int}
theorem nuK_lo {k : Nat} (h : k < 100) : nuK K c Nn k = nuK0 K c Nn k := if_pos h
theorem nuK_st {i j : Nat} (hj : j < 16) : nuK K c Nn (100 + 16 * i + j) = stI K c Nn i j := by
  unfold nuK
  rw [if_neg (by omega), show (100 + 16 * i + j - 100) / 16 = i by omega, show (100 + 16 * i + j - 100) % 16 = j by omega]
theorem leA_val {a : Nat} (h : a + 3 < 100) : (leA a).val (nuK K c Nn) = (leA a).val (nuK0 K c Nn) := by
  simp only [leA, nA, AI.val, nuK_lo (show a < 100 by omega), nuK_lo (show a + 1 < 100 by omega), nuK_lo (show a + 2 < 100 by omega), nuK_lo h]
theorem inA_val {j : Nat} : (inA j).val (nuK K c Nn) = stI K c Nn 0 j := by
  show _ = (inA j).val (nuK0 K c Nn)
  unfold inA
  split
  · rfl
  · rfl
  · rfl
  · rfl
  · exact leA_val (by decide)
  · exact leA_val (by decide)
  · exact leA_val (by decide)
  · exact leA_val (by decide)
  · exact leA_val (by decide)
  · exact leA_val (by decide)
  · exact leA_val (by decide)
  · exact leA_val (by decide)
  · exact nuK_lo (by decide)
  · exact leA_val (by decide)
  · exact leA_val (by decide)
  · exact leA_val (by decide)
theorem stA_val {i j : Nat} (hj : j < 16) : (stA i j).val (nuK K c Nn) = stI K c Nn i j := by
  unfold stA
  split
  · rename_i h
    have := Nat.eq_of_beq_eq_true h
    subst this
    exact inA_val
  · exact nuK_st hj
theorem rowsQ_ok {fq b : Nat} (hq : tree.get fq = some ⟨qtB, [], 126⟩) : ∀ r ∈ rowsQ fq b, r.Ok (nuK K c Nn) Try.prog [] := by
  intro r hr
  obtain ⟨i, hi, rfl⟩ := List.mem_map.1 hr
  refine rowU_q hq fun j hj => ?_
  rw [stA_val hj]
  exact qI_congr (fun j hj => (stA_val hj).symm) hj
theorem sumA_val {j : Nat} (hj : j < 16) : (sumA j).val (nuK K c Nn) = arith .add .u32 (stI K c Nn 80 j) (stI K c Nn 0 j) := by
  show arith .add .u32 (nuK K c Nn (1380 + j)) ((inA j).val (nuK K c Nn)) = _
  rw [inA_val, show 1380 + j = 100 + 16 * 80 + j by omega, nuK_st hj]
theorem obP_val {j : Nat} (hj : j < 64) : (obP j).val (nuK K c Nn) = blkI K c Nn j := by
  show IntKind.u8.wrap (arith .shr .u32 ((sumA (j / 4)).val (nuK K c Nn)) ((8 * (j % 4) : Nat) : Int)) = _
  rw [sumA_val (by omega)]
  rfl
theorem shr0 (x : Int) : arith .shr .u32 x ((0 : Nat) : Int) = x := by
  show x.fdiv (2 ^ (min ((0 : Nat) : Int).toNat 32)) = x
  simp
theorem obA_val {j : Nat} (hj : j < 64) : (obA j).val (nuK K c Nn) = blkI K c Nn j := by
  rw [← obP_val hj]
  unfold obA obP
  split
  · rename_i h
    have h := Nat.eq_of_beq_eq_true h
    rw [h]
    show IntKind.u8.wrap ((sumA (j / 4)).val (nuK K c Nn)) = IntKind.u8.wrap (arith .shr .u32 ((sumA (j / 4)).val (nuK K c Nn)) ((0 : Nat) : Int))
    rw [shr0]
  · rfl
end
theorem block_gen {f fq N n b : Nat} {ic : IC} {g : Nat → AI} {K Nn : Wd} {c : Int} (hf : tree.get f = some ⟨ic, [.c 6 (some 64)], N⟩) (hq : tree.get fq = some ⟨qtB, [], 126⟩) (hN : 3 ≤ N) (hgo : goesX noFacts tree [] [] [] [] (rowsQ fq b) 300 4 ic bk0 .ret (bkZ g n) = true)
    (hres : resA (trL (bkZ g n).e) (heapL ((bkZ g n).H ++ []) n) [.c 6 (some 64)] = some (.ag (rowC .u8 g 64))) (hg : ∀ j, j < 64 → (g j).val (nuK K c Nn) = blkI K c Nn j) :
    Pure Try.prog f [aggI .u8 32 K, .int .u32 c, aggI .u8 12 Nn] (aggI .u8 64 (blkI K c Nn)) := by
  refine .inl ⟨fn_there hf, fun w => ?_⟩
  have e1 : conc2 (nuK K c Nn) kyS = some (aggI .u8 32 K) := by
    show conc2 _ (.ag (rowC .u8 (nmA 0) (31 + 1))) = _
    rw [conc2_row]
    exact congrArg some (aggI_congr fun j hj => by show nuK K c Nn (0 + j) = _; rw [Nat.zero_add, nuK_lo (by omega)]; exact if_pos hj)
  have e2 : conc2 (nuK K c Nn) noS = some (aggI .u8 12 Nn) := by
    show conc2 _ (.ag (rowC .u8 (nmA 32) (11 + 1))) = _
    rw [conc2_row]
    exact congrArg some (aggI_congr fun j hj => by show nuK K c Nn (32 + j) = _; rw [nuK_lo (by omega)]; unfold nuK0; rw [if_neg (by omega), if_pos (by omega), Nat.add_sub_cancel_left])
  have start := holdsX_start (N := N) (ν := nuK K c Nn) (L := []) (fx := []) (kp := []) (vs := #[aggI .u8 32 K, .int .u32 c, aggI .u8 12 Nn]) (e0 := bk0.e) (H0 := []) (n0 := 64) gl0_ok (w := w) (fun p hp => by cases hp) (fun _ => none) hN (by decide) (fun _ _ => rfl) (fun p hp => by cases hp)
    (fun p hp => by
      simp only [bk0, List.mem_cons, List.not_mem_nil, or_false] at hp
      rcases hp with rfl | rfl | rfl
      · exact ⟨_, rfl, (conc2_vr e1).1⟩
      · exact ⟨_, rfl, .i .u32 (.s 44)⟩
      · exact ⟨_, rfl, (conc2_vr e2).1⟩)
    (fun p hp => by cases hp) (fun p hp => by cases hp)
  refine (callsX (L := []) (gl := []) (Q := fun v w' => v = aggI .u8 64 (blkI K c Nn) ∧ Below w.heap.size w w') tab_ok hf rfl start ?_).2.mono fun e w' ⟨v, he, hv, hB⟩ => ⟨by rw [he, hv], hB⟩
  refine (Tri.runX (L := []) (none_f _) mixed tab_ok gl0_ok (fun r hr => by cases hr) (fun r hr => by cases hr) (fun r hr => by cases hr) (rowsQ_ok hq) hgo).weak (fun _ _ h => h) fun ex a w' h => ⟨.inr h.1, _, bkZ g n, .ag (rowC .u8 g 64), [], [], h.2, hres, fun ρ v _ _ _ hB hv => ⟨?_, ⟨hB.os, hB.tape, hB.output, hB.size, fun k hk => hB.block k hk fun p hp => by cases hp⟩⟩⟩
  refine (conc2_vr ?_).2 v hv
  show conc2 _ (.ag (rowC .u8 g (63 + 1))) = _
  rw [conc2_row]
  exact congrArg some (aggI_congr hg)
theorem Block_ok (K : Wd) (c : Int) (Nn : Wd) : Pure Try.prog 6 [aggI .u8 32 K, .int .u32 c, aggI .u8 12 Nn] (aggI .u8 64 (blkI K c Nn)) :=
  block_gen (by rw [← bk_shape]; kernel_rfl) (by rw [← qt_shape]; kernel_rfl) (by decide) bk_go (by kernel_rfl) fun j hj => obA_val hj
theorem PBlock_ok (K : Wd) (c : Int) (Nn : Wd) : Pure Try.prog 7 [aggI .u8 32 K, .int .u32 c, aggI .u8 12 Nn] (aggI .u8 64 (blkI K c Nn)) :=
  block_gen (by rw [← bk_shapeP]; kernel_rfl) (by rw [← qt_shapeP]; kernel_rfl) (by decide) bk_goP (by kernel_rfl) fun j hj => obP_val hj
/-- A call of it, as a row. -/
theorem rowBlk {f : Nat} (h : ∀ K c Nn, Pure Try.prog f [aggI .u8 32 K, .int .u32 c, aggI .u8 12 Nn] (aggI .u8 64 (blkI K c Nn))) {ν : Nat → Int} {ka no out : Nat → AI} {ct : AI} (ho : ∀ j, j < 64 → (out j).val ν = blkI (fun j => (ka j).val ν) (ct.val ν) (fun j => (no j).val ν) j) :
    Row.Ok ν Try.prog ⟨f, [.ag (rowC .u8 ka 32), .i .u32 ct, .ag (rowC .u8 no 12)], .ag (rowC .u8 out 64)⟩ := by
  refine ⟨_, _, ?_, ?_, h (fun j => (ka j).val ν) (ct.val ν) (fun j => (no j).val ν)⟩
  · have e1 : conc2 ν (.ag (rowC .u8 ka (31 + 1))) = _ := conc2_row .u8 ka 31
    have e2 : conc2 ν (.ag (rowC .u8 no (11 + 1))) = _ := conc2_row .u8 no 11
    simp only [concT]
    rw [e1, e2]
    rfl
  · show conc2 ν (.ag (rowC .u8 out (63 + 1))) = _
    rw [conc2_row]
    exact congrArg some (aggI_congr ho)
/-- It hangs on key and nonce alone as far as they go. -/
theorem stI_congr {K K' Nn Nn' : Wd} {c : Int} (hK : ∀ j, j < 32 → K j = K' j) (hN : ∀ j, j < 12 → Nn j = Nn' j) : ∀ i j, j < 16 → stI K c Nn i j = stI K' c Nn' i j
  | 0, j, hj => by
    have e : ∀ k, nuK0 K c Nn k = nuK0 K' c Nn' k := fun k => by
      unfold nuK0
      split
      · exact hK _ (by assumption)
      · split
        · exact hN _ (by omega)
        · rfl
    show (inA j).val (nuK0 K c Nn) = (inA j).val (nuK0 K' c Nn')
    rw [show nuK0 K c Nn = nuK0 K' c Nn' from funext e]
  | i + 1, j, hj => qI_congr (fun j hj => stI_congr hK hN i j hj) hj
theorem blkI_congr {K K' Nn Nn' : Wd} {c : Int} (hK : ∀ j, j < 32 → K j = K' j) (hN : ∀ j, j < 12 → Nn j = Nn' j) {j : Nat} (hj : j < 64) : blkI K c Nn j = blkI K' c Nn' j := by
  unfold blkI
  rw [stI_congr hK hN 80 _ (by omega), stI_congr hK hN 0 _ (by omega)]
end Go.Proofs.Ytakegcfpbacefaa

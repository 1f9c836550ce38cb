/-
  DISK: wide values built, loaded, stored. Own work.
-/
import Derived.Test.YtafpfiadapabaaaDoorDKd
namespace Go.Proofs.YtafpfiadapabaaaDoor
open Go.ChangeShapes Go.WideShapes Go.ChangeAt Go.RowKit Go.Maps
set_option maxRecDepth 100000
theorem fold_setL : ∀ (bs : List Value) (k off : Nat) (Z : Array Value), ((bs.zipIdx k).foldl (fun (cs : Array Value) (x : Value × Nat) => cs.setIfInBounds (off + x.2) x.1) Z).toList = setL Z.toList (off + k) bs
  | [], k, off, Z => rfl
  | b :: bs, k, off, Z => by
    rw [List.zipIdx_cons, List.foldl_cons, fold_setL bs (k + 1) off, setL]
    simp [Array.toList_setIfInBounds, Nat.add_assoc]
theorem setL_mid (A X Y B : List Value) (h : X.length = B.length) : setL (A ++ (X ++ Y)) A.length B = A ++ (B ++ Y) := by
  apply List.ext_getElem?
  intro k
  rw [setL_get]
  by_cases h1 : A.length ≤ k ∧ k < A.length + B.length ∧ k < (A ++ (X ++ Y)).length
  · rw [if_pos h1, List.getElem?_append_right h1.1, List.getElem?_append_left (by omega)]
  · rw [if_neg h1]
    simp only [List.length_append] at h1
    by_cases h2 : k < A.length
    · rw [List.getElem?_append_left h2, List.getElem?_append_left h2]
    · rw [List.getElem?_append_right (by omega), List.getElem?_append_right (by omega), List.getElem?_append_right (by omega), List.getElem?_append_right (by omega), h]
theorem fill_one (place : Nat → Option (Nat × Nat)) (Z : Array Value) (i off : Nat) (B : List Value) (rest : List (Nat × Value)) (hp : place i = some (off, B.length)) (hf : off + B.length ≤ Z.size) : Instr.fill place Z ((i, .agg B.toArray) :: rest) = Instr.fill place (setL Z.toList off B).toArray rest := by
  have e : (B.toArray.zipIdx.foldl (fun (cs : Array Value) (x : Value × Nat) => cs.setIfInBounds (off + x.2) x.1) Z) = (setL Z.toList off B).toArray := by
    have h := fold_setL B 0 off Z
    rw [Nat.add_zero] at h
    rw [← Array.foldl_toList, ← h]
    simp
  rw [Instr.fill]
  simp only [hp, Value.cells, List.size_toArray]
  rw [if_neg (by simp; omega), e]
theorem built_struct {P : Program} {t : TypeId} {z : Value} {places : List (Nat × Nat)} (h1 : (P.info? t).map (·.zero) = some (some z)) (h2 : (match P.underlying t with | some (.struct fs) => fs.toList.mapM (fun f => (P.info? f.type).map fun i => (f.offset, i.size)) | _ => none) = some places) (ps : List (Nat × Value)) : P.built t ps = Instr.fill (places.toArray[·]?) z.cells ps := by
  unfold Program.built
  cases hi : P.info? t with
  | none => simp [hi] at h1
  | some it =>
    split at h2
    · rename_i fs hu
      simp [hi] at h1
      simp [hu, h1, h2]
    · cases h2
def zwri : Value := .agg (wv (0, List.replicate 64 0)).toArray
def zw : Array Value := zwri.cells
theorem wri_info : (Tryd.prog.info? 69).map (fun i => (i.zero, i.size, i.bytes)) = some (some zwri, 65, 72) := by kernel_rfl
theorem bytes_len (bs : List Int) : (bs.map (Value.int .u8)).length = bs.length := by simp
theorem build_sec (bs : List Int) (h : bs.length = 64) (w : World) : (Instr.build 71 #[(0, .agg (bs.map (Value.int .u8)).toArray)]).run Tryd.prog w = .ok (.agg (sv (bs, false)).toArray) w := by
  refine run_build w _ _ _ ?_
  rw [built_struct (P := Tryd.prog) (t := 71) (z := zval) (places := [(0, 64), (64, 1)]) (by kernel_rfl) (by kernel_rfl), fill_one _ _ 0 0 _ [] (by simp [h]) (by simp [h, sv, zval_cells, zsec])]
  have := setL_mid [] (List.replicate 64 (.int .u8 0)) [.bool false] (bs.map (Value.int .u8)) (by simp [h])
  simp only [List.nil_append, List.length_nil] at this
  rw [show zval.cells.toList = List.replicate 64 (.int .u8 0) ++ [.bool false] from rfl, this]
  rfl
theorem fill_int (place : Nat → Option (Nat × Nat)) (Z : Array Value) (i off : Nat) (x : Int) (rest : List (Nat × Value)) (hp : place i = some (off, 1)) (hf : off + 1 ≤ Z.size) : Instr.fill place Z ((i, .int .i64 x) :: rest) = Instr.fill place (Z.setIfInBounds off (.int .i64 x)) rest := by
  rw [Instr.fill]
  simp only [hp]
  split
  · rename_i hx
    simp [Value.cells] at hx
    omega
  · rfl
theorem build_wri (i : Int) (bs : List Int) (h : bs.length = 64) (w : World) : (Instr.build 69 #[(0, .int .i64 i), (1, .agg (bs.map (Value.int .u8)).toArray)]).run Tryd.prog w = .ok (.agg (.int .i64 i :: bs.map (Value.int .u8)).toArray) w := by
  refine run_build w _ _ _ ?_
  rw [built_struct (P := Tryd.prog) (t := 69) (z := zwri) (places := [(0, 1), (1, 64)]) (by kernel_rfl) (by kernel_rfl), fill_int _ _ 0 0 _ _ rfl (by decide), fill_one _ _ 1 1 _ [] (by simp [h]) (by simp [h, zwri, Value.cells, wv])]
  have := setL_mid [.int .i64 i] (List.replicate 64 (.int .u8 0)) [] (bs.map (Value.int .u8)) (by simp [h])
  simp only [List.append_nil, List.length_singleton] at this
  rw [show (zwri.cells.setIfInBounds 0 (.int .i64 i)).toList = [.int .i64 i] ++ List.replicate 64 (.int .u8 0) from rfl, this]
  rfl
theorem alloc_wri (x : Value) (w : World) : (Instr.alloc 69 true x).run Tryd.prog w = .ok (.pointer (some ⟨w.heap.size, 0, none⟩)) (w.alloc (.cells zw 69)) := by
  show _ = Result.ok _ (w.alloc (.cells zwri.cells 69))
  obtain ⟨i0, hi, hz0, hz1, hz2⟩ := info_parts wri_info
  simp [Instr.alloc, zeroValue, typeInfo, hi, hz0, newVar, newRow]
theorem slice_wri (C : List Value) (h : C.length = 65) (w : World) : (Instr.buildSlice 52 1 #[(0, .agg C.toArray)]).run Tryd.prog w = .ok (.slice (some ⟨w.heap.size, 0, none⟩) 1 1) (w.alloc (.cells C.toArray 69)) := by
  obtain ⟨i0, hi, hz0, hz1, hz2⟩ := info_parts wri_info
  have hf : Instr.fill (fun i => some (i * 65, 65)) ((Array.range (1 * 65)).map (zwri.cells[· % zwri.cells.size]!)) [(0, .agg C.toArray)] = some C.toArray := by
    rw [fill_one _ _ 0 0 _ [] (by simp [h]) (by simp [h])]
    have := setL_mid [] ((Array.range (1 * 65)).map (zwri.cells[· % zwri.cells.size]!)).toList [] C (by simp [h])
    simp only [List.nil_append, List.append_nil, List.length_nil] at this
    rw [this]
    rfl
  have hu := Tryd.underlying52
  simp only [Instr.buildSlice, Sem.run_bind, run_underlying hu, Result.andThen_ok, sizeOf, typeInfo]
  simp [hi, hz0, hz1, zeroValue, typeInfo, hf, newRow]
end Go.Proofs.YtafpfiadapabaaaDoor

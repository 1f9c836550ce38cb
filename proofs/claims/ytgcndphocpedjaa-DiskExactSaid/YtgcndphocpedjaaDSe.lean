/-
  DISKEXACT: an act on both: Write. Own work.
-/
import Derived.Test.YtgcndphocpedjaaDSd
namespace Go.Proofs.Ytgcndphocpedjaa
open Go.ChangeShapes Go.WideShapes Go.ChangeAt Go.RowKit Go.Maps Go.Deep
set_option maxRecDepth 100000
attribute [local go_sem ↓] Go.wp_at_zero Go.wp_at_succ
section
variable {w0 w w' : World} {db pb n m : Nat} {d d1 d2 : Dk} {A : PA} {vs vn vw vk : Value} {R R1 R2 Mb Mc : List RowD}
theorem Fam.dropH {rs : List RowD} {r : RowD} (T : Fam w0 w (r :: rs)) (hK : Keeps (fun k => r.v.ownBlock = some k) w w') : Fam w0 w' rs := by
  have T1 : Fam w0 w rs := T.reidx (fun i => i + 1) (fun i j _ _ h => by simpa using h) (fun i s hs => by simpa using hs)
  refine T1.keeps hK (fun k hk => (row_base (T.row 0 r rfl) hk).1) (fun i s hs k hk he => ?_)
  exact T.apart (i + 1) 0 s r (by simpa using hs) rfl (by omega) k hk he
theorem Mid.dropM {r : RowD} (T : Mid w0 w db pb n d1 d2 A vs vn vw vk (R1 ++ ([r] ++ R2)) Mb) (hsub : ∀ r ∈ Mb, r ∈ R1 ++ R2) (hK : Keeps (fun k => r.v.ownBlock = some k) w w') : Mid w0 w' db pb n d1 d2 A vs vn vw vk (R1 ++ R2) Mb := by
  have F := T.fam
  rw [← List.append_assoc, ← List.append_assoc] at F
  have F2 := F.swap.dropH hK
  rw [List.append_assoc, List.append_assoc] at F2
  exact ⟨F2, T.ok1, T.ok2, T.ls, T.s, T.lw, T.w, hsub⟩
/-- What both answer to a Write that writes nothing. -/
theorem writes (T : Bt w0 w db pb n m d A vs vn vw vk R Mb) {w1 : World} {R1 Mc : List RowD} (M : Mid w0 w1 db pb n d d A vs vn vw vk R1 Mc) (i : Int) (p q : Option Addr) (l c e : Nat) : (∃ z : Int, Calls Try.prog 14 #[.pointer (some ⟨db, 0, none⟩), .int .i64 i, .slice p l c] w1 (fun e w' => e = .returned (.int .i64 z) ∧ w' = w1) ∧ Calls Try.prog 30 #[.pointer (some ⟨pb, 0, none⟩), .int .i64 i, .slice q l e] w1 (fun e w' => e = .returned (.int .i64 z) ∧ w' = w1)) ∨ (∃ k : Nat, i = k ∧ k < n ∧ l = 64 ∧ d.off = false) := by
  by_cases ho : d.off = true
  · exact .inl ⟨9, write_off M.dsk ho i _, pwrite_off M.pg ho i _⟩
  · have ho : d.off = false := by simpa using ho
    by_cases hi : 0 ≤ i ∧ i < (n : Int)
    · by_cases hl : l = 64
      · exact .inr ⟨i.toNat, by omega, by omega, hl, ho⟩
      · exact .inl ⟨2, write_len M.dsk ho i hi p l c hl, pwrite_len M.pg ho i hi q l e hl⟩
    · exact .inl ⟨1, write_arg M.dsk ho i hi _, pwrite_arg M.pg ho i hi _⟩
/-- Behind the bytes, and a copy of them: the two writes, and what is looked at. -/
theorem Bt.wroteOk (T : Bt w0 w db pb n m d A vs vn vw vk R Mb) (i : Nat) (bs : List Int) {us un uw uk u : Value} {A' : PA} {R' Mc : List RowD} (hpk : A'.pk = A.pk) (hpt : A'.pt = A.pt) (hl : d.left ≠ 1) (M : Mid w0 w' db pb n { d with wr := d.wr ++ [(i, bs)], left := d.left - 1, now := d.now.set i (bs, false) } { d with wr := d.wr ++ [(i, bs)], left := d.left - 1, now := d.now.set i (bs, false) } A' us un uw uk R' Mc) : Bx w0 w' db pb n (m + 1) := by
  have hls : d.now.length = d.safe.length := by rw [T.mid.ok1.ln, T.mid.ok1.ls]
  refine ⟨_, _, _, _, _, _, _, _, M, T.now.wrote hls i bs _, fun h => ?_, ?_, by simp; exact T.len⟩
  · simp only at h
    obtain ⟨h1, h2⟩ := T.arm (by omega)
    exact ⟨hpk.trans h1, hpt.trans h2⟩
  · have := T.small
    unfold Small at this ⊢
    simp only
    omega
theorem Bx.more (h : Bx w0 w db pb n m) : Bx w0 w db pb n (m + 1) := by
  obtain ⟨d, A, vs, vn, vw, vk, R, Mb, T⟩ := h
  exact ⟨d, A, vs, vn, vw, vk, R, Mb, T.mid, T.now, T.arm, T.small, by have := T.len; omega⟩
end
end Go.Proofs.Ytgcndphocpedjaa

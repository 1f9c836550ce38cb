/-
  TERMKEYS: one arena and a row of one's own beside it. Own work.
-/
import Derived.Test.YtehkfgjnapjefaaSPl
namespace Go.Proofs.Ytehkfgjnapjefaa
open Go.RowKit Go.Maps
set_option maxRecDepth 100000
structure OneI (w wr : World) (aa : Nat) (L : List Tm) (v : Value) (xs : List Int) : Prop where
  ex : ∃ Fa : Nat → Prop, Ar wr aa L Fa ∧ (∀ k, Fa k → w.heap.size ≤ k) ∧ (∀ k, v.ownBlock = some k → ¬ Fa k ∧ k < wr.heap.size)
  row : IRow wr v xs
  below : Below w.heap.size w wr
section
variable {w wr w' : World} {aa n : Nat} {L : List Tm} {u v : Value} {xs ys : List Int}
theorem OneI.step (T : OneI w wr aa L v xs) (hB : Below wr.heap.size wr w') : OneI w w' aa L v xs := by
  obtain ⟨Fa, A, r, r2⟩ := T.ex
  exact ⟨⟨Fa, A.below hB, r, fun k hk => ⟨(r2 k hk).1, Nat.lt_of_lt_of_le (r2 k hk).2 hB.size⟩⟩, row_keeps (F := fun _ => False) T.row (Keeps.of_below hB) (fun _ _ h => h), T.below.trans (hB.mono T.below.size)⟩
theorem OneI.alloc (T : OneI w wr aa L v xs) (o : Obj) : OneI w (wr.alloc o) aa L v xs := T.step ((Below.refl _ wr).alloc (Nat.le_refl _) o)
theorem some_one (T : One w wr aa L) (h : RdW w u ys) (n : Nat) (h4 : ys.length ≤ 1000) : Calls Try.prog 18 #[u, .int .i64 n] wr fun e w' => ∃ p c, e = .returned (.slice p (ys.map (someI n)).length c) ∧ OneI w w' aa L (.slice p (ys.map (someI n)).length c) (ys.map (someI n)) := by
  obtain ⟨Fa, A, r⟩ := T.ex
  refine (some_ok (h.below T.below) n (by omega) h4).mono ?_
  rintro e w' ⟨p, c, rfl, hown, hB⟩
  rw [List.length_map]
  exact ⟨p, c, rfl, ⟨Fa, A.below hB, r, fun k hk => ⟨fun h => by have := A.lt k h; have := (row_base hown hk).1; omega, (row_base hown hk).2⟩⟩, irow_of hown, T.below.trans (hB.mono T.below.size)⟩
theorem make_i (T : OneI w wr aa L v xs) (k n : Int) (hu : Reads wr u ys) (hn : n < 9223372036854775808) {a s : Int} {L' : List Tm} (hp : put L (k, n, ys) = (a, s, L')) : Calls Try.prog 29 #[.pointer (some ⟨aa, 0, none⟩), .int .i64 k, .int .i64 n, u] wr fun e w' => e = .returned (.tuple #[.int .i64 a, .int .i64 s]) ∧ OneI w w' aa L' v xs := by
  obtain ⟨Fa, A, r, r2⟩ := T.ex
  refine (make_ok A k n hu hn).mono ?_
  rintro e w' ⟨rfl, F', A', K, hF⟩
  rw [hp] at A' ⊢
  refine ⟨rfl, ⟨F', A', fun k hk => ?_, fun k hk => ⟨fun h => ?_, Nat.lt_of_lt_of_le (r2 k hk).2 K.size⟩⟩, row_keeps T.row K (fun k hk => (r2 k hk).1), T.below.trans (K.below T.below.size r)⟩
  · rcases hF k hk with h | h
    · exact r k h
    · have := T.below.size
      omega
  · rcases hF k h with h | h
    · exact (r2 k hk).1 h
    · have := (r2 k hk).2
      omega
theorem TellsRow.tells {a : List Int × Int} {e : Ending} (h : TellsRow wr a e w') : ∃ p c, e = .returned (.tuple #[.slice p a.1.length c, .int .i64 a.2]) ∧ IRow w' (.slice p a.1.length c) a.1 ∧ Below wr.heap.size wr w' := by
  obtain ⟨p, c, rfl, hown, hB⟩ := h
  exact ⟨p, c, rfl, irow_of hown, hB⟩
theorem open_i (T : OneI w wr aa L v xs) (i k : Int) {zs : List Int} {s : Int} (ho : openOf L i k = (zs, s)) : Calls Try.prog 19 #[.pointer (some ⟨aa, 0, none⟩), .int .i64 i, .int .i64 k] wr fun e w' => ∃ p c, e = .returned (.tuple #[.slice p zs.length c, .int .i64 s]) ∧ IRow w' (.slice p zs.length c) zs ∧ Below wr.heap.size wr w' ∧ OneI w w' aa L v xs := by
  obtain ⟨Fa, A, r, r2⟩ := T.ex
  refine (open_ok A i k).mono ?_
  intro e w' h
  rw [ho] at h
  obtain ⟨p, c, rfl, h1, h2⟩ := h.tells
  exact ⟨p, c, rfl, h1, h2, T.step h2⟩
theorem unbox_i (T : OneI w wr aa L v xs) (i k : Int) {zs : List Int} {s : Int} (ho : unboxOf L i k = (zs, s)) : Calls Try.prog 22 #[.pointer (some ⟨aa, 0, none⟩), .int .i64 i, .int .i64 k] wr fun e w' => ∃ p c, e = .returned (.tuple #[.slice p zs.length c, .int .i64 s]) ∧ IRow w' (.slice p zs.length c) zs ∧ Below wr.heap.size wr w' ∧ OneI w w' aa L v xs := by
  obtain ⟨Fa, A, r, r2⟩ := T.ex
  refine (unbox_ok A i k).mono ?_
  intro e w' h
  rw [ho] at h
  obtain ⟨p, c, rfl, h1, h2⟩ := h.tells
  exact ⟨p, c, rfl, h1, h2, T.step h2⟩
theorem signed_i (T : OneI w wr aa L v xs) (i k : Int) {zs : List Int} {s : Int} (ho : signedOf L i k = (zs, s)) : Calls Try.prog 24 #[.pointer (some ⟨aa, 0, none⟩), .int .i64 i, .int .i64 k] wr fun e w' => ∃ p c, e = .returned (.tuple #[.slice p zs.length c, .int .i64 s]) ∧ IRow w' (.slice p zs.length c) zs ∧ Below wr.heap.size wr w' ∧ OneI w w' aa L v xs := by
  obtain ⟨Fa, A, r, r2⟩ := T.ex
  refine (signed_ok A i k).mono ?_
  intro e w' h
  rw [ho] at h
  obtain ⟨p, c, rfl, h1, h2⟩ := h.tells
  exact ⟨p, c, rfl, h1, h2, T.step h2⟩
theorem irow_news {g c : Nat} {ws : World} (h : ws.ownsRow 0 3 1 (.slice (some ⟨g, 0, none⟩) n c) n (xs.map (Value.int .i64))) : ∀ j u, (xs.map (Value.int .i64))[j]? = some u → ws.cell? ((⟨g, 0, none⟩ : Addr).add j) = some u := World.ownsRow.cells h rfl
theorem lit_row (ws : World) (x : Int) : (ws.alloc (.cells #[.int .i64 x] 3)).ownsRow ws.heap.size 3 1 (.slice (some ⟨ws.heap.size, 0, none⟩) 1 1) 1 [.int .i64 x] := World.ownsRow_lit ws #[.int .i64 x] 1 (Nat.le_refl _) (by unfold maxLen; omega) rfl
theorem lit_row2 (ws : World) (x y : Int) : (ws.alloc (.cells #[.int .i64 x, .int .i64 y] 3)).ownsRow ws.heap.size 3 1 (.slice (some ⟨ws.heap.size, 0, none⟩) 2 2) 2 [.int .i64 x, .int .i64 y] := World.ownsRow_lit ws #[.int .i64 x, .int .i64 y] 2 (Nat.le_refl _) (by unfold maxLen; omega) rfl
theorem app_step (T : OneI w wr aa L v xs) {A : Obj} {w3 : World} (hg : (wr.alloc A).grownBy w3 (some wr.heap.size)) : OneI w w3 aa L v xs := T.step (((Below.refl _ wr).alloc (Nat.le_refl _) A).grown hg (by simp) (fun k hk => by cases hk; exact Nat.le_refl _))
theorem app_reads {w3 : World} {base m : Nat} {x : Int} {v1 : Value} (h : w3.ownsRow base 3 1 v1 m ([.int .i64 x] ++ xs.map (Value.int .i64))) : Reads w3 v1 (x :: xs) := (irow_of (xs := x :: xs) (by simpa using h)).reads
theorem app_reads2 {w3 : World} {base m : Nat} {x y : Int} {v1 : Value} (h : w3.ownsRow base 3 1 v1 m ([.int .i64 x, .int .i64 y] ++ xs.map (Value.int .i64))) : Reads w3 v1 (x :: y :: xs) := (irow_of (xs := x :: y :: xs) (by simpa using h)).reads
theorem OneI.own (T : OneI w wr aa L v xs) {n : Nat} (hn : xs.length = n) : wr.ownsRow 0 3 1 v n (xs.map (Value.int .i64)) := by
  have h := T.row
  unfold IRow at h
  rwa [hn] at h
theorem someI_lt {n : Nat} {x : Int} (hn : 0 < n) (h : 0 ≤ someI n x) : someI n x < n := by
  unfold someI at h ⊢
  split
  · exact Int.emod_lt_of_pos _ (by omega)
  · rename_i hc
    rw [if_neg hc] at h
    omega
theorem IRow.step (h : IRow wr v xs) (hB : Below wr.heap.size wr w') : IRow w' v xs := row_keeps (F := fun _ => False) h (Keeps.of_below hB) (fun _ _ h => h)
end
end Go.Proofs.Ytehkfgjnapjefaa

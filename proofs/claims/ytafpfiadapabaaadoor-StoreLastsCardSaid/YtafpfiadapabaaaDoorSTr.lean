/-
  STORE: a disk on which a crash may be armed; what comes in as bytes. Own work.
-/
import Derived.Test.YtafpfiadapabaaaDoorSTo
namespace Go.Proofs.YtafpfiadapabaaaDoor
open Go.ChangeShapes Go.WideShapes Go.ChangeAt Go.RowKit Go.Maps Go.Deep
set_option maxRecDepth 100000
attribute [local go_sem ↓] Go.wp_at_zero Go.wp_at_succ
/-- A disk that is on, on which a state lies; a crash may be armed. -/
def Dtr (w0 w : World) (db n : Nat) (S : List Int) (m : Nat) (R : List RowD) : Prop := ∃ d vs vn vw vk h0 h1 a c, Dsk w0 w db n d vs vn vw vk R ∧ d.off = false ∧ d.wr = [] ∧ d.now = d.safe ∧ Hid (d.left < 9223372036854775808) ∧ Held d.now S h0 h1 a c ∧ c ≤ m
section
variable {w0 w w' : World} {db n m : Nat} {S : List Int} {off : Bool} {R : List RowD}
theorem Dtr.step (T : Dtr w0 w db n S m R) (hB : Below w.heap.size w w') : Dtr w0 w' db n S m R := by
  obtain ⟨d, vs, vn, vw, vk, h0, h1, a, c, T, r⟩ := T
  exact ⟨d, vs, vn, vw, vk, h0, h1, a, c, T.step hB, r⟩
theorem Dtr.below (T : Dtr w0 w db n S m R) : Below w0.heap.size w0 w := by
  obtain ⟨d, vs, vn, vw, vk, h0, h1, a, c, T, r⟩ := T
  exact T.fam.below
theorem Dtr.rdv (T : Dtr w0 w db n S m R) {v : Value} {l : List Int} (h : byteRow v l ∈ R) : RdV w v (l.map (Value.int .u8)) := by
  obtain ⟨d, vs, vn, vw, vk, h0, h1, a, c, T, r⟩ := T
  exact rdv_row (show w.ownsRow w0.heap.size 5 1 v l.length (l.map (Value.int .u8)) from T.rowM (r := byteRow v l) h)
theorem trip_st (T : Dst w0 w db n S m false R) (i t : Int) (hi : In64 i) {v : Value} {ks : List Bool} (hk : boolRow v ks ∈ R) (h4 : ks.length ≤ 100000) : Calls Tryd.prog 12 #[.pointer (some ⟨db, 0, none⟩), .int .i64 i, v, .int .i64 t] w fun e w' => e = .returned (.tuple #[]) ∧ Dtr w0 w' db n S m R := by
  obtain ⟨d, vs, vn, vw, vk, h0, h1, a, c, T, q1, q2, q3, q4, q5, q6⟩ := T
  obtain ⟨j, hj⟩ := List.getElem?_of_mem hk
  have r1 : w.ownsRow w0.heap.size 4 1 v ks.length (ks.map Value.bool) := T.rowR (r := boolRow v ks) hj
  refine (trip_ok T i t (rdv_row r1) (fun _ k hk he => ?_) h4).mono ?_
  · refine T.fam.apart (5 + j) 0 (boolRow v ks) (d.hdr db vs vn vw vk) (by rw [List.getElem?_append_right (by simp [Dk.rows])]; simpa [Dk.rows] using hj) rfl (by omega) k hk ?_
    rw [he]
    rfl
  · rintro e w' ⟨rfl, vk', T'⟩
    exact ⟨rfl, _, _, _, _, _, h0, h1, a, c, T', q1, q2, q3, by unfold In64 at hi; show i.toNat < 9223372036854775808; omega, q5, q6⟩
theorem save_tr (T : Dtr w0 w db n S m R) (hg : w0.cell? ⟨0, 0, none⟩ = some eTy) (hn : 300 ≤ n) {S' : List Int} (hS : S'.length ≤ 8000) (hm : m < 50000) {v : Value} (hv : Stays w0 db n R v (S'.map (Value.int .u8))) (hcap : ∀ p n c, v = .slice p n c → n ≤ c) {sb : Nat} {vst : Value} (hs : stRow sb db vst ∈ R) : Calls Tryd.prog 14 #[.pointer (some ⟨sb, 0, none⟩), v] w fun e w' => (e = .returned (.int .i64 0) ∧ ∃ R' v', Dtr w0 w' db n S' (m + 1) R' ∧ stRow sb db v' ∈ R' ∧ byteRow v' S' ∈ R' ∧ ∀ x ∈ R, x ≠ stRow sb db vst → x ∈ R') ∨ (e = .returned (.int .i64 9) ∧ ∃ Z, (Z = S ∨ Z = S') ∧ Dst w0 w' db n Z (m + 1) true R) := by
  obtain ⟨d, vs, vn, vw, vk, h0, h1, a, c, T, q1, q2, q3, q4, q5, q6⟩ := T
  refine (Save_ok T hg hn q5 ⟨q1, q2, q3⟩ hS (by omega) q4.out hv hcap hs).mono ?_
  rintro e w' ⟨ok, d', vs', vn', vw', vk', hsv, h1, h2⟩
  cases ok with
  | false =>
    obtain ⟨rfl, T'⟩ := h2 rfl
    obtain ⟨_, G, hH⟩ := hsv
    refine .inr ⟨rfl, ?_⟩
    rcases hH with ⟨k0, k1, H⟩ | ⟨k0, k1, H⟩
    · exact ⟨S, .inl rfl, d', _, _, _, _, k0, k1, _, _, T', G.off, G.wr, G.eq, G.left, H, by omega⟩
    · exact ⟨S', .inr rfl, d', _, _, _, _, k0, k1, _, _, T', G.off, G.wr, G.eq, G.left, H, by omega⟩
  | true =>
    obtain ⟨rfl, R', v', T', g1, g2, g3⟩ := h1 rfl
    obtain ⟨Q, ⟨k0, k1, H⟩, _, hl⟩ := hsv
    exact .inl ⟨rfl, R', v', ⟨d', _, _, _, _, k0, k1, _, _, T', Q.off, Q.wr, Q.eq, hl, H, by omega⟩, g1, g2, g3⟩
theorem state_tr (T : Dtr w0 w db n S m R) {S1 : List Int} {sb : Nat} {v : Value} (hs : stRow sb db v ∈ R) (hb : byteRow v S1 ∈ R) (hS : S1.length ≤ 8000) : Calls Tryd.prog 17 #[.pointer (some ⟨sb, 0, none⟩)] w fun e w' => ∃ u, e = .returned u ∧ Below w.heap.size w w' ∧ w'.ownsRow w.heap.size 5 1 u S1.length (S1.map (Value.int .u8)) := by
  obtain ⟨d, vs, vn, vw, vk, h0, h1, a, c, T, q⟩ := T
  exact state_ok T hs hb hS
end
section
variable {H : Type} {enc : TypeId × Value → H} {w : World} {base : Nat} {held : Bool}
/-- Bytes that came in, with room for them. -/
structure Ins (w : World) (v : Value) (bs : List Int) : Prop where
  rd : RdV w v (bs.map (Value.int .u8))
  cap : ∀ p n c, v = .slice p n c → n ≤ c
theorem open_insV {fuel : Nat} {v : Value} {x : DataW H × List MemPlace} (h : DataW.trod enc Tryd.prog w base (fun _ => true) held fuel 31 [v] = some x) : ∃ bs : List Int, Ins w v bs := by
  rcases open_ints Tryd.underlying31 Tryd.underlying5 (by kernel_rfl) h with ⟨hcs, _⟩ | ⟨a, len, cap, zs, hcs, _, hl, hm, hz, _, hcell, hwz⟩
  · cases hcs
    exact ⟨[], ⟨none, 0, rfl, .inl rfl⟩, fun p n c h => by cases h; exact Nat.le_refl _⟩
  · cases hcs
    have hlz : len ≤ zs.length := by rw [hz]; split <;> omega
    have hcap : ∀ p n c, Value.slice (some a) len cap = .slice p n c → n ≤ c := fun p n c h => by cases h; exact hl
    by_cases h0 : len = 0
    · subst h0
      exact ⟨[], ⟨_, cap, rfl, .inl rfl⟩, hcap⟩
    · obtain ⟨b, off, spot⟩ := a
      have hc0 := hcell 0 (by omega)
      have hspot : spot = none := by simpa [Addr.add] using World.cell?_spot hc0
      subst hspot
      have hlen : (zs.take len).length = len := by simp; omega
      have hb : b < w.heap.size := by
        have := World.block_lt_of_cell? w _ hc0
        simpa [Addr.add] using this
      refine ⟨zs.take len, ⟨some ⟨b, off, none⟩, cap, by simp; omega, .inr ⟨b, off, rfl, hb, fun t ht => ?_⟩⟩, hcap⟩
      have ht' : t < len := by simp at ht; omega
      have h1 := hcell t (by omega)
      rw [addr_mid] at h1
      rw [h1, List.getElem?_map, List.getElem?_take, if_pos ht', List.getD_eq_getElem?_getD, List.getElem?_eq_getElem (by omega)]
      rfl
theorem open_byte1 {r : Reach} {b0 : Nat} {v : Value} {d : DataW H} {ps : List MemPlace} (_ : Value.okWide Tryd.prog w r b0 31 v) (h : DataW.Trod enc Tryd.prog w base (fun _ => true) held 31 v d ps) : ∃ bs : List Int, Ins w v bs := by
  obtain ⟨fuel, hf⟩ := h
  have e : v.cells.toList = [v] := by
    rename_i hval
    obtain ⟨a0, len0, cap0, rfl⟩ := okWide_slice Tryd.underlying31 hval
    rfl
  rw [e] at hf
  exact open_insV hf
end
end Go.Proofs.YtafpfiadapabaaaDoor

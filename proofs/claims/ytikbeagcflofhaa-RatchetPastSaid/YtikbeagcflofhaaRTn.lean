/-
  RATCHETPAST: of a ratchet the keys that are gone are not known; those that are skipped, and all to come, are. Own work.
-/
import Derived.Test.YtikbeagcflofhaaRTk
import Derived.Test.YtikbeagcflofhaaRTg
import Derived.Deep.AppendLies
import Derived.Deep.RegionHeld3
namespace Go.Proofs.Ytikbeagcflofhaa
open Go.ChangeShapes Go.WideShapes Go.ChangeAt Go.RowKit Go.Maps
set_option maxRecDepth 100000
section
variable {L : List Tm} {i j c e k x : Nat}
theorem pos_inj (hW : Wf L) (h : Pos L 0 i c) (h' : Pos L 0 j c) : i = j := by
  rcases Nat.lt_trichotomy i j with h1 | h1 | h1
  · obtain ⟨d, rfl⟩ : ∃ d, j = i + 1 + d := ⟨j - (i + 1), by omega⟩
    have := h.up hW d i c c h'
    omega
  · exact h1
  · obtain ⟨d, rfl⟩ : ∃ d, i = j + 1 + d := ⟨i - (j + 1), by omega⟩
    have := h'.up hW d j c c h
    omega
theorem key_inj (hW : Wf L) (h : KeyAt L 0 i k) (h' : KeyAt L 0 j k) : i = j := by
  rcases Nat.lt_trichotomy i j with h1 | h1 | h1
  · exact absurd rfl (KeyAt.ne hW h1 h h')
  · exact h1
  · exact absurd rfl (KeyAt.ne hW h1 h' h)
/-- No place is a key. -/
theorem pos_key (h0 : L[0]? = some (1, 1, [])) (h : Pos L 0 i x) (h' : KeyAt L 0 j x) : False := by
  obtain ⟨e, _, h2⟩ := h'
  cases h with
  | zero _ =>
    rw [h0] at h2
    cases h2
  | succ i c' _ _ h3 =>
    rw [h3] at h2
    simp only [Option.some.injEq, Prod.mk.injEq] at h2
    omega
theorem cov_kd (C : Cov 0 L) (h0 : L[0]? = some (1, 1, [])) {v : Int} (h : kd L x = v) (hv : v ≠ 0) : v = 1 ∨ v = 4 := by
  have hl := kd_ltL h hv
  rcases C x hl with rfl | ⟨i, e, _, h1 | h1⟩
  · rw [(at_kd h0).1] at h
    exact .inl h.symm
  · rw [(at_kd h1).1] at h
    exact .inr h.symm
  · rw [(at_kd h1).1] at h
    exact .inr h.symm
theorem past_iff {next : Nat} {sk : List Ky} (hW : Wf L) (C : Cov 0 L) (h0 : L[0]? = some (1, 1, [])) (R : RtOk L 0 c next sk) (hk : KeyAt L 0 i k) : Kn L (· ∈ ((c : Int) :: sk.map Prod.snd).map Int.toNat) k ↔ (next ≤ i ∨ ∃ y ∈ sk, y.1 = (i : Int)) := by
  constructor
  · intro h
    have hK := Kn.closed (K := fun x => (∃ j, next ≤ j ∧ Pos L 0 j x) ∨ (∃ j, next ≤ j ∧ KeyAt L 0 j x) ∨ ∃ y ∈ sk, y.2 = (x : Int)) ?_ ?_ ?_ ?_ ?_ ?_ ?_ h
    · rcases hK with ⟨j, _, h1⟩ | ⟨j, hj, h1⟩ | ⟨y, hy, h1⟩
      · exact (pos_key h0 h1 hk).elim
      · rw [key_inj hW hk h1]
        exact .inl hj
      · obtain ⟨i2, s2, rfl, h2⟩ := R.keys y hy
        simp only at h1
        obtain rfl : s2 = k := by omega
        rw [key_inj hW hk h2]
        exact .inr ⟨_, hy, rfl⟩
    · intro x hx _
      obtain ⟨z, hz, rfl⟩ := List.mem_map.1 hx
      rcases List.mem_cons.1 hz with rfl | hz
      · exact .inl ⟨next, Nat.le_refl _, by simpa using R.pos⟩
      · obtain ⟨y, hy, rfl⟩ := List.mem_map.1 hz
        have := (R.sec y hy).1
        exact .inr (.inr ⟨y, hy, by omega⟩)
    · intro x hl hk1 ha
      rcases C x hl with rfl | ⟨j, e, hp, hx⟩
      · exact absurd (at_kd h0).1 hk1
      · have har : ar L x = [e] := by
          rcases hx with hx | hx <;> (rw [(at_kd hx).2]; simp)
        have hj : next ≤ j := by
          rcases ha e (by rw [har]; simp) with ⟨j', h1, h2⟩ | ⟨j', h1, h2⟩ | ⟨y, hy, h1⟩
          · rw [pos_inj hW hp h2]
            exact h1
          · exact (pos_key h0 hp h2).elim
          · obtain ⟨i2, s2, rfl, h2⟩ := R.keys y hy
            simp only at h1
            obtain rfl : s2 = e := by omega
            exact (pos_key h0 hp h2).elim
        rcases hx with hx | hx
        · exact .inr (.inl ⟨j, hj, e, hp, hx⟩)
        · exact .inl ⟨j + 1, by omega, .succ j e x hp hx⟩
    · intro x y _ h9 _
      rcases cov_kd C h0 h9 (by decide) with h | h <;> cases h
    · intro x y _ h9 _
      rcases cov_kd C h0 h9 (by decide) with h | h <;> cases h
    · intro x y _ h9 _ _
      rcases cov_kd C h0 h9 (by decide) with h | h <;> cases h
    · intro x y _ h9 _ _
      rcases cov_kd C h0 h9 (by decide) with h | h <;> cases h
    · intro x y _ h9 _ _ _
      rcases cov_kd C h0 h9 (by decide) with h | h <;> cases h
  · have hup : ∀ d x, Pos L 0 (next + d) x → Kn L (· ∈ ((c : Int) :: sk.map Prod.snd).map Int.toNat) x := by
      intro d
      induction d with
      | zero =>
        intro x hx
        obtain rfl := hx.one hW c R.pos
        exact .given _ (by simp) hx.lt
      | succ d ih =>
        intro x hx
        cases hx with
        | succ _ e _ he h2 =>
          exact .make x (List.getElem?_eq_some_iff.1 h2).1 (by rw [(at_kd h2).1]; decide) (fun y hy => by
            rw [(at_kd h2).2] at hy
            simp only [List.map_cons, List.map_nil, Int.toNat_natCast, List.mem_singleton] at hy
            subst hy
            exact ih _ he)
    rintro (h | ⟨y, hy, h⟩)
    · obtain ⟨e, hp, h2⟩ := hk
      refine .make k (List.getElem?_eq_some_iff.1 h2).1 (by rw [(at_kd h2).1]; decide) (fun y hy => ?_)
      rw [(at_kd h2).2] at hy
      simp only [List.map_cons, List.map_nil, Int.toNat_natCast, List.mem_singleton] at hy
      subst hy
      exact hup (i - next) _ (by rw [show next + (i - next) = i by omega]; exact hp)
    · obtain ⟨i2, s2, rfl, h2⟩ := R.keys y hy
      simp only at h
      obtain rfl : i2 = i := by omega
      obtain rfl := h2.one hW hk
      refine .given _ (List.mem_map.2 ⟨(s2 : Int), List.mem_cons_of_mem _ (List.mem_map.2 ⟨_, hy, rfl⟩), by simp⟩) hk.lt
end
end Go.Proofs.Ytikbeagcflofhaa
namespace Go.Proofs.Ytikbeagcflofhaa
open Go.ChangeShapes Go.WideShapes Go.ChangeAt Go.RowKit Go.Maps Go.Deep
set_option maxRecDepth 100000
attribute [local go_sem ↓] Go.wp_at_zero Go.wp_at_succ
/-- What the second loop holds. -/
structure Pst (w : World) (aa rb sb n : Nat) (kv : Value) (xs : List Int) (wq : World) (L : List Tm) (c next : Nat) (sk : List Ky) (q : Option Addr) (d : Nat) : Prop where
  on : On w wq aa L (fun k => (k = rb ∨ kv.ownBlock = some k) ∨ (Value.slice q sk.length d).ownBlock = some k)
  keys : wq.ownsRow (sb + 1) 3 1 kv n (xs.map (Value.int .i64))
  rv : Rv wq rb (c : Int) (next : Int) (.slice q sk.length d)
  sk' : wq.ownsRow (rb + 1) 87 2 (.slice q sk.length d) sk.length (flatK sk)
  ok : RtOk L 0 c next sk
  nx : next ≤ n
  le : L.length ≤ 1 + 2 * n + 2 * next
  kys : Kys L xs
  cv : Cov 0 L
  l0 : L[0]? = some (1, 1, [])
  kb : ∀ k, kv.ownBlock = some k → k < rb
  wl : w.heap.size ≤ rb
section
variable {w wr w5 : World} {aa rb sb n c next c' next' : Nat} {kv : Value} {xs : List Int} {L L' : List Tm} {sk ks5 : List Ky} {q q5 : Option Addr} {d d5 : Nat}
theorem Pst.hb (M : Pst w aa rb sb n kv xs wr L c next sk q d) : rb < wr.heap.size := M.rv.lt
theorem Pst.step (M : Pst w aa rb sb n kv xs wr L c next sk q d) (B : Below wr.heap.size wr w5) : Pst w aa rb sb n kv xs w5 L c next sk q d :=
  ⟨M.on.step B, row_keeps (F := fun _ => False) M.keys (Keeps.of_below B) (fun _ _ h => h), M.rv.below B, row_keeps (F := fun _ => False) M.sk' (Keeps.of_below B) (fun _ _ h => h), M.ok, M.nx, M.le, M.kys, M.cv, M.l0, M.kb, M.wl⟩
theorem Pst.drew (M : Pst w aa rb sb n kv xs wr L c next sk q d) : Pst w aa rb sb n kv xs wr.drew L c next sk q d := M.step (Below.refl _ wr).drew
theorem Pst.put {w6 : World} (M : Pst w aa rb sb n kv xs wr L c next sk q d) (S : Stay (fun k => (k = rb ∨ kv.ownBlock = some k) ∨ (Value.slice q sk.length d).ownBlock = some k) wr w5) (T5 : On w w5 aa L' (fun k => (k = rb ∨ kv.ownBlock = some k) ∨ (Value.slice q5 ks5.length d5).ownBlock = some k)) (O5 : w5.ownsRow wr.heap.size 87 2 (.slice q5 ks5.length d5) ks5.length (flatK ks5)) (ok : RtOk L' 0 c' next' ks5) (nx : next' ≤ n) (le : L'.length ≤ 1 + 2 * n + 2 * next') (kys : Kys L' xs) (cv : Cov 0 L') (l0 : L'[0]? = some (1, 1, [])) (B6 : Below w5.heap.size w5 w6) :
    Pst w aa rb sb n kv xs (((w6.setCell ⟨rb, 0, none⟩ (.int .i64 (c' : Int))).setCell ⟨rb, 1, none⟩ (.int .i64 (next' : Int))).setCell ⟨rb, 2, none⟩ (.slice q5 ks5.length d5)) L' c' next' ks5 q5 d5 := by
  have hb := M.hb
  have f1 := (M.rv.stay S (.inl (.inl rfl))).below B6
  have f3 := row_keeps (F := fun _ => False) (row_keeps M.keys S (fun k hk hn => hn (.inl (.inr hk)))) (Keeps.of_below B6) (fun _ _ h => h)
  have hK2 := keeps_set3 w6 rb (.int .i64 (c' : Int)) (.int .i64 (next' : Int)) (.slice q5 ks5.length d5)
  have hkv : ∀ k, kv.ownBlock = some k → ¬ k = rb := fun k hk => by have := M.kb k hk; omega
  have ho5 : ∀ k, (Value.slice q5 ks5.length d5).ownBlock = some k → ¬ k = rb := fun k hk => by have := (row_base O5 hk).1; omega
  have hw := M.wl
  refine ⟨(T5.step B6).own hK2 (fun k hk => .inl ⟨.inl (.inl hk), by omega⟩), row_keeps f3 hK2 (fun k hk => hkv k hk), f1.set _ _ _, ?_, ok, nx, le, kys, cv, l0, M.kb, M.wl⟩
  exact row_lower (row_keeps (row_keeps (F := fun _ => False) O5 (Keeps.of_below B6) (fun _ _ h => h)) hK2 (fun k hk => ho5 k hk)) (by omega)
theorem Pst.wide (M : Pst w aa rb sb n kv xs wr L c next sk q d) (o : Obj) : On w ((wr.alloc o).drew) aa L (fun k => ((k = rb ∨ kv.ownBlock = some k) ∨ (Value.slice q sk.length d).ownBlock = some k) ∨ k = wr.heap.size) :=
  (M.on.add (P := fun k => k = wr.heap.size) ((Below.refl _ wr).alloc (Nat.le_refl _) o) (fun k hk => by simp; omega)).step (Below.refl _ _).drew
theorem Pst.put2 (M : Pst w aa rb sb n kv xs wr L c next sk q d) (o : Obj) (S : Stay (fun k => ((k = rb ∨ kv.ownBlock = some k) ∨ (Value.slice q sk.length d).ownBlock = some k) ∨ k = wr.heap.size) ((wr.alloc o).drew) w5) (T5 : On w w5 aa L' (fun k => (((k = rb ∨ kv.ownBlock = some k) ∨ (Value.slice q sk.length d).ownBlock = some k) ∨ k = wr.heap.size) ∨ (Value.slice q5 ks5.length d5).ownBlock = some k)) (O5 : w5.ownsRow ((wr.alloc o).drew).heap.size 87 2 (.slice q5 ks5.length d5) ks5.length (flatK ks5)) (ok : RtOk L' 0 c' next' ks5) (nx : next' ≤ n) (le : L'.length ≤ 1 + 2 * n + 2 * next') (kys : Kys L' xs) (cv : Cov 0 L') (l0 : L'[0]? = some (1, 1, [])) (y0 y1 y2 : Value) :
    Pst w aa rb sb n kv xs ((((((w5.setCell ⟨wr.heap.size, 0, none⟩ y0).setCell ⟨wr.heap.size, 1, none⟩ y1).setCell ⟨wr.heap.size, 2, none⟩ y2).setCell ⟨rb, 0, none⟩ (.int .i64 (c' : Int))).setCell ⟨rb, 1, none⟩ (.int .i64 (next' : Int))).setCell ⟨rb, 2, none⟩ (.slice q5 ks5.length d5)) L' c' next' ks5 q5 d5 := by
  have hsz : ((wr.alloc o).drew).heap.size = wr.heap.size + 1 := by simp
  have M1 : Pst w aa rb sb n kv xs ((wr.alloc o).drew) L c next sk q d := M.step ((Below.refl _ wr).alloc (Nat.le_refl _) o).drew
  have hb := M.hb
  have f1 := M1.rv.stay S (.inl (.inl (.inl rfl)))
  have f3 := row_keeps M1.keys S (fun k hk hn => hn (.inl (.inl (.inr hk))))
  have hKn := keeps_set3 w5 wr.heap.size y0 y1 y2
  have hK2 := keeps_set3 (((w5.setCell ⟨wr.heap.size, 0, none⟩ y0).setCell ⟨wr.heap.size, 1, none⟩ y1).setCell ⟨wr.heap.size, 2, none⟩ y2) rb (.int .i64 (c' : Int)) (.int .i64 (next' : Int)) (.slice q5 ks5.length d5)
  have hkb0 := M.keys
  have hkv : ∀ k, kv.ownBlock = some k → ¬ k = wr.heap.size ∧ ¬ k = rb := fun k hk => by have := M.kb k hk; omega
  have ho5 : ∀ k, (Value.slice q5 ks5.length d5).ownBlock = some k → ¬ k = wr.heap.size ∧ ¬ k = rb := fun k hk => by have := (row_base O5 hk).1; omega
  have hw := M.wl
  have T5' := T5.mono (G' := fun j => ((j = rb ∨ kv.ownBlock = some j) ∨ (Value.slice q5 ks5.length d5).ownBlock = some j) ∨ j = wr.heap.size) (fun j hj => by
    rcases hj with (h | h) | h
    · exact .inl (.inl (.inl h))
    · exact .inr h
    · exact .inl (.inr h))
  have T6 := T5'.own hKn (fun k hk => .inl ⟨.inr hk, by omega⟩)
  have T7 := T6.own hK2 (fun k hk => .inl ⟨.inl (.inl (.inl hk)), by omega⟩)
  refine ⟨T7.mono (fun k hk => .inl hk), row_keeps (row_keeps f3 hKn (fun k hk => (hkv k hk).1)) hK2 (fun k hk => (hkv k hk).2), (f1.keep hKn (by omega)).set _ _ _, ?_, ok, nx, le, kys, cv, l0, M.kb, M.wl⟩
  exact row_lower (row_keeps (row_keeps O5 hKn (fun k hk => (ho5 k hk).1)) hK2 (fun k hk => (ho5 k hk).2)) (by omega)
end
set_option maxHeartbeats 16000000 in
theorem past_main (n : Nat) (hn1 : 1 ≤ n) (hn : n ≤ 60) (p1 : Option Addr) (c1 : Nat) (ks : List Int) (w : World) (hm80 : ks.length ≤ 80) (H1 : Hid (RdW w (.slice p1 ks.length c1) ks)) : Calls Try.prog 11 #[.int .i64 n, .slice p1 ks.length c1] w fun e w' => e = .returned (.bool true) ∧ Below w.heap.size w w' := by
  obtain ⟨i0, hi', hz0, hz1, hz2⟩ := info_parts (P := Try.prog) (e := 3) (z := .int .i64 0) (size := 1) (bytes := 8) (by kernel_rfl)
  obtain ⟨b0, hb, hb0, hb1, hb2⟩ := info_parts (P := Try.prog) (e := 4) (z := .bool false) (size := 1) (bytes := 1) (by kernel_rfl)
  have hnA : ¬ (n : Int) < 1 := by omega
  have hnB : ¬ (60 : Int) < n := by omega
  have hnC : ¬ (80 : Int) < ks.length := by omega
  go_enter Try.func11, Try.ntmps11
  go_wp2_with (first
    | (go_at_call 13; refine (new_ar _).mono ?_; rintro ev w1 ⟨aa, F0, rfl, A0, hF0, B0⟩; have T0 := on_fresh A0 hF0 B0; clear A0 hF0 B0)
    | (go_at_call 14; refine (make_on T0 1 1 (v := .slice none 0 0) (xs := []) (.inl ⟨rfl, rfl⟩) (by omega) put_a1).mono ?_; rintro ev w2 ⟨rfl, T1, _⟩; clear T0)
    | (go_at_call 47; refine (rnew_ok 0 _).mono ?_; rintro ev w3 ⟨rfl, B3⟩; have T2 := T1.step B3; clear T1 B3))
  have T3 := (T2.add ((Below.refl _ w3).alloc (Nat.le_refl _) (.cells #[.int .i64 0, .int .i64 0, .slice none 0 0] 70)) (P := fun k => k = w3.heap.size) (fun k hk => by simp; omega)).mono (G' := fun k => k = w3.heap.size ∨ (Value.slice none 0 0).ownBlock = some k) (fun k hk => .inr (hk.elim id (fun h => by simp [Value.ownBlock] at h)))
  have V3 := Rv.new w3 0 0 (.slice none 0 0)
  have R3 := RtOk.new (L := [(1, 1, [])]) (c := 0) (by simp)
  have hrb := T2.below.size
  clear T2
  generalize w3.alloc (.cells #[.int .i64 0, .int .i64 0, .slice none 0 0] 70) = w4 at *
  generalize w3.heap.size = sb at *
  go_loopw [8, 10] (fun v i wq => ∃ (j : Nat) (L : List Tm) (c : Nat) (q : Option Addr) (d : Nat) (p : Option Addr) (cc : Nat) (xs : List Int), v = .slice p j cc ∧ i = .int .i64 j ∧ j ≤ n ∧ xs.length = j ∧ On w wq aa L (fun k => k = sb ∨ (Value.slice p j cc).ownBlock = some k) ∧ wq.ownsRow (sb + 1) 3 1 (.slice p j cc) j (xs.map (Value.int .i64)) ∧ Rv wq sb c j (.slice q 0 d) ∧ RtOk L 0 c j [] ∧ L.length ≤ 1 + 2 * j ∧ Kys L xs ∧ Cov 0 L ∧ L[0]? = some (1, 1, [])) (fun _ i _ => n - (intOf i).toNat)
  case atStart => exact ⟨0, _, 0, none, 0, none, 0, [], rfl, rfl, by omega, rfl, T3, World.ownsRow_nil _ _ _ _, V3, R3, by simp, ⟨fun i k h => by simp at h⟩, fun x hx => by simp at hx; exact .inl hx, rfl⟩
  case round =>
    clear T3 V3 R3
    obtain ⟨j, L, c, q, d, p, cc, xs, rfl, rfl, hjF, hxl, T, O, V, R, hL, K, C0, l0⟩ := hrel
    have HXL := (show Hid (xs.length = j) from hxl)
    clear hxl
    have HR := (show Hid (RtOk L 0 c j []) from R)
    have HV := (show Hid (Rv wr sb c j (.slice q 0 d)) from V)
    have HO := (show Hid (wr.ownsRow (sb + 1) 3 1 (.slice p j cc) j (xs.map (Value.int .i64))) from O)
    have HK := (show Hid (Kys L xs) from K)
    have HC := (show Hid (Cov 0 L) from C0)
    have HL0 := (show Hid (L[0]? = some (1, 1, [])) from l0)
    clear C0 l0
    have v0 := V.c0
    have v1 := V.c1
    have v2 := V.c2
    clear R V O K
    by_cases hlt : j < n
    · obtain ⟨k, L1, c', L2, K1, K2⟩ := turn_mk (L := L) (c := c) HR.out.pos.lt (by omega)
      have M1 := (show Hid (MkT L (4, 1, [(c : Int)]) k L1) from K1)
      have M2 := (show Hid (MkT L1 (4, 2, [(c : Int)]) c' L2) from K2)
      have hjI : (j : Int) < n := by omega
      clear K1 K2
      go_wp2_with (go_at_call 49; refine (send0 T M1.out M2.out HR.out (by omega)).mono ?_; rintro ev w5 ⟨q5, d5, rfl, T5, S5⟩
                   have HV5 := (show Hid (Rv (w5.alloc (.cells #[.int .i64 (c' : Int), .int .i64 ((j : Int) + 1), .slice q5 0 d5] 70)) sb c j (.slice q 0 d)) from (HV.out.stay S5 (.inl rfl)).alloc _)
                   have HO5 := (show Hid ((w5.alloc (.cells #[.int .i64 (c' : Int), .int .i64 ((j : Int) + 1), .slice q5 0 d5] 70)).ownsRow (sb + 1) 3 1 (.slice p j cc) j (xs.map (Value.int .i64))) from (row_keeps HO.out S5 (fun k hk hn => hn (.inr hk))).alloc _)
                   have HT5 := (show Hid (On w (w5.alloc (.cells #[.int .i64 (c' : Int), .int .i64 ((j : Int) + 1), .slice q5 0 d5] 70)) aa L2 (fun k => k = sb ∨ (Value.slice p j cc).ownBlock = some k)) from T5.alloc _)
                   have HN5 := (show Hid (Rv (w5.alloc (.cells #[.int .i64 (c' : Int), .int .i64 ((j : Int) + 1), .slice q5 0 d5] 70)) w5.heap.size (c' : Int) ((j : Int) + 1) (.slice q5 0 d5)) from Rv.new w5 _ _ _)
                   have hnb : sb < w5.heap.size := (HV.out.stay S5 (.inl rfl)).lt
                   have hkb := (show Hid (∀ k, (Value.slice p j cc).ownBlock = some k → sb < k ∧ k < w5.heap.size) from fun k hk => by
                     have := row_base HO.out hk
                     have := S5.size
                     omega)
                   clear v0 v1 v2 S5 T T5)
      have hkey := (HR.out.sent (by omega) M1.out M2.out).2
      have HKY := (show Hid (KeyAt L2 0 j k) from hkey)
      have hsent := (HR.out.sent (by omega) M1.out M2.out).1
      have HSN := (show Hid (RtOk L2 0 c' (j + 1) []) from hsent)
      have HK2 := (show Hid (Kys L2 xs) from HK.out.keep (fun i u h => M2.out.keep i u (M1.out.keep i u h)))
      have hL2 : L2.length ≤ 1 + 2 * (j + 1) := by have := M1.out.le1; have := M2.out.le1; omega
      clear hkey hsent HK HO HV
      generalize w5.alloc (.cells #[.int .i64 (c' : Int), .int .i64 ((j : Int) + 1), .slice q5 0 d5] 70) = w6 at *
      generalize w5.heap.size = nb at *
      have z0 := HN5.out.c0
      have z1 := HN5.out.c1
      have z2 := HN5.out.c2
      have hnl := HN5.out.lt
      have hsl := HV5.out.lt
      have hnn : ∀ k, (Value.slice p j cc).ownBlock = some k → k ≠ nb ∧ k ≠ sb := fun k hk => by have := hkb.out k hk; omega
      have rowA : ∀ ob, ((w6.alloc ob).drew).ownsRow (sb + 1) 3 1 (.slice p j cc) j (xs.map (Value.int .i64)) := fun ob => row_keeps (F := fun _ => False) (HO5.out.alloc ob) (Keeps.of_below (Below.refl _ _).drew) (fun _ _ h => h)
      have a0 := (((Below.refl _ w6).alloc (Nat.le_refl _) (.cells #[.int .i64 (k : Int)] 3)).cell (p := ⟨nb, 0, none⟩) hnl).trans z0
      have a1 := (((Below.refl _ w6).alloc (Nat.le_refl _) (.cells #[.int .i64 (k : Int)] 3)).cell (p := ⟨nb, 1, none⟩) hnl).trans z1
      have a2 := (((Below.refl _ w6).alloc (Nat.le_refl _) (.cells #[.int .i64 (k : Int)] 3)).cell (p := ⟨nb, 2, none⟩) hnl).trans z2
      have hbw : sb + 1 ≤ ((w6.alloc (.cells #[.int .i64 (k : Int)] 3)).drew).heap.size := by
        have := (((Below.refl _ w6).alloc (Nat.le_refl _) (.cells #[.int .i64 (k : Int)] 3)).drew).size
        omega
      have hszA : w6.heap.size ≤ ((w6.alloc (.cells #[.int .i64 (k : Int)] 3)).drew).heap.size := (((Below.refl _ w6).alloc (Nat.le_refl _) (.cells #[.int .i64 (k : Int)] 3)).drew).size
      have HTA := (show Hid (On w ((w6.alloc (.cells #[.int .i64 (k : Int)] 3)).drew) aa L2 (fun k => k = sb ∨ (Value.slice p j cc).ownBlock = some k)) from HT5.out.step (((Below.refl _ w6).alloc (Nat.le_refl _) (.cells #[.int .i64 (k : Int)] 3)).drew))
      have HVA := (show Hid (Rv ((w6.alloc (.cells #[.int .i64 (k : Int)] 3)).drew) sb c j (.slice q 0 d)) from HV5.out.below (((Below.refl _ w6).alloc (Nat.le_refl _) (.cells #[.int .i64 (k : Int)] 3)).drew))
      have HAA := (show Hid (∀ (b i : Nat), b < w6.heap.size → ((w6.alloc (.cells #[.int .i64 (k : Int)] 3)).drew).cell? ⟨b, i, none⟩ = w6.cell? ⟨b, i, none⟩) from fun b i h => (((Below.refl _ w6).alloc (Nat.le_refl _) (.cells #[.int .i64 (k : Int)] 3)).drew).cell (p := ⟨b, i, none⟩) h)
      clear HN5
      go_wp2
      go_region_held3 (fun w' => w'.cell? ⟨nb, 0, none⟩ = some (.int .i64 (c' : Int)) ∧ w'.cell? ⟨nb, 1, none⟩ = some (.int .i64 ((j : Int) + 1)) ∧ w'.cell? ⟨nb, 2, none⟩ = some (.slice q5 0 d5))
        (first | exact ⟨z0, z1, z2⟩ | exact ⟨a0, a1, a2⟩ | exact ⟨s0, s1, s2⟩ | exact ⟨((keeps_set3 w7 sb _ _ _).cell (p := ⟨nb, 0, none⟩) hn7 (Nat.ne_of_gt hnb)).trans s0, ((keeps_set3 w7 sb _ _ _).cell (p := ⟨nb, 1, none⟩) hn7 (Nat.ne_of_gt hnb)).trans s1, ((keeps_set3 w7 sb _ _ _).cell (p := ⟨nb, 2, none⟩) hn7 (Nat.ne_of_gt hnb)).trans s2⟩)
        (first | (refine step_append_lies _ (by rfl) _ _ 22 (by rfl) (sb + 1) 3 i0 _ 1 8 Try.underlying22 hi' hz0 hz1 hz2 (by rfl) (by decide) (.slice p j cc) j (xs.map (Value.int .i64)) (by rfl) (rowA _) ⟨w6.heap.size, 0, none⟩ 1 1 [.int .i64 (k : Int)] (by rfl) (by rfl) (World.news_of_block (heap_alloc_new  w6 _)) (by simp [Value.oneCell']) (by omega) (by unfold maxLen; omega) (by omega) hbw _ rfl ?_; intro g cap w7 hown7 hg7 hat7 hlt7
                  have s0 := (hg7.cell_far ⟨nb, 0, none⟩ (Nat.lt_of_lt_of_le hnl hszA) (fun e => (hnn _ e.symm).1 rfl)).trans a0
                  have s1 := (hg7.cell_far ⟨nb, 1, none⟩ (Nat.lt_of_lt_of_le hnl hszA) (fun e => (hnn _ e.symm).1 rfl)).trans a1
                  have s2 := (hg7.cell_far ⟨nb, 2, none⟩ (Nat.lt_of_lt_of_le hnl hszA) (fun e => (hnn _ e.symm).1 rfl)).trans a2
                  have V7 := HVA.out.keep (Keeps.of_grown (F := fun k => (Value.slice p j cc).ownBlock = some k) hg7 (fun k hk => hk)) (fun e => (hnn _ e).2 rfl)
                  have HV7 := (show Hid (Rv w7 sb c j (.slice q 0 d)) from V7)
                  have t0 := V7.c0
                  have t1 := V7.c1
                  have t2 := V7.c2
                  have f0 := V7.f0
                  have f1 := V7.f1
                  have f2 := V7.f2
                  have HT7 := (show Hid (On w w7 aa L2 (fun k => k = sb ∨ k = g)) from on_grow2 HTA.out (fun k hk => by have := hkb.out k hk; omega) hg7 hat7 hlt7)
                  have hsg : sb < g := by
                    rcases hat7 with e | e
                    · exact (hkb.out g e).1
                    · omega
                  have HO7 := (show Hid (w7.ownsRow (sb + 1) 3 1 (.slice (some ⟨g, 0, none⟩) (j + 1) cap) (j + 1) (xs.map (Value.int .i64) ++ [.int .i64 (k : Int)])) from hown7)
                  have hn7 : nb < w7.heap.size := Nat.lt_of_lt_of_le hnl (Nat.le_trans hszA hg7.size)
                  clear hown7 hg7 hat7 V7))
      go_wp2
      have hT8 := HT7.out.own (keeps_set3 w7 sb (.int .i64 (c' : Int)) (.int .i64 ((j : Int) + 1)) (.slice q5 0 d5)) (fun k hk => .inl ⟨.inl hk, by omega⟩)
      have hV8 := HV7.out.set (c' : Int) ((j : Int) + 1) (.slice q5 0 d5)
      refine ⟨⟨j + 1, L2, c', q5, d5, some ⟨g, 0, none⟩, cap, xs ++ [(k : Int)], rfl, by simp, by omega, by have := HXL.out; simp; omega, hT8.mono (fun k hk => hk.elim .inl (fun h => .inr (by simpa [Value.ownBlock] using h.symm))), ?_, by simpa using hV8, HSN.out, hL2, HK2.out.snoc (by rw [HXL.out]; exact HKY.out), HC.out.turn HR.out.pos M1.out M2.out, M2.out.keep _ _ (M1.out.keep _ _ HL0.out)⟩, by simp [intOf]; omega⟩
      rw [List.map_append]
      exact row_keeps HO7.out (keeps_set3 w7 sb (.int .i64 (c' : Int)) (.int .i64 ((j : Int) + 1)) (.slice q5 0 d5)) (fun k hk he => by simp only [Value.ownBlock, Option.some.injEq] at hk; omega)
    · obtain rfl : n = j := by omega
      have hsb := HV.out.lt
      clear HV v0 v1 v2
      go_wp2_with (first
        | (go_at_call 47; refine (rnew_ok 0 _).mono ?_; rintro ev w8 ⟨rfl, B8⟩
           have HT8 := (show Hid (On w w8 aa L (fun k => k = sb ∨ (Value.slice p n cc).ownBlock = some k)) from T.step B8)
           have HO8 := (show Hid (w8.ownsRow (sb + 1) 3 1 (.slice p n cc) n (xs.map (Value.int .i64))) from row_keeps (F := fun _ => False) HO.out (Keeps.of_below B8) (fun _ _ h => h))
           have hs8 : sb < w8.heap.size := Nat.lt_of_lt_of_le hsb B8.size
           clear T HO B8))
      have hBA : Below w8.heap.size w8 (w8.alloc (.cells #[.int .i64 0, .int .i64 0, .slice none 0 0] 70)) := (Below.refl _ w8).alloc (Nat.le_refl _) _
      have T9 := (HT8.out.add hBA (P := fun k => k = w8.heap.size) (fun k hk => by simp; omega)).mono (G' := fun k => (k = w8.heap.size ∨ (Value.slice p n cc).ownBlock = some k) ∨ (Value.slice none 0 0).ownBlock = some k) (fun k hk => by
          rcases hk with (h | h) | h
          · exact .inr h
          · exact .inl (.inr h)
          · simp [Value.ownBlock] at h)
      have HM := (show Hid (Pst w aa w8.heap.size sb n (.slice p n cc) xs (w8.alloc (.cells #[.int .i64 0, .int .i64 0, .slice none 0 0] 70)) L 0 0 [] none 0) from ⟨T9, row_keeps (F := fun _ => False) HO8.out (Keeps.of_below hBA) (fun _ _ h => h), Rv.new w8 0 0 _, World.ownsRow_nil _ _ _ _, RtOk.new (by have := HR.out.pos.lt; omega), by omega, by omega, HK.out, HC.out, HL0.out, fun k hk => (row_base HO8.out hk).2, HT8.out.below.size⟩)
      have hwk := HT8.out.below.size
      clear T9 hBA HT8 HO8 HR HK HC HL0
      generalize w8.alloc (.cells #[.int .i64 0, .int .i64 0, .slice none 0 0] 70) = w9 at *
      generalize w8.heap.size = rb at *
      go_loopw [16] (fun i wq => ∃ (j : Nat) (L : List Tm) (c next : Nat) (sk : List Ky) (q : Option Addr) (d : Nat), i = .int .i64 j ∧ j ≤ ks.length ∧ Pst w aa rb sb n (.slice p n cc) xs wq L c next sk q d) (fun i _ => ks.length - (intOf i).toNat)
      case atStart => exact ⟨0, _, 0, 0, [], none, 0, rfl, by omega, HM.out⟩
      case round =>
        clear HM
        obtain ⟨j, L, c, next, sk, q, d, rfl, hjl, HM0⟩ := hrel
        have M := (show Hid (Pst w aa rb sb n (.slice p n cc) xs wr L c next sk q d) from HM0)
        clear HM0
        have v0 := M.out.rv.c0
        have v1 := M.out.rv.c1
        have v2 := M.out.rv.c2
        by_cases hlt : j < ks.length
        · obtain ⟨ba, oa, rfl, hba, hcell0⟩ := rdw_pos H1.out hlt
          have hcell := (M.out.on.below.cell (p := ⟨ba, oa + j, none⟩) hba).trans hcell0
          generalize ks.getD j 0 = z at hcell hcell0
          have HCE := (show Hid _ from hcell0)
          have hjI : (j : Int) < ks.length := by omega
          obtain ⟨a, hta, han⟩ : ∃ a : Nat, (IntKind.u64.wrap z).tmod n = (a : Int) ∧ a < n := by
            have h0 : 0 ≤ IntKind.u64.wrap z := Int.emod_nonneg _ (by decide)
            have h3 := Int.emod_nonneg (IntKind.u64.wrap z) (b := (n : Int)) (by omega)
            have h4 := Int.emod_lt_of_pos (IntKind.u64.wrap z) (b := (n : Int)) (by omega)
            exact ⟨((IntKind.u64.wrap z) % n).toNat, by rw [Int.tmod_eq_emod_of_nonneg h0]; omega, by omega⟩
          have ha2 : IntKind.i64.wrap ((IntKind.u64.wrap z).tmod n) = (a : Int) := by rw [hta]; exact IntWalk.i64_in _ (by omega)
          clear hta
          have hn0 : ¬ n = 0 := by omega
          have hwn : IntKind.u64.wrap (n : Int) = n := by show (n : Int) % 18446744073709551616 = n; omega
          have MD := (show Hid (Pst w aa rb sb n (.slice p n cc) xs wr.drew L c next sk q d) from M.out.drew)
          have hle := M.out.le
          have hnx := M.out.nx
          clear hcell0
          by_cases hA : next ≤ a
          · obtain ⟨D, hD⟩ : ∃ D, a = next + D := ⟨a - next, by omega⟩
            have HD := (show Hid (a = next + D) from hD)
            clear hD
            have BA := (Below.refl _ wr).alloc (Nat.le_refl _) (.cells #[.int .i64 0, .int .i64 0, .slice none 0 0] 70)
            have a0 := (BA.cell (p := ⟨rb, 0, none⟩) M.out.rv.lt).trans v0
            have a1 := (BA.cell (p := ⟨rb, 1, none⟩) M.out.rv.lt).trans v1
            have a2 := (BA.cell (p := ⟨rb, 2, none⟩) M.out.rv.lt).trans v2
            have a3 := (BA.cell (p := ⟨ba, oa + j, none⟩) (Nat.lt_of_lt_of_le hba M.out.on.below.size)).trans hcell
            clear BA
            go_wp2
            go_region_with (first
              | (go_at_call 48; refine (take_ahead2 (show Hid _ from MD.out.on) 0 c next D (a : Int) q d sk (show Hid _ from MD.out.ok) (show Hid _ from rdk_row MD.out.sk') (show Hid ((a : Int) = ((next + D : Nat) : Int)) from (by rw [HD.out] : (a : Int) = ((next + D : Nat) : Int))) (by omega) (by have := HD.out; omega) (by omega)).mono ?_; rintro ev w5 ⟨L', k, c', zs, q5, d5, rfl, T5, O5, S5, k1, k2, k3, k4, k5, k6, k7⟩
                 have V5 := MD.out.rv.stay S5 (.inl (.inl rfl))
                 have x0 := V5.c0
                 have x1 := V5.c1
                 have x2 := V5.c2
                 have g0 := V5.f0
                 have g1 := V5.f1
                 have g2 := V5.f2
                 have x3 := (T5.below.cell (p := ⟨ba, oa + j, none⟩) hba).trans HCE.out
                 have hok := rt_ahead M.out.ok k6 k2 k3 k4 (by have := HD.out; omega)
                 have hL5 : L'.length ≤ 1 + 2 * n + 2 * (next + D + 1) := by omega
                 have hky := M.out.kys.keep k6
                 have hcv := k7 M.out.cv
                 have hl0 := k6 _ _ M.out.l0
                 generalize (sk ++ zs).drop ((sk ++ zs).length - 16) = ks5 at *
                 have hna : next + D + 1 = a + 1 := by have := HD.out; omega
                 rw [hna] at hok hL5
                 have hcast : ((a + 1 : Nat) : Int) = (a : Int) + 1 := by omega
                 have T5' := T5.mono (G' := fun j => (j = rb ∨ (Value.slice p n cc).ownBlock = some j) ∨ (Value.slice q5 ks5.length d5).ownBlock = some j) (fun j hj => hj.elim (fun h => .inl (.inl h)) .inr)
                 have VA := V5.below ((Below.refl _ w5).alloc (Nat.le_refl _) (.cells #[.int .i64 (c' : Int), .int .i64 ((a : Int) + 1), .slice q5 ks5.length d5] 70))
                 have p0 := VA.c0
                 have p1 := VA.c1
                 have p2 := VA.c2
                 have r0 := VA.f0
                 have r1 := VA.f1
                 have r2 := VA.f2
                 have VD := VA.below (Below.refl _ _).drew
                 have y0 := VD.c0
                 have y1 := VD.c1
                 have y2 := VD.c2
                 have e0 := VD.f0
                 have e1 := VD.f1
                 have e2 := VD.f2
                 have NA := Rv.new w5 (c' : Int) ((a : Int) + 1) (.slice q5 ks5.length d5)
                 have t0 := NA.c0
                 have t1 := NA.c1
                 have t2 := NA.c2
                 have hput := MD.out.put (c' := c') (next' := a + 1) S5 T5' O5 hok (by omega) hL5 hky hcv hl0 ((Below.refl _ w5).alloc (Nat.le_refl _) (.cells #[.int .i64 (c' : Int), .int .i64 ((a : Int) + 1), .slice q5 ks5.length d5] 70))
                 rw [hcast] at hput
                 have HP := (show Hid _ from hput)
                 clear NA VA VD T5 T5' O5 k1 k2 k3 k4 k5 k6 k7 hok hL5 hky hcv hl0 hput hcast hna v0 v1 v2 hcell a0 a1 a2 a3 V5 S5)
              | (go_at_call 48; refine (take_ahead2 (show Hid _ from M.out.wide (.cells #[.int .i64 0, .int .i64 0, .slice none 0 0] 70)) 0 c next D (a : Int) q d sk (show Hid _ from MD.out.ok) (show Hid _ from rdk_row (M.out.step ((Below.refl _ wr).alloc (Nat.le_refl _) (.cells #[.int .i64 0, .int .i64 0, .slice none 0 0] 70)).drew).sk') (show Hid ((a : Int) = ((next + D : Nat) : Int)) from (by rw [HD.out] : (a : Int) = ((next + D : Nat) : Int))) (by omega) (by have := HD.out; omega) (by omega)).mono ?_; rintro ev w5 ⟨L', k, c', zs, q5, d5, rfl, T5, O5, S5, k1, k2, k3, k4, k5, k6, k7⟩
                 have V5 := (M.out.step ((Below.refl _ wr).alloc (Nat.le_refl _) (.cells #[.int .i64 0, .int .i64 0, .slice none 0 0] 70)).drew).rv.stay S5 (.inl (.inl (.inl rfl)))
                 have N5 := ((Rv.new wr 0 0 (.slice none 0 0)).below (Below.refl _ _).drew).stay S5 (.inr rfl)
                 have x0 := V5.c0
                 have x1 := V5.c1
                 have x2 := V5.c2
                 have z0 := N5.c0
                 have z1 := N5.c1
                 have z2 := N5.c2
                 have f0 := N5.f0
                 have f1 := N5.f1
                 have f2 := N5.f2
                 have g0 := V5.f0
                 have g1 := V5.f1
                 have g2 := V5.f2
                 have x3 := (T5.below.cell (p := ⟨ba, oa + j, none⟩) hba).trans HCE.out
                 have hok := rt_ahead M.out.ok k6 k2 k3 k4 (by have := HD.out; omega)
                 have hL5 : L'.length ≤ 1 + 2 * n + 2 * (next + D + 1) := by omega
                 have hky := M.out.kys.keep k6
                 have hcv := k7 M.out.cv
                 have hl0 := k6 _ _ M.out.l0
                 generalize (sk ++ zs).drop ((sk ++ zs).length - 16) = ks5 at *
                 have hna : next + D + 1 = a + 1 := by have := HD.out; omega
                 rw [hna] at hok hL5
                 have hcast : ((a + 1 : Nat) : Int) = (a : Int) + 1 := by omega
                 have VA := V5.keep (keeps_set3 w5 wr.heap.size (.int .i64 (c' : Int)) (.int .i64 ((a : Int) + 1)) (.slice q5 ks5.length d5)) (Nat.ne_of_lt M.out.rv.lt)
                 have p0 := VA.c0
                 have p1 := VA.c1
                 have p2 := VA.c2
                 have r0 := VA.f0
                 have r1 := VA.f1
                 have r2 := VA.f2
                 have VD := VA.below (Below.refl _ _).drew
                 have y0 := VD.c0
                 have y1 := VD.c1
                 have y2 := VD.c2
                 have e0 := VD.f0
                 have e1 := VD.f1
                 have e2 := VD.f2
                 have hput := M.out.put2 (c' := c') (next' := a + 1) _ S5 T5 O5 hok (by omega) hL5 hky hcv hl0 (.int .i64 (c' : Int)) (.int .i64 ((a : Int) + 1)) (.slice q5 ks5.length d5)
                 rw [hcast] at hput
                 have HP := (show Hid _ from hput)
                 clear VA VD T5 O5 N5 k1 k2 k3 k4 k5 k6 k7 hok hL5 hky hcv hl0 hput hcast hna v0 v1 v2 hcell a0 a1 a2 a3 V5 S5))
            all_goals (
              go_wp2
              first
              | exact ⟨⟨j + 1, _, _, _, _, _, _, by simp, by omega, HP.out⟩, by simp [intOf]; omega⟩
              | exact ⟨⟨j + 1, _, _, _, _, _, _, by simp, by omega, HP.out.drew⟩, by simp [intOf]; omega⟩
              | exact ⟨⟨j + 1, _, _, _, _, _, _, by simp, by omega, HP.out.drew.drew⟩, by simp [intOf]; omega⟩
              )
          · have haN : a < next := by omega
            by_cases hB : ∃ k ∈ sk, k.1 = (a : Int)
            · have HB := (show Hid (∃ k ∈ sk, k.1 = (a : Int)) from hB)
              clear hB
              have BA := (Below.refl _ wr).alloc (Nat.le_refl _) (.cells #[.int .i64 0, .int .i64 0, .slice none 0 0] 70)
              have a0 := (BA.cell (p := ⟨rb, 0, none⟩) M.out.rv.lt).trans v0
              have a1 := (BA.cell (p := ⟨rb, 1, none⟩) M.out.rv.lt).trans v1
              have a2 := (BA.cell (p := ⟨rb, 2, none⟩) M.out.rv.lt).trans v2
              have a3 := (BA.cell (p := ⟨ba, oa + j, none⟩) (Nat.lt_of_lt_of_le hba M.out.on.below.size)).trans hcell
              clear BA
              go_wp2
              go_region_with (first
                | (go_at_call 48; refine (take_old_yes (show Hid _ from MD.out.on) 0 c next (a : Int) q d sk (show Hid _ from MD.out.ok) (show Hid _ from rdk_row MD.out.sk') (by omega) (by omega) HB).mono ?_; rintro ev w5 ⟨t, s5, q5, d5, ht, rfl, O5, B5⟩
                   have S5 : Stay (fun k => (k = rb ∨ (Value.slice p n cc).ownBlock = some k) ∨ (Value.slice q sk.length d).ownBlock = some k) wr.drew w5 := stay_below B5
                   have V5 := MD.out.rv.stay S5 (.inl (.inl rfl))
                   have x0 := V5.c0
                   have x1 := V5.c1
                   have x2 := V5.c2
                   have g0 := V5.f0
                   have g1 := V5.f1
                   have g2 := V5.f2
                   have x3 := (((MD.out.on.step B5).below).cell (p := ⟨ba, oa + j, none⟩) hba).trans HCE.out
                   have hok := M.out.ok.erase t
                   have T5 := (MD.out.on.add B5 (P := fun k => (Value.slice q5 (sk.eraseIdx t).length d5).ownBlock = some k) (fun k hk => row_base O5 hk)).mono (G' := fun j => (j = rb ∨ (Value.slice p n cc).ownBlock = some j) ∨ (Value.slice q5 (sk.eraseIdx t).length d5).ownBlock = some j) (fun j hj => hj.elim (fun h => .inl (.inl h)) .inr)
                   generalize sk.eraseIdx t = ks5 at *
                   have VA := V5.below ((Below.refl _ w5).alloc (Nat.le_refl _) (.cells #[.int .i64 (c : Int), .int .i64 (next : Int), .slice q5 ks5.length d5] 70))
                   have p0 := VA.c0
                   have p1 := VA.c1
                   have p2 := VA.c2
                   have r0 := VA.f0
                   have r1 := VA.f1
                   have r2 := VA.f2
                   have VD := VA.below (Below.refl _ _).drew
                   have y0 := VD.c0
                   have y1 := VD.c1
                   have y2 := VD.c2
                   have e0 := VD.f0
                   have e1 := VD.f1
                   have e2 := VD.f2
                   have NA := Rv.new w5 (c : Int) (next : Int) (.slice q5 ks5.length d5)
                   have t0 := NA.c0
                   have t1 := NA.c1
                   have t2 := NA.c2
                   have hput := MD.out.put (c' := c) (next' := next) S5 T5 O5 hok hnx hle M.out.kys M.out.cv M.out.l0 ((Below.refl _ w5).alloc (Nat.le_refl _) (.cells #[.int .i64 (c : Int), .int .i64 (next : Int), .slice q5 ks5.length d5] 70))
                   have HP := (show Hid _ from hput)
                   clear NA VA VD T5 O5 B5 ht hok hput v0 v1 v2 hcell a0 a1 a2 a3 V5 S5)
                | (go_at_call 48; refine (take_old_yes (show Hid _ from M.out.wide (.cells #[.int .i64 0, .int .i64 0, .slice none 0 0] 70)) 0 c next (a : Int) q d sk (show Hid _ from MD.out.ok) (show Hid _ from rdk_row (M.out.step ((Below.refl _ wr).alloc (Nat.le_refl _) (.cells #[.int .i64 0, .int .i64 0, .slice none 0 0] 70)).drew).sk') (by omega) (by omega) HB).mono ?_; rintro ev w5 ⟨t, s5, q5, d5, ht, rfl, O5, B5⟩
                   have S5 : Stay (fun k => ((k = rb ∨ (Value.slice p n cc).ownBlock = some k) ∨ (Value.slice q sk.length d).ownBlock = some k) ∨ k = wr.heap.size) ((wr.alloc (.cells #[.int .i64 0, .int .i64 0, .slice none 0 0] 70)).drew) w5 := stay_below B5
                   have V5 := (M.out.step ((Below.refl _ wr).alloc (Nat.le_refl _) (.cells #[.int .i64 0, .int .i64 0, .slice none 0 0] 70)).drew).rv.stay S5 (.inl (.inl (.inl rfl)))
                   have N5 := ((Rv.new wr 0 0 (.slice none 0 0)).below (Below.refl _ _).drew).stay S5 (.inr rfl)
                   have x0 := V5.c0
                   have x1 := V5.c1
                   have x2 := V5.c2
                   have z0 := N5.c0
                   have z1 := N5.c1
                   have z2 := N5.c2
                   have f0 := N5.f0
                   have f1 := N5.f1
                   have f2 := N5.f2
                   have g0 := V5.f0
                   have g1 := V5.f1
                   have g2 := V5.f2
                   have x3 := ((((M.out.wide (.cells #[.int .i64 0, .int .i64 0, .slice none 0 0] 70)).step B5).below).cell (p := ⟨ba, oa + j, none⟩) hba).trans HCE.out
                   have hok := M.out.ok.erase t
                   have T5 := ((M.out.wide (.cells #[.int .i64 0, .int .i64 0, .slice none 0 0] 70)).add B5 (P := fun k => (Value.slice q5 (sk.eraseIdx t).length d5).ownBlock = some k) (fun k hk => row_base O5 hk))
                   generalize sk.eraseIdx t = ks5 at *
                   have VA := V5.keep (keeps_set3 w5 wr.heap.size (.int .i64 (c : Int)) (.int .i64 (next : Int)) (.slice q5 ks5.length d5)) (Nat.ne_of_lt M.out.rv.lt)
                   have p0 := VA.c0
                   have p1 := VA.c1
                   have p2 := VA.c2
                   have r0 := VA.f0
                   have r1 := VA.f1
                   have r2 := VA.f2
                   have VD := VA.below (Below.refl _ _).drew
                   have y0 := VD.c0
                   have y1 := VD.c1
                   have y2 := VD.c2
                   have e0 := VD.f0
                   have e1 := VD.f1
                   have e2 := VD.f2
                   have hput := M.out.put2 (c' := c) (next' := next) _ S5 T5 O5 hok hnx hle M.out.kys M.out.cv M.out.l0 (.int .i64 (c : Int)) (.int .i64 (next : Int)) (.slice q5 ks5.length d5)
                   have HP := (show Hid _ from hput)
                   clear VA VD T5 O5 B5 N5 ht hok hput v0 v1 v2 hcell a0 a1 a2 a3 V5 S5))
              all_goals (
                go_wp2
                first
                | exact ⟨⟨j + 1, _, _, _, _, _, _, by simp, by omega, HP.out⟩, by simp [intOf]; omega⟩
                | exact ⟨⟨j + 1, _, _, _, _, _, _, by simp, by omega, HP.out.drew⟩, by simp [intOf]; omega⟩
                | exact ⟨⟨j + 1, _, _, _, _, _, _, by simp, by omega, HP.out.drew.drew⟩, by simp [intOf]; omega⟩
                | fail)
            · have HN := (show Hid (∀ k ∈ sk, k.1 ≠ (a : Int)) from fun k hk e => hB ⟨k, hk, e⟩)
              clear hB
              have BA := (Below.refl _ wr).alloc (Nat.le_refl _) (.cells #[.int .i64 0, .int .i64 0, .slice none 0 0] 70)
              have a0 := (BA.cell (p := ⟨rb, 0, none⟩) M.out.rv.lt).trans v0
              have a1 := (BA.cell (p := ⟨rb, 1, none⟩) M.out.rv.lt).trans v1
              have a2 := (BA.cell (p := ⟨rb, 2, none⟩) M.out.rv.lt).trans v2
              have a3 := (BA.cell (p := ⟨ba, oa + j, none⟩) (Nat.lt_of_lt_of_le hba M.out.on.below.size)).trans hcell
              clear BA
              go_wp2
              go_region_with (first
                | (go_at_call 48; refine (take_old_no (show Hid _ from MD.out.on) 0 c next (a : Int) q d sk (show Hid _ from MD.out.ok) (show Hid _ from rdk_row MD.out.sk') (by omega) (by omega) HN).mono ?_; rintro ev w5 ⟨rfl, B5⟩
                   have M5 := MD.out.step B5
                   have HP := (show Hid _ from M5.step ((Below.refl _ w5).alloc (Nat.le_refl _) (.cells #[.int .i64 0, .int .i64 0, .slice none 0 0] 70)))
                   clear M5 B5 v0 v1 v2 hcell a0 a1 a2 a3)
                | (go_at_call 48; refine (take_old_no (show Hid _ from M.out.wide (.cells #[.int .i64 0, .int .i64 0, .slice none 0 0] 70)) 0 c next (a : Int) q d sk (show Hid _ from MD.out.ok) (show Hid _ from rdk_row (M.out.step ((Below.refl _ wr).alloc (Nat.le_refl _) (.cells #[.int .i64 0, .int .i64 0, .slice none 0 0] 70)).drew).sk') (by omega) (by omega) HN).mono ?_; rintro ev w5 ⟨rfl, B5⟩
                   have S5 : Stay (fun k => ((k = rb ∨ (Value.slice p n cc).ownBlock = some k) ∨ (Value.slice q sk.length d).ownBlock = some k) ∨ k = wr.heap.size) ((wr.alloc (.cells #[.int .i64 0, .int .i64 0, .slice none 0 0] 70)).drew) w5 := stay_below B5
                   have N5 := ((Rv.new wr 0 0 (.slice none 0 0)).below (Below.refl _ _).drew).stay S5 (.inr rfl)
                   have z0 := N5.c0
                   have z1 := N5.c1
                   have z2 := N5.c2
                   have f0 := N5.f0
                   have f1 := N5.f1
                   have f2 := N5.f2
                   have B7 : Below wr.heap.size wr w5 := ((Below.refl _ wr).alloc (Nat.le_refl _) (.cells #[.int .i64 0, .int .i64 0, .slice none 0 0] 70)).drew.trans (B5.mono (by simp))
                   have HP := (show Hid _ from M.out.step (B7.trans ((keeps_set3 w5 wr.heap.size (.int .i64 0) (.int .i64 0) (.slice none 0 0)).below B7.size (fun k hk => by omega))))
                   clear N5 S5 B5 B7 v0 v1 v2 hcell a0 a1 a2 a3))
              all_goals (
                go_wp2
                first
                | exact ⟨⟨j + 1, _, _, _, _, _, _, by simp, by omega, HP.out⟩, by simp [intOf]; omega⟩
                | exact ⟨⟨j + 1, _, _, _, _, _, _, by simp, by omega, HP.out.drew⟩, by simp [intOf]; omega⟩
                | exact ⟨⟨j + 1, _, _, _, _, _, _, by simp, by omega, HP.out.drew.drew⟩, by simp [intOf]; omega⟩
                | fail)
        · obtain rfl : j = ks.length := by omega
          have hle := M.out.le
          have hnx := M.out.nx
          have hskl := M.out.ok.right.len
          go_wp2
          obtain ⟨wm, hwm⟩ : ∃ wm, wm = wr := ⟨wr, rfl⟩
          subst hwm
          clear v0 v1 v2
          go_loopw [20, 21] (fun v i wq => ∃ (t : Nat) (p5 : Option Addr) (c5 : Nat), v = .slice p5 (t + 1) c5 ∧ i = .int .i64 t ∧ t ≤ sk.length ∧ Below wm.heap.size wm wq ∧ wq.ownsRow wm.heap.size 3 1 (.slice p5 (t + 1) c5) (t + 1) (((c : Int) :: (sk.take t).map Prod.snd).map (Value.int .i64))) (fun _ i _ => sk.length - (intOf i).toNat)
          case atStart => exact ⟨0, _, _, rfl, rfl, by omega, (Below.refl _ wm).alloc (Nat.le_refl _) _, World.ownsRow_lit wm #[.int .i64 (c : Int)] 1 (Nat.le_refl _) (by unfold maxLen; omega) rfl⟩
          case round =>
            obtain ⟨t, p5, c5, rfl, rfl, htl, B5, O5⟩ := hrel
            have M5 := M.out.step B5
            have v2 := M5.rv.c2
            by_cases hlt2 : t < sk.length
            · obtain ⟨y, hy⟩ : ∃ y, sk[t]? = some y := ⟨_, List.getElem?_eq_getElem hlt2⟩
              obtain ⟨g5, rfl, hg1, hg2, hg3, hc5⟩ := row_open M5.sk' (by omega)
              obtain ⟨_, hcy⟩ := flatK_get sk t y hy
              have hcell5 := hc5 (t * 2 + 1) (by omega)
              rw [hcy] at hcell5
              have hltI : (t : Int) < sk.length := by omega
              have hsz5 : wm.heap.size ≤ wr.heap.size := B5.size
              have happ : (((c : Int) :: (sk.take (t + 1)).map Prod.snd).map (Value.int .i64)) = (((c : Int) :: (sk.take t).map Prod.snd).map (Value.int .i64)) ++ [.int .i64 y.2] := by
                rw [List.take_add_one, hy]; simp
              have HAP := (show Hid _ from happ)
              clear happ hcy hc5 hy
              go_wp2_with (at_builtin; refine wpList_append_own_at _ rfl (.tmp 106) (.tmp 113) 22 rfl wm.heap.size 3 i0 (.int .i64 0) 1 8 Try.underlying22 hi' hz0 hz1 hz2 rfl (by decide) (.slice p5 (t + 1) c5) (t + 1) _ rfl (O5.alloc _) ⟨wr.heap.size, 0, none⟩ 1 1 [.int .i64 y.2] rfl rfl (news1 _ _ _) (fun u hu => by simp at hu; subst hu; rfl) (by unfold maxLen; omega) (by omega) (by simp; omega) ?_; intro v7 w7 hown7 hgrow7 _ hat7
                           have B7 : Below wm.heap.size wm w7 := (B5.alloc hsz5 _).trans ((Keeps.of_grown (F := fun k => (Value.slice p5 (t + 1) c5).ownBlock = some k) hgrow7 (fun k hk => hk)).below (by simp; omega) (fun k hk => (row_base O5 hk).1))
                           rw [← HAP.out] at hown7
                           obtain ⟨p7, c7, rfl⟩ : ∃ p7 c7, v7 = .slice p7 (t + 1 + 1) c7 := by
                             rcases hown7.2 with ⟨_, h0⟩ | ⟨g7, c7, _, h1, _⟩
                             · omega
                             · exact ⟨_, _, h1⟩
                           have HO7 := (show Hid _ from hown7)
                           clear hown7 hgrow7 hat7 O5 M5 v2 hcell5)
              exact ⟨⟨t + 1, p7, c7, rfl, by simp, by omega, B7, HO7.out⟩, by simp [intOf]; omega⟩
            · obtain rfl : t = sk.length := by omega
              have htk : sk.take sk.length = sk := List.take_length
              rw [htk] at O5
              have hxs : ((c : Int) :: sk.map Prod.snd).length = sk.length + 1 := by simp
              have HRD := (show Hid (RdW wr (.slice p5 ((c : Int) :: sk.map Prod.snd).length c5) ((c : Int) :: sk.map Prod.snd)) from by rw [hxs]; exact (irow_of O5).reads.rdw)
              have HIN := (show Hid (allIn L ((c : Int) :: sk.map Prod.snd)) from fun x hx => by
                rcases List.mem_cons.1 hx with rfl | hx
                · have := M.out.ok.pos.lt; omega
                · obtain ⟨y, hy, rfl⟩ := List.mem_map.1 hx; exact M.out.ok.sec y hy)
              have KA := know_all (show Hid _ from M5.on) HRD (by rw [hxs]; omega) (by omega) HIN
              rw [hxs] at KA
              have HKA := (show Hid _ from KA)
              have HM5 := (show Hid (Pst w aa rb sb n (.slice p n cc) xs wr L c next sk q d) from M5)
              clear KA O5 M5 HRD HIN htk htl hlt2
              go_wp2_with (go_at_call 19; refine Calls.mono HKA.out ?_; rintro ev w5 ⟨kb, ck, kn, rfl, hown5, hbel5, hkn5⟩
                           have HM6 := (show Hid (Pst w aa rb sb n (.slice p n cc) xs w5 L c next sk q d) from HM5.out.step hbel5)
                           have HX5 := (show Hid (w5.ownsRow wr.heap.size 4 1 (.slice (some ⟨kb, 0, none⟩) L.length ck) L.length (kn.map Value.bool)) from hown5)
                           have HK5 := (show Hid (∀ i, bt kn i = true ↔ Kn L (· ∈ ((c : Int) :: sk.map Prod.snd).map Int.toNat) i) from hkn5)
                           clear HKA HM5 hown5 hbel5 hkn5 v2)
              go_loopw [23] (fun i wq => ∃ t : Nat, i = .int .i64 t ∧ t ≤ n ∧ Below w5.heap.size w5 wq) (fun i _ => n - (intOf i).toNat)
              case atStart => exact ⟨0, rfl, by omega, Below.refl _ _⟩
              case round =>
                obtain ⟨t, rfl, htn, B6⟩ := hrel
                have M7 := HM6.out.step B6
                have v2 := M7.rv.c2
                by_cases hlt3 : t < n
                · have htI : (t : Int) < n := by omega
                  go_wp2
                  go_loopw [24, 25] (fun v i wq => ∃ u : Nat, v = .bool ((sk.take u).any (fun z => z.1 == (t : Int))) ∧ i = .int .i64 u ∧ u ≤ sk.length ∧ Below w5.heap.size w5 wq) (fun _ i _ => sk.length - (intOf i).toNat)
                  case atStart => exact ⟨0, by simp, rfl, by omega, B6⟩
                  case round =>
                    obtain ⟨u, rfl, rfl, hus, B8⟩ := hrel
                    have M8 := HM6.out.step B8
                    have v2 := M8.rv.c2
                    by_cases hlt4 : u < sk.length
                    · obtain ⟨y, hy⟩ : ∃ y, sk[u]? = some y := ⟨_, List.getElem?_eq_getElem hlt4⟩
                      obtain ⟨g5, rfl, hg1, hg2, hg3, hc5⟩ := row_open M8.sk' (by omega)
                      obtain ⟨hcy, _⟩ := flatK_get sk u y hy
                      have hcell5 := hc5 (u * 2) (by omega)
                      rw [hcy] at hcell5
                      have hst : (sk.take (u + 1)).any (fun z => z.1 == (t : Int)) = ((sk.take u).any (fun z => z.1 == (t : Int)) || (y.1 == (t : Int))) := by
                        rw [List.take_add_one, hy, List.any_append]; simp
                      have HST := (show Hid ((sk.take (u + 1)).any (fun z => z.1 == (t : Int)) = ((sk.take u).any (fun z => z.1 == (t : Int)) || (y.1 == (t : Int)))) from hst)
                      clear hst
                      have hltI4 : (u : Int) < sk.length := by omega
                      clear hc5 hcy hy
                      generalize hb : (sk.take u).any (fun z => z.1 == (t : Int)) = b5 at HST
                      try rw [hb]
                      clear hb
                      cases b5
                      · go_wp2
                        first
                        | exact ⟨⟨u + 1, by rw [HST.out]; simp, by simp, by omega, B8⟩, by simp [intOf]; omega⟩
                        | fail
                      · go_wp2
                        first
                        | exact ⟨⟨u + 1, by rw [HST.out]; simp, by simp, by omega, B8⟩, by simp [intOf]; omega⟩
                        | fail
                    · obtain rfl : u = sk.length := by omega
                      obtain ⟨gk, rfl, hk1, hk2, hk3, hck⟩ := row_open M8.keys (by omega)
                      obtain ⟨x, hx⟩ : ∃ x, xs[t]? = some x := ⟨_, List.getElem?_eq_getElem (by have := HXL.out; omega)⟩
                      obtain ⟨s0, rfl, hs0⟩ := M8.kys.at' t x hx
                      have y1 := hck t (by omega)
                      rw [List.getElem?_map, hx] at y1
                      simp only [Option.map_some] at y1
                      have hsl := hs0.lt
                      have y2 := (World.ownsRow.cellAt (row_keeps (F := fun _ => False) HX5.out (Keeps.of_below B8) (fun _ _ h => h)) s0 (by omega))
                      have hpast := (HK5.out s0).trans (past_iff M8.on.wf M8.cv M8.l0 M8.ok hs0)
                      have v1 := M8.rv.c1
                      have htks : sk.take sk.length = sk := List.take_length
                      rw [htks]
                      have hany : (sk.any (fun z => z.1 == (t : Int)) = true) ↔ ∃ y ∈ sk, y.1 = (t : Int) := by simp [List.any_eq_true]
                      have hkl : kn.length = L.length := by have := HX5.out.1; simpa using this
                      have y3 := y2.trans (kn_at (i := s0) (by rw [hkl]; exact hsl))
                      clear y2 htks hkl
                      have hslI : (s0 : Int) < L.length := by omega
                      by_cases hnt : next ≤ t
                      · have hntI : (next : Int) ≤ (t : Int) := by omega
                        rw [hpast.2 (.inl hnt)] at y3
                        clear hpast hany hck hx
                        go_wp2
                        go_region
                        go_wp2
                        first
                        | exact ⟨⟨t + 1, by simp, by omega, B8⟩, by simp [intOf]; omega⟩
                        | exact ⟨⟨t + 1, by simp, by omega, B8.drew⟩, by simp [intOf]; omega⟩
                        | fail
                      · have hntI : ¬ (next : Int) ≤ (t : Int) := by omega
                        have hbt : bt kn s0 = sk.any (fun z => z.1 == (t : Int)) := by
                          rw [Bool.eq_iff_iff, hpast, hany]
                          exact ⟨fun h => h.elim (fun h => absurd h hnt) id, .inr⟩
                        rw [hbt] at y3
                        clear hpast hany hck hx hbt
                        generalize sk.any (fun z => z.1 == (t : Int)) = b6 at *
                        go_wp2
                        go_region
                        all_goals (cases b6)
                        all_goals go_wp2
                        all_goals first
                          | exact ⟨⟨t + 1, by simp, by omega, B8⟩, by simp [intOf]; omega⟩
                          | exact ⟨⟨t + 1, by simp, by omega, B8.drew⟩, by simp [intOf]; omega⟩
                          | fail
                · have htI : ¬ (t : Int) < n := by omega
                  have hB6 := M7.on.below
                  go_wp2_with (go_at_call 54; refine (wakes19_ok _).mono ?_; rintro ev w6 ⟨rfl, B9⟩)
                  go_ret
                  exact ⟨rfl, hB6.trans (B9.mono hB6.size)⟩
          all_goals fail
end Go.Proofs.Ytikbeagcflofhaa

/-
  MIX: what is met, on lists; two rows beside an arena; the law's own wakes. Own work.
-/
import Derived.Test.YtenllpaochcjfaaMXf
namespace Go.Proofs.Ytenllpaochcjfaa
open Go.ChangeShapes Go.WideShapes Go.ChangeAt Go.RowKit Go.Maps Go.Deep
set_option maxRecDepth 100000
theorem idx_at {L : List Tm} (h : Wf L) {j : Nat} {t : Tm} (hat : L[j]? = some t) : t ∈ L ∧ L.idxOf t = j := by
  obtain ⟨hj, rfl⟩ := List.getElem?_eq_some_iff.1 hat
  exact ⟨List.getElem_mem hj, h.nodup.idxOf_getElem j hj⟩
theorem one_at {L : List Tm} (h : Wf L) {i j : Nat} {t : Tm} (h1 : L[i]? = some t) (h2 : L[j]? = some t) : i = j := by rw [← (idx_at h h1).2, ← (idx_at h h2).2]
theorem mk_in {L : List Tm} (h : Wf L) {i : Nat} {t : Tm} (hs : shape t = 0) (hf : fitsIn L.length t) (h1 : L[i]? = some t) : MkT L t i L := by
  refine ⟨?_, h1, fun _ _ h => h, Nat.le_refl _, Nat.le_succ _, fun j hj => .inl hj⟩
  rw [put_in hs hf (idx_at h h1).1, (idx_at h h1).2]
/-- What who meets is told. -/
def ansD (As : List Pl) (z t : Nat) : Int := match mtL As t As.length with
  | [j] => (As.getD j (0, 0, 0)).2.2
  | _ => z
theorem ansD_one {As : List Pl} {z t j : Nat} (h : mtL As t As.length = [j]) : ansD As z t = (As.getD j (0, 0, 0)).2.2 := by unfold ansD; rw [h]
theorem ansD_not {As : List Pl} {z t : Nat} (h : (mtL As t As.length).length ≠ 1) : ansD As z t = z := by
  unfold ansD
  match h2 : mtL As t As.length with
  | [] => rfl
  | [j] => rw [h2] at h; exact absurd rfl h
  | _ :: _ :: _ => rfl
theorem drops_done {As : List Pl} {z : Nat} (h : ∀ p ∈ As, p.1 = 73) {R0 R : List Ky} {i : Nat} {out : List Int} (D : Done As z R0 i R out) : R = R0 ∧ out.length = i ∧ ∀ t, t < i → out[t]? = some (ansD As z t) := by
  induction D with
  | start => exact ⟨rfl, rfl, fun t ht => by omega⟩
  | step i R R' out a _ hd ih =>
    obtain ⟨rfl, hl, ih⟩ := ih
    have key : R' = R ∧ a = ansD As z i := by
      have no : ∀ u y b, As[i]? = some (u, y, b) → u = 73 := fun u y b hh => h _ (List.mem_of_getElem? hh)
      cases hd with
      | put y b h1 _ => have := no _ _ _ h1; omega
      | had u y b s t h1 h2 => have := no _ _ _ h1; omega
      | none y b h1 _ => have := no _ _ _ h1; omega
      | meets y b u' y' z' j h1 h2 h3 =>
        refine ⟨rfl, ?_⟩
        rw [ansD_one h2, List.getD_eq_getElem?_getD, h3]
        rfl
      | alone y b h1 h2 => exact ⟨rfl, (ansD_not h2).symm⟩
    obtain ⟨rfl, rfl⟩ := key
    refine ⟨rfl, by simp [hl], fun t ht => ?_⟩
    rcases Nat.lt_or_ge t i with h1 | h1
    · rw [List.getElem?_append_left (by omega)]
      exact ih t h1
    · obtain rfl : t = i := by omega
      rw [List.getElem?_append_right (by omega), hl]
      simp
/-! two rows -/
structure Rw2 (w wr : World) (aa : Nat) (L : List Tm) (v : Value) (xs : List Int) (u : Value) (ys : List Int) : Prop where
  ex : ∃ H : Nat → Prop, On w wr aa L H ∧ (∀ k, v.ownBlock = some k → H k) ∧ (∀ k, u.ownBlock = some k → H k)
  r1 : wr.ownsRow w.heap.size 3 1 v xs.length (xs.map (Value.int .i64))
  r2 : wr.ownsRow w.heap.size 3 1 u ys.length (ys.map (Value.int .i64))
  ne : ∀ k, v.ownBlock = some k → u.ownBlock ≠ some k
section
variable {w wr w' : World} {aa : Nat} {L L1 : List Tm} {u v : Value} {xs ys : List Int}
theorem Rw2.on (T : Rw2 w wr aa L v xs u ys) : On w wr aa L (fun k => v.ownBlock = some k ∨ u.ownBlock = some k) := by
  obtain ⟨H, O, h1, h2⟩ := T.ex
  exact O.mono (fun k hk => hk.elim (h1 k) (h2 k))
theorem Rw2.swap (T : Rw2 w wr aa L v xs u ys) : Rw2 w wr aa L u ys v xs := by
  obtain ⟨H, O, h1, h2⟩ := T.ex
  exact ⟨⟨H, O, h2, h1⟩, T.r2, T.r1, fun k hk hk2 => T.ne k hk2 hk⟩
theorem Rw2.start {G : Nat → Prop} (T : On w wr aa L G) : Rw2 w wr aa L (.slice none 0 0) [] (.slice none 0 0) [] :=
  ⟨⟨G, T, fun k h => by simp [Value.ownBlock] at h, fun k h => by simp [Value.ownBlock] at h⟩, World.ownsRow_nil _ _ _ _, World.ownsRow_nil _ _ _ _, fun k h => by simp [Value.ownBlock] at h⟩
theorem Rw2.step (T : Rw2 w wr aa L v xs u ys) (hB : Below wr.heap.size wr w') : Rw2 w w' aa L v xs u ys := by
  obtain ⟨H, O, h1, h2⟩ := T.ex
  exact ⟨⟨H, O.step hB, h1, h2⟩, row_keeps (F := fun _ => False) T.r1 (Keeps.of_below hB) (fun _ _ h => h), row_keeps (F := fun _ => False) T.r2 (Keeps.of_below hB) (fun _ _ h => h), T.ne⟩
theorem Rw2.calls (T : Rw2 w wr aa L v xs u ys) {i : Nat} {avs : Array Value} {Q : Ending → World → Prop} (h : ∀ G', On w wr aa L G' → Calls Try.prog i avs wr fun e w' => Q e w' ∧ On w w' aa L1 G' ∧ Stay G' wr w') : Calls Try.prog i avs wr fun e w' => Q e w' ∧ Rw2 w w' aa L1 v xs u ys := by
  obtain ⟨H, O, h1, h2⟩ := T.ex
  refine (h _ O).mono ?_
  rintro e w' ⟨hq, O', K⟩
  exact ⟨hq, ⟨H, O', h1, h2⟩, row_keeps T.r1 K (fun k hk hn => hn (h1 k hk)), row_keeps T.r2 K (fun k hk hn => hn (h2 k hk)), T.ne⟩
theorem Rw2.app (T : Rw2 w wr aa L v xs u ys) {o : Obj} {x : Int} {v' : Value} (hown : w'.ownsRow w.heap.size 3 1 v' (xs.length + 1) (xs.map (Value.int .i64) ++ [.int .i64 x])) (hg : (wr.alloc o).grownBy w' v.ownBlock) (hat : v'.ownBlock = v.ownBlock ∨ v'.ownBlock = some (wr.alloc o).heap.size) : ∃ p c, v' = .slice p (xs.length + 1) c ∧ Rw2 w w' aa L (.slice p (xs ++ [x]).length c) (xs ++ [x]) u ys := by
  obtain ⟨p, c, rfl⟩ := row_slice hown
  obtain ⟨H, O, h1, h2⟩ := T.ex
  have O2 := O.alloc o
  have hlen : (xs ++ [x]).length = xs.length + 1 := by simp
  have hA := (Below.refl _ wr).alloc (Nat.le_refl _) o
  have hK : Keeps (fun k => v.ownBlock = some k) (wr.alloc o) w' := Keeps.of_grown hg (fun k hk => hk)
  have O3 := O2.more (P := fun k => k = (wr.alloc o).heap.size ∧ k < w'.heap.size) hK (fun k hk => .inl ⟨h1 k hk, (row_base T.r1 hk).1⟩) (fun k hk => ⟨by omega, hk.2⟩)
  refine ⟨p, c, rfl, ⟨_, O3, fun k hk => ?_, fun k hk => .inl (h2 k hk)⟩, ?_, row_keeps (row_keeps (F := fun _ => False) T.r2 (Keeps.of_below hA) (fun _ _ h => h)) hK (fun k hk hk2 => T.ne k hk2 hk), fun k hk hk2 => ?_⟩
  · rw [hlen] at hk
    have hlt := (row_base hown hk).2
    rcases hat with h | h
    · rw [h] at hk
      exact .inl (h1 k hk)
    · rw [h] at hk
      cases hk
      exact .inr ⟨rfl, hlt⟩
  · rw [hlen, List.map_append]
    exact hown
  · rw [hlen] at hk
    have hl := (row_base T.r2 hk2).2
    rcases hat with h | h
    · rw [h] at hk
      exact T.ne k hk hk2
    · rw [h] at hk
      cases hk
      simp at hl
      omega
end
/-! the law's own wakes -/
def wmL : List Tm := [(2, 73, []), (1, 1, []), (1, 2, []), (1, 3, []), (9, 0, [0, 1, 2]), (9, 0, [0, 1, 3])]
theorem wm0 : put [] (2, 73, []) = (0, 0, [(2, 73, [])]) := by decide +kernel
theorem wm1 : put [(2, 73, [])] (1, 1, []) = (1, 0, [(2, 73, []), (1, 1, [])]) := by decide +kernel
theorem wm2 : put [(2, 73, []), (1, 1, [])] (1, 2, []) = (2, 0, [(2, 73, []), (1, 1, []), (1, 2, [])]) := by decide +kernel
theorem wm3 : put [(2, 73, []), (1, 1, []), (1, 2, [])] (1, 3, []) = (3, 0, [(2, 73, []), (1, 1, []), (1, 2, []), (1, 3, [])]) := by decide +kernel
theorem wm4 : put [(2, 73, []), (1, 1, []), (1, 2, []), (1, 3, [])] (9, 0, [0, 1, 2]) = (4, 0, [(2, 73, []), (1, 1, []), (1, 2, []), (1, 3, []), (9, 0, [0, 1, 2])]) := by decide +kernel
theorem wm5 : put [(2, 73, []), (1, 1, []), (1, 2, []), (1, 3, []), (9, 0, [0, 1, 2])] (9, 0, [0, 1, 3]) = (5, 0, wmL) := by decide +kernel
theorem wm_out {R : List Ky} {out : List Int} {z : Nat} (D : Done [(73, 1, 2), (73, 1, 3)] z [] 2 R out) : out = [3, 2] := by
  obtain ⟨_, hl, h⟩ := drops_done (by simp) D
  have h0 := h 0 (by omega)
  have h1 := h 1 (by omega)
  have e0 : ansD [(73, 1, 2), (73, 1, 3)] z 0 = 3 := by rw [ansD_one (j := 1) (by decide)]; rfl
  have e1 : ansD [(73, 1, 2), (73, 1, 3)] z 1 = 2 := by rw [ansD_one (j := 0) (by decide)]; rfl
  rw [e0] at h0
  rw [e1] at h1
  match out, hl, h0, h1 with
  | [a, b], _, h0, h1 =>
    simp at h0 h1
    rw [h0, h1]
attribute [local go_sem ↓] Go.wp_at_zero Go.wp_at_succ
set_option maxHeartbeats 8000000 in
theorem wakes24_ok (ws : World) : Calls Try.prog 9 #[] ws fun e w' => e = .returned (.bool true) ∧ Below ws.heap.size ws w' := by
  obtain ⟨z, M1, hM⟩ := mk_ex (L := wmL) (sh_word 0 (by omega)) (fun z hz => by cases hz) (by simp [wmL])
  have HM := (show Hid _ from hM)
  have HA := (show Hid (∀ j : Nat, j < 2 → ∃ (x : Nat) (u y b : Int), [(4 : Int), 5][j]? = some (x : Int) ∧ ([(73, 1, 2), (73, 1, 3)] : List Pl)[j]? = some (u, y, b) ∧ IsAsk wmL x (u, y, b)) from fun j hj => by
    have : j = 0 ∨ j = 1 := by omega
    rcases this with rfl | rfl
    · exact ⟨4, 73, 1, 2, rfl, rfl, .three 73 0 1 2 rfl rfl (.inr rfl)⟩
    · exact ⟨5, 73, 1, 3, rfl, rfl, .three 73 0 1 3 rfl rfl (.inr rfl)⟩)
  clear hM
  go_enter Try.func9, Try.ntmps9
  go_wp2_with (first
    | (go_at_call 5; refine (new_ar _).mono ?_; rintro ev w1 ⟨ab, F0, rfl, A0, hF0, B0⟩; have T0 := on_fresh A0 hF0 B0; clear A0 hF0 B0)
    | (go_at_call 6; refine (make_on T0 2 73 (v := .slice none 0 0) (xs := []) (.inl ⟨rfl, rfl⟩) (by omega) wm0).mono ?_; rintro ev w2 ⟨rfl, T1, _⟩; clear T0)
    | (go_at_call 6; refine (make_on T1 1 1 (v := .slice none 0 0) (xs := []) (.inl ⟨rfl, rfl⟩) (by omega) wm1).mono ?_; rintro ev w3 ⟨rfl, T2, _⟩; clear T1)
    | (go_at_call 6; refine (make_on T2 1 2 (v := .slice none 0 0) (xs := []) (.inl ⟨rfl, rfl⟩) (by omega) wm2).mono ?_; rintro ev w4 ⟨rfl, T3, _⟩; clear T2)
    | (go_at_call 6; refine (make_on T3 1 3 (v := .slice none 0 0) (xs := []) (.inl ⟨rfl, rfl⟩) (by omega) wm3).mono ?_; rintro ev w5 ⟨rfl, T4, _⟩; clear T3)
    | (go_at_call 6; refine (make_on (T4.alloc _) 9 0 (xs := [0, 1, 2]) (reads_lit [0, 1, 2] rfl rfl _) (by omega) wm4).mono ?_; rintro ev w6 ⟨rfl, T5, _⟩; clear T4)
    | (go_at_call 6; refine (make_on (T5.alloc _) 9 0 (xs := [0, 1, 3]) (reads_lit [0, 1, 3] rfl rfl _) (by omega) wm5).mono ?_; rintro ev w7 ⟨rfl, T6, _⟩; clear T5)
    | (go_at_call 7
       have T7 := (show Hid (On ws (w7.alloc (.cells #[.int .i64 4, .int .i64 5] 3)) ab wmL (fun k => False ∨ k = w7.heap.size)) from T6.add ((Below.refl _ w7).alloc (Nat.le_refl _) _) (fun k hk => by simp; omega))
       refine (mixdo_ok T7 HM none 0 0 [] rfl (by omega) (show Hid _ from (⟨none, 0, rfl, .inl rfl⟩ : RdK _ (.slice none 0 0) [])) (fun k hk => by simp [Value.ownBlock] at hk) (fun k hk => by cases hk) _ 2 2 [4, 5] [(73, 1, 2), (73, 1, 3)] rfl rfl (by omega) (show Hid _ from (reads_lit [4, 5] rfl rfl _).rdw) (fun k hk => .inr (by simpa [Value.ownBlock] using hk.symm)) HA).mono ?_
       rintro ev w8 ⟨pn, cn, po, co, R, out, rfl, k1, k2, k3, k4, k5, k6⟩
       obtain rfl := wm_out k1
       obtain ⟨g, hg, _, _, _, hc⟩ := row_open k5 (by simp)
       subst hg
       have x0 : w8.cell? ⟨g, 0, none⟩ = some (.int .i64 3) := hc 0 (by simp)
       have x1 : w8.cell? ⟨g, 1, none⟩ = some (.int .i64 2) := hc 1 (by simp)
       have hb := k2.below
       clear k1 k2 k3 k4 k5 k6 hc))
  go_ret
  exact ⟨rfl, hb⟩
end Go.Proofs.Ytenllpaochcjfaa

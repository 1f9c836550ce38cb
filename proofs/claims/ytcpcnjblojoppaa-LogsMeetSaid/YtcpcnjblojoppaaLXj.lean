/-
  LAYER 25: Put. Own work.
-/
import Derived.Test.YtcpcnjblojoppaaLXi
import Derived.Deep.RegionWith
namespace Go.Proofs.Ytcpcnjblojoppaa
open Go.ChangeShapes Go.WideShapes Go.ChangeAt Go.RowKit Go.Maps
set_option maxRecDepth 100000
attribute [local go_sem ↓] Go.wp_at_zero Go.wp_at_succ
/-- What one has of a client. -/
def HadIs (S : List Lg) (client : Nat) (had : Int) : Prop := ∀ zs, HaveR S S.length zs → zs.getD client 0 = had
theorem have_at {v : Value} {S : List Lg} {ws : World} (h : Logs ws v S) (h4 : S.length ≤ 1000) (hR : Right S) {client : Nat} {had : Int} (hc : client < 8) (hh : HadIs S client had) : Calls Try.prog 14 #[v] ws fun e w' => ∃ g c, e = .returned (.slice (some ⟨g, 0, none⟩) 8 c) ∧ w'.cell? ⟨g, client, none⟩ = some (.int .i64 had) ∧ Below ws.heap.size ws w' := by
  have h' := h
  obtain ⟨p, c, rfl, _⟩ := h
  refine (have_low p _ c S rfl h4 ws hR h').mono ?_
  rintro e w' ⟨g, c', rfl, zs, hz, hown, hB⟩
  have hi := irow_of hown
  have hl := hz.len
  have h2 := World.ownsRow.cellAt hown client (by omega)
  rw [List.getElem?_map, List.getElem?_eq_getElem (by omega)] at h2
  have h3 := hh zs hz
  rw [List.getD_eq_getElem?_getD, List.getElem?_eq_getElem (by omega)] at h3
  refine ⟨g, c', rfl, ?_, hB⟩
  rw [h2]
  simp only [Option.map_some]
  exact congrArg (fun z => some (Value.int .i64 z)) h3
set_option maxHeartbeats 8000000 in
/-- Put, of what comes too late. -/
theorem putm_skip (v : Value) (S : List Lg) (ws : World) (HS : Hid (Logs ws v S)) (h4 : S.length ≤ 900) (HR : Hid (Right S)) (client : Nat) (seq body had : Int) (hc8 : client < 8) (hb0 : 0 ≤ body) (hb1 : body ≤ 1048576) (hs1 : 1 ≤ seq) (HH : Hid (HadIs S client had)) (hh0 : 0 ≤ had) (hh1 : had ≤ 2000000000) (hlt : had + 1 < seq) : Calls Try.prog 20 #[v, .agg #[.int .i64 client, .int .i64 seq, .int .i64 body]] ws fun e w' => e = .returned (.tuple #[.slice none 0 0, .bool false, .int .i64 14]) ∧ Below ws.heap.size ws w' := by
  have hk8 : (client : Int) < 8 := by omega
  have d1 : decide (seq < 1) = false := decide_eq_false (by omega)
  have hw1 : IntKind.i64.wrap (had + 1) = had + 1 := IntWalk.i64_in _ (by omega)
  have d2 : decide (seq ≤ had) = false := decide_eq_false (by omega)
  have d3 : decide (had + 1 < seq) = true := decide_eq_true (by omega)
  go_enter Try.func20, Try.ntmps20
  go_wp2_with (first
    | (go_at_call 11; refine (check_yes (Logs.below HS.out ((Below.refl _ ws).alloc (Nat.le_refl _) (.cells #[.int .i64 client, .int .i64 seq, .int .i64 body] 24))) (by omega) HR.out).mono ?_; rintro ev w1 ⟨rfl, B1⟩
       have hsz := B1.size
       simp only [World.size_alloc] at hsz
       have y0 : w1.cell? ⟨ws.heap.size, 0, none⟩ = some (.int .i64 client) := (B1.cell (p := ⟨ws.heap.size, 0, none⟩) (by simp)).trans (by simp [go_sem])
       have y1 : w1.cell? ⟨ws.heap.size, 1, none⟩ = some (.int .i64 seq) := (B1.cell (p := ⟨ws.heap.size, 1, none⟩) (by simp)).trans (by simp [go_sem])
       have y2 : w1.cell? ⟨ws.heap.size, 2, none⟩ = some (.int .i64 body) := (B1.cell (p := ⟨ws.heap.size, 2, none⟩) (by simp)).trans (by simp [go_sem])
       have B0 : Below ws.heap.size ws w1 := ((Below.refl _ ws).alloc (Nat.le_refl _) _).trans (B1.mono (by simp))
       clear B1)
    | (go_at_call 29; refine (may_yes client body (by omega) hk8 hb0 hb1 _).mono ?_; rintro ev w1 ⟨rfl, rfl⟩))
  go_region_with (go_at_call 14; refine (have_at (Logs.below HS.out (by first | exact B0 | exact B0.drew)) (by omega) HR.out hc8 HH.out).mono ?_; rintro ev w3 ⟨g3, c3, rfl, v3, B3⟩; have v0 := (B3.cell (p := ⟨ws.heap.size, 0, none⟩) (show ws.heap.size < w1.heap.size by omega)).trans y0; have v1 := (B3.cell (p := ⟨ws.heap.size, 1, none⟩) (show ws.heap.size < w1.heap.size by omega)).trans y1; have v2 := (B3.cell (p := ⟨ws.heap.size, 2, none⟩) (show ws.heap.size < w1.heap.size by omega)).trans y2; have BB : Below ws.heap.size ws w3 := by first | exact B0.trans (B3.mono B0.size) | exact B0.drew.trans (B3.mono B0.size))
  all_goals clear y0 y1 y2 B3 v3
  all_goals (try simp only [Exit.then]
             go_wp2
             go_ret3
             exact ⟨rfl, BB⟩)
set_option maxHeartbeats 8000000 in
/-- Put, of the next one. -/
theorem putm_next (v : Value) (S : List Lg) (ws : World) (HS : Hid (Logs ws v S)) (h4 : S.length ≤ 900) (HR : Hid (Right S)) (client : Nat) (seq body had : Int) (hc8 : client < 8) (hb0 : 0 ≤ body) (hb1 : body ≤ 1048576) (_ : 1 ≤ seq) (HH : Hid (HadIs S client had)) (hh0 : 0 ≤ had) (hh1 : had ≤ 2000000000) (hlt : seq = had + 1) (HL : Hid (LastL S client)) : Calls Try.prog 20 #[v, .agg #[.int .i64 client, .int .i64 seq, .int .i64 body]] ws fun e w' => ∃ v' k er, e = .returned (.tuple #[v', .bool (er == 0), .int .i64 er]) ∧ PutSpec S client body w' v' k er ∧ Below ws.heap.size ws w' := by
  have hk8 : (client : Int) < 8 := by omega
  have d1 : decide (seq < 1) = false := decide_eq_false (by omega)
  have hw1 : IntKind.i64.wrap (had + 1) = had + 1 := IntWalk.i64_in _ (by omega)
  have d2 : decide (seq ≤ had) = false := decide_eq_false (by omega)
  have d3 : decide (had + 1 < seq) = false := decide_eq_false (by omega)
  clear hlt
  go_enter Try.func20, Try.ntmps20
  go_wp2_with (first
    | (go_at_call 11; refine (check_yes (Logs.below HS.out ((Below.refl _ ws).alloc (Nat.le_refl _) (.cells #[.int .i64 client, .int .i64 seq, .int .i64 body] 24))) (by omega) HR.out).mono ?_; rintro ev w1 ⟨rfl, B1⟩
       have hsz := B1.size
       simp only [World.size_alloc] at hsz
       have y0 : w1.cell? ⟨ws.heap.size, 0, none⟩ = some (.int .i64 client) := (B1.cell (p := ⟨ws.heap.size, 0, none⟩) (by simp)).trans (by simp [go_sem])
       have y1 : w1.cell? ⟨ws.heap.size, 1, none⟩ = some (.int .i64 seq) := (B1.cell (p := ⟨ws.heap.size, 1, none⟩) (by simp)).trans (by simp [go_sem])
       have y2 : w1.cell? ⟨ws.heap.size, 2, none⟩ = some (.int .i64 body) := (B1.cell (p := ⟨ws.heap.size, 2, none⟩) (by simp)).trans (by simp [go_sem])
       have B0 : Below ws.heap.size ws w1 := ((Below.refl _ ws).alloc (Nat.le_refl _) _).trans (B1.mono (by simp))
       clear B1)
    | (go_at_call 29; refine (may_yes client body (by omega) hk8 hb0 hb1 _).mono ?_; rintro ev w1 ⟨rfl, rfl⟩))
  go_region_with (go_at_call 14; refine (have_at (Logs.below HS.out (by first | exact B0 | exact B0.drew)) (by omega) HR.out hc8 HH.out).mono ?_; rintro ev w3 ⟨g3, c3, rfl, v3, B3⟩; have v0 := (B3.cell (p := ⟨ws.heap.size, 0, none⟩) (show ws.heap.size < w1.heap.size by omega)).trans y0; have v1 := (B3.cell (p := ⟨ws.heap.size, 1, none⟩) (show ws.heap.size < w1.heap.size by omega)).trans y1; have v2 := (B3.cell (p := ⟨ws.heap.size, 2, none⟩) (show ws.heap.size < w1.heap.size by omega)).trans y2; have BB : Below ws.heap.size ws w3 := by first | exact B0.trans (B3.mono B0.size) | exact B0.drew.trans (B3.mono B0.size))
  all_goals clear y0 y1 y2 B3 v3
  all_goals (try simp only [Exit.then]
             go_wp2_with (go_at_call 30; refine (put_ok (Logs.below HS.out BB) h4 HR.out (by omega) hk8 ⟨by omega, by omega⟩ HL.out).mono ?_; rintro ev w4 ⟨v', k, er, rfl, hp, B4⟩; have HP := (show Hid (PutSpec S client body w4 v' k er) from hp); clear hp)
             go_ret3
             exact ⟨v', k, er, rfl, HP.out, BB.trans (B4.mono BB.size)⟩)
set_option maxHeartbeats 8000000 in
/-- Put, of what is there. -/
theorem putm_old (v : Value) (S : List Lg) (ws : World) (HS : Hid (Logs ws v S)) (h4 : S.length ≤ 900) (HR : Hid (Right S)) (client : Nat) (seq body had : Int) (hc8 : client < 8) (hb0 : 0 ≤ body) (hb1 : body ≤ 1048576) (hs1 : 1 ≤ seq) (HH : Hid (HadIs S client had)) (hh0 : 0 ≤ had) (hh1 : had ≤ 2000000000) (hlt : seq ≤ had) : Calls Try.prog 20 #[v, .agg #[.int .i64 client, .int .i64 seq, .int .i64 body]] ws fun e w' => ∃ v' T, e = .returned (.tuple #[v', .bool false, .int .i64 0]) ∧ Alike S T ∧ Logs w' v' T ∧ Below ws.heap.size ws w' := by
  have hk8 : (client : Int) < 8 := by omega
  have d1 : decide (seq < 1) = false := decide_eq_false (by omega)
  have hw1 : IntKind.i64.wrap (had + 1) = had + 1 := IntWalk.i64_in _ (by omega)
  have d2 : decide (seq ≤ had) = true := decide_eq_true (by omega)
  have hbnd : Hid (∀ i (h : i < S.length), S[i].xs.length ≤ 1000) := fun i h => by
    have := (HR.out.1 i h).2.2.2.2.1
    omega
  obtain ⟨p, n, cc, rfl, hn⟩ : ∃ p n cc, v = .slice p n cc ∧ S.length = n := by
    obtain ⟨p, c, rfl, _⟩ := HS.out
    exact ⟨p, _, c, rfl, rfl⟩
  go_enter Try.func20, Try.ntmps20
  go_wp2_with (first
    | (go_at_call 11; refine (check_yes (Logs.below HS.out ((Below.refl _ ws).alloc (Nat.le_refl _) (.cells #[.int .i64 client, .int .i64 seq, .int .i64 body] 24))) (by omega) HR.out).mono ?_; rintro ev w1 ⟨rfl, B1⟩
       have hsz := B1.size
       simp only [World.size_alloc] at hsz
       have y0 : w1.cell? ⟨ws.heap.size, 0, none⟩ = some (.int .i64 client) := (B1.cell (p := ⟨ws.heap.size, 0, none⟩) (by simp)).trans (by simp [go_sem])
       have y1 : w1.cell? ⟨ws.heap.size, 1, none⟩ = some (.int .i64 seq) := (B1.cell (p := ⟨ws.heap.size, 1, none⟩) (by simp)).trans (by simp [go_sem])
       have y2 : w1.cell? ⟨ws.heap.size, 2, none⟩ = some (.int .i64 body) := (B1.cell (p := ⟨ws.heap.size, 2, none⟩) (by simp)).trans (by simp [go_sem])
       have B0 : Below ws.heap.size ws w1 := ((Below.refl _ ws).alloc (Nat.le_refl _) _).trans (B1.mono (by simp))
       clear B1)
    | (go_at_call 29; refine (may_yes client body (by omega) hk8 hb0 hb1 _).mono ?_; rintro ev w1 ⟨rfl, rfl⟩))
  go_region_with (go_at_call 14; refine (have_at (Logs.below HS.out (by first | exact B0 | exact B0.drew)) (by omega) HR.out hc8 HH.out).mono ?_; rintro ev w3 ⟨g3, c3, rfl, v3, B3⟩; have v0 := (B3.cell (p := ⟨ws.heap.size, 0, none⟩) (show ws.heap.size < w1.heap.size by omega)).trans y0; have v1 := (B3.cell (p := ⟨ws.heap.size, 1, none⟩) (show ws.heap.size < w1.heap.size by omega)).trans y1; have v2 := (B3.cell (p := ⟨ws.heap.size, 2, none⟩) (show ws.heap.size < w1.heap.size by omega)).trans y2; have BB : Below ws.heap.size ws w3 := by first | exact B0.trans (B3.mono B0.size) | exact B0.drew.trans (B3.mono B0.size))
  all_goals clear y0 y1 y2 B3 v3
  all_goals (try simp only [Exit.then]
             go_wp2_with (go_at_call 34; refine (copyl_low p n cc S hn (by omega) hbnd _ (Logs.below HS.out BB)).mono ?_; rintro ev w4 ⟨p4, c4, rfl, T, hA, _, hO, B4⟩; have HO := (show Hid (OwnT w4 w3.heap.size (.slice p4 n c4) T n) from hO); have HA := (show Hid (Alike S T) from hA); clear hO hA)
             go_ret3
             exact ⟨_, T, rfl, HA.out, OwnT.logs HO.out (HA.out.1.trans hn) (Alike.in3 HA.out (logs_in HS.out)), BB.trans (B4.mono BB.size)⟩)
end Go.Proofs.Ytcpcnjblojoppaa

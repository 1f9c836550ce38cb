/-
  STORE: errors made and wrapped; a head is read. Own work.
-/
import Derived.Test.YtafpfiadapabaaaDoorSTb
namespace Go.Proofs.YtafpfiadapabaaaDoor
open Go.ChangeShapes Go.WideShapes Go.ChangeAt Go.RowKit Go.Maps Go.Deep
set_option maxRecDepth 100000
attribute [local go_sem ↓] Go.wp_at_zero Go.wp_at_succ
def atE (s : Value) (e : Value) : Value := .iface 89 (.agg #[s, e])
def noE (z : Int) : Value := .iface 25 (.int .i64 z)
def sHead : Value := .string ⟨#[104, 101, 97, 100]⟩
section
variable {w : World}
set_option maxHeartbeats 4000000 in
theorem of_no (b) : Calls Tryd.prog 32 #[.string b, .int .i64 0] w fun e w' => e = .returned .nilIface ∧ w' = w := by
  go_enter Tryd.func32, Tryd.ntmps32
  go_wp2
  go_ret
  exact ⟨rfl, rfl⟩
set_option maxHeartbeats 4000000 in
theorem of_at (b) {z : Int} (hz : ¬ z = 0) : Calls Tryd.prog 32 #[.string b, .int .i64 z] w fun e w' => e = .returned (atE (.string b) (noE z)) ∧ w' = w := by
  go_enter Tryd.func32, Tryd.ntmps32
  go_wp2
  go_ret
  exact ⟨rfl, rfl⟩
set_option maxHeartbeats 4000000 in
theorem wrap_no (b) : Calls Tryd.prog 29 #[.string b, .nilIface] w fun e w' => e = .returned .nilIface ∧ w' = w := by
  go_enter Tryd.func29, Tryd.ntmps29
  go_wp2
  go_ret
  exact ⟨rfl, rfl⟩
theorem eql_nil (t : TypeId) (v : Value) (w : World) : (binOp .eql 59 (.iface t v) .nilIface).run Tryd.prog w = .ok (.bool false) w := by
  have h : ∀ d : Nat, (Op.equalIn (d + 1) 59 (.iface t v) .nilIface).run Tryd.prog w = .ok false w := fun d => by simp [Op.equalIn, run_underlying Tryd.underlying59]
  simp only [binOp]
  simp [Op.equal, Op.maxDepth, h 9999]
theorem neq_nil (t : TypeId) (v : Value) (w : World) : (binOp .neq 59 (.iface t v) .nilIface).run Tryd.prog w = .ok (.bool true) w := by
  have h : ∀ d : Nat, (Op.equalIn (d + 1) 59 (.iface t v) .nilIface).run Tryd.prog w = .ok false w := fun d => by simp [Op.equalIn, run_underlying Tryd.underlying59]
  simp only [binOp]
  simp [Op.equal, Op.maxDepth, h 9999]
set_option maxHeartbeats 4000000 in
theorem wrap_at (b) (t : TypeId) (v : Value) : Calls Tryd.prog 29 #[.string b, .iface t v] w fun e w' => e = .returned (atE (.string b) (.iface t v)) ∧ w' = w := by
  have h1 := eql_nil
  go_enter Tryd.func29, Tryd.ntmps29
  go_wp2
  go_ret
  exact ⟨rfl, rfl⟩
end
section
variable {w0 w w' : World} {db n : Nat} {d : Dk} {vs vn vw vk : Value} {R : List RowD}
set_option maxHeartbeats 4000000 in
theorem read_okB (T : Dsk w0 w db n d vs vn vw vk R) (i : Nat) (s : Sec) (hs : d.now[i]? = some s) (hoff : d.off = false) (ht : s.2 = false) : Calls Tryd.prog 30 #[.pointer (some ⟨db, 0, none⟩), .int .i64 (i : Int)] w fun e w' => ∃ v, e = .returned (.tuple #[v, .int .i64 0]) ∧ Below w.heap.size w w' ∧ w'.ownsRow w.heap.size 5 1 v 64 (s.1.map (Value.int .u8)) := by
  have hi : i < n := by rw [← T.ok.ln]; exact (List.getElem?_eq_some_iff.1 hs).1
  have c3 := T.c3
  rw [hoff] at c3
  have c1 := T.c1
  obtain ⟨g, c, rfl, hrow⟩ := T.rn
  have h64 := T.ok.n64 s (List.mem_of_getElem? hs)
  have hx := fun j (hj : j < 65) => wide_cell (sv_len T.ok.n64) hrow i j s hs hj
  have c64 : w.cell? ⟨g, i * 65 + 64, none⟩ = some (.bool false) := by
    rw [hx 64 (by omega), sv, List.getElem?_append_right (by simp [h64])]
    simp [h64, ht]
  have hgl := World.block_lt_of_cell? w _ c64
  have RV : RdV w (.slice (some ⟨g, i * 65, none⟩) 64 64) (s.1.map (Value.int .u8)) := ⟨_, 64, by simp [h64], .inr ⟨g, i * 65, rfl, hgl, fun j hj => by
    have hj' : j < 64 := by simpa [h64] using hj
    rw [hx j (by omega), sv, List.getElem?_append_left (by simpa using hj)]⟩⟩
  clear hx
  have hiI : (i : Int) < n := by omega
  go_enter Tryd.func30, Tryd.ntmps30
  go_wp2_with (first
    | (go_at_call 39; refine (has_ok T _).mono ?_; rintro ev w1 ⟨rfl, rfl⟩)
    | (go_at_call 27; refine (cloneB_ok RV (by simp [h64]) (one_map _ (fun _ => rfl) _)).mono ?_; rintro ev w4 ⟨v4, rfl, hr4, hB4⟩))
  refine bodyPost_ret (v := .tuple #[v4, .int .i64 0]) (by simp [results, Tryd.results30, go_sem]) rfl ?_
  have hr4' : w4.ownsRow w1.heap.size 5 1 v4 64 (s.1.map (Value.int .u8)) := by simpa [h64] using hr4
  exact ⟨v4, rfl, hB4, hr4'⟩
def hval (t : Nat × Nat × Nat) : Value := .agg #[.int .i64 (t.1 : Int), .int .i64 (t.2.1 : Int), .int .i64 (t.2.2 : Int)]
set_option maxHeartbeats 4000000 in
theorem readHead_torn (T : Dsk w0 w db n d vs vn vw vk R) (a : Nat) (s : Sec) (hs : d.now[a]? = some s) (hoff : d.off = false) (ht : s.2 = true) : Calls Tryd.prog 37 #[.pointer (some ⟨db, 0, none⟩), .int .i64 (a : Int)] w fun e w' => e = .returned (.tuple #[hval (0, 0, 0), atE sHead (noE 10)]) ∧ Below w.heap.size w w' := by
  have B1 := (Below.refl w.heap.size w).alloc (Nat.le_refl _) (.cells #[.int .i64 0, .int .i64 0, .int .i64 0] 73)
  have T1 := T.step B1
  go_enter Tryd.func37, Tryd.ntmps37
  go_wp2_with (first
    | (go_at_call 30; refine (read_torn T1 a s hs hoff ht).mono ?_; rintro ev w1 ⟨rfl, rfl⟩)
    | (go_at_call 32; refine (of_at _ (by decide)).mono ?_; rintro ev w1 ⟨rfl, rfl⟩))
  refine bodyPost_ret (v := .tuple #[hval (0, 0, 0), atE sHead (noE 10)]) (by simp [results, Tryd.results37, go_sem, hval, sHead]) rfl ?_
  exact ⟨rfl, B1⟩
end
end Go.Proofs.YtafpfiadapabaaaDoor

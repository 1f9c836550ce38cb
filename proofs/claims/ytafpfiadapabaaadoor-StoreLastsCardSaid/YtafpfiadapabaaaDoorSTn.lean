/-
  STORE: wakes. Own work.
-/
import Derived.Test.YtafpfiadapabaaaDoorSTm
import Derived.Laws.IdiomStrings
import Derived.Lib.SlBytesConst
namespace Go.Proofs.YtafpfiadapabaaaDoor
open Go.ChangeShapes Go.WideShapes Go.ChangeAt Go.RowKit Go.Maps Go.Deep
set_option maxRecDepth 100000
attribute [local go_sem ↓] Go.wp_at_zero Go.wp_at_succ
/-- A literal row of bytes. -/
theorem Dst.lit {w0 w : World} {db n m : Nat} {S : List Int} {off : Bool} {R : List RowD} (T : Dst w0 w db n S m off R) (cs : Array Value) (l : List Int) (h : cs.toList = l.map (Value.int .u8)) (hl : l.length ≤ 1000) : Dst w0 (w.alloc (.cells cs 5)) db n S m off (R ++ [byteRow (.slice (some ⟨w.heap.size, 0, none⟩) l.length l.length) l]) := by
  have e : cs.size = l.length := by rw [← Array.length_toList, h, List.length_map]
  have h1 := World.ownsRow_lit (base := w.heap.size) (e := 5) (size := 1) w cs l.length (Nat.le_refl _) (by unfold maxLen; omega) (by rw [e, Nat.mul_one])
  rw [h] at h1
  exact T.add ((Below.refl _ w).alloc (Nat.le_refl _) _) h1
/-- What lies in the family stays. -/
theorem Stays.mem {w0 : World} {db n : Nat} {R : List RowD} {v : Value} {l : List Int} (h : byteRow v l ∈ R) : Stays w0 db n R v (l.map (Value.int .u8)) := fun wx _ _ _ _ _ T => rdv_row (show wx.ownsRow w0.heap.size 5 1 v l.length (l.map (Value.int .u8)) from T.rowM (r := byteRow v l) h)
theorem Stays.old {w0 : World} {db n : Nat} {R : List RowD} {v : Value} {cs : List Value} (h : RdV w0 v cs) : Stays w0 db n R v cs := fun _ _ _ _ _ _ T => h.below T.fam.below
theorem cap_lit (a : Option Addr) (l : Nat) : ∀ p n c, Value.slice a l l = .slice p n c → n ≤ c := fun p n c h => by cases h; exact Nat.le_refl _
theorem ne_st {v u : Value} {l : List Int} {sb db : Nat} : byteRow v l ≠ stRow sb db u := fun h => absurd (congrArg RowD.size h) (show (1 : Nat) ≠ 2 by decide)
/-- The block of a literal text's bytes, marked. -/
def markRow (g : Nat) (o : Obj) : RowD := ⟨0, 0, .slice (some ⟨g, 0, none⟩) 0 0, 0, [], some o⟩
theorem Dst.mark {w0 w : World} {db n m : Nat} {S : List Int} {off : Bool} {R : List RowD} (T : Dst w0 w db n S m off R) (o : Obj) : Dst w0 (w.alloc o) db n S m off (R ++ [markRow w.heap.size o]) :=
  T.add ((Below.refl _ w).alloc (Nat.le_refl _) _) ⟨w.heap.size, rfl, Nat.le_refl _, heap_alloc_new w o⟩
theorem Stays.mark {w0 : World} {db n : Nat} {R : List RowD} {g : Nat} {cs : Array Value} {t : TypeId} {fr : Nat × Nat} (h : markRow g (.cells cs t fr) ∈ R) (c : Nat) : Stays w0 db n R (.slice (some ⟨g, 0, none⟩) cs.size c) cs.toList := fun wx _ _ _ _ _ T => by
  obtain ⟨g', h1, _, h3⟩ := T.rowM h
  obtain rfl : g = g' := Option.some.inj h1
  refine ⟨_, c, rfl, .inr ⟨g, 0, rfl, (Array.getElem?_eq_some_iff.1 h3).1, fun j hj => ?_⟩⟩
  rw [Nat.zero_add, World.cell?, h3]
  simp
theorem conv_mark (w : World) (n c : Nat) (C : Array Value) : (convert 31 31 (.slice (some ⟨w.heap.size, 0, none⟩) n c)).run Tryd.prog (w.alloc (.cells C 5)) = .ok (.slice (some ⟨w.heap.size, 0, none⟩) n c) (w.alloc (.cells C 5 (C.size, C.size + 1))) := Go.Lib.run_convert_bytes_const w 31 5 C n c Tryd.underlying31 Tryd.underlying5
theorem wk_save {w0 w : World} {db g sb : Nat} {vst : Value} {R : List RowD} (T : Dst w0 w db 512 [] 0 false (R ++ [markRow g (.cells #[.int .u8 120] 5 (1, 2))])) (hg : w0.cell? ⟨0, 0, none⟩ = some eTy) (hs : stRow sb db vst ∈ R) : Calls Tryd.prog 14 #[.pointer (some ⟨sb, 0, none⟩), .slice (some ⟨g, 0, none⟩) 1 1] w fun e w' => e = .returned (.int .i64 0) ∧ ∃ R' v', Dst w0 w' db 512 [120] 1 false R' ∧ stRow sb db v' ∈ R' ∧ byteRow v' [120] ∈ R' := by
  have hy : Stays w0 db 512 (R ++ [markRow g (.cells #[.int .u8 120] 5 (1, 2))]) (.slice (some ⟨g, 0, none⟩) 1 1) ([(120 : Int)].map (Value.int .u8)) := Stays.mark (cs := #[.int .u8 120]) (List.mem_append.2 (.inr (List.mem_singleton.2 rfl))) 1
  refine (save_st T hg (by omega) (S' := [120]) (by decide) (by omega) hy (cap_lit _ _) (sb := sb) (vst := vst) (List.mem_append.2 (.inl hs))).mono ?_
  rintro e w' ⟨rfl, R', v', T', h1, h2, _⟩
  exact ⟨rfl, R', v', T', h1, h2⟩
set_option maxHeartbeats 8000000 in
theorem wakes14_ok (w : World) (hg : w.cell? ⟨0, 0, none⟩ = some eTy) : Calls Tryd.prog 21 #[] w fun e w' => e = .returned (.bool true) ∧ Below w.heap.size w w' := by
  have HG := (show Hid _ from hg)
  clear hg
  have hcs := conv_mark
  go_enter Tryd.func21, Tryd.ntmps21
  go_wp2_with (first
    | (go_at_call 9; refine (new_st 512 (by omega) (by omega) w).mono ?_; rintro ev w1 ⟨db, rfl, T1⟩; have F1 : Nat := 0)
    | (go_at_call 10; have t1 := F1; clear t1; refine (open_st T1 (by omega)).mono ?_; rintro ev w2 ⟨sb, v2, rfl, B2, T2⟩; clear F1 T1; have F2 : Nat := 0)
    | (go_at_call 17; have t1 := F2; clear t1; refine (state_st T2 (S1 := []) (List.mem_cons.2 (.inr (List.mem_cons_self))) (List.mem_cons_self) (by simp)).mono ?_; rintro ev w3 ⟨u3, rfl, B3, hr3⟩; obtain ⟨p3, c3, rfl⟩ := row_slice hr3; have T3 := T2.step B3; clear F2 T2 hr3
       have T4 := T3.mark (.cells #[.int .u8 120] 5 (1, 2))
       clear T3)
    | (go_at_call 14; refine (wk_save T4 HG.out (sb := sb) (vst := v2) (by simp)).mono ?_; rintro ev w5 ⟨rfl, R5, v5, T5, hs5, hb5⟩; have F5 : Nat := 0; clear T4)
    | (go_at_call 10; have t1 := F5; clear t1; refine (open_st T5 (by omega)).mono ?_; rintro ev w6 ⟨sb6, v6, rfl, B6, T6⟩; clear F5 T5; have F6 : Nat := 0)
    | (go_at_call 17; have t1 := F6; clear t1; refine (state_st T6 (S1 := [120]) (sb := sb6) (v := v6) (by simp) (by simp) (by decide)).mono ?_; rintro ev w7 ⟨u7, rfl, B7, hr7⟩; have T7 := T6.step B7; clear F6 T6
       obtain ⟨p7, c7, rfl⟩ := row_slice hr7
       obtain ⟨g7, rfl, _, _, _, h7⟩ := row_open hr7 (by decide)
       have hk : (convert 31 9 (.slice (some ⟨g7, 0, none⟩) 1 c7)).run Tryd.prog w7 = .ok (.string ⟨#[120]⟩) w7 := run_convert_bytes_back (P := Tryd.prog) w7 31 9 5 ⟨g7, 0, none⟩ c7 [120] Tryd.underlying31 Tryd.underlying5 Tryd.underlying9 (fun j hj => by
         have hj0 : j = 0 := by simp at hj; omega
         subst hj0
         exact h7 0 (by decide))
       clear hr7 h7))
  go_ret
  exact ⟨by simp, T7.below⟩
end Go.Proofs.YtafpfiadapabaaaDoor

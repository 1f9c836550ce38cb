/-
  STORE: a head is written. Own work.
-/
import Derived.Test.YtafpfiadapabaaaDoorSTi
namespace Go.Proofs.YtafpfiadapabaaaDoor
open Go.ChangeShapes Go.WideShapes Go.ChangeAt Go.RowKit Go.Maps Go.Deep
set_option maxRecDepth 100000
attribute [local go_sem ↓] Go.wp_at_zero Go.wp_at_succ
def Dk.wrote (d : Dk) (i : Nat) (bs : List Int) : Dk := { d with wr := d.wr ++ [(i, bs)], left := d.left - 1, now := d.now.set i (bs, false) }
def Dk.synced (d : Dk) : Dk := { d with safe := syn d.wr d.now d.safe d.wr.length, wr := [], left := d.left - 1 }
theorem gone_crash (d : Dk) (ks : List Bool) (t : Int) : Gone (d.crash ks t) := ⟨rfl, rfl, rfl, rfl⟩
theorem Quiet.head {d : Dk} (Q : Quiet d) (i : Nat) (bs : List Int) : Quiet (d.wrote i bs).synced := by
  refine ⟨Q.off, rfl, ?_⟩
  show d.now.set i (bs, false) = syn (d.wr ++ [(i, bs)]) (d.now.set i (bs, false)) d.safe (d.wr ++ [(i, bs)]).length
  rw [syn_all (by rw [List.length_set, Q.eq]) (fun p hp => ?_)]
  have hne := hp (i, bs) (List.mem_append.2 (.inr (List.mem_singleton.2 rfl)))
  rw [List.getElem?_set_ne (Ne.symm hne), Q.eq]
section
variable {d : Dk} {S S' : List Int} {h0 h1 : Hds} {a c : Nat}
theorem head_next (H : Held d.now S h0 h1 a c) (hn : 2 ≤ d.now.length) (hA : InA d.now (1 - a) S') (hS : S'.length ≤ 8000) (hc : c + 1 < 60000) : ∃ k0 k1, Held (d.wrote (1 - a) (hd (c + 1) S'.length)).synced.now S' k0 k1 (1 - a) (c + 1) :=
  H.next (l' := d.now.set (1 - a) (hd (c + 1) S'.length, false)) (fun p hp => List.getElem?_set_ne (Ne.symm hp)) (List.getElem?_set_self (by omega)) hS hc hA
theorem head_cut1 (H : Held d.now S h0 h1 a c) (Q : Quiet d) (hn : 2 ≤ d.now.length) (hA : InA d.now (1 - a) S') (hS : S'.length ≤ 8000) (hc : c + 1 < 60000) : (∃ k0 k1, Held (({ d with wr := d.wr ++ [(1 - a, hd (c + 1) S'.length)] } : Dk).crash d.keep d.torn).now S k0 k1 a c) ∨ ∃ k0 k1, Held (({ d with wr := d.wr ++ [(1 - a, hd (c + 1) S'.length)] } : Dk).crash d.keep d.torn).now S' k0 k1 (1 - a) (c + 1) := by
  have h := H.cutHead hn hA hS hc d.keep d.torn
  have e : (({ d with wr := d.wr ++ [(1 - a, hd (c + 1) S'.length)] } : Dk).crash d.keep d.torn).now = crs d.keep d.torn [(1 - a, hd (c + 1) S'.length)] d.now 1 := by
    show crs d.keep d.torn (d.wr ++ [(1 - a, hd (c + 1) S'.length)]) d.safe (d.wr ++ [(1 - a, hd (c + 1) S'.length)]).length = _
    rw [Q.wr, Q.eq]
    rfl
  rw [e]
  exact h
theorem head_cut2 (H : Held d.now S h0 h1 a c) (Q : Quiet d) (hn : 2 ≤ d.now.length) (hA : InA d.now (1 - a) S') (hS : S'.length ≤ 8000) (hc : c + 1 < 60000) : (∃ k0 k1, Held ((d.wrote (1 - a) (hd (c + 1) S'.length)).crash d.keep d.torn).now S k0 k1 a c) ∨ ∃ k0 k1, Held ((d.wrote (1 - a) (hd (c + 1) S'.length)).crash d.keep d.torn).now S' k0 k1 (1 - a) (c + 1) := head_cut1 H Q hn hA hS hc
end
/-- What a Save leaves: all of it, or the power went. -/
def Saved (S S' : List Int) (a c : Nat) (d d' : Dk) (ok : Bool) : Prop :=
  match ok with
  | true => Quiet d' ∧ (∃ k0 k1, Held d'.now S' k0 k1 (1 - a) (c + 1)) ∧ (d.left = 0 → d'.left = 0) ∧ d'.left < 9223372036854775808
  | false => d.left ≠ 0 ∧ Gone d' ∧ ((∃ k0 k1, Held d'.now S k0 k1 a c) ∨ ∃ k0 k1, Held d'.now S' k0 k1 (1 - a) (c + 1))
/-- A head's sector, after j rounds. -/
def hdj (c z : Nat) : Nat → List Int
  | 0 => List.replicate 64 0
  | 1 => ((c % 256 : Nat) : Int) :: (List.replicate 7 0 ++ (((z % 256 : Nat) : Int) :: List.replicate 55 0))
  | _ => hd c z
theorem hdj_len (c z j : Nat) : (hdj c z j).length = 64 := by
  match j with
  | 0 => rfl
  | 1 => rfl
  | j + 2 => exact hd_len c z
def byt2 (x j : Nat) : Int := if j = 0 then ((x % 256 : Nat) : Int) else if j = 1 then ((x / 256 : Nat) : Int) else 0
theorem hdj_set (cc z j : Nat) (hj : j < 8) : (((hdj cc z j).map (Value.int .u8)).set j (.int .u8 (byt2 cc j))).set (8 + j) (.int .u8 (byt2 z j)) = (hdj cc z (j + 1)).map (Value.int .u8) := by
  match j, hj with
  | 0, _ => rfl
  | 1, _ => rfl
  | 2, _ => rfl
  | 3, _ => rfl
  | 4, _ => rfl
  | 5, _ => rfl
  | 6, _ => rfl
  | 7, _ => rfl
theorem hdj_row {wr : World} {base g cc z j : Nat} (hj : j < 8) (hr : wr.ownsRow base 5 1 (.slice (some ⟨g, 0, none⟩) 64 64) 64 ((hdj cc z j).map (Value.int .u8))) (u v : Int) (hu : u = byt2 cc j) (hv : v = byt2 z j) : ((wr.setCell ⟨g, j, none⟩ (.int .u8 u)).setCell ⟨g, 8 + j, none⟩ (.int .u8 v)).ownsRow base 5 1 (.slice (some ⟨g, 0, none⟩) 64 64) 64 ((hdj cc z (j + 1)).map (Value.int .u8)) := by
  subst hu hv
  have s2 := (World.ownsRow.stored (World.ownsRow.stored hr j (.int .u8 (byt2 cc j))).1 (8 + j) (.int .u8 (byt2 z j))).1
  rw [hdj_set cc z j hj] at s2
  exact s2
section
variable {w0 w w' : World} {db n : Nat} {d : Dk} {vs vn vw vk : Value} {R : List RowD}
set_option maxHeartbeats 8000000 in
theorem writeHead_ok (T : Dsk w0 w db n d vs vn vw vk R) (hn : 300 ≤ n) {S S' : List Int} {h0 h1 : Hds} {a c : Nat} (H : Held d.now S h0 h1 a c) (Q : Quiet d) (hA : InA d.now (1 - a) S') (hS : S'.length ≤ 8000) (hc : c + 1 < 60000) (hm : d.left < 9223372036854775808) : Calls Tryd.prog 36 #[.pointer (some ⟨db, 0, none⟩), hval (1 - a, c + 1, S'.length)] w fun e w' => ∃ d' vs' vn' vw' vk', Dsk w0 w' db n d' vs' vn' vw' vk' R ∧ ∃ ok : Bool, e = .returned (if ok then .nilIface else atE sHead (noE 9)) ∧ Saved S S' a c d d' ok := by
  generalize hz : S'.length = z at *
  generalize hcc : c + 1 = cc at *
  generalize haa : 1 - a = aa at *
  have hbm := byte_make
  simp only [hval]
  have M1 := HdC.made w (aa, cc, z)
  have B1 := (Below.refl w.heap.size w).alloc (Nat.le_refl _) (.cells #[.int .i64 (aa : Int), .int .i64 (cc : Int), .int .i64 (z : Int)] 73)
  have hsz : (w.alloc (.cells #[.int .i64 (aa : Int), .int .i64 (cc : Int), .int .i64 (z : Int)] 73)).heap.size = w.heap.size + 1 := by simp
  have B2 := B1.alloc (by rw [hsz]; omega) (.cells z64 5)
  have M2 := M1.below ((Below.refl _ _).alloc (Nat.le_refl _) (.cells z64 5))
  have hrow := World.ownsRow_lit (base := w.heap.size + 1) (e := 5) (size := 1) (w.alloc (.cells #[.int .i64 (aa : Int), .int .i64 (cc : Int), .int .i64 (z : Int)] 73)) z64 64 (by rw [hsz]; omega) (by decide) rfl
  rw [hsz] at hrow
  go_enter Tryd.func36, Tryd.ntmps36
  go_wp2
  go_loopw [9] (fun i wq => ∃ j : Nat, i = .int .i64 j ∧ j ≤ 8 ∧ Below w.heap.size w wq ∧ HdC wq w.heap.size (aa, cc, z) ∧ wq.ownsRow (w.heap.size + 1) 5 1 (.slice (some ⟨w.heap.size + 1, 0, none⟩) 64 64) 64 ((hdj cc z j).map (Value.int .u8))) (fun i _ => 8 - (intOf i).toNat)
  case atStart => exact ⟨0, rfl, by omega, B2, M2, hrow⟩
  case round =>
    obtain ⟨j, rfl, hj, Bq, Qh, hr⟩ := hrel
    by_cases hlt : j < 8
    · have hjI : (j : Int) < 8 := by omega
      have q1 := Qh.c1
      have q2 := Qh.c2
      have hcell := fun q (hq : q < 64 * 1) => World.ownsRow.cellAt hr q hq
      have hfr := fun q => World.ownsRow.frozenAt hr q
      have hjc : j = 0 ∨ j = 1 ∨ j = 2 ∨ j = 3 ∨ j = 4 ∨ j = 5 ∨ j = 6 ∨ j = 7 := by omega
      rcases hjc with rfl | rfl | rfl | rfl | rfl | rfl | rfl | rfl
      · have x0 := hcell 0 (by omega)
        have x8 := hcell 8 (by omega)
        simp only [hdj] at x0 x8
        have y0 := hfr 0
        have y8 := hfr 8
        clear hcell hfr
        go_wp2
        exact ⟨⟨1, rfl, by decide, (Bq.setCell (p := ⟨w.heap.size + 1, 0, none⟩) (Nat.le_succ _) _).setCell (p := ⟨w.heap.size + 1, 8, none⟩) (Nat.le_succ _) _, (Qh.keep (setcell_keeps _ _ _ _) (by omega)).keep (setcell_keeps _ _ _ _) (by omega), hdj_row hlt hr _ _ (by simp [byt2]) (by simp [byt2])⟩, by simp [intOf]⟩
      · have x0 := hcell 1 (by omega)
        have x8 := hcell 9 (by omega)
        simp only [hdj] at x0 x8
        have y0 := hfr 1
        have y8 := hfr 9
        clear hcell hfr
        go_wp2
        exact ⟨⟨2, rfl, by decide, (Bq.setCell (p := ⟨w.heap.size + 1, 1, none⟩) (Nat.le_succ _) _).setCell (p := ⟨w.heap.size + 1, 9, none⟩) (Nat.le_succ _) _, (Qh.keep (setcell_keeps _ _ _ _) (by omega)).keep (setcell_keeps _ _ _ _) (by omega), hdj_row hlt hr _ _ (by show _ = ((cc / 256 : Nat) : Int); omega) (by show _ = ((z / 256 : Nat) : Int); omega)⟩, by simp [intOf]⟩
      · have x0 := hcell 2 (by omega)
        have x8 := hcell 10 (by omega)
        simp only [hdj, hd, le2] at x0 x8
        have y0 := hfr 2
        have y8 := hfr 10
        clear hcell hfr
        go_wp2
        exact ⟨⟨3, rfl, by decide, (Bq.setCell (p := ⟨w.heap.size + 1, 2, none⟩) (Nat.le_succ _) _).setCell (p := ⟨w.heap.size + 1, 10, none⟩) (Nat.le_succ _) _, (Qh.keep (setcell_keeps _ _ _ _) (by omega)).keep (setcell_keeps _ _ _ _) (by omega), hdj_row hlt hr _ _ (by simp only [byt2]; omega) (by simp only [byt2]; omega)⟩, by simp [intOf]⟩
      · have x0 := hcell 3 (by omega)
        have x8 := hcell 11 (by omega)
        simp only [hdj, hd, le2] at x0 x8
        have y0 := hfr 3
        have y8 := hfr 11
        clear hcell hfr
        go_wp2
        exact ⟨⟨4, rfl, by decide, (Bq.setCell (p := ⟨w.heap.size + 1, 3, none⟩) (Nat.le_succ _) _).setCell (p := ⟨w.heap.size + 1, 11, none⟩) (Nat.le_succ _) _, (Qh.keep (setcell_keeps _ _ _ _) (by omega)).keep (setcell_keeps _ _ _ _) (by omega), hdj_row hlt hr _ _ (by simp only [byt2]; omega) (by simp only [byt2]; omega)⟩, by simp [intOf]⟩
      · have x0 := hcell 4 (by omega)
        have x8 := hcell 12 (by omega)
        simp only [hdj, hd, le2] at x0 x8
        have y0 := hfr 4
        have y8 := hfr 12
        clear hcell hfr
        go_wp2
        exact ⟨⟨5, rfl, by decide, (Bq.setCell (p := ⟨w.heap.size + 1, 4, none⟩) (Nat.le_succ _) _).setCell (p := ⟨w.heap.size + 1, 12, none⟩) (Nat.le_succ _) _, (Qh.keep (setcell_keeps _ _ _ _) (by omega)).keep (setcell_keeps _ _ _ _) (by omega), hdj_row hlt hr _ _ (by simp only [byt2]; omega) (by simp only [byt2]; omega)⟩, by simp [intOf]⟩
      · have x0 := hcell 5 (by omega)
        have x8 := hcell 13 (by omega)
        simp only [hdj, hd, le2] at x0 x8
        have y0 := hfr 5
        have y8 := hfr 13
        clear hcell hfr
        go_wp2
        exact ⟨⟨6, rfl, by decide, (Bq.setCell (p := ⟨w.heap.size + 1, 5, none⟩) (Nat.le_succ _) _).setCell (p := ⟨w.heap.size + 1, 13, none⟩) (Nat.le_succ _) _, (Qh.keep (setcell_keeps _ _ _ _) (by omega)).keep (setcell_keeps _ _ _ _) (by omega), hdj_row hlt hr _ _ (by simp only [byt2]; omega) (by simp only [byt2]; omega)⟩, by simp [intOf]⟩
      · have x0 := hcell 6 (by omega)
        have x8 := hcell 14 (by omega)
        simp only [hdj, hd, le2] at x0 x8
        have y0 := hfr 6
        have y8 := hfr 14
        clear hcell hfr
        go_wp2
        exact ⟨⟨7, rfl, by decide, (Bq.setCell (p := ⟨w.heap.size + 1, 6, none⟩) (Nat.le_succ _) _).setCell (p := ⟨w.heap.size + 1, 14, none⟩) (Nat.le_succ _) _, (Qh.keep (setcell_keeps _ _ _ _) (by omega)).keep (setcell_keeps _ _ _ _) (by omega), hdj_row hlt hr _ _ (by simp only [byt2]; omega) (by simp only [byt2]; omega)⟩, by simp [intOf]⟩
      · have x0 := hcell 7 (by omega)
        have x8 := hcell 15 (by omega)
        simp only [hdj, hd, le2] at x0 x8
        have y0 := hfr 7
        have y8 := hfr 15
        clear hcell hfr
        go_wp2
        exact ⟨⟨8, rfl, by decide, (Bq.setCell (p := ⟨w.heap.size + 1, 7, none⟩) (Nat.le_succ _) _).setCell (p := ⟨w.heap.size + 1, 15, none⟩) (Nat.le_succ _) _, (Qh.keep (setcell_keeps _ _ _ _) (by omega)).keep (setcell_keeps _ _ _ _) (by omega), hdj_row hlt hr _ _ (by simp only [byt2]; omega) (by simp only [byt2]; omega)⟩, by simp [intOf]⟩
    · obtain rfl : j = 8 := by omega
      have q0 := Qh.c0
      have Tq := T.step Bq
      have RV := rdv_row hr
      have hin : aa < n := by omega
      have h64 := hdj_len cc z 8
      have hwl : d.wr.length ≤ 100000 := by rw [Q.wr]; decide
      have hlen : 2 ≤ d.now.length := by rw [T.ok.ln]; omega
      have E8 : hdj cc z 8 = hd cc z := rfl
      rw [E8] at RV h64
      by_cases h1 : d.left = 1
      · go_wp2_with (first
          | (go_at_call 34; refine (write_trip Tq Q.off h1 aa hin RV h64 hwl).mono ?_; rintro ev w3 ⟨rfl, vw3, vk3, T3⟩)
          | (go_at_call 32; refine (of_at _ (by decide)).mono ?_; rintro ev w4 ⟨rfl, rfl⟩))
        go_ret
        subst haa hcc hz
        exact ⟨_, _, _, _, _, T3, false, rfl, by omega, gone_crash _ _ _, head_cut1 H Q hlen hA hS hc⟩
      · by_cases h2 : d.left = 2
        · go_wp2_with (first
            | (go_at_call 34; refine (write_ok Tq Q.off h1 hm aa hin RV h64 hwl).mono ?_; rintro ev w3 ⟨rfl, vw3, vk3, T3⟩)
            | (go_at_call 35; refine (sync_trip T3 Q.off (by show d.left - 1 = 1; omega)).mono ?_; rintro ev w4 ⟨rfl, vw4, vk4, T4⟩)
            | (go_at_call 32; refine (of_at _ (by decide)).mono ?_; rintro ev w5 ⟨rfl, rfl⟩))
          go_ret
          subst haa hcc hz
          exact ⟨_, _, _, _, _, T4, false, rfl, by omega, gone_crash _ _ _, head_cut2 H Q hlen hA hS hc⟩
        · go_wp2_with (first
            | (go_at_call 34; refine (write_ok Tq Q.off h1 hm aa hin RV h64 hwl).mono ?_; rintro ev w3 ⟨rfl, vw3, vk3, T3⟩)
            | (go_at_call 35; refine (sync_ok T3 Q.off (by show ¬ d.left - 1 = 1; omega) (by show d.left - 1 < _; omega)).mono ?_; rintro ev w4 ⟨rfl, T4⟩)
            | (go_at_call 32; refine (of_no _).mono ?_; rintro ev w5 ⟨rfl, rfl⟩))
          go_ret
          subst haa hcc hz
          exact ⟨_, _, _, _, _, T4, true, rfl, Q.head _ _, head_next H hlen hA hS hc, fun h => by show d.left - 1 - 1 = 0; omega, by show d.left - 1 - 1 < _; omega⟩
end
end Go.Proofs.YtafpfiadapabaaaDoor

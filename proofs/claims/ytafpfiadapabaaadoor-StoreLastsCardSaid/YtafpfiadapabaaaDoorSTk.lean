/-
  STORE: save. Own work.
-/
import Derived.Test.YtafpfiadapabaaaDoorSTj
namespace Go.Proofs.YtafpfiadapabaaaDoor
open Go.ChangeShapes Go.WideShapes Go.ChangeAt Go.RowKit Go.Maps Go.Deep
set_option maxRecDepth 100000
attribute [local go_sem ↓] Go.wp_at_zero Go.wp_at_succ
def hdRow (b : Nat) (t : Nat × Nat × Nat) : RowD := ⟨73, 3, .slice (some ⟨b, 0, none⟩) 1 1, 1, [.int .i64 (t.1 : Int), .int .i64 (t.2.1 : Int), .int .i64 (t.2.2 : Int)], none⟩
/-- What can be read as long as the family stands. -/
def Stays (w0 : World) (db n : Nat) (R : List RowD) (v : Value) (cs : List Value) : Prop := ∀ wx d vs vn vw vk, Dsk w0 wx db n d vs vn vw vk R → RdV wx v cs
def IsErr (E : Value) : Prop := (∃ b, E = atE (.string b) (noE 9)) ∨ ∃ b b', E = atE (.string b) (atE (.string b') (noE 9))
theorem wrap_if {w : World} (b) (ok : Bool) {EE : Value} (h : (if ok = true then Value.nilIface else atE sHead (noE 9)) = EE) : Calls Tryd.prog 29 #[.string b, EE] w fun e w' => ∃ E, e = .returned E ∧ E = (if ok then .nilIface else atE (.string b) (atE sHead (noE 9))) ∧ w' = w := by
  subst h
  cases ok with
  | true =>
    refine (wrap_no b).mono ?_
    rintro e w' ⟨rfl, rfl⟩
    exact ⟨_, rfl, rfl, rfl⟩
  | false =>
    refine (wrap_at b _ _).mono ?_
    rintro e w' ⟨rfl, rfl⟩
    exact ⟨_, rfl, rfl, rfl⟩
theorem pad_rdv {w4 : World} {g : Nat} {bs : List Int} (h : w4.heap[g]? = some (.cells (splice (List.replicate 64 (Value.int .u8 0)) 0 ((bs.map (Value.int .u8)).take 64)).toArray 5 (0, 0))) : RdV w4 (.slice (some ⟨g, 0, none⟩) 64 64) ((pad bs).map (Value.int .u8)) := by
  rw [splice_pad, ← pad_cells] at h
  exact rdv_row (base := 0) (e := 5) (n := 64) ⟨by simp [pad_len], .inr ⟨g, 64, _, rfl, Nat.zero_le _, h, Nat.le_refl _, by decide, by simp [pad_len], by rw [List.take_of_length_le (by simp [pad_len])]⟩⟩
section
variable {w0 w w' : World} {db n : Nat} {d : Dk} {vs vn vw vk : Value} {R : List RowD}
theorem Dsk.init {l : List RowD} (T : Dsk w0 w db n d vs vn vw vk (R ++ l)) : Dsk w0 w db n d vs vn vw vk R := by
  have h := T.fam
  rw [← List.append_assoc] at h
  exact ⟨h.init, T.ok⟩
theorem Stays.more {v : Value} {cs : List Value} (h : Stays w0 db n R v cs) (l : List RowD) : Stays w0 db n (R ++ l) v cs := fun wx d vs vn vw vk T => h wx d vs vn vw vk T.init
theorem Dsk.hdc {b : Nat} {t : Nat × Nat × Nat} (T : Dsk w0 w db n d vs vn vw vk (R ++ [hdRow b t])) : HdC w b t := by
  have r1 : w.ownsRow w0.heap.size 73 3 (.slice (some ⟨b, 0, none⟩) 1 1) 1 [.int .i64 (t.1 : Int), .int .i64 (t.2.1 : Int), .int .i64 (t.2.2 : Int)] := T.fam.row (5 + R.length) (hdRow b t) (by rw [List.getElem?_append_right (by simp [Dk.rows])]; simp [Dk.rows])
  exact ⟨World.ownsRow.cellAt r1 0 (by omega), World.ownsRow.cellAt r1 1 (by omega), World.ownsRow.cellAt r1 2 (by omega), World.ownsRow.frozenAt r1 0, World.ownsRow.frozenAt r1 1, World.ownsRow.frozenAt r1 2, (row_base r1 rfl).2⟩
set_option maxHeartbeats 8000000 in
theorem save_ok (T : Dsk w0 w db n d vs vn vw vk R) (hn : 300 ≤ n) {S S' : List Int} {h0 h1 : Hds} {a c : Nat} (H : Held d.now S h0 h1 a c) (Q : Quiet d) (hS : S'.length ≤ 8000) (hc : c + 1 < 60000) (hm : d.left < 9223372036854775808) {v : Value} (hv : Stays w0 db n R v (S'.map (Value.int .u8))) (hcap : ∀ p n c, v = .slice p n c → n ≤ c) : Calls Tryd.prog 26 #[.pointer (some ⟨db, 0, none⟩), v] w fun e w' => ∃ d' vs' vn' vw' vk', Dsk w0 w' db n d' vs' vn' vw' vk' R ∧ ∃ (ok : Bool) (E : Value), IsErr E ∧ e = .returned (if ok then .nilIface else E) ∧ Saved S S' a c d d' ok := by
  have HN := newest_ok T H.s0 H.s1 Q.off
  rw [H.b] at HN
  simp only [hval] at HN
  have ha := H.le
  have hSS := H.size.1
  have haI : (a : Int) ≤ 1 := by omega
  have hcI : (c : Int) < 60000 := by omega
  have hlI : (S'.length : Int) ≤ 8000 := by omega
  have hrem : ((a : Int) + 1).tmod 2 = ((1 - a : Nat) : Int) := by
    have : a = 0 ∨ a = 1 := by omega
    rcases this with rfl | rfl <;> rfl
  obtain ⟨cc, hcc⟩ : ∃ cc, c + 1 = cc := ⟨_, rfl⟩
  have hcI2 : (c : Int) + 1 = (cc : Int) := by omega
  obtain ⟨aa, haa⟩ : ∃ aa, 1 - a = aa := ⟨_, rfl⟩
  rw [haa] at hrem
  have haa1 : aa ≤ 1 := by omega
  have hsz : (Tryd.prog.info? 5).map (·.size) = some 1 := by kernel_rfl
  have hbm := byte_make
  obtain ⟨p, cp, rfl⟩ := rdv_shape (hv _ _ _ _ _ _ T)
  rw [List.length_map] at hv hcap ⊢
  have hcp : S'.length ≤ cp := hcap _ _ _ rfl
  have hcpI : (S'.length : Int) ≤ cp := by omega
  clear hcap
  go_enter Tryd.func26, Tryd.ntmps26
  go_wp2_with (go_at_call 28; refine HN.mono ?_; rintro ev w1 ⟨rfl, B1⟩)
  have BL := (Below.refl w1.heap.size w1).alloc (Nat.le_refl _) (.cells #[.int .i64 (a : Int), .int .i64 (c : Int), .int .i64 (S.length : Int)] 73)
  have hs1 : (w1.alloc (.cells #[.int .i64 (a : Int), .int .i64 (c : Int), .int .i64 (S.length : Int)] 73)).heap.size = w1.heap.size + 1 := by simp
  have T0 := (T.step B1).step BL
  have hl0 := World.ownsRow_lit (base := (w1.alloc (.cells #[.int .i64 (a : Int), .int .i64 (c : Int), .int .i64 (S.length : Int)] 73)).heap.size) (e := 73) (size := 3) (w1.alloc (.cells #[.int .i64 (a : Int), .int .i64 (c : Int), .int .i64 (S.length : Int)] 73)) #[.int .i64 (aa : Int), .int .i64 (cc : Int), .int .i64 (S'.length : Int)] 1 (Nat.le_refl _) (by decide) rfl
  have F1 := T0.fam.add (r := hdRow (w1.heap.size + 1) (aa, cc, S'.length)) ((Below.refl _ _).alloc (Nat.le_refl _) (.cells #[.int .i64 (aa : Int), .int .i64 (cc : Int), .int .i64 (S'.length : Int)] 73)) (by rw [hs1] at hl0; rw [hs1]; exact hl0)
  rw [List.append_assoc] at F1
  have T1 : Dsk w0 _ db n d vs vn vw vk (R ++ [hdRow (w1.heap.size + 1) (aa, cc, S'.length)]) := ⟨F1, T0.ok⟩
  clear F1 hl0 T0 hs1 BL HN
  have HV := hv.more [hdRow (w1.heap.size + 1) (aa, cc, S'.length)]
  go_loopw [8] (fun i wq => ∃ (j : Nat) (d' : Dk) (vs' vn' vw' vk' : Value), i = .int .i64 j ∧ j ≤ 125 ∧ Dsk w0 wq db n d' vs' vn' vw' vk' (R ++ [hdRow (w1.heap.size + 1) (aa, cc, S'.length)]) ∧ Wrt d aa S' j d') (fun i _ => 200 - (intOf i).toNat)
  case atStart => exact ⟨0, d, vs, vn, vw, vk, rfl, by omega, T1, Q.wrt aa S' hm⟩
  case round =>
    obtain ⟨j, d2, vs2, vn2, vw2, vk2, rfl, hj, T2, W2⟩ := hrel
    have q0 := T2.hdc.c0
    by_cases hlt : j * 64 < S'.length
    · have hltI : (j : Int) * 64 < S'.length := by omega
      have hjI : (j : Int) ≤ 125 := by omega
      have hj1 : j < 125 := by omega
      have RV := HV _ _ _ _ _ _ T2
      obtain ⟨vb, vo, rfl, hvb, hvc⟩ := rdv_nth RV (t := j * 64) (by simpa using hlt)
      have hn0 := heap_alloc_new wr (.cells z64 5)
      have BA := (Below.refl wr.heap.size wr).alloc (Nat.le_refl _) (.cells z64 5)
      have hnews : ∀ q u, (((S'.drop (j * 64)).map (Value.int .u8)).take 64)[q]? = some u → (wr.alloc (.cells z64 5)).cell? ((⟨vb, vo + j * 64, none⟩ : Addr).add q) = some u := fun q u hq => by
        have hq' := (List.getElem?_eq_some_iff.1 hq).1
        rw [List.length_take, List.length_map, List.length_drop] at hq'
        obtain ⟨b', o', e', _, hc'⟩ := rdv_nth RV (t := j * 64 + q) (by rw [List.length_map]; omega)
        cases e'
        rw [addr_mid, BA.cell (p := ⟨vb, vo + j * 64 + q, none⟩) hvb, Nat.add_assoc, hc', ← hq, List.getElem?_take, if_pos (by omega), List.getElem?_map, List.getElem?_map, List.getElem?_drop]
      have hcn : (((S'.drop (j * 64)).map (Value.int .u8)).take 64).length = Nat.min (S'.length - j * 64) 64 := by
        rw [List.length_take, List.length_map, List.length_drop, Nat.min_comm]
      have hcn2 : 0 + (((S'.drop (j * 64)).map (Value.int .u8)).take 64).length ≤ (List.replicate 64 (Value.int .u8 0)).length := by
        rw [List.length_take, List.length_replicate]
        omega
      have hcn3 : ∀ u ∈ ((S'.drop (j * 64)).map (Value.int .u8)).take 64, u.oneCell' = true := fun u hu => one_map (Value.int .u8) (fun _ => rfl) _ u (List.mem_of_mem_take hu)
      have HN0 := (show Hid _ from hn0)
      have HNW := (show Hid _ from hnews)
      have HC1 := (show Hid _ from hcn)
      have HC2 := (show Hid _ from hcn2)
      have HC3 := (show Hid _ from hcn3)
      have HM := (show Hid _ from hm)
      have hdn : 2 + aa * 125 + j < n := by omega
      have hwl : d2.wr.length ≤ 100000 := by have := W2.wrl; omega
      have hp64 := pad_len (S'.drop (j * 64))
      clear hn0 hnews RV hvc hm hcn hcn2 hcn3
      by_cases hl : d2.left = 1
      · go_wp2_with (first
          | (refine wpList_copy_splice rfl (.tmp 39) (.tmp 43) 31 31 rfl 5 Tryd.underlying31 hsz (some ⟨wr.heap.size, 0, none⟩) (some ⟨vb, vo + j * 64, none⟩) 64 64 (S'.length - j * 64) (cp - j * 64) rfl rfl wr.heap.size 0 (List.replicate 64 (Value.int .u8 0)) 5 HN0.out (((S'.drop (j * 64)).map (Value.int .u8)).take 64) HC1.out (fun hp => ⟨rfl, ⟨⟨vb, vo + j * 64, none⟩, rfl, HNW.out⟩⟩) HC2.out HC3.out wr.heap.size wr BA (Nat.le_refl _) ?_; intro w4 hg4 hb4; have T4 := T2.step hb4; have q04 := T4.hdc.c0; have HP := (show Hid _ from pad_rdv hg4.out))
          | (go_at_call 31; refine (place_ok aa j haa1 (by omega)).mono ?_; rintro ev w5 ⟨rfl, rfl⟩)
          | (go_at_call 34; refine (write_trip T4 W2.off hl (2 + aa * 125 + j) hdn HP.out hp64 hwl).mono ?_; rintro ev w6 ⟨rfl, vw6, vk6, T6⟩)
          | (go_at_call 32; refine (of_at _ (by decide)).mono ?_; rintro ev w7 ⟨rfl, rfl⟩))
        go_ret
        subst haa
        exact ⟨_, _, _, _, _, T6.init, false, _, .inl ⟨_, rfl⟩, rfl, fun h => by have := W2.left h; omega, gone_crash _ _ _, .inl ⟨h0, h1, H.cut Q.eq W2 d2.keep d2.torn (l := d2.wr ++ [(2 + (1 - a) * 125 + j, pad (S'.drop (j * 64)))]) (fun x hx => by
          rcases List.mem_append.1 hx with hx | hx
          · exact W2.wrat x hx
          · rw [List.mem_singleton.1 hx]
            simp only
            omega) _⟩⟩
      · have hm2 := W2.sm
        have HM2 := (show Hid _ from hm2)
        clear hm2
        go_wp2_with (first
          | (refine wpList_copy_splice rfl (.tmp 39) (.tmp 43) 31 31 rfl 5 Tryd.underlying31 hsz (some ⟨wr.heap.size, 0, none⟩) (some ⟨vb, vo + j * 64, none⟩) 64 64 (S'.length - j * 64) (cp - j * 64) rfl rfl wr.heap.size 0 (List.replicate 64 (Value.int .u8 0)) 5 HN0.out (((S'.drop (j * 64)).map (Value.int .u8)).take 64) HC1.out (fun hp => ⟨rfl, ⟨⟨vb, vo + j * 64, none⟩, rfl, HNW.out⟩⟩) HC2.out HC3.out wr.heap.size wr BA (Nat.le_refl _) ?_; intro w4 hg4 hb4; have T4 := T2.step hb4; have q04 := T4.hdc.c0; have HP := (show Hid _ from pad_rdv hg4.out))
          | (go_at_call 31; refine (place_ok aa j haa1 (by omega)).mono ?_; rintro ev w5 ⟨rfl, rfl⟩)
          | (go_at_call 34; refine (write_ok T4 W2.off hl HM2.out (2 + aa * 125 + j) hdn HP.out hp64 hwl).mono ?_; rintro ev w6 ⟨rfl, vw6, vk6, T6⟩))
        exact ⟨⟨j + 1, _, _, _, _, _, by simp, by omega, T6, W2.put hj1 (by rw [T2.ok.ln]; omega)⟩, by simp [intOf]; omega⟩
    · have hltI : ¬ (j : Int) * 64 < S'.length := by omega
      have HM := (show Hid _ from hm)
      clear hm
      by_cases hl : d2.left = 1
      · go_wp2_with (first
          | (go_at_call 35; refine (sync_trip T2 W2.off hl).mono ?_; rintro ev w6 ⟨rfl, vw6, vk6, T6⟩)
          | (go_at_call 32; refine (of_at _ (by decide)).mono ?_; rintro ev w7 ⟨rfl, rfl⟩))
        go_ret
        subst haa
        exact ⟨_, _, _, _, _, T6.init, false, _, .inl ⟨_, rfl⟩, rfl, fun h => by have := W2.left h; omega, gone_crash _ _ _, .inl ⟨h0, h1, H.cut Q.eq W2 d2.keep d2.torn W2.wrat _⟩⟩
      · have hm2 := W2.sm
        have HM2 := (show Hid _ from hm2)
        clear hm2
        have Q3 : Quiet d2.synced := ⟨W2.off, rfl, W2.safe_now.symm⟩
        have H3 : Held d2.synced.now S h0 h1 a c := H.far (fun p hp => by rw [haa] at hp; exact W2.far p hp)
        have A3 : InA d2.synced.now (1 - a) S' := fun i hi => by rw [haa]; exact W2.done i (by omega) hi
        have L3 : d2.synced.left = d2.left - 1 := rfl
        have HX : ∀ wx vsx vnx vwx vkx, Dsk w0 wx db n d2.synced vsx vnx vwx vkx (R ++ [hdRow (w1.heap.size + 1) (aa, cc, S'.length)]) → Calls Tryd.prog 36 #[.pointer (some ⟨db, 0, none⟩), .agg #[.int .i64 (aa : Int), .int .i64 (cc : Int), .int .i64 (S'.length : Int)]] wx fun e w' => ∃ d' vs' vn' vw' vk', Dsk w0 w' db n d' vs' vn' vw' vk' (R ++ [hdRow (w1.heap.size + 1) (aa, cc, S'.length)]) ∧ ∃ ok : Bool, e = .returned (if ok then .nilIface else atE sHead (noE 9)) ∧ Saved S S' a c d2.synced d' ok := by
          intro wx vsx vnx vwx vkx TX
          have h := writeHead_ok TX hn H3 Q3 A3 hS hc (by rw [L3]; have := HM2.out; omega)
          rw [haa, hcc] at h
          exact h
        have HX' := (show Hid _ from HX)
        clear HX Q3 H3 A3 L3
        go_wp2_with (first
          | (go_at_call 35; refine (sync_ok T2 W2.off hl HM2.out).mono ?_; rintro ev w6 ⟨rfl, T6⟩
             have r0 := T6.hdc.c0
             have r1 := T6.hdc.c1
             have r2 := T6.hdc.c2))
        have T6' : Dsk w0 w6 db n d2.synced vs2 vn2 (.slice none 0 0) vk2 (R ++ [hdRow (w1.heap.size + 1) (aa, cc, S'.length)]) := T6
        clear T6
        refine (HX'.out _ _ _ _ _ T6').mono ?_
        rintro ev w7 ⟨d7, vs7, vn7, vw7, vk7, T7, ok, rfl, hsv⟩
        have HSV : Hid (Saved S S' a c d2.synced d7 ok) := hsv
        clear hsv T6' HX' r0 r1 r2 T2 q0 HV hv T1 T hsz hbm hcI2 hrem hcpI haI hlI hltI
        obtain ⟨EE, hEE⟩ : ∃ EE, (if ok = true then Value.nilIface else atE sHead (noE 9)) = EE := ⟨_, rfl⟩
        rw [hEE]
        have HEE := (show Hid _ from hEE)
        clear hEE
        simp only []
        go_at_K
        go_wp2_with (go_at_call 29; refine (wrap_if _ ok HEE.out).mono ?_; rintro ev w8 ⟨E8, rfl, hE8, rfl⟩; have HE8 := (show Hid _ from hE8); clear hE8)
        go_ret
        have hsv : Saved S S' a c d d7 ok := by
          have h := HSV.out
          cases ok with
          | true =>
            obtain ⟨g1, g2, g3, g4⟩ := h
            exact ⟨g1, g2, fun h => g3 (by show d2.left - 1 = 0; have := W2.left h; omega), g4⟩
          | false =>
            obtain ⟨g1, g2, g3⟩ := h
            exact ⟨fun h => g1 (by show d2.left - 1 = 0; have := W2.left h; omega), g2, g3⟩
        exact ⟨d7, _, _, _, _, T7.init, ok, _, .inr ⟨_, _, rfl⟩, congrArg _ HE8.out, hsv⟩
end
end Go.Proofs.YtafpfiadapabaaaDoor

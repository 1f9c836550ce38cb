/-
  ONION: wrap, the walk. Own work.
-/
import Derived.Test.YtenllpaochcjfaaDoorOBb
import Derived.Deep.RegionHeld3
import Derived.Laws.OwnMore
import Derived.Test.YtenllpaochcjfaaDoorSQb
namespace Go.Proofs.YtenllpaochcjfaaDoor
open Go.ChangeShapes Go.WideShapes Go.ChangeAt Go.RowKit Go.Maps Go.Deep
set_option maxRecDepth 100000
attribute [local go_sem ↓] Go.wp_at_zero Go.wp_at_succ
theorem rdw_pos {w : World} {p : Option Addr} {n c t : Nat} {xs : List Int} (h : RdW w (.slice p n c) xs) (ht : t < xs.length) : ∃ b o, p = some ⟨b, o, none⟩ ∧ b < w.heap.size ∧ w.cell? ⟨b, o + t, none⟩ = some (.int .i64 (xs.getD t 0)) := by
  obtain ⟨p', c', e, rfl | ⟨b, o, rfl, hb, hc⟩⟩ := h
  · exact absurd ht (Nat.not_lt_zero _)
  · cases e
    exact ⟨b, o, rfl, hb, hc t ht⟩
theorem iset (l : List Int) (i : Nat) (b : Int) : (l.map (Value.int .i64)).set i (.int .i64 b) = (l.set i b).map (Value.int .i64) := by rw [List.map_set]
theorem rep_set (q : Nat) (ks : List Int) (k : Int) : (List.replicate (q + 1) (0 : Int) ++ ks).set q k = List.replicate q 0 ++ k :: ks := by
  rw [List.replicate_succ', List.append_assoc, List.set_append, if_neg (by simp), List.length_replicate, Nat.sub_self]
  rfl
/-- What the rounds hold; r layers are left to lay. -/
structure Wp (w ws wq : World) (aa wb kb : Nat) (L L1 : List Tm) (G : Nat → Prop) (ps : List Int) (sec pay r ins : Nat) (ks : List Int) : Prop where
  on : On w wq aa L1 (fun k => (G k ∨ k = wb) ∨ k = kb)
  wr : Wr wq wb aa
  row : wq.ownsRow kb 3 1 (.slice (some ⟨kb, 0, none⟩) 3 3) 3 ((List.replicate r 0 ++ ks).map (Value.int .i64))
  lay : Lay L1 ps sec pay r ins ks
  keep : ∀ (j : Nat) (u : Tm), L[j]? = some u → L1[j]? = some u
  le : L.length ≤ L1.length
  le2 : L1.length ≤ L.length + 3 * (3 - r)
  st : Stay G ws wq
  ne : wb ≠ kb
  ng : ¬ G wb ∧ ¬ G kb
  wl : w.heap.size ≤ wb ∧ w.heap.size ≤ kb
section
variable {w ws wq w' : World} {aa wb kb : Nat} {L L1 L2 : List Tm} {G : Nat → Prop} {ps ks : List Int} {sec pay r ins : Nat}
/-- Behind a Kdf whose place is laid down. -/
theorem Wp.laid {q k : Nat} {w2 : World} (D : Wp w ws wq aa wb kb L L1 G ps sec pay (q + 1) ins ks) (T2 : On w w2 aa L2 (fun k => (G k ∨ k = wb) ∨ k = kb)) (W2 : Wr w2 wb aa) (S2 : Stay (fun k => ((G k ∨ k = wb) ∨ k = kb) ∧ k ≠ wb) wq w2) :
    On w (w2.setCell ⟨kb, q, none⟩ (.int .i64 (k : Int))) aa L2 (fun k => (G k ∨ k = wb) ∨ k = kb) ∧ Wr (w2.setCell ⟨kb, q, none⟩ (.int .i64 (k : Int))) wb aa ∧ (w2.setCell ⟨kb, q, none⟩ (.int .i64 (k : Int))).ownsRow kb 3 1 (.slice (some ⟨kb, 0, none⟩) 3 3) 3 ((List.replicate q 0 ++ (k : Int) :: ks).map (Value.int .i64)) ∧ Stay G ws (w2.setCell ⟨kb, q, none⟩ (.int .i64 (k : Int))) ∧ w2.frozen? ⟨kb, q, none⟩ = false ∧ w2.cell? ⟨kb, q, none⟩ = some (.int .i64 0) := by
  have hne := D.ne
  have row2 := row_keeps D.row S2 (fun j hj hn => by
    have : j = kb := by simpa [Value.ownBlock] using hj.symm
    subst this
    exact hn ⟨.inr rfl, Ne.symm hne⟩)
  obtain ⟨hr3, hg3⟩ := World.ownsRow.stored row2 q (.int .i64 (k : Int))
  rw [iset, rep_set] at hr3
  have hK : Keeps (fun j => j = kb) w2 (w2.setCell ⟨kb, q, none⟩ (.int .i64 (k : Int))) := Keeps.of_grown hg3 (fun j hj => by cases hj; rfl)
  refine ⟨T2.own hK (fun j hj => .inl ⟨.inr hj, by rw [hj]; exact D.wl.2⟩), W2.keep hK hne, hr3, ?_, World.ownsRow.frozenAt row2 q, ?_⟩
  rotate_left
  · obtain ⟨g, hg, _, _, _, hc⟩ := row_open row2 (by omega)
    obtain rfl : kb = g := by simpa using hg
    rw [hc q (by have := D.lay.le.1; omega), List.getElem?_map, List.getElem?_append_left (by simp), List.getElem?_replicate, if_pos (by omega)]
    rfl
  have h1 : Stay G wq w2 := Stay.mono S2 (fun j hj => ⟨.inl (.inl hj), fun e => D.ng.1 (e ▸ hj)⟩)
  have h2 : Stay G w2 (w2.setCell ⟨kb, q, none⟩ (.int .i64 (k : Int))) := Keeps.mono (G := fun j => ¬ G j) hK (fun j _ hj hg => D.ng.2 (hj ▸ hg))
  exact D.st.trans (h1.trans h2)
set_option maxHeartbeats 16000000 in
theorem wrap_ok (T : Hid (On w ws aa L G)) (p : Option Addr) (c : Nat) (hps : ps.length = 3) (RW : Hid (RdW ws (.slice p 3 c) ps)) (hpG : Hid (∀ k, (Value.slice p 3 c).ownBlock = some k → G k)) (hin : Hid (∀ t, t < 3 → ∃ q : Nat, ps[t]? = some (q : Int) ∧ q < L.length)) (hs : sec < L.length) (hp : pay < L.length) (hL : L.length ≤ 100000) : Calls Tryd.prog 33 #[.pointer (some ⟨aa, 0, none⟩), .slice p 3 c, .int .i64 sec, .int .i64 pay] ws fun e w' => ∃ (o kb : Nat) (ks : List Int) (L' : List Tm), e = .returned (.tuple #[.int .i64 o, .slice (some ⟨kb, 0, none⟩) 3 3, .int .i64 0]) ∧ Lay L' ps sec pay 0 o ks ∧ (∀ (j : Nat) (u : Tm), L[j]? = some u → L'[j]? = some u) ∧ L.length ≤ L'.length ∧ L'.length ≤ L.length + 9 ∧ w'.ownsRow ws.heap.size 3 1 (.slice (some ⟨kb, 0, none⟩) 3 3) 3 (ks.map (Value.int .i64)) ∧ On w w' aa L' (fun k => G k ∨ k = kb) ∧ Stay G ws w' := by
  obtain ⟨i0, hi', hz0, hz1, hz2⟩ := info_parts (P := Tryd.prog) (e := 3) (z := .int .i64 0) (size := 1) (bytes := 8) (by kernel_rfl)
  let o1 : Obj := .cells #[.pointer (some ⟨aa, 0, none⟩), .nilIface] 107
  go_enter Tryd.func33, Tryd.ntmps33
  go_wp2_with (at_make; refine wpList_make_full _ rfl _ _ 23 rfl (ws.heap.size + 1) 3 i0 (.int .i64 0) 1 Tryd.underlying23 hi' hz0 hz1 .i64 .i64 _ _ 3 rfl rfl rfl rfl (by rw [hz2]; omega) (by unfold maxLen; omega) (by simp) ?_; intro w5 hown5 hgrow5)
  have hm : (madeCells (Value.int .i64 0).cells (3 * 1)).toList = ((List.replicate 3 0 ++ ([] : List Int)).map (Value.int .i64)) := by kernel_rfl
  rw [hm] at hown5
  have hsz1 : (ws.alloc o1).heap.size = ws.heap.size + 1 := by simp
  have hB5 : Below ws.heap.size ws w5 := ((Below.refl _ ws).alloc (Nat.le_refl _) o1).grown hgrow5 (by simp) (fun _ h => by cases h)
  have hG5 : Below (ws.alloc o1).heap.size (ws.alloc o1) w5 := (Below.refl _ (ws.alloc o1)).grown hgrow5 (Nat.le_refl _) (fun _ h => by cases h)
  have hkl : ws.heap.size + 1 < w5.heap.size := (row_base hown5 (k := ws.heap.size + 1) (by simp [Value.ownBlock])).2
  have W0 : Wr (ws.alloc o1) ws.heap.size aa := ⟨by simp [o1], by simp [o1], by simp [go_sem, o1], by simp⟩
  have D0 := (show Hid (Wp w ws w5 aa ws.heap.size (ws.heap.size + 1) L L G ps sec pay 3 pay []) from
    ⟨(T.out.add hB5 (P := fun k => k = ws.heap.size ∨ k = ws.heap.size + 1) (fun k hk => by omega)).mono (fun k hk => by
      rcases hk with (h | h) | h
      · exact .inl h
      · exact .inr (.inl h)
      · exact .inr (.inr h)), W0.below hG5, row_lower (by rw [hsz1] at hown5; exact hown5) (Nat.le_refl _), .base, fun _ _ h => h, Nat.le_refl _, by omega, stay_below hB5, by omega, ⟨fun h => by have := T.out.lt _ h; omega, fun h => by have := T.out.lt _ h; omega⟩, by have := T.out.below.size; omega⟩)
  have hwl := T.out.below.size
  clear hm hown5 hgrow5 hB5 hG5 W0 hsz1 hkl
  obtain ⟨wb, hwb⟩ : ∃ wb, wb = ws.heap.size := ⟨_, rfl⟩
  rw [← hwb] at D0 ⊢
  have HWB := (show Hid (wb = ws.heap.size) from hwb)
  obtain ⟨kb, hkb⟩ : ∃ kb, kb = wb + 1 := ⟨_, rfl⟩
  rw [← hkb] at D0 ⊢
  have HKB := (show Hid (kb = wb + 1) from hkb)
  clear hwb hkb
  go_loopw [13, 14] (fun v i wq => ∃ (r ins : Nat) (ks : List Int) (L1 : List Tm), v = .int .i64 ins ∧ i = .int .i64 ((r : Int) - 1) ∧ Wp w ws wq aa wb kb L L1 G ps sec pay r ins ks) (fun _ i _ => (intOf i + 1).toNat)
  case atStart => exact ⟨3, pay, [], L, rfl, rfl, D0.out⟩
  case round =>
    clear D0
    obtain ⟨r, ins, ks, L1, rfl, rfl, D⟩ := hrel
    have HD := (show Hid (Wp w ws wr aa wb kb L L1 G ps sec pay r ins ks) from D)
    clear D
    rcases r with _ | q
    · have e0 : (((0 : Nat) : Int) - 1) = -1 := rfl
      rw [e0]
      clear e0
      have c1 := HD.out.wr.c1
      go_wp2
      refine bodyPost_ret (v := .tuple #[.int .i64 ins, .slice (some ⟨kb, 0, none⟩) 3 3, .int .i64 0]) (by simp [results, Tryd.results33, go_sem]) rfl ?_
      have hle2 := HD.out.le2
      have hk1 := HKB.out
      have hk2 := HWB.out
      have hrow := HD.out.row
      rw [List.replicate_zero, List.nil_append] at hrow
      exact ⟨ins, kb, ks, L1, rfl, HD.out.lay, HD.out.keep, HD.out.le, by omega, row_lower hrow (by omega), HD.out.on.mono (fun k hk => hk.elim (fun h => .inl (.inl h)) .inr), HD.out.st⟩
    · have e0 : (((q + 1 : Nat) : Int) - 1) = (q : Int) := by omega
      rw [e0]
      clear e0
      have hq3 : q < 3 := by have := HD.out.lay.le.1; omega
      obtain ⟨pq, hpq, hpl⟩ := hin.out q hq3
      obtain ⟨pb, po, rfl, hpb, hpc⟩ := rdw_pos RW.out (t := q) (by omega)
      rw [List.getD_eq_getElem?_getD, hpq] at hpc
      simp only [Option.getD_some] at hpc
      have hle := HD.out.le
      have hle2 := HD.out.le2
      have hins := HD.out.lay.lt (by omega)
      obtain ⟨k, La, K1⟩ := mk_ex (L := L1) (sh_kdf (50 + (q : Int)) (sec : Int) (by omega)) (fun z hz => by simp at hz; omega) (by omega)
      have b1 := K1.le
      have b1' := K1.le1
      obtain ⟨e, Lb, K2⟩ := mk_ex (L := La) (sh_kdf (60 + (q : Int)) (sec : Int) (by omega)) (fun z hz => by simp at hz; omega) (by omega)
      have b2 := K2.le
      have b2' := K2.le1
      have hk1 := K1.lt
      have he1 := K2.lt
      obtain ⟨bx, Lc, K3⟩ := mk_ex (L := Lb) (t := (7, 0, [(pq : Int), (e : Int), (ins : Int), (k : Int)])) (sh_box _ _ _ (by simp)) (fun z hz => by simp at hz; omega) (by omega)
      have b3 := K3.le
      have b3' := K3.le1
      have hlay := Lay.step q ins ks k e bx pq ((HD.out.lay.keep K1.keep).keep K2.keep |>.keep K3.keep) (K3.keep _ _ (K2.keep _ _ K1.at')) (K3.keep _ _ K2.at') hpq K3.at'
      have HLAY := (show Hid (Lay Lc ps sec pay q bx ((k : Int) :: ks)) from hlay)
      have HKP := (show Hid (∀ (j : Nat) (u : Tm), L[j]? = some u → Lc[j]? = some u) from fun j u hu => K3.keep _ _ (K2.keep _ _ (K1.keep _ _ (HD.out.keep _ _ hu))))
      have hLc : L.length ≤ Lc.length := by omega
      have hLc2 : Lc.length ≤ L.length + 3 * (3 - q) := by omega
      have M1 := (show Hid _ from K1)
      have M2 := (show Hid _ from K2)
      have M3 := (show Hid _ from K3)
      have hqI : (q : Int) < 3 := by omega
      clear K1 K2 K3 hlay b1 b1' b2 b2' b3 b3' hle hle2 hins hk1 he1 hpq
      have hpw : pb ≠ wb := by have := HWB.out; omega
      have hpG1 := hpG.out pb (by simp [Value.ownBlock])
      have p0 := (HD.out.st.cell (p := ⟨pb, po + q, none⟩) hpb (fun hn => hn hpG1)).trans hpc
      have hpbr : pb < wr.heap.size := Nat.lt_of_lt_of_le hpb HD.out.st.size
      go_wp2_with (go_at_call 53; refine (kdf_w (show Hid _ from HD.out.on) (show Hid _ from HD.out.wr) (.inl (.inr rfl)) HD.out.wl.1 (by omega) M1).mono ?_; rintro ev w2 ⟨rfl, T2, W2, S2⟩
                   obtain ⟨T3, W3, R3, S3, q3, r3⟩ := HD.out.laid (k := k) T2 W2 S2
                   have p2 := (S2.cell (p := ⟨pb, po + q, none⟩) hpbr (fun hn => hn ⟨.inl (.inl hpG1), hpw⟩)).trans p0
                   have HT3 := (show Hid _ from T3)
                   have HW3 := (show Hid _ from W3)
                   have HR3 := (show Hid _ from R3)
                   have HS3 := (show Hid _ from S3)
                   clear T2 W2 S2 T3 W3 R3 S3)
      have hpk : pb ≠ kb := by have := HWB.out; have := HKB.out; omega
      have p3 : (w2.setCell ⟨kb, q, none⟩ (.int .i64 (k : Int))).cell? ⟨pb, po + q, none⟩ = some (.int .i64 (pq : Int)) := ((Keeps.of_grown (F := fun j => j = kb) (put_grown w2 ⟨kb, q, none⟩ (.int .i64 (k : Int))) (fun j hj => by cases hj; rfl)).cell (p := ⟨pb, po + q, none⟩) (World.block_lt_of_cell? w2 _ p2) hpk).trans p2
      have k3 : (w2.setCell ⟨kb, q, none⟩ (.int .i64 (k : Int))).cell? ⟨kb, q, none⟩ = some (.int .i64 (k : Int)) := by
        obtain ⟨g, hg, _, _, _, hc⟩ := row_open HR3.out (by omega)
        obtain rfl : kb = g := by simpa using hg
        rw [hc q (by omega), List.getElem?_map, List.getElem?_append_right (by simp), List.length_replicate, Nat.sub_self]
        rfl
      clear q3 r3 p2
      generalize w2.setCell ⟨kb, q, none⟩ (.int .i64 (k : Int)) = w3 at *
      have hp3 := World.block_lt_of_cell? w3 _ p3
      have hk3 := World.block_lt_of_cell? w3 _ k3
      have B3d : Below w3.heap.size w3 w3.drew := (Below.refl _ w3).drew
      have HT3d := (show Hid (On w w3.drew aa La (fun k => (G k ∨ k = wb) ∨ k = kb)) from HT3.out.step B3d)
      have HW3d := (show Hid (Wr w3.drew wb aa) from HW3.out.below B3d)
      have p3d : w3.drew.cell? ⟨pb, po + q, none⟩ = some (.int .i64 (pq : Int)) := p3
      have k3d : w3.drew.cell? ⟨kb, q, none⟩ = some (.int .i64 (k : Int)) := k3
      have hw60 : IntKind.i64.wrap (60 + (q : Int)) = 60 + q := IntWalk.i64_in _ (by omega)
      have HW60 := (show Hid _ from hw60)
      clear hw60
      have hnew := HD.out.ne
      go_region_held3 (fun w' => w'.cell? ⟨pb, po + q, none⟩ = some (.int .i64 (pq : Int)) ∧ w'.cell? ⟨kb, q, none⟩ = some (.int .i64 (k : Int)))
        (first | exact ⟨p3, k3⟩ | exact ⟨p3d, k3d⟩ | exact ⟨p4, k4⟩ | exact ⟨(((Below.refl _ w4).alloc (Nat.le_refl _) _).cell (p := ⟨pb, po + q, none⟩) (World.block_lt_of_cell? _ _ p4)).trans p4, (((Below.refl _ w4).alloc (Nat.le_refl _) _).cell (p := ⟨kb, q, none⟩) (World.block_lt_of_cell? _ _ k4)).trans k4⟩ | exact ⟨p5, k5⟩)
        (first | (go_at_call 53; rw [HW60.out]; refine (kdf_w HT3d HW3d (.inl (.inr rfl)) HD.out.wl.1 (by omega) M2).mono ?_; rintro ev w4 ⟨rfl, T4, W4, S4⟩
                  have p4 := (S4.cell (p := ⟨pb, po + q, none⟩) (World.block_lt_of_cell? _ _ p3d) (fun hn => hn ⟨.inl (.inl hpG1), hpw⟩)).trans p3d
                  have k4 := (S4.cell (p := ⟨kb, q, none⟩) (World.block_lt_of_cell? _ _ k3d) (fun hn => hn ⟨.inr rfl, Ne.symm hnew⟩)).trans k3d
                  have HT4 := (show Hid _ from T4)
                  have HW4 := (show Hid _ from W4)
                  have HS4 := (show Hid _ from S4)
                  clear T4 W4 S4)
               | (go_at_call 54
                  have B4 := (Below.refl _ w4).alloc (Nat.le_refl _) (.cells #[.int .i64 (pq : Int), .int .i64 (e : Int), .int .i64 (ins : Int), .int .i64 (k : Int)] 3)
                  refine (put_w (show Hid _ from HT4.out.alloc _) (show Hid _ from HW4.out.below B4) (.inl (.inr rfl)) HD.out.wl.1 (show Hid _ from reads_lit [(pq : Int), (e : Int), (ins : Int), (k : Int)] rfl rfl _) (by omega) M3).mono ?_; rintro ev w5 ⟨rfl, T5, W5, S5⟩
                  have S5' := (stay_below B4).trans S5
                  have p5 := (S5'.cell (p := ⟨pb, po + q, none⟩) (World.block_lt_of_cell? _ _ p4) (fun hn => hn ⟨.inl (.inl hpG1), hpw⟩)).trans p4
                  have k5 := (S5'.cell (p := ⟨kb, q, none⟩) (World.block_lt_of_cell? _ _ k4) (fun hn => hn ⟨.inr rfl, Ne.symm hnew⟩)).trans k4
                  have HT5 := (show Hid _ from T5)
                  have HW5 := (show Hid _ from W5)
                  have HS5 := (show Hid (Stay (fun k => ((G k ∨ k = wb) ∨ k = kb) ∧ k ≠ wb) w4 w5) from S5')
                  clear T5 W5 S5 S5' B4))
      have hkk : ∀ j, (Value.slice (some ⟨kb, 0, none⟩) 3 3).ownBlock = some j → ((G j ∨ j = wb) ∨ j = kb) ∧ j ≠ wb := fun j hj => by
        have : j = kb := by simpa [Value.ownBlock] using hj.symm
        subst this
        exact ⟨.inr rfl, Ne.symm hnew⟩
      have row5 := row_keeps (row_keeps (row_keeps (F := fun _ => False) HR3.out (Keeps.of_below B3d) (fun _ _ h => h)) HS4.out (fun j hj hn => hn (hkk j hj))) HS5.out (fun j hj hn => hn (hkk j hj))
      have hmono : ∀ j, G j → (((G j ∨ j = wb) ∨ j = kb) ∧ j ≠ wb) := fun j hj => ⟨.inl (.inl hj), fun e => HD.out.ng.1 (e ▸ hj)⟩
      have st5 : Stay G ws w5 := Stay.trans (Stay.trans (Stay.trans HS3.out (stay_below B3d)) (Stay.mono HS4.out hmono)) (Stay.mono HS5.out hmono)
      have HDN := (show Hid (Wp w ws w5 aa wb kb L Lc G ps sec pay q bx ((k : Int) :: ks)) from ⟨HT5.out, HW5.out, row5, HLAY.out, HKP.out, hLc, hLc2, st5, HD.out.ne, HD.out.ng, HD.out.wl⟩)
      clear row5 st5
      go_wp2
      exact ⟨⟨q, bx, (k : Int) :: ks, Lc, rfl, rfl, HDN.out⟩, by simp [intOf]⟩
end
end Go.Proofs.YtenllpaochcjfaaDoor

/-
  MIX: do, the walk. Own work.
-/
import Derived.Test.YtenllpaochcjfaaMXd
namespace Go.Proofs.Ytenllpaochcjfaa
open Go.ChangeShapes Go.WideShapes Go.ChangeAt Go.RowKit Go.Maps Go.Deep
set_option maxRecDepth 100000
attribute [local go_sem ↓] Go.wp_at_zero Go.wp_at_succ
theorem RdW.step {w w' : World} {v : Value} {xs : List Int} (h : RdW w v xs) (hB : Below w.heap.size w w') : RdW w' v xs := rdw_keeps h (Keeps.of_below (F := fun _ => False) hB) (fun _ _ _ h => h)
/-- Registers and answers: rows of one's own, apart. -/
structure Rws (wc wq : World) (R : List Ky) (out : List Int) (pn : Option Addr) (cn : Nat) (po : Option Addr) (co : Nat) : Prop where
  nx : wq.ownsRow wc.heap.size 52 2 (.slice pn R.length cn) R.length (flatK R)
  ou : wq.ownsRow wc.heap.size 3 1 (.slice po out.length co) out.length (out.map (Value.int .i64))
  ne : ∀ k, (Value.slice pn R.length cn).ownBlock = some k → (Value.slice po out.length co).ownBlock ≠ some k
  bl : Below wc.heap.size wc wq
section
variable {wc wq w' : World} {R : List Ky} {out : List Int} {pn po : Option Addr} {cn co : Nat}
theorem Rws.rd (D : Rws wc wq R out pn cn po co) : RdK wq (.slice pn R.length cn) R := rdk_row D.nx
theorem Rws.step (D : Rws wc wq R out pn cn po co) (B : Below wq.heap.size wq w') : Rws wc w' R out pn cn po co :=
  ⟨row_keeps (F := fun _ => False) D.nx (Keeps.of_below B) (fun _ _ h => h), row_keeps (F := fun _ => False) D.ou (Keeps.of_below B) (fun _ _ h => h), D.ne, D.bl.trans (B.mono D.bl.size)⟩
/-- An answer more. -/
theorem Rws.ans (D : Rws wc wq R out pn cn po co) {o : Obj} {a : Int} {v' : Value} (hown : w'.ownsRow wc.heap.size 3 1 v' (out.length + 1) (out.map (Value.int .i64) ++ [.int .i64 a])) (hg : (wq.alloc o).grownBy w' (Value.slice po out.length co).ownBlock) (hat : v'.ownBlock = (Value.slice po out.length co).ownBlock ∨ v'.ownBlock = some (wq.alloc o).heap.size) : ∃ p c, v' = .slice p (out.length + 1) c ∧ Rws wc w' R (out ++ [a]) pn cn p c := by
  obtain ⟨p, c, rfl⟩ := row_slice hown
  have hlen : (out ++ [a]).length = out.length + 1 := by simp
  have hK : Keeps (fun k => (Value.slice po out.length co).ownBlock = some k) (wq.alloc o) w' := Keeps.of_grown hg (fun k hk => hk)
  have hA := (Below.refl _ wq).alloc (Nat.le_refl _) o
  have h1 := row_keeps (row_keeps (F := fun _ => False) D.nx (Keeps.of_below hA) (fun _ _ h => h)) hK (fun k hk => D.ne k hk)
  have hs := D.bl.size
  refine ⟨p, c, rfl, h1, by rw [hlen, List.map_append]; exact hown, fun k hk hk2 => ?_, ?_⟩
  · rw [hlen] at hk2
    have hl := (row_base D.nx hk).2
    rcases hat with h | h
    · rw [h] at hk2
      exact D.ne k hk hk2
    · rw [h] at hk2
      cases hk2
      simp at hl
      omega
  · refine (D.bl.trans (hA.mono hs)).trans (hK.below (by simp; omega) (fun k hk => (row_base D.ou hk).1))
/-- A register more. -/
theorem Rws.reg (D : Rws wc wq R out pn cn po co) {o : Obj} {y z : Int} {v' : Value} (hown : w'.ownsRow wc.heap.size 52 2 v' (R.length + 1) (flatK R ++ [.int .i64 y, .int .i64 z])) (hg : (wq.alloc o).grownBy w' (Value.slice pn R.length cn).ownBlock) (hat : v'.ownBlock = (Value.slice pn R.length cn).ownBlock ∨ v'.ownBlock = some (wq.alloc o).heap.size) : ∃ p c, v' = .slice p (R.length + 1) c ∧ Rws wc w' (R ++ [(y, z)]) out p c po co := by
  obtain ⟨p, c, rfl⟩ := row_slice hown
  have hlen : (R ++ [(y, z)]).length = R.length + 1 := by simp
  have hK : Keeps (fun k => (Value.slice pn R.length cn).ownBlock = some k) (wq.alloc o) w' := Keeps.of_grown hg (fun k hk => hk)
  have hA := (Below.refl _ wq).alloc (Nat.le_refl _) o
  have h1 := row_keeps (row_keeps (F := fun _ => False) D.ou (Keeps.of_below hA) (fun _ _ h => h)) hK (fun k hk hk2 => D.ne k hk2 hk)
  have hs := D.bl.size
  refine ⟨p, c, rfl, by rw [hlen, flatK_app]; exact hown, h1, fun k hk hk2 => ?_, (D.bl.trans (hA.mono hs)).trans (hK.below (by simp; omega) (fun k hk => (row_base D.nx hk).1))⟩
  rw [hlen] at hk
  have hl := (row_base D.ou hk2).2
  rcases hat with h | h
  · rw [h] at hk
    exact D.ne k hk hk2
  · rw [h] at hk
    cases hk
    simp at hl
    omega
theorem Rws.in_lt (D : Rws wc wq R out pn cn po co) (k : Nat) (hk : (Value.slice pn R.length cn).ownBlock = some k) : k < wq.heap.size := (row_base D.nx hk).2
theorem reg_new {R : List Ky} {y b i : Int} (hno : ¬ ∃ k ∈ R, k.1 = y) (h : RegIs (R ++ [(y, b)]) y i) : i = (R.length : Int) := by
  rcases h with ⟨_, h⟩ | ⟨t, s, rfl, h1, _⟩
  · exact absurd rfl (h (y, b) (by simp))
  · rcases Nat.lt_or_ge t R.length with h2 | h2
    · rw [List.getElem?_append_left h2] at h1
      exact absurd ⟨_, List.mem_of_getElem? h1, rfl⟩ hno
    · have := (List.getElem?_eq_some_iff.1 h1).1
      simp at this
      omega
theorem reg_no {R : List Ky} {y i : Int} (hno : ¬ ∃ k ∈ R, k.1 = y) (h : RegIs R y i) : i = -1 := by
  rcases h with ⟨h, _⟩ | ⟨t, s, rfl, h1, _⟩
  · exact h
  · exact absurd ⟨_, List.mem_of_getElem? h1, rfl⟩ hno
theorem reg_yes {R : List Ky} {y i : Int} (hex : ∃ k ∈ R, k.1 = y) (h : RegIs R y i) : ∃ (t : Nat) (s : Int), i = (t : Int) ∧ R[t]? = some (y, s) ∧ ∀ (t' : Nat) (k : Ky), t' < t → R[t']? = some k → k.1 ≠ y := by
  rcases h with ⟨_, h⟩ | h
  · obtain ⟨k, hk, e⟩ := hex
    exact absurd e (h k hk)
  · exact h
/-- A block of one's own beside, unchanged by a call. -/
theorem pcell {wr w2 : World} {a b c : Int} (B : Below (wr.alloc (.cells #[.int .i64 a, .int .i64 b, .int .i64 c] 57)).heap.size (wr.alloc (.cells #[.int .i64 a, .int .i64 b, .int .i64 c] 57)) w2) : w2.cell? ⟨wr.heap.size, 1, none⟩ = some (.int .i64 b) ∧ w2.cell? ⟨wr.heap.size, 2, none⟩ = some (.int .i64 c) ∧ wr.heap.size < w2.heap.size :=
  ⟨(B.cell (p := ⟨wr.heap.size, 1, none⟩) (by simp)).trans (by simp [go_sem]), (B.cell (p := ⟨wr.heap.size, 2, none⟩) (by simp)).trans (by simp [go_sem]), Nat.lt_of_lt_of_le (by simp) B.size⟩
end
section
variable {w wr w' : World} {aa : Nat} {L L1 : List Tm} {G : Nat → Prop}
set_option maxHeartbeats 16000000 in
theorem do_ok {ws : World} (T : Hid (On w ws aa L G)) {z : Nat} (M : Hid (MkT L (2, 0, []) z L1)) (pr : Option Addr) (nr cr : Nat) (R0 : List Ky) (hR : R0.length = nr) (hR4 : nr ≤ 500) (RK : Hid (RdK ws (.slice pr nr cr) R0)) (hrG : Hid (∀ k, (Value.slice pr nr cr).ownBlock = some k → G k))
    (pl : Option Addr) (n cl : Nat) (is : List Int) (As : List Pl) (his : is.length = n) (hAs : As.length = n) (hn : n ≤ 100) (RW : Hid (RdW ws (.slice pl n cl) is)) (hlG : Hid (∀ k, (Value.slice pl n cl).ownBlock = some k → G k))
    (HA : Hid (∀ j : Nat, j < n → ∃ (x : Nat) (u y b : Int), is[j]? = some (x : Int) ∧ As[j]? = some (u, y, b) ∧ IsAsk L1 x (u, y, b))) :
    Calls Try.prog 16 #[.pointer (some ⟨aa, 0, none⟩), .slice pr nr cr, .slice pl n cl] ws fun e w' => ∃ (pn : Option Addr) (cn : Nat) (po : Option Addr) (co : Nat) (R : List Ky) (out : List Int), e = .returned (.tuple #[.slice pn R.length cn, .slice po out.length co, .int .i64 0]) ∧ Done As z R0 n R out ∧
      On w w' aa L1 (fun k => G k ∨ ((Value.slice pn R.length cn).ownBlock = some k ∨ (Value.slice po out.length co).ownBlock = some k)) ∧ Stay G ws w' ∧ w'.ownsRow ws.heap.size 52 2 (.slice pn R.length cn) R.length (flatK R) ∧ w'.ownsRow ws.heap.size 3 1 (.slice po out.length co) out.length (out.map (Value.int .i64)) ∧ (∀ k, (Value.slice pn R.length cn).ownBlock = some k → (Value.slice po out.length co).ownBlock ≠ some k) := by
  obtain ⟨i0, hi', hz0, hz1, hz2⟩ := info_parts (P := Try.prog) (e := 3) (z := .int .i64 0) (size := 1) (bytes := 8) (by kernel_rfl)
  obtain ⟨r0, hr', hr0, hr1, hr2⟩ := info_parts (P := Try.prog) (e := 52) (z := .agg #[.int .i64 0, .int .i64 0]) (size := 2) (bytes := 16) (by kernel_rfl)
  obtain ⟨p0, hp', hp0, hp1, hp2⟩ := info_parts (P := Try.prog) (e := 57) (z := .agg #[.int .i64 0, .int .i64 0, .int .i64 0]) (size := 3) (bytes := 24) (by kernel_rfl)
  go_enter Try.func16, Try.ntmps16
  go_wp2_with (go_at_call 6; refine (make_on T.out 2 0 (v := .slice none 0 0) (xs := []) (.inl ⟨rfl, rfl⟩) (by omega) M.out.put).mono ?_; rintro ev wb ⟨rfl, T1, S1⟩)
  have HT1 := (show Hid (On w wb aa L1 G) from T1)
  have HS1 := (show Hid (Stay G ws wb) from S1)
  have hb1 := S1.size
  have HRK := (show Hid (RdK wb (.slice pr nr cr) R0) from RK.out.keeps S1 (fun _ k hk hn => hn (hrG.out k hk)))
  have HRW := (show Hid (RdW wb (.slice pl n cl) is) from rdw_keeps RW.out S1 (fun k hk _ hn => hn (hlG.out k hk)))
  clear T1 S1
  go_loopw [11, 31] (fun v i wq => ∃ (j : Nat) (p : Option Addr) (c : Nat), v = .slice p j c ∧ i = .int .i64 j ∧ j ≤ n ∧ wq.ownsRow wb.heap.size 57 3 (.slice p j c) j (flatP (As.take j)) ∧ Below wb.heap.size wb wq) (fun _ i _ => n - (intOf i).toNat)
  case atStart => exact ⟨0, none, 0, rfl, rfl, by omega, World.ownsRow_nil _ _ _ _, Below.refl _ _⟩
  case round =>
    obtain ⟨j, p, c, rfl, rfl, hj, hown, hB⟩ := hrel
    by_cases hlt : j < n
    · obtain ⟨x, u, y, b, h1, h2, h3⟩ := HA.out j hlt
      obtain ⟨bl, ol, rfl, hbl, hcl⟩ := rdw_pos (RdW.step HRW.out hB) (t := j) (by omega)
      rw [List.getD_eq_getElem?_getD, h1] at hcl
      simp only [Option.getD_some] at hcl
      have hjI : (j : Int) < n := by omega
      have T2 := HT1.out.step hB
      have HOW := (show Hid (wr.ownsRow wb.heap.size 57 3 (.slice p j c) j (flatP (As.take j))) from hown)
      have htk : flatP (As.take j) ++ [.int .i64 u, .int .i64 y, .int .i64 b] = flatP (As.take (j + 1)) := by
        rw [List.take_add_one, h2, flatP_app]
        rfl
      have HTK := (show Hid _ from htk)
      clear hown htk h1 h2
      go_wp2_with (first
        | (go_at_call 18; refine (read_ok (show Hid _ from T2) h3).mono ?_; rintro ev w2 ⟨rfl, B2⟩; have HO2 := (show Hid (w2.ownsRow wb.heap.size 57 3 (.slice p j c) j (flatP (As.take j))) from row_keeps (F := fun _ => False) HOW.out (Keeps.of_below B2) (fun _ _ h => h)); have hB2 := hB.trans (B2.mono hB.size))
        | (at_builtin; have hsz := hB2.size; refine wpList_append_own_at _ rfl (.tmp 35) (.tmp 39) 55 rfl wb.heap.size 57 p0 (.agg #[.int .i64 0, .int .i64 0, .int .i64 0]) 3 24 Try.underlying55 hp' hp0 hp1 hp2 rfl (by decide) (.slice p j c) j _ rfl (World.ownsRow.alloc HO2.out _) ⟨w2.heap.size, 0, none⟩ 1 1 [.int .i64 u, .int .i64 y, .int .i64 b] rfl rfl (World.news_of_block (heap_alloc_new w2 _)) (by simp [Value.oneCell']) (by unfold maxLen; omega) (by omega) (by simp; omega) ?_; intro v7 w7 hown7 hgrow7 _ hat7))
      rw [HTK.out] at hown7
      obtain ⟨p7, c7, rfl⟩ := row_slice hown7
      exact ⟨⟨j + 1, p7, c7, rfl, by simp, by omega, hown7, (hB2.alloc hB2.size _).grown hgrow7 (by simp; omega) (fun k hk => (row_base HO2.out hk).1)⟩, by simp [intOf]; omega⟩
    · obtain rfl : j = n := by omega
      rw [List.take_of_length_le (by omega)] at hown
      obtain ⟨wc, hwc⟩ : ∃ wc, wc = wr := ⟨_, rfl⟩
      subst hwc
      have HAR := (show Hid (RdP wc (.slice p j c) As) from rdp_row hown)
      have HTC := (show Hid (On w wc aa L1 G) from HT1.out.step hB)
      have HSC := (show Hid (Stay G ws wc) from HS1.out.trans (stay_below hB))
      have HRC := (show Hid (RdK wc (.slice pr nr cr) R0) from HRK.out.below hB)
      have hbc : ws.heap.size ≤ wc.heap.size := by have := hB.size; omega
      subst hR
      clear hown hB HRK HRW HT1 HS1 RK RW hb1 hlt hj
      go_wp2_with (go_at_call 19; refine (clonek_ok HRC.out (by omega)).mono ?_; rintro ev wd ⟨pn, cn, rfl, hown, B⟩
                   have D0 := (show Hid (Rws wc wd R0 [] pn cn none 0) from ⟨hown, World.ownsRow_nil _ _ _ _, fun k _ h => by simp [Value.ownBlock] at h, B⟩)
                   clear hown B)
      go_loopw [14, 15, 46] (fun nx ou i wq => ∃ (t : Nat) (R : List Ky) (out : List Int) (pn : Option Addr) (cn : Nat) (po : Option Addr) (co : Nat), nx = .slice pn R.length cn ∧ ou = .slice po out.length co ∧ i = .int .i64 t ∧ t ≤ j ∧ Rws wc wq R out pn cn po co ∧ Done As z R0 t R out) (fun _ _ i _ => j - (intOf i).toNat)
      case atStart => exact ⟨0, R0, [], pn, cn, none, 0, rfl, rfl, rfl, by omega, D0.out, .start⟩
      case round =>
        clear D0
        obtain ⟨t, R, out, pn, cn, po, co, rfl, rfl, rfl, ht, D, hdone⟩ := hrel
        have HD := (show Hid (Rws wc wr R out pn cn po co) from D)
        have HDN := (show Hid (Done As z R0 t R out) from hdone)
        have hlen := hdone.len
        have hsz := D.bl.size
        clear D hdone
        by_cases htl : t < j
        · obtain ⟨x, u, y, b, h1, h2, h3⟩ := HA.out t htl
          obtain ⟨ba, oa, rfl, hba, c0, c1, c2⟩ := rdp_nth (HAR.out.below HD.out.bl) h2
          simp only at c0 c1 c2
          have htI : (t : Int) < j := by omega
          have H2 := (show Hid _ from h2)
          have hR500 : R.length ≤ 700 := by omega
          have ho100 : out.length ≤ 100 := by omega
          clear h1 h2 hlen
          have hu : u = 71 ∨ u = 72 ∨ u = 73 := by
            cases h3 with
            | three _ x y z _ _ hu => omega
            | two x y _ _ => exact .inr (.inl rfl)
          clear h3
          have HP := (show Hid (Below wr.heap.size wr (wr.alloc (.cells #[.int .i64 u, .int .i64 y, .int .i64 b] 57))) from (Below.refl _ wr).alloc (Nat.le_refl _) _)
          rcases hu with rfl | rfl | rfl
          · by_cases hex : ∃ k ∈ R, k.1 = y
            · have HEX := (show Hid (∃ k ∈ R, k.1 = y) from hex)
              clear hex
              go_wp2_with (first
                | (go_at_call 20; refine (register_ok pn R.length cn y R _ rfl (by omega) (show Hid _ from (HD.out.step HP.out).rd)).mono ?_; rintro ev w2 ⟨i1, rfl, hi, B2⟩; obtain ⟨t1, s1, rfl, _, _⟩ := reg_yes HEX.out hi; have D2 := (show Hid (Rws wc w2 R out pn cn po co) from (HD.out.step HP.out).step B2); obtain ⟨y1, y2, hlt2⟩ := pcell B2; clear hi B2 HP)
                | (go_at_call 20; refine (register_ok pn R.length cn y R _ rfl (by omega) (show Hid _ from D2.out.rd)).mono ?_; rintro ev w3 ⟨i2, rfl, hi, B3⟩; obtain ⟨t2, s2, rfl, g1, g2⟩ := reg_yes HEX.out hi; have hd : Does As z t R R s2 := .had R 71 y b s2 t2 H2.out (.inl rfl) g1 g2; have D3 := (show Hid (Rws wc w3 R out pn cn po co) from D2.out.step B3); obtain ⟨gb, go, hpn, _, _, x1⟩ := rdk_nth D3.out.rd g1; subst hpn; simp only at x1; have ht2 := (List.getElem?_eq_some_iff.1 g1).1; have HDO := (show Hid _ from hd); have hwl := D3.out.bl.size; clear g1 g2 hi B3 D2 hd y1 y2)
                | (at_builtin; refine wpList_append_own_at _ rfl (.tmp 94) (.tmp 96) 29 rfl wc.heap.size 3 i0 (.int .i64 0) 1 8 Try.underlying29 hi' hz0 hz1 hz2 rfl (by decide) (.slice po out.length co) out.length _ rfl (World.ownsRow.alloc D3.out.ou _) ⟨w3.heap.size, 0, none⟩ 1 1 [.int .i64 s2] rfl rfl (World.news_of_block (heap_alloc_new w3 _)) (by simp [Value.oneCell']) (by unfold maxLen; omega) (by omega) (by simp; omega) ?_; intro v7 w7 hown7 hgrow7 _ hat7; obtain ⟨p9, c9, rfl, D9⟩ := D3.out.ans hown7 hgrow7 hat7; clear hown7 hgrow7 hat7))
              have hlen2 : (out ++ [s2]).length = out.length + 1 := by simp
              exact ⟨⟨t + 1, R, out ++ [s2], _, cn, p9, c9, rfl, by rw [hlen2], by simp, by omega, D9, .step t R R out s2 HDN.out HDO.out⟩, by simp [intOf]; omega⟩
            · have HEX := (show Hid (¬ ∃ k ∈ R, k.1 = y) from hex)
              clear hex
              have hlr : (R ++ [(y, b)]).length = R.length + 1 := by simp
              have HLR := (show Hid _ from hlr)
              have hd : Does As z t R (R ++ [(y, b)]) b := .put R y b H2.out (fun k hk e => HEX.out ⟨k, hk, e⟩)
              have HDO := (show Hid _ from hd)
              clear hlr hd
              go_wp2_with (first
                | (go_at_call 20; refine (register_ok pn R.length cn y R _ rfl (by omega) (show Hid _ from (HD.out.step HP.out).rd)).mono ?_; rintro ev w2 ⟨i1, rfl, hi, B2⟩; obtain rfl := reg_no HEX.out hi; have D2 := (show Hid (Rws wc w2 R out pn cn po co) from (HD.out.step HP.out).step B2); obtain ⟨y1, y2, hlt2⟩ := pcell B2; have hwl2 := D2.out.bl.size; clear hi B2 HP)
                | (at_builtin; refine wpList_append_own_at _ rfl (.tmp 65) (.tmp 71) 28 rfl wc.heap.size 52 r0 (.agg #[.int .i64 0, .int .i64 0]) 2 16 Try.underlying28 hr' hr0 hr1 hr2 rfl (by decide) (.slice pn R.length cn) R.length _ rfl (World.ownsRow.alloc D2.out.nx _) ⟨w2.heap.size, 0, none⟩ 1 1 [.int .i64 y, .int .i64 b] rfl rfl (World.news_of_block (heap_alloc_new w2 _)) (by simp [Value.oneCell']) (by unfold maxLen; omega) (by omega) (by simp; omega) ?_; intro v7 w7 hown7 hgrow7 _ hat7
                   have hK7 := Keeps.of_grown (F := fun k => (Value.slice pn R.length cn).ownBlock = some k) hgrow7 (fun k hk => hk)
                   have z1 := (hK7.cell (p := ⟨wr.heap.size, 1, none⟩) (Nat.lt_of_lt_of_le hlt2 (by simp)) (fun hk => Nat.lt_irrefl _ (HD.out.in_lt wr.heap.size hk))).trans ((((Below.refl _ w2).alloc (Nat.le_refl _) _).cell (p := ⟨wr.heap.size, 1, none⟩) hlt2).trans y1)
                   obtain ⟨p7, c7, rfl, D7⟩ := D2.out.reg hown7 hgrow7 hat7
                   have HD7 := (show Hid (Rws wc w7 (R ++ [(y, b)]) out p7 c7 po co) from D7)
                   have HR7 := (show Hid (RdK w7 (.slice p7 (R.length + 1) c7) (R ++ [(y, b)])) from by have := D7.rd; rwa [HLR.out] at this)
                   clear hown7 hgrow7 hat7 hK7 D7 y1 y2 D2)
                | (go_at_call 20; refine (register_ok p7 (R.length + 1) c7 y (R ++ [(y, b)]) _ HLR.out (by omega) HR7).mono ?_; rintro ev w3 ⟨i2, rfl, hi, B3⟩; obtain rfl := reg_new HEX.out hi; have D3 := (show Hid (Rws wc w3 (R ++ [(y, b)]) out p7 c7 po co) from HD7.out.step B3); obtain ⟨gb, go, hpn, _, _, x1⟩ := rdk_nth (HR7.out.below B3) (by simp : (R ++ [(y, b)])[R.length]? = some (y, b)); subst hpn; simp only at x1; have hwl := D3.out.bl.size; clear hi B3 HR7 HD7 z1)
                | (at_builtin; refine wpList_append_own_at _ rfl (.tmp 94) (.tmp 96) 29 rfl wc.heap.size 3 i0 (.int .i64 0) 1 8 Try.underlying29 hi' hz0 hz1 hz2 rfl (by decide) (.slice po out.length co) out.length _ rfl (World.ownsRow.alloc D3.out.ou _) ⟨w3.heap.size, 0, none⟩ 1 1 [.int .i64 b] rfl rfl (World.news_of_block (heap_alloc_new w3 _)) (by simp [Value.oneCell']) (by unfold maxLen; omega) (by omega) (by simp; omega) ?_; intro v7 w7 hown7 hgrow7 _ hat7; obtain ⟨p9, c9, rfl, D9⟩ := D3.out.ans hown7 hgrow7 hat7; clear hown7 hgrow7 hat7))
              have hlen2 : (out ++ [b]).length = out.length + 1 := by simp
              exact ⟨⟨t + 1, (R ++ [(y, b)]), out ++ [b], _, c7, p9, c9, by rw [HLR.out], by rw [hlen2], by simp, by omega, D9, .step t R (R ++ [(y, b)]) out b HDN.out HDO.out⟩, by simp [intOf]; omega⟩
          · by_cases hex : ∃ k ∈ R, k.1 = y
            · have HEX := (show Hid (∃ k ∈ R, k.1 = y) from hex)
              clear hex
              go_wp2_with (first
                | (go_at_call 20; refine (register_ok pn R.length cn y R _ rfl (by omega) (show Hid _ from (HD.out.step HP.out).rd)).mono ?_; rintro ev w3 ⟨i2, rfl, hi, B3⟩; obtain ⟨t2, s2, rfl, g1, g2⟩ := reg_yes HEX.out hi; have hd : Does As z t R R s2 := .had R 72 y b s2 t2 H2.out (.inr rfl) g1 g2; have D3 := (show Hid (Rws wc w3 R out pn cn po co) from (HD.out.step HP.out).step B3); obtain ⟨gb, go, hpn, _, _, x1⟩ := rdk_nth D3.out.rd g1; subst hpn; simp only at x1; have ht2 := (List.getElem?_eq_some_iff.1 g1).1; have HDO := (show Hid _ from hd); have hwl := D3.out.bl.size; clear g1 g2 hi B3 hd HP)
                | (at_builtin; refine wpList_append_own_at _ rfl (.tmp 94) (.tmp 96) 29 rfl wc.heap.size 3 i0 (.int .i64 0) 1 8 Try.underlying29 hi' hz0 hz1 hz2 rfl (by decide) (.slice po out.length co) out.length _ rfl (World.ownsRow.alloc D3.out.ou _) ⟨w3.heap.size, 0, none⟩ 1 1 [.int .i64 s2] rfl rfl (World.news_of_block (heap_alloc_new w3 _)) (by simp [Value.oneCell']) (by unfold maxLen; omega) (by omega) (by simp; omega) ?_; intro v7 w7 hown7 hgrow7 _ hat7; obtain ⟨p9, c9, rfl, D9⟩ := D3.out.ans hown7 hgrow7 hat7; clear hown7 hgrow7 hat7))
              have hlen2 : (out ++ [s2]).length = out.length + 1 := by simp
              exact ⟨⟨t + 1, R, out ++ [s2], _, cn, p9, c9, rfl, by rw [hlen2], by simp, by omega, D9, .step t R R out s2 HDN.out HDO.out⟩, by simp [intOf]; omega⟩
            · have HEX := (show Hid (¬ ∃ k ∈ R, k.1 = y) from hex)
              clear hex
              have hd : Does As z t R R z := .none R y b H2.out (fun k hk e => HEX.out ⟨k, hk, e⟩)
              have HDO := (show Hid _ from hd)
              clear hd
              go_wp2_with (first
                | (go_at_call 20; refine (register_ok pn R.length cn y R _ rfl (by omega) (show Hid _ from (HD.out.step HP.out).rd)).mono ?_; rintro ev w3 ⟨i2, rfl, hi, B3⟩; obtain rfl := reg_no HEX.out hi; have D3 := (show Hid (Rws wc w3 R out pn cn po co) from (HD.out.step HP.out).step B3); have hwl := D3.out.bl.size; clear hi B3 HP)
                | (at_builtin; refine wpList_append_own_at _ rfl (.tmp 94) (.tmp 96) 29 rfl wc.heap.size 3 i0 (.int .i64 0) 1 8 Try.underlying29 hi' hz0 hz1 hz2 rfl (by decide) (.slice po out.length co) out.length _ rfl (World.ownsRow.alloc D3.out.ou _) ⟨w3.heap.size, 0, none⟩ 1 1 [.int .i64 (z : Int)] rfl rfl (World.news_of_block (heap_alloc_new w3 _)) (by simp [Value.oneCell']) (by unfold maxLen; omega) (by omega) (by simp; omega) ?_; intro v7 w7 hown7 hgrow7 _ hat7; obtain ⟨p9, c9, rfl, D9⟩ := D3.out.ans hown7 hgrow7 hat7; clear hown7 hgrow7 hat7))
              have hlen2 : (out ++ [(z : Int)]).length = out.length + 1 := by simp
              exact ⟨⟨t + 1, R, out ++ [(z : Int)], _, cn, p9, c9, rfl, by rw [hlen2], by simp, by omega, D9, .step t R R out (z : Int) HDN.out HDO.out⟩, by simp [intOf]; omega⟩
          · have HM1 := (show Hid (RdP (wr.alloc (.cells #[.int .i64 73, .int .i64 y, .int .i64 b] 57)) (.slice (some ⟨ba, oa, none⟩) j c) As) from (HAR.out.below HD.out.bl).below HP.out)
            by_cases hex : (mtL As t As.length).length = 1
            · obtain ⟨k, hk⟩ := List.length_eq_one_iff.1 hex
              have hkl : k < j := by
                have : k ∈ mtL As t As.length := by rw [hk]; simp
                unfold mtL at this
                have := List.mem_range.1 (List.mem_filter.1 this).1
                omega
              obtain ⟨⟨u', y', z'⟩, hak⟩ : ∃ p, As[k]? = some p := ⟨_, List.getElem?_eq_getElem (by omega)⟩
              have hd : Does As z t R R z' := .meets R y b u' y' z' k H2.out hk hak
              have HDO := (show Hid _ from hd)
              have HK := (show Hid _ from hk)
              have HAK := (show Hid _ from hak)
              clear hd hk hex hak
              go_wp2_with (first
                | (go_at_call 21; refine (meets_ok _ j c As t _ hAs (by omega) htl HM1).mono ?_; rintro ev w3 ⟨r, rfl, hr, B3⟩
                   obtain rfl : r = (k : Int) := by
                     rcases hr with ⟨_, h⟩ | ⟨k2, rfl, h⟩
                     · rw [HK.out] at h
                       exact absurd rfl h
                     · rw [HK.out] at h
                       cases h
                       rfl
                   have D3 := (show Hid (Rws wc w3 R out pn cn po co) from (HD.out.step HP.out).step B3)
                   obtain ⟨gb, go, hpn, _, _, _, x2⟩ := rdp_nth (HM1.out.below B3) HAK.out
                   obtain ⟨rfl, rfl⟩ : ba = gb ∧ oa = go := by simpa using hpn
                   simp only at x2
                   have hwl := D3.out.bl.size
                   clear hr B3 HP HM1 hpn)
                | (at_builtin; refine wpList_append_own_at _ rfl (.tmp 94) (.tmp 96) 29 rfl wc.heap.size 3 i0 (.int .i64 0) 1 8 Try.underlying29 hi' hz0 hz1 hz2 rfl (by decide) (.slice po out.length co) out.length _ rfl (World.ownsRow.alloc D3.out.ou _) ⟨w3.heap.size, 0, none⟩ 1 1 [.int .i64 z'] rfl rfl (World.news_of_block (heap_alloc_new w3 _)) (by simp [Value.oneCell']) (by unfold maxLen; omega) (by omega) (by simp; omega) ?_; intro v7 w7 hown7 hgrow7 _ hat7; obtain ⟨p9, c9, rfl, D9⟩ := D3.out.ans hown7 hgrow7 hat7; clear hown7 hgrow7 hat7))
              have hlen2 : (out ++ [z']).length = out.length + 1 := by simp
              exact ⟨⟨t + 1, R, out ++ [z'], _, cn, p9, c9, rfl, by rw [hlen2], by simp, by omega, D9, .step t R R out z' HDN.out HDO.out⟩, by simp [intOf]; omega⟩
            · have hd : Does As z t R R z := .alone R y b H2.out hex
              have HDO := (show Hid _ from hd)
              have HEX := (show Hid (¬ (mtL As t As.length).length = 1) from hex)
              clear hd hex
              go_wp2_with (first
                | (go_at_call 21; refine (meets_ok _ j c As t _ hAs (by omega) htl HM1).mono ?_; rintro ev w3 ⟨r, rfl, hr, B3⟩
                   obtain rfl : r = -1 := by
                     rcases hr with ⟨h, _⟩ | ⟨k2, rfl, h⟩
                     · exact h
                     · exact absurd (by rw [h]; rfl) HEX.out
                   have D3 := (show Hid (Rws wc w3 R out pn cn po co) from (HD.out.step HP.out).step B3)
                   have hwl := D3.out.bl.size
                   clear hr B3 HP HM1)
                | (at_builtin; refine wpList_append_own_at _ rfl (.tmp 94) (.tmp 96) 29 rfl wc.heap.size 3 i0 (.int .i64 0) 1 8 Try.underlying29 hi' hz0 hz1 hz2 rfl (by decide) (.slice po out.length co) out.length _ rfl (World.ownsRow.alloc D3.out.ou _) ⟨w3.heap.size, 0, none⟩ 1 1 [.int .i64 (z : Int)] rfl rfl (World.news_of_block (heap_alloc_new w3 _)) (by simp [Value.oneCell']) (by unfold maxLen; omega) (by omega) (by simp; omega) ?_; intro v7 w7 hown7 hgrow7 _ hat7; obtain ⟨p9, c9, rfl, D9⟩ := D3.out.ans hown7 hgrow7 hat7; clear hown7 hgrow7 hat7))
              have hlen2 : (out ++ [(z : Int)]).length = out.length + 1 := by simp
              exact ⟨⟨t + 1, R, out ++ [(z : Int)], _, cn, p9, c9, rfl, by rw [hlen2], by simp, by omega, D9, .step t R R out (z : Int) HDN.out HDO.out⟩, by simp [intOf]; omega⟩
        · obtain rfl : t = j := by omega
          go_wp2
          refine bodyPost_ret (v := .tuple #[.slice pn R.length cn, .slice po out.length co, .int .i64 0]) (by simp [results, Try.results16, go_sem]) rfl ?_
          exact ⟨pn, cn, po, co, R, out, rfl, HDN.out, HTC.out.add HD.out.bl (fun k hk => by
            rcases hk with h | h
            · exact row_base HD.out.nx h
            · exact row_base HD.out.ou h), HSC.out.trans (stay_below HD.out.bl), row_lower HD.out.nx hbc, row_lower HD.out.ou hbc, HD.out.ne⟩
end
end Go.Proofs.Ytenllpaochcjfaa

/-
 SIGNATURES: the page's rows of a signature. Own work.
-/
import Derived.Test.YtheidgcgdkmmiaaDoorRe
import Derived.Test.YtheidgcgdkmmiaaDoorMe
import Derived.Test.YtheidgcgdkmmiaaDoorMh
namespace Go.Proofs.YtheidgcgdkmmiaaDoor
open Go.Sh
open Go.ChangeShapes Go.WideShapes Go.ChangeAt Go.RowKit
set_option maxRecDepth 100000
def rowPS (x : AV) (need : Gl) (g : Nat → AI) : RowM := ⟨28, [x], need, [.v (.ag (rowC .u8 g 64))]⟩
def rowPSeed (b : Nat) : RowM := rowPS (.sl b 0 (nA 32) (.ex 32)) [bx b 0 32] (nmA 32)
def ps1 (b t : Nat) : RowM := rowPS (slE b (tg t) 0) [wO b t] (nmA 160)
def ps2 (b t : Nat) : RowM := rowPS (slE b (tg t) 0) [wO b t] (nmA 288)
def ps1E (b : Nat) : RowM := rowPS (.sl b 0 (nA 32) (.own 1)) [(b, ⟨rowC .u8 pfA 32, eU, true⟩)] (nmA 160)
def ps2E (b : Nat) : RowM := rowPS (.sl b 0 (nA 64) (.own 1)) [(b, ⟨rowC .u8 plA 64, eU, true⟩)] (nmA 288)
def pgT : List Row := [⟨53, [clV], rw4 1002⟩, ⟨19, [rw4 1002], rw8 13⟩, ⟨27, [rw8 13], rw8 4⟩, ⟨27, [rw8 7], rw8 8⟩,
 ⟨58, [wAG 160 64], rw4 1000⟩, ⟨58, [wAG 288 64], rw4 1001⟩, ⟨19, [rw4 1000], rw8 7⟩, ⟨19, [rw4 1001], rw8 11⟩, ⟨31, [rw8 11, rw8 13, rw8 7], rw8 12⟩]
def exT : List Row := sgT ++ pgT
def exG : List Row := sgG ++ [rowWk9]
def exF : Facts := ⟨[], [mxF 2 500, mxF 4 65536, gtF 2, gtF 4, ltF 2, ltF 4, ltF 6, ltF 8, ltF 10, ltF 12, eqF 4, eqF 6, eqF 8, eqF 10, eqF 12], [catR 4 10, catK 4 12, catR 2 6, catK 2 8]⟩
def exM : List RowM := [rowTw (tg 4) (ps 64 2) [pn 64 2], rowSeed 69, sg1 79 10, sg2 90 12, rowSeed 100, rowPSeed 108, rowPSeed 119, ps1 131 6, ps2 143 8, rowEq (ps 66 4) (ps 64 2) [pn 66 4, pn 64 2]]
def exEm : List RowM := [rowSeed 67, sg1E 76, sg2E 86, rowSeed 96, rowPSeed 104, rowPSeed 115, ps1E 126, ps2E 137]
/-! what they answer -/
theorem rowPS_ok {ν : Nat → Int} {need : Gl} {x : AV} {n : Nat} {z : Wd} {g : Nat → AI} (hx : IsText ν need x n z) (hb : Bytes z n) (hn : n < 100000000000) (hg : ∀ j, j < 64 → (g j).val ν = sum256Q z n j) : (rowPS x need g).Ok ν Tryd.prog gl9 := by
 refine ⟨⟨_, Tryd.func28, by kernel_rfl, by kernel_rfl⟩, fun ρ w vs hw hnd hl => ?_⟩
 obtain ⟨u, rfl, hu⟩ := one_arg hl
 exact (PSum256_okQ (hx ρ w u hnd hu) hb (by omega)).2.mono fun e w' ⟨he, hB⟩ => ⟨[_], he, packR hg, hB⟩
theorem byL_b (x : Nat) {j : Nat} (h : j < 32) : ∃ b : Nat, (((byL x).getD j 0 : Nat) : Int) = (b : Int) ∧ b < 256 := ⟨_, rfl, by rw [byL_get _ j h]; exact Nat.mod_lt _ (by decide)⟩
theorem zS_b (x : Nat) : Bytes (zS x) 32 := fun _ hj => byL_b x hj
theorem zR_b {x : Nat} {zz : Nat → Nat} (hz : ∀ j, zz j < 256) (n : Nat) : Bytes (zR x zz) n := fun j _ => by
 unfold zR
 split
 ·exact ⟨_, rfl, dgt_lt _ _ _⟩
 ·exact ⟨_, rfl, hz _⟩
theorem zK_b {p q : Nat} {zz : Nat → Nat} (hz : ∀ j, zz j < 256) (n : Nat) : Bytes (zK p q zz) n := fun j _ => by
 unfold zK
 split
 ·exact byL_b _ (by assumption)
 ·split
  ·exact byL_b _ (by omega)
  ·exact ⟨_, rfl, hz _⟩
theorem rowPBase {ν : Nat → Int} {p r : AV} {x e : Nat} (hx : x < B4) (he : enc (smul x pB0) = e) (h1 : conc2 ν p = some (byt x)) (h2 : conc ν r = some (byt e)) : Row.Ok ν Tryd.prog ⟨27, [p], r⟩ := ⟨[byt x], byt e, by simp [concT, h1], h2, PBase_ok _ _ hx he⟩
section
variable {g : Sg} {e : Ex} {n : Nat} {zz : Nat → Nat}
theorem rowPSeed_ok (H : g.Ok n zz) {b : Nat} : (rowPSeed b).Ok (nuX9 g e n zz) Tryd.prog gl9 := by
 refine rowPS_ok (n := 32) (z := zS g.x) (isText_row (off := 0) (n := 32) List.mem_cons_self (by decide) (by decide) (by decide) fun j hj => ?_) (zS_b _) (by decide) fun j hj => ?_
 ·show nuX9 g e n zz (32 * 0 + (0 + j)) = _
  rw [Nat.zero_add]
  exact nu9_at (j := 0) (by decide) hj
 ·exact nu9_dg (L := sgX g e) (j := 1) (by decide) H.h1 H.h2 hj
theorem ps1_ok (H : g.Ok n zz) (hz : ∀ j, zz j < 256) {b t : Nat} (ht : t = 6 ∨ t = 10) (hn : n < 1000000000) : (ps1 b t).Ok (nuX9 g e n zz) Tryd.prog gl9 := by
 have e1 : sgN n t = 32 + n := by unfold sgN; rw [if_neg (by omega), if_pos ht]
 have e2 : sgZ g e zz t = zR g.x zz := by unfold sgZ; rw [if_neg (by omega), if_pos ht]
 have h0 : 0 < t := by omega
 have hA : nuX9 g e n zz (pinA (tg t)) = ((32 + n : Nat) : Int) := by rw [← e1]; exact nu9_A h0
 have hL : nuX9 g e n zz (pinL (tg t)) = ((32 + n : Nat) : Int) := by rw [← e1]; exact nu9_L h0
 refine rowPS_ok (n := 32 + n) (z := zR g.x zz) (isText_win (t := t) (own := true) List.mem_cons_self h0 (tg_Ke (by omega)) rfl hA (by rw [hL]; omega) fun j hj => ?_) (zR_b hz _) (by omega) fun j hj => nu9_dg (L := sgX g e) (j := 5) (by decide) H.h5 H.h6 hj
 rw [← e2]
 exact nu9_B h0 (by omega)
theorem ps2_ok (H : g.Ok n zz) (hz : ∀ j, zz j < 256) {b t : Nat} (ht : t = 8 ∨ t = 12) (hn : n < 1000000000) : (ps2 b t).Ok (nuX9 g e n zz) Tryd.prog gl9 := by
 have e1 : sgN n t = 64 + n := by unfold sgN; rw [if_neg (by omega), if_neg (by omega)]
 have e2 : sgZ g e zz t = zK g.pl g.p zz := by unfold sgZ; rw [if_neg (by omega), if_neg (by omega), if_pos (by omega)]
 have h0 : 0 < t := by omega
 have hA : nuX9 g e n zz (pinA (tg t)) = ((64 + n : Nat) : Int) := by rw [← e1]; exact nu9_A h0
 have hL : nuX9 g e n zz (pinL (tg t)) = ((64 + n : Nat) : Int) := by rw [← e1]; exact nu9_L h0
 refine rowPS_ok (n := 64 + n) (z := zK g.pl g.p zz) (isText_win (t := t) (own := true) List.mem_cons_self h0 (tg_Ke (by omega)) rfl hA (by rw [hL]; omega) fun j hj => ?_) (zK_b hz _) (by omega) fun j hj => nu9_dg (L := sgX g e) (j := 9) (by decide) H.h9 H.h10 hj
 rw [← e2]
 exact nu9_B h0 (by omega)
theorem ps1E_ok (H : g.Ok 0 zz) (hz : ∀ j, zz j < 256) {b : Nat} : (ps1E b).Ok (nuX9 g e 0 zz) Tryd.prog gl9 := by
 refine rowPS_ok (n := 32) (z := zR g.x zz) (isText_row (off := 0) (n := 32) List.mem_cons_self (by decide) (by decide) (by decide) fun j hj => ?_) (zR_b hz _) (by decide) fun j hj => nu9_dg (L := sgX g e) (j := 5) (by decide) H.h5 H.h6 hj
 rw [Nat.zero_add]
 exact pf_val H hj
theorem ps2E_ok (H : g.Ok 0 zz) (hz : ∀ j, zz j < 256) {b : Nat} : (ps2E b).Ok (nuX9 g e 0 zz) Tryd.prog gl9 := by
 refine rowPS_ok (n := 64) (z := zK g.pl g.p zz) (isText_row (off := 0) (n := 64) List.mem_cons_self (by decide) (by decide) (by decide) fun j hj => ?_) (zK_b hz _) (by decide) fun j hj => nu9_dg (L := sgX g e) (j := 9) (by decide) H.h9 H.h10 hj
 rw [Nat.zero_add]
 exact pl_val9 hj
def exE (g : Sg) : Ex := ⟨[g.a], [g.a], fun _ _ => 0⟩
theorem exT_ok (H : g.Ok n zz) : ∀ r ∈ exT, r.Ok (nuX9 g (exE g) n zz) Tryd.prog := by
 intro r hr
 rcases List.mem_append.1 hr with hr | hr
 ·exact sgT_ok r hr
 simp only [pgT, List.mem_cons, List.not_mem_nil, or_false] at hr
 rcases hr with rfl | rfl | rfl | rfl | rfl | rfl | rfl | rfl | rfl
 ·exact rowOfB (x := g.a) (sg_cl H) (nu9_wc 2 (by decide))
 ·exact rowBytesP (x := g.a) (nu9_w 2 (by decide)) (nu9_bc 13 (by decide))
 ·exact rowPBase (x := g.a) H.aB H.hp (nu9_b 13 (by decide)) (nu9_bc 4 (by decide))
 ·exact rowPBase (x := g.r) H.rB H.hpl (nu9_b 7 (by decide)) (nu9_bc 8 (by decide))
 ·exact rowModL (T := wS (dgt (zR g.x zz) (32 + n)) 64) (wS_B8 (dgt_lt _ _)) H.hr (wag (j := 5) (by decide) H.h5 H.h6) (nu9_wc 0 (by decide))
 ·exact rowModL (T := wS (dgt (zK g.pl g.p zz) (64 + n)) 64) (wS_B8 (dgt_lt _ _)) H.hk (wag (j := 9) (by decide) H.h9 H.h10) (nu9_wc 1 (by decide))
 ·exact rowBytesP (x := g.r) (nu9_w 0 (by decide)) (nu9_bc 7 (by decide))
 ·exact rowBytesP (x := g.k) (nu9_w 1 (by decide)) (nu9_bc 11 (by decide))
 ·exact rowPMu H.kB H.aB H.rB H.hs (nu9_b 11 (by decide)) (nu9_b 13 (by decide)) (nu9_b 7 (by decide)) (nu9_bc 12 (by decide))
theorem exG_ok (H : g.Ok n zz) : ∀ r ∈ exG, r.OkG (nuX9 g e n zz) Tryd.prog gl9 := by
 intro r hr
 rcases List.mem_append.1 hr with hr | hr
 ·exact sgG_ok H r hr
 ·simp only [List.mem_cons, List.not_mem_nil, or_false] at hr
  subst hr
  exact rowWk9_ok
end
theorem se_go : saysB exF tree exT gl9 exG exM [pn 64 2] 65 300 8 3 [rw8 0, ps 64 2] (.b true) = true := by kernel_rfl
theorem se_goE1 : saysB noFacts tree exT gl9 exG exEm [] 64 300 8 3 [rw8 0, .nsl] (.b true) = true := by kernel_rfl
theorem se_goE2 : saysB noFacts tree exT gl9 exG exEm [] 64 300 8 3 [rw8 0, .sle false] (.b true) = true := by kernel_rfl
theorem se_over : saysB ⟨[], [(.gtr, .s 9000, nA 500, true)], []⟩ tree [] gl9 [] [] (Hd.gl0 64 .c) 65 300 8 3 [rw8 0, Hd.av0 64 9000 .c] (.b true) = true := by kernel_rfl
end Go.Proofs.YtheidgcgdkmmiaaDoor

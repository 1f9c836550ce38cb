/-
 THE CURVE: what curve's lay and read answer. Own work.
-/
import Derived.Test.YtheidgcgdkmmiaaDoorJa
namespace Go.Proofs.YtheidgcgdkmmiaaDoor
open Go.Sh
set_option maxRecDepth 100000
def qaD (p : Nat) : Nat := p % 57896044618658097711785492504343953926634992332820282019728792003956564819968
theorem pmask_lt (p : Nat) : qaD p < B4 := by
 unfold qaD B4
 omega
theorem byL_pmask (p : Nat) : byL (qaD p) = [p % 256, p / 256 % 256, p / 65536 % 256, p / 16777216 % 256, p / 4294967296 % 256, p / 1099511627776 % 256, p / 281474976710656 % 256, p / 72057594037927936 % 256, p / 18446744073709551616 % 256, p / 4722366482869645213696 % 256, p / 1208925819614629174706176 % 256, p / 309485009821345068724781056 % 256, p / 79228162514264337593543950336 % 256, p / 20282409603651670423947251286016 % 256, p / 5192296858534827628530496329220096 % 256, p / 1329227995784915872903807060280344576 % 256, p / 340282366920938463463374607431768211456 % 256, p / 87112285931760246646623899502532662132736 % 256, p / 22300745198530623141535718272648361505980416 % 256, p / 5708990770823839524233143877797980545530986496 % 256, p / 1461501637330902918203684832716283019655932542976 % 256, p / 374144419156711147060143317175368453031918731001856 % 256, p / 95780971304118053647396689196894323976171195136475136 % 256, p / 24519928653854221733733552434404946937899825954937634816 % 256, p / 6277101735386680763835789423207666416102355444464034512896 % 256, p / 1606938044258990275541962092341162602522202993782792835301376 % 256, p / 411376139330301510538742295639337626245683966408394965837152256 % 256, p / 105312291668557186697918027683670432318895095400549111254310977536 % 256, p / 26959946667150639794667015087019630673637144422540572481103610249216 % 256, p / 6901746346790563787434755862277025452451108972170386555162524223799296 % 256, p / 1766847064778384329583297500742918515827483896875618958121606201292619776 % 256, p / 452312848583266388373324160190187140051835877600158453279131187530910662656 % 128] := by
 rw [byL_all]
 unfold qaD
 simp only [List.cons.injEq, and_true]
 refine ⟨by omega, by omega, by omega, by omega, by omega, by omega, by omega, by omega, by omega, by omega, by omega, by omega, by omega, by omega, by omega, by omega, by omega, by omega, by omega, by omega, by omega, by omega, by omega, by omega, by omega, by omega, by omega, by omega, by omega, by omega, by omega, by omega⟩
theorem m127 : (List.range 256).all (fun x => decide (x &&& 127 = x % 128)) = true := by decide +kernel
theorem v127 {x : Nat} (hx : x < 256) : qaj .and .u8 (x : Int) ((127 : Nat) : Int) = ((x % 128 : Nat) : Int) := by
 rw [a_and8 x 127 hx (by decide)]
 have := List.all_eq_true.1 m127 x (List.mem_range.2 hx)
 rw [of_decide_eq_true this]
def e127 (j : Nat) : AI := .e .and .u8 (.s j) (.c (.ofNat 127))
def plB (j : Nat) : List AV := (List.range 31).map (fun i => bt (j + i)) ++ [.i .u8 (e127 (j + 31))]
theorem pl_conc {ν : Nat → Int} {j p : Nat} (h : ∀ i, i < 32 → ν (j + i) = (((byL p).getD i 0 : Nat) : Int)) : qap ν (plB j) = some ((byL (qaD p)).map u8) := by
 have h31 := h 31 (by decide)
 rw [byL_get p 31 (by decide)] at h31
 have e31 : qap ν [.i .u8 (e127 (j + 31))] = some [u8 (p / 452312848583266388373324160190187140051835877600158453279131187530910662656 % 128)] := by
  show some [Value.int .u8 (qaj .and .u8 (ν (j + 31)) ((127 : Nat) : Int))] = _
  rw [h31, v127 (Nat.mod_lt _ (by decide)), Nat.mod_mod_of_dvd _ (show 128 ∣ 256 by decide)]
  rfl
 have em := mid_conc (ν := ν) (j := j) 31 ((byL p).take 31) (fun i hi => by
  rw [h i (by omega)]
  simp [List.getD_eq_getElem?_getD, hi]) (by simp [qaX]) _ _ e31
 rw [byL_pmask]
 show qap ν ((List.range 31).map (fun i => bt (j + i)) ++ [.i .u8 (e127 (j + 31))]) = _
 rw [em, byL_all]
 rfl
theorem plB_val (ν : Nat → Int) (j : Nat) (l : List Value) (h : qap ν (plB j) = some l) : qag ν (.ag (plB j)) = some (.agg l.toArray) := by
 show (qap ν (plB j)).map (fun vs => Value.agg vs.toArray) = _
 rw [h]
 rfl
theorem concL_app {ν : Nat → Int} : ∀ {a b : List AV} {va vb : List Value}, qap ν a = some va → qap ν b = some vb → qap ν (a ++ b) = some (va ++ vb) := by
 intro a
 induction a with
 | nil =>
   intro b va vb h1 h2
   simp only [qap, Option.some.injEq] at h1
   subst h1
   exact h2
 | cons x r ih =>
   intro b va vb h1 h2
   simp only [qap] at h1
   split at h1
   ·rename_i v l e1 e2
    simp only [Option.some.injEq] at h1
    subst h1
    have := ih e2 h2
    show (match conc1 ν x, qap ν (r ++ b) with | some v, some l => some (v :: l) | _, _ => none) = _
    rw [e1, this]
    rfl
   ·cases h1
theorem cel_val (L : List Nat) (j : Nat) : qap (nub L) (cel j) = some ((byL (L.getD j 0)).map u8) := by
 have e4 := cel_conc (qbj L j) [] [] rfl
 rwa [List.append_nil, List.append_nil] at e4
theorem c8_val (ν : Nat → Int) (x : Nat) : qap ν (c8 x) = some ((byL x).map u8) := by kernel_rfl
theorem pl_val (L : List Nat) (j : Nat) : qap (nub L) (plB (32 * j)) = some ((byL (qaD (L.getD j 0))).map u8) := pl_conc (qbj L j)
theorem pl_row (L : List Nat) (j : Nat) : qag (nub L) (.ag (plB (32 * j))) = some (byt (qaD (L.getD j 0))) := plB_val _ _ _ (pl_val L j)
theorem pl_row0 (n : Nat) (l : List Nat) : qag (nub (n :: l)) (.ag (plB 0)) = some (byt (qaD n)) := pl_row (n :: l) 0
theorem ptv_of {ν : Nat → Int} {A B C D : List AV} {a b c d : Nat} (h1 : qap ν A = some ((byL a).map u8)) (h2 : qap ν B = some ((byL b).map u8)) (h3 : qap ν C = some ((byL c).map u8)) (h4 : qap ν D = some ((byL d).map u8)) (hd : ∃ k e r, A = .i k e :: r) : qag ν (.ag (A ++ (B ++ (C ++ D)))) = some (ptv a b c d) := by
 have e := concL_app h1 (concL_app h2 (concL_app h3 h4))
 obtain ⟨k, x, r, rfl⟩ := hd
 show (qap ν (.i k x :: r ++ (B ++ (C ++ D)))).map (fun vs => Value.agg vs.toArray) = _
 rw [e]
 simp [ptv, ptL]
/-! lay -/
theorem s7 (x : Nat) (_ : x < 256) : qaj .shl .u8 (x : Int) ((7 : Nat) : Int) = ((x % 2 * 128 : Nat) : Int) := by
 simp only [qaj, Int.toNat_natCast, IntKind.bits, wrap8]
 have h : (min 7 8 : Nat) = 7 := rfl
 simp only [h]
 have e : (x : Int) * 2 ^ 7 = ((x * 128 : Nat) : Int) := by simp
 rw [e]
 have : ((x * 128 : Nat) : Int) % 256 = ((x * 128 % 256 : Nat) : Int) := by simp
 rw [this]
 congr 1
 omega
theorem or128 {a b : Nat} (ha : a < 128) : a ||| (b * 128) = a + b * 128 := by
 rw [Nat.mul_comm b, Nat.or_comm, Nat.add_comm]
 exact (Nat.two_pow_add_eq_or_of_lt (i := 7) (b := a) ha b).symm
def layE (i j : Nat) : AI := .e .or .u8 (.s (32 * j + 31)) (.e .shl .u8 (.s (32 * i)) (.c (.ofNat 7)))
def layC (i j : Nat) : List AV := (List.range 31).map (fun m => bt (32 * j + m)) ++ [.i .u8 (layE i j)]
theorem byL_enc (x y : Nat) (hy : y < qay) : byL (y + qay * (x % 2)) = (byL y).take 31 ++ [y / 452312848583266388373324160190187140051835877600158453279131187530910662656 % 256 + x % 2 * 128] := by
 rw [byL_all, byL_all]
 unfold qay at *
 simp only [List.take_succ_cons, List.take_zero, List.cons_append, List.nil_append, List.cons.injEq, and_true]
 refine ⟨by omega, by omega, by omega, by omega, by omega, by omega, by omega, by omega, by omega, by omega, by omega, by omega, by omega, by omega, by omega, by omega, by omega, by omega, by omega, by omega, by omega, by omega, by omega, by omega, by omega, by omega, by omega, by omega, by omega, by omega, by omega, by omega⟩
theorem layC_conc {L : List Nat} {i j x y : Nat} (hx : L.getD i 0 = x) (hy : L.getD j 0 = y) (ly : y < qay) : qap (nub L) (layC i j) = some ((byL (y + qay * (x % 2))).map u8) := by
 have h31 := qbj L j 31 (by decide)
 have h0 := qbj L i 0 (by decide)
 rw [hy, byL_get y 31 (by decide)] at h31
 rw [hx, byL_get x 0 (by decide)] at h0
 have l31 : y / 452312848583266388373324160190187140051835877600158453279131187530910662656 % 256 < 128 := by
  unfold qay at ly
  omega
 have e31 : qap (nub L) [.i .u8 (layE i j)] = some [u8 (y / 452312848583266388373324160190187140051835877600158453279131187530910662656 % 256 + x % 2 * 128)] := by
  show some [Value.int .u8 (qaj .or .u8 (nub L (32 * j + 31)) (qaj .shl .u8 (nub L (32 * i + 0)) ((7 : Nat) : Int)))] = _
  rw [h31, h0, s7 _ (Nat.mod_lt _ (by decide)), Nat.mul_zero, Nat.pow_zero, Nat.div_one]
  have e1 : (y / 2 ^ (8 * 31) % 256 : Nat) = y / 452312848583266388373324160190187140051835877600158453279131187530910662656 % 256 := rfl
  have e2 : x % 256 % 2 = x % 2 := by omega
  rw [e1, e2, a_or8 _ _ (by omega) (by omega), or128 l31]
  rfl
 have em := mid_conc (ν := nub L) (j := 32 * j) 31 ((byL y).take 31) (fun m hm => by
  rw [qbj L j m (by omega), hy]
  simp [List.getD_eq_getElem?_getD, hm]) (by simp [qaX]) _ _ e31
 rw [byL_enc x y ly]
 show qap (nub L) ((List.range 31).map (fun m => bt (32 * j + m)) ++ [.i .u8 (layE i j)]) = _
 rw [em]
 simp
def layT : List Row := [⟨77, [rw8 2], rw8 4⟩, ⟨72, [rw8 0, rw8 4], rw8 5⟩, ⟨72, [rw8 1, rw8 4], rw8 6⟩]
theorem layP_says : saysG qae tree layT glB [] 200 4 45 [rwP 0 1 2 3] (.ag (layC 5 6)) = true := by kernel_rfl
theorem expI_is : qbg = expI := rfl
theorem layP_core (a b c d i x y : Nat) (la : a < B4) (lb : b < B4) (lc : c < B4) (hi : c ^ qbg % qaa = i) (hx : a * i % qaa = x) (hy : b * i % qaa = y) : qa4 Tryd.prog glB 45 [ptv a b c d] (byt (y + qay * (x % 2))) := by
 have li : i < B4 := hi ▸ qah _
 have ly : y < qay := Nat.lt_trans (hy ▸ qar _) (by decide)
 have hc := layC_conc (L := [a, b, c, d, i, x, y]) (i := 5) (j := 6) rfl rfl ly
 refine qaY (ν := nub [a, b, c, d, i, x, y]) (args := [rwP 0 1 2 3]) (qab _) qak qaf glB_ok (fun r hr => ?_) (fun r hr => by cases hr) layP_says (by simp [qai, nubP]) (by
  show (qap (nub [a, b, c, d, i, x, y]) (layC 5 6)).map (fun vs => Value.agg vs.toArray) = _
  rw [hc]
  rfl)
 simp only [layT, List.mem_cons, List.not_mem_nil, or_false] at hr
 rcases hr with rfl | rfl | rfl
 ·exact rowInvB lc (qax _ 2) (by rw [hi]; exact qaN _ 4)
 ·exact qba la li (qax _ 0) (qax _ 4) (by rw [hx]; exact qaN _ 5)
 ·exact qba lb li (qax _ 1) (qax _ 4) (by rw [hy]; exact qaN _ 6)
theorem layP_ok {a b c d : Nat} (la : a < B4) (lb : b < B4) (lc : c < B4) {P : Pt} (h : Rep (em4 a b c d) P) : qa4 Tryd.prog glB 45 [ptv a b c d] (byt (enc P)) := by
 have k := layP_core a b c d _ _ _ la lb lc rfl rfl rfl
 obtain ⟨h1, h2⟩ := rep_xy h
 have ex : a * (c ^ qbg % qaa) % qaa = P.x.val := by
  refine of_em (qar _) ?_
  rw [qaW, expI_is, em_inv]
  exact h1
 have ey : b * (c ^ qbg % qaa) % qaa = P.y.val := by
  refine of_em (qar _) ?_
  rw [qaW, expI_is, em_inv]
  exact h2
 rw [ex, ey] at k
 exact k
def dNat : Nat := 37095705934669439343138083508754565189542113879843219016388785533085940283555
def glC : Gl := (0, ⟨(byL dNat).map fun n => .i .u8 (.c (.ofNat n)), 22, true⟩) :: glB
theorem glC_ok : GlOk glC := by
 intro p hp
 rcases List.mem_cons.1 hp with rfl | hp
 ·exact ⟨by decide, by decide, _, fun ν => known8 ν _⟩
 ·exact glB_ok p hp
theorem upC : ∀ p ∈ glB, p ∈ glC := fun _ hp => List.mem_cons_of_mem _ hp
theorem em_dNat : em dNat = dE := rfl
def pNo : AV := .tp [.ag z128, .b false]
def plL : List AI := (List.range 31).map (fun i => .s i) ++ [e127 31]
def oddR (b : Bool) : BinOp × AI × AI × Bool := (.eql, .e .shr .u8 (.s 31) (.c (.ofNat 7)), .c (.ofNat 1), b)
def rdA : List Row := [⟨71, [.ag (plB 0)], rw8 1⟩]
def rdB : List Row := [⟨71, [.ag (plB 0)], .ag (plB 0)⟩, ⟨72, [.ag (plB 0), .ag (plB 0)], rw8 2⟩, ⟨73, [rw8 2, kB 1], rw8 3⟩, ⟨72, [kB dNat, rw8 2], rw8 4⟩, ⟨75, [rw8 4, kB 1], rw8 5⟩, ⟨77, [rw8 5], rw8 6⟩, ⟨72, [rw8 3, rw8 6], rw8 7⟩]
def rdN : List Row := rdB ++ [⟨76, [rw8 7], .tp [kB 0, .b false]⟩]
def rdZ : List Row := rdB ++ [⟨76, [rw8 7], .tp [kB 0, .b true]⟩, ⟨72, [kB 0, .ag (plB 0)], kB 0⟩]
def rdR : List Row := rdB ++ [⟨76, [rw8 7], .tp [rw8 8, .b true]⟩]
def rdE : List Row := rdR ++ [⟨72, [rw8 8, .ag (plB 0)], rw8 9⟩]
def rdO : List Row := rdR ++ [⟨73, [kB 0, rw8 8], rw8 9⟩, ⟨72, [rw8 9, .ag (plB 0)], rw8 10⟩]
theorem rdA_says : saysG ⟨[], [neB (sL 32) plL], []⟩ tree rdA glC [] 200 4 39 [rw8 0] pNo = true := by kernel_rfl
theorem rdN_says : saysG qae tree rdN glC [] 200 4 39 [rw8 0] pNo = true := by kernel_rfl
theorem rdZo_says : saysG ⟨[], [oddR true], []⟩ tree rdZ glC [] 200 4 39 [rw8 0] pNo = true := by kernel_rfl
theorem rdZe_says : saysG ⟨[], [oddR false], []⟩ tree rdZ glC [] 200 4 39 [rw8 0] (.tp [.ag (c8 0 ++ (plB 0 ++ (c8 1 ++ c8 0))), .b true]) = true := by kernel_rfl
theorem rdE_says : saysG ⟨[], [oddR false, neZ 8], []⟩ tree rdE glC [] 200 4 39 [rw8 0] (.tp [.ag (cel 8 ++ (plB 0 ++ (c8 1 ++ cel 9))), .b true]) = true := by kernel_rfl
theorem rdO_says : saysG ⟨[], [oddR true, neZ 8], []⟩ tree rdO glC [] 200 4 39 [rw8 0] (.tp [.ag (cel 9 ++ (plB 0 ++ (c8 1 ++ cel 10))), .b true]) = true := by kernel_rfl
theorem plL_val (n : Nat) (l : List Nat) : plL.map (AI.val (nub (n :: l))) = (byL (qaD n)).map fun m => ((m : Nat) : Int) := by
 have h := qbj (n :: l) 0
 have h31 := h 31 (by decide)
 rw [List.getD_cons_zero, byL_get n 31 (by decide)] at h31
 rw [byL_pmask]
 apply List.ext_getElem?
 intro i
 by_cases hi : i < 31
 ·have hl : i < ((List.range 31).map (fun i => AI.s i)).length := by simpa using hi
  unfold plL
  rw [List.map_append, List.getElem?_append_left (by simpa using hi)]
  have h2 := h i (by omega)
  rw [List.getD_cons_zero, byL_get n i (by omega), Nat.mul_zero, Nat.zero_add] at h2
  have h3 : (List.map (AI.val (nub (n :: l))) ((List.range 31).map (fun i => AI.s i)))[i]? = some (nub (n :: l) i) := by
   rw [List.getElem?_map, List.getElem?_map, List.getElem?_range hi]
   rfl
  rw [h3, h2, ← byL_pmask, List.getElem?_map]
  have h4 : (byL (qaD n))[i]? = some (n / 2 ^ (8 * i) % 256) := by
   have h5 := byL_get (qaD n) i (by omega)
   rw [List.getD_eq_getElem?_getD, List.getElem?_eq_getElem (by rw [qaX]; omega)] at h5
   rw [List.getElem?_eq_getElem (by rw [qaX]; omega)]
   have h6 : (byL (qaD n))[i]'(by rw [qaX]; omega) = qaD n / 2 ^ (8 * i) % 256 := h5
   rw [h6]
   have h7 : qaD n / 2 ^ (8 * i) % 256 = n / 2 ^ (8 * i) % 256 := by
    have e1 : qaD n = n % 2 ^ 255 := rfl
    rw [e1]
    have g : ∀ r, r < 8 → (n % 2 ^ 255 / 2 ^ (8 * i) % 2 ^ 8).testBit r = (n / 2 ^ (8 * i) % 2 ^ 8).testBit r := by
     intro r hr
     rw [Nat.testBit_mod_two_pow, Nat.testBit_mod_two_pow, Nat.testBit_div_two_pow, Nat.testBit_div_two_pow, Nat.testBit_mod_two_pow, decide_eq_true (show r + 8 * i < 255 by omega), Bool.true_and]
    apply Nat.eq_of_testBit_eq
    intro r
    by_cases hr : r < 8
    ·exact g r hr
    ·have b1 : ∀ m : Nat, (m % 256).testBit r = false := fun m => by
      have : m % 256 = m % 2 ^ 8 := rfl
      rw [this, Nat.testBit_mod_two_pow, decide_eq_false hr, Bool.false_and]
     rw [b1, b1]
   rw [h7]
  rw [h4]
  rfl
 ·by_cases hi2 : i = 31
  ·subst hi2
   have e : (plL.map (AI.val (nub (n :: l))))[31]? = some (qaj .and .u8 (nub (n :: l) 31) ((127 : Nat) : Int)) := by kernel_rfl
   have h31' : nub (n :: l) 31 = ((n / 2 ^ (8 * 31) % 256 : Nat) : Int) := h31
   rw [e, h31', v127 (Nat.mod_lt _ (by decide)), Nat.mod_mod_of_dvd _ (show 128 ∣ 256 by decide)]
   rfl
  ·rw [List.getElem?_eq_none (by simp [plL]; omega), List.getElem?_eq_none (by simp; omega)]
theorem oddR_hold {n : Nat} {l : List Nat} (hn : n < B4) (b : Bool) (hb : decide (n / qay = 1) = b) : qaE (oddR b).1 ((oddR b).2.1.val (nub (n :: l))) ((oddR b).2.2.1.val (nub (n :: l))) = (oddR b).2.2.2 := by
 show (qaj .shr .u8 (nub (n :: l) 31) ((7 : Nat) : Int) == ((1 : Nat) : Int)) = b
 have h31 := qbj (n :: l) 0 31 (by decide)
 rw [List.getD_cons_zero, byL_get n 31 (by decide)] at h31
 have h31' : nub (n :: l) 31 = ((n / 2 ^ (8 * 31) % 256 : Nat) : Int) := h31
 have e : n / 2 ^ (8 * 31) % 256 / 2 ^ 7 = n / qay := by
  have e1 : (2 ^ (8 * 31) : Nat) = 452312848583266388373324160190187140051835877600158453279131187530910662656 := by decide
  rw [e1]
  unfold qay
  unfold B4 at hn
  omega
 rw [h31', a_shr .u8 _ 7 (by decide), e, ← hb]
 by_cases h : n / qay = 1
 ·rw [h]; rfl
 ·have : n / qay = 0 := by
   unfold qay at *
   unfold B4 at hn
   omega
  rw [this]; rfl
/-! The numbers on the way. -/
structure RdN (n y yy o dy u i xx : Nat) : Prop where
 hy : qaD n = y
 hyp : y < qaa
 hyy : y * y % qaa = yy
 ho : (yy + (qaa - 1 % qaa)) % qaa = o
 hdy : dNat * yy % qaa = dy
 hu : (dy + 1) % qaa = u
 hi : u ^ qbg % qaa = i
 hxx : o * i % qaa = xx
theorem rdB_ok {n y yy o dy u i xx : Nat} (k : RdN n y yy o dy u i xx) (m : Nat) (l : List Nat) : ∀ r ∈ rdB, r.Ok (nub (n :: m :: yy :: o :: dy :: u :: i :: xx :: l)) Tryd.prog := by
 obtain ⟨hy, hyp, hyy, ho, hdy, hu, hi, hxx⟩ := k
 have hp := pl_row0 n (m :: yy :: o :: dy :: u :: i :: xx :: l)
 rw [hy] at hp
 have hpc : conc (nub (n :: m :: yy :: o :: dy :: u :: i :: xx :: l)) (.ag (plB 0)) = some (byt y) := hp
 have by' := pBl hyp
 have byy : yy < B4 := hyy ▸ qah _
 have bo : o < B4 := ho ▸ qah _
 have bdy : dy < B4 := hdy ▸ qah _
 have bu : u < B4 := hu ▸ qah _
 have bi : i < B4 := hi ▸ qah _
 intro r hr
 simp only [rdB, List.mem_cons, List.not_mem_nil, or_false] at hr
 rcases hr with rfl | rfl | rfl | rfl | rfl | rfl | rfl
 ·exact rowModB by' hp (by rw [Nat.mod_eq_of_lt hyp]; exact hpc)
 ·exact qba by' by' hp hp (by rw [hyy]; exact qaN _ 2)
 ·exact rowSubB byy (by decide) (qax _ 2) (qbz _ 1) (by rw [ho]; exact qaN _ 3)
 ·exact qba (by decide) byy (qbz _ dNat) (qax _ 2) (by rw [hdy]; exact qaN _ 4)
 ·exact rowAddB bdy (by decide) (qax _ 4) (qbz _ 1) (by rw [hu]; exact qaN _ 5)
 ·exact rowInvB bu (qax _ 5) (by rw [hi]; exact qaN _ 6)
 ·exact qba bo bi (qax _ 3) (qax _ 6) (by rw [hxx]; exact qaN _ 7)
theorem qbb {n y yy o dy u i xx : Nat} (k : RdN n y yy o dy u i xx) : em xx = (em y * em y - 1) * inv (dE * (em y * em y) + 1) ∧ xx < qaa := by
 obtain ⟨hy, hyp, hyy, ho, hdy, hu, hi, hxx⟩ := k
 refine ⟨?_, hxx ▸ qar _⟩
 rw [← hxx, qaW, ← hi, expI_is, em_inv, ← hu, em_add, ← hdy, qaW, em_dNat, ← ho, em_sub, ← hyy, qaW]
 rfl
theorem rdN_is (n : Nat) (h : qaD n < qaa) : ∃ yy o dy u i xx, RdN n (qaD n) yy o dy u i xx := ⟨_, _, _, _, _, _, ⟨rfl, h, rfl, rfl, rfl, rfl, rfl, rfl⟩⟩
def readY (P : Pt) : Value := .tuple #[ptv P.x.val P.y.val 1 (P.x * P.y).val, .bool true]
def readNo : Value := .tuple #[ptv 0 0 0 0, .bool false]
theorem pNo_val (ν : Nat → Int) : conc ν pNo = some readNo := by kernel_rfl
theorem tp2 {ν : Nat → Int} {a : AV} {v : Value} (b : Bool) (h : qag ν a = some v) : conc ν (.tp [a, .b b]) = some (.tuple #[v, .bool b]) := by
 show (qai ν [a, .b b]).map (fun vs => Value.tuple vs.toArray) = _
 have hb : qag ν (.b b) = some (.bool b) := rfl
 simp only [qai, h, hb]
 rfl
theorem rootRow {ν : Nat → Int} {p r : AV} {x y : Nat} (hx : x < B4) (hy : qaL e8 e4 x = some y) (h1 : qag ν p = some (byt x)) (h3 : qag ν r = some (byt y)) : Row.Ok ν Tryd.prog ⟨76, [p], .tp [r, .b true]⟩ := rowRootY hx hy h1 (tp2 true h3)
/-! The cases. -/
theorem read_A (n : Nat) (h : ¬ qaD n < qaa) : qa4 Tryd.prog glC 39 [byt n] readNo := by
 have hp := pl_row0 n [qaD n % qaa]
 refine qaY (ν := nub [n, qaD n % qaa]) (args := [rw8 0]) (F := ⟨[], [neB (sL 32) plL], []⟩) ⟨fun q hq => (by cases hq), fun q hq => ?_, fun q hq => by cases hq⟩ qak qaf glC_ok (fun r hr => ?_) (fun r hr => by cases hr) rdA_says (by simp [qai, qax]) (pNo_val _)
 ·simp only [List.mem_cons, List.not_mem_nil, or_false] at hq
  subst hq
  refine neB_holds (x := qaD n % qaa) (y := qaD n) (qah _) (pmask_lt n) (sL_val [n, qaD n % qaa] 1) (plL_val n _) ?_
  have := qar (qaD n)
  omega
 ·simp only [rdA, List.mem_cons, List.not_mem_nil, or_false] at hr
  subst hr
  exact rowModB (pmask_lt n) hp (qaN _ 1)
theorem read_N {n y yy o dy u i xx : Nat} (k : RdN n y yy o dy u i xx) (hr : qaL e8 e4 xx = none) : qa4 Tryd.prog glC 39 [byt n] readNo := by
 refine qaY (ν := nub (n :: 0 :: yy :: o :: dy :: u :: i :: xx :: [])) (args := [rw8 0]) (qab _) qak qaf glC_ok (fun r hr' => ?_) (fun r hr => by cases hr) rdN_says (by simp [qai, qax]) (pNo_val _)
 rcases List.mem_append.1 hr' with h | h
 ·exact rdB_ok k 0 [] r h
 ·simp only [List.mem_cons, List.not_mem_nil, or_false] at h
  subst h
  exact rowRootN (pBl (qbb k).2) hr (qax _ 7) (tp2 false (qbz _ 0))
theorem rdZ_ok {n y yy o dy u i xx : Nat} (k : RdN n y yy o dy u i xx) (hr : qaL e8 e4 xx = some 0) : ∀ r ∈ rdZ, r.Ok (nub (n :: 0 :: yy :: o :: dy :: u :: i :: xx :: [])) Tryd.prog := by
 intro r hr'
 rcases List.mem_append.1 hr' with h | h
 ·exact rdB_ok k 0 [] r h
 ·have hp := pl_row0 n (0 :: yy :: o :: dy :: u :: i :: xx :: [])
  rw [k.hy] at hp
  simp only [List.mem_cons, List.not_mem_nil, or_false] at h
  rcases h with rfl | rfl
  ·exact rootRow (pBl (qbb k).2) hr (qax _ 7) (qbz _ 0)
  ·exact qba (x := 0) (y := y) (by decide) (pBl k.hyp) (qbz _ 0) hp (by rw [Nat.zero_mul]; exact kB_valc _ 0)
theorem read_Zo {n y yy o dy u i xx : Nat} (hn : n < B4) (k : RdN n y yy o dy u i xx) (hr : qaL e8 e4 xx = some 0) (ho : n / qay = 1) : qa4 Tryd.prog glC 39 [byt n] readNo := by
 refine qaY (ν := nub (n :: 0 :: yy :: o :: dy :: u :: i :: xx :: [])) (args := [rw8 0]) (F := ⟨[], [oddR true], []⟩) ⟨fun q hq => (by cases hq), fun q hq => ?_, fun q hq => by cases hq⟩ qak qaf glC_ok (rdZ_ok k hr) (fun r hr => by cases hr) rdZo_says (by simp [qai, qax]) (pNo_val _)
 simp only [List.mem_cons, List.not_mem_nil, or_false] at hq
 subst hq
 exact oddR_hold hn true (decide_eq_true ho)
theorem read_Ze {n y yy o dy u i xx : Nat} (hn : n < B4) (k : RdN n y yy o dy u i xx) (hr : qaL e8 e4 xx = some 0) (ho : n / qay ≠ 1) : qa4 Tryd.prog glC 39 [byt n] (.tuple #[ptv 0 y 1 0, .bool true]) := by
 have hp := pl_val (n :: 0 :: yy :: o :: dy :: u :: i :: xx :: []) 0
 rw [List.getD_cons_zero, k.hy] at hp
 refine qaY (ν := nub (n :: 0 :: yy :: o :: dy :: u :: i :: xx :: [])) (args := [rw8 0]) (F := ⟨[], [oddR false], []⟩) ⟨fun q hq => (by cases hq), fun q hq => ?_, fun q hq => by cases hq⟩ qak qaf glC_ok (rdZ_ok k hr) (fun r hr => by cases hr) rdZe_says (by simp [qai, qax]) (tp2 true (ptv_of (c8_val _ 0) hp (c8_val _ 1) (c8_val _ 0) ⟨_, _, _, rfl⟩))
 simp only [List.mem_cons, List.not_mem_nil, or_false] at hq
 subst hq
 exact oddR_hold hn false (decide_eq_false ho)
theorem read_E {n y yy o dy u i xx x t : Nat} (hn : n < B4) (k : RdN n y yy o dy u i xx) (hr : qaL e8 e4 xx = some x) (h0 : x ≠ 0) (lx : x < qaa) (ht : x * y % qaa = t) (ho : n / qay ≠ 1) : qa4 Tryd.prog glC 39 [byt n] (.tuple #[ptv x y 1 t, .bool true]) := by
 have hp := pl_val (n :: 0 :: yy :: o :: dy :: u :: i :: xx :: [x, t]) 0
 rw [List.getD_cons_zero, k.hy] at hp
 have hq := pl_row0 n (0 :: yy :: o :: dy :: u :: i :: xx :: [x, t])
 rw [k.hy] at hq
 refine qaY (ν := nub (n :: 0 :: yy :: o :: dy :: u :: i :: xx :: [x, t])) (args := [rw8 0]) (F := ⟨[], [oddR false, neZ 8], []⟩) ⟨fun q hq => (by cases hq), fun q hq => ?_, fun q hq => by cases hq⟩ qak qaf glC_ok (fun r hr' => ?_) (fun r hr => by cases hr) rdE_says (by simp [qai, qax]) (tp2 true (ptv_of (cel_val _ 8) hp (c8_val _ 1) (cel_val _ 9) ⟨_, _, _, rfl⟩))
 ·simp only [List.mem_cons, List.not_mem_nil, or_false] at hq
  rcases hq with rfl | rfl
  ·exact oddR_hold hn false (decide_eq_false ho)
  ·exact neZ_holds (x := x) rfl (pBl lx) h0
 ·rcases List.mem_append.1 hr' with h | h
  ·rcases List.mem_append.1 h with h | h
   ·exact rdB_ok k 0 [x, t] r h
   ·simp only [List.mem_cons, List.not_mem_nil, or_false] at h
    subst h
    exact rootRow (pBl (qbb k).2) hr (qax _ 7) (qax _ 8)
  ·simp only [List.mem_cons, List.not_mem_nil, or_false] at h
   subst h
   exact qba (pBl lx) (pBl k.hyp) (qax _ 8) hq (by rw [ht]; exact qaN _ 9)
theorem read_O {n y yy o dy u i xx x x' t : Nat} (hn : n < B4) (k : RdN n y yy o dy u i xx) (hr : qaL e8 e4 xx = some x) (h0 : x ≠ 0) (lx : x < qaa) (hx : (0 + (qaa - x % qaa)) % qaa = x') (ht : x' * y % qaa = t) (ho : n / qay = 1) : qa4 Tryd.prog glC 39 [byt n] (.tuple #[ptv x' y 1 t, .bool true]) := by
 have hp := pl_val (n :: 0 :: yy :: o :: dy :: u :: i :: xx :: [x, x', t]) 0
 rw [List.getD_cons_zero, k.hy] at hp
 have hq := pl_row0 n (0 :: yy :: o :: dy :: u :: i :: xx :: [x, x', t])
 rw [k.hy] at hq
 have lx' : x' < qaa := hx ▸ qar _
 refine qaY (ν := nub (n :: 0 :: yy :: o :: dy :: u :: i :: xx :: [x, x', t])) (args := [rw8 0]) (F := ⟨[], [oddR true, neZ 8], []⟩) ⟨fun q hq => (by cases hq), fun q hq => ?_, fun q hq => by cases hq⟩ qak qaf glC_ok (fun r hr' => ?_) (fun r hr => by cases hr) rdO_says (by simp [qai, qax]) (tp2 true (ptv_of (cel_val _ 9) hp (c8_val _ 1) (cel_val _ 10) ⟨_, _, _, rfl⟩))
 ·simp only [List.mem_cons, List.not_mem_nil, or_false] at hq
  rcases hq with rfl | rfl
  ·exact oddR_hold hn true (decide_eq_true ho)
  ·exact neZ_holds (x := x) rfl (pBl lx) h0
 ·rcases List.mem_append.1 hr' with h | h
  ·rcases List.mem_append.1 h with h | h
   ·exact rdB_ok k 0 [x, x', t] r h
   ·simp only [List.mem_cons, List.not_mem_nil, or_false] at h
    subst h
    exact rootRow (pBl (qbb k).2) hr (qax _ 7) (qax _ 8)
  ·simp only [List.mem_cons, List.not_mem_nil, or_false] at h
   rcases h with rfl | rfl
   ·exact rowSubB (x := 0) (y := x) (by decide) (pBl lx) (qbz _ 0) (qax _ 8) (by rw [hx]; exact qaN _ 9)
   ·exact qba (pBl lx') (pBl k.hyp) (qax _ 9) hq (by rw [ht]; exact qaN _ 10)
end Go.Proofs.YtheidgcgdkmmiaaDoor

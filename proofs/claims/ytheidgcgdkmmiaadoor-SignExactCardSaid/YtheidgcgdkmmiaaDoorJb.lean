/-
 THE CURVE: what curve's lay and read answer. Own work.
-/
import Derived.Test.YtheidgcgdkmmiaaDoorJa
namespace Go.Proofs.YtheidgcgdkmmiaaDoor
open Go.Sh
set_option maxRecDepth 100000
def pmask (p : Nat) : Nat := p % 57896044618658097711785492504343953926634992332820282019728792003956564819968
theorem byL_pmask (p : Nat) : byL (pmask p) = [p % 256, p / 256 % 256, p / 65536 % 256, p / 16777216 % 256, p / 4294967296 % 256, p / 1099511627776 % 256, p / 281474976710656 % 256, p / 72057594037927936 % 256, p / 18446744073709551616 % 256, p / 4722366482869645213696 % 256, p / 1208925819614629174706176 % 256, p / 309485009821345068724781056 % 256, p / 79228162514264337593543950336 % 256, p / 20282409603651670423947251286016 % 256, p / 5192296858534827628530496329220096 % 256, p / 1329227995784915872903807060280344576 % 256, p / 340282366920938463463374607431768211456 % 256, p / 87112285931760246646623899502532662132736 % 256, p / 22300745198530623141535718272648361505980416 % 256, p / 5708990770823839524233143877797980545530986496 % 256, p / 1461501637330902918203684832716283019655932542976 % 256, p / 374144419156711147060143317175368453031918731001856 % 256, p / 95780971304118053647396689196894323976171195136475136 % 256, p / 24519928653854221733733552434404946937899825954937634816 % 256, p / 6277101735386680763835789423207666416102355444464034512896 % 256, p / 1606938044258990275541962092341162602522202993782792835301376 % 256, p / 411376139330301510538742295639337626245683966408394965837152256 % 256, p / 105312291668557186697918027683670432318895095400549111254310977536 % 256, p / 26959946667150639794667015087019630673637144422540572481103610249216 % 256, p / 6901746346790563787434755862277025452451108972170386555162524223799296 % 256, p / 1766847064778384329583297500742918515827483896875618958121606201292619776 % 256, p / 452312848583266388373324160190187140051835877600158453279131187530910662656 % 128] := by
 rw [byL_all]
 unfold pmask
 simp only [List.cons.injEq, and_true]
 refine ⟨by omega, by omega, by omega, by omega, by omega, by omega, by omega, by omega, by omega, by omega, by omega, by omega, by omega, by omega, by omega, by omega, by omega, by omega, by omega, by omega, by omega, by omega, by omega, by omega, by omega, by omega, by omega, by omega, by omega, by omega, by omega, by omega⟩
theorem m127 : (List.range 256).all (fun x => decide (x &&& 127 = x % 128)) = true := by decide +kernel
theorem v127 {x : Nat} (hx : x < 256) : arith .and .u8 (x : Int) ((127 : Nat) : Int) = ((x % 128 : Nat) : Int) := by
 rw [a_and8 x 127 hx (by decide)]
 have := List.all_eq_true.1 m127 x (List.mem_range.2 hx)
 rw [of_decide_eq_true this]
def e127 (j : Nat) : AI := .e .and .u8 (.s j) (.c (.ofNat 127))
def plB (j : Nat) : List AV := (List.range 31).map (fun i => bt (j + i)) ++ [.i .u8 (e127 (j + 31))]
theorem pl_conc {ν : Nat → Int} {j p : Nat} (h : ∀ i, i < 32 → ν (j + i) = (((byL p).getD i 0 : Nat) : Int)) : concL ν (plB j) = some ((byL (pmask p)).map u8) := by
 have h31 := h 31 (by decide)
 rw [byL_get p 31 (by decide)] at h31
 have e31 : concL ν [.i .u8 (e127 (j + 31))] = some [u8 (p / 452312848583266388373324160190187140051835877600158453279131187530910662656 % 128)] := by
  show some [Value.int .u8 (arith .and .u8 (ν (j + 31)) ((127 : Nat) : Int))] = _
  rw [h31, v127 (Nat.mod_lt _ (by decide)), Nat.mod_mod_of_dvd _ (show 128 ∣ 256 by decide)]
  rfl
 have em := mid_conc (ν := ν) (j := j) 31 ((byL p).take 31) (fun i hi => by
  rw [h i (by omega)]
  simp [List.getD_eq_getElem?_getD, hi]) (by simp [byL_len]) _ _ e31
 rw [byL_pmask]
 show concL ν ((List.range 31).map (fun i => bt (j + i)) ++ [.i .u8 (e127 (j + 31))]) = _
 rw [em, byL_all]
 rfl
theorem plB_val (ν : Nat → Int) (j : Nat) (l : List Value) (h : concL ν (plB j) = some l) : conc2 ν (.ag (plB j)) = some (.agg l.toArray) := by
 show (concL ν (plB j)).map (fun vs => Value.agg vs.toArray) = _
 rw [h]
 rfl
theorem concL_app {ν : Nat → Int} : ∀ {a b : List AV} {va vb : List Value}, concL ν a = some va → concL ν b = some vb → concL ν (a ++ b) = some (va ++ vb) := by
 intro a
 induction a with
 | nil =>
   intro b va vb h1 h2
   simp only [concL, Option.some.injEq] at h1
   subst h1
   exact h2
 | cons x r ih =>
   intro b va vb h1 h2
   simp only [concL] at h1
   split at h1
   ·rename_i v l e1 e2
    simp only [Option.some.injEq] at h1
    subst h1
    have := ih e2 h2
    show (match conc1 ν x, concL ν (r ++ b) with | some v, some l => some (v :: l) | _, _ => none) = _
    rw [e1, this]
    rfl
   ·cases h1
theorem c8_val (ν : Nat → Int) (x : Nat) : concL ν (c8 x) = some ((byL x).map u8) := by kernel_rfl
theorem ptv_of {ν : Nat → Int} {A B C D : List AV} {a b c d : Nat} (h1 : concL ν A = some ((byL a).map u8)) (h2 : concL ν B = some ((byL b).map u8)) (h3 : concL ν C = some ((byL c).map u8)) (h4 : concL ν D = some ((byL d).map u8)) (hd : ∃ k e r, A = .i k e :: r) : conc2 ν (.ag (A ++ (B ++ (C ++ D)))) = some (ptv a b c d) := by
 have e := concL_app h1 (concL_app h2 (concL_app h3 h4))
 obtain ⟨k, x, r, rfl⟩ := hd
 show (concL ν (.i k x :: r ++ (B ++ (C ++ D)))).map (fun vs => Value.agg vs.toArray) = _
 rw [e]
 simp [ptv, ptL]
/-! lay -/
theorem s7 (x : Nat) (_ : x < 256) : arith .shl .u8 (x : Int) ((7 : Nat) : Int) = ((x % 2 * 128 : Nat) : Int) := by
 simp only [arith, Int.toNat_natCast, IntKind.bits, wrap8]
 have h : (min 7 8 : Nat) = 7 := rfl
 simp only [h]
 have e : (x : Int) * 2 ^ 7 = ((x * 128 : Nat) : Int) := by simp
 rw [e]
 have : ((x * 128 : Nat) : Int) % 256 = ((x * 128 % 256 : Nat) : Int) := by simp
 rw [this]
 congr 1
 omega
theorem or128 {a b : Nat} (ha : a < 128) : a ||| (b * 128) = a + b * 128 := by
 rw [Nat.mul_comm b, Nat.or_comm, Nat.add_comm]
 exact (Nat.two_pow_add_eq_or_of_lt (i := 7) (b := a) ha b).symm
def layE (i j : Nat) : AI := .e .or .u8 (.s (32 * j + 31)) (.e .shl .u8 (.s (32 * i)) (.c (.ofNat 7)))
def layC (i j : Nat) : List AV := (List.range 31).map (fun m => bt (32 * j + m)) ++ [.i .u8 (layE i j)]
theorem byL_enc (x y : Nat) (hy : y < two255) : byL (y + two255 * (x % 2)) = (byL y).take 31 ++ [y / 452312848583266388373324160190187140051835877600158453279131187530910662656 % 256 + x % 2 * 128] := by
 rw [byL_all, byL_all]
 unfold two255 at *
 simp only [List.take_succ_cons, List.take_zero, List.cons_append, List.nil_append, List.cons.injEq, and_true]
 refine ⟨by omega, by omega, by omega, by omega, by omega, by omega, by omega, by omega, by omega, by omega, by omega, by omega, by omega, by omega, by omega, by omega, by omega, by omega, by omega, by omega, by omega, by omega, by omega, by omega, by omega, by omega, by omega, by omega, by omega, by omega, by omega, by omega⟩
theorem layC_conc {L : List Nat} {i j x y : Nat} (hx : L.getD i 0 = x) (hy : L.getD j 0 = y) (ly : y < two255) : concL (nub L) (layC i j) = some ((byL (y + two255 * (x % 2))).map u8) := by
 have h31 := nub_get L j 31 (by decide)
 have h0 := nub_get L i 0 (by decide)
 rw [hy, byL_get y 31 (by decide)] at h31
 rw [hx, byL_get x 0 (by decide)] at h0
 have l31 : y / 452312848583266388373324160190187140051835877600158453279131187530910662656 % 256 < 128 := by
  unfold two255 at ly
  omega
 have e31 : concL (nub L) [.i .u8 (layE i j)] = some [u8 (y / 452312848583266388373324160190187140051835877600158453279131187530910662656 % 256 + x % 2 * 128)] := by
  show some [Value.int .u8 (arith .or .u8 (nub L (32 * j + 31)) (arith .shl .u8 (nub L (32 * i + 0)) ((7 : Nat) : Int)))] = _
  rw [h31, h0, s7 _ (Nat.mod_lt _ (by decide)), Nat.mul_zero, Nat.pow_zero, Nat.div_one]
  have e1 : (y / 2 ^ (8 * 31) % 256 : Nat) = y / 452312848583266388373324160190187140051835877600158453279131187530910662656 % 256 := rfl
  have e2 : x % 256 % 2 = x % 2 := by omega
  rw [e1, e2, a_or8 _ _ (by omega) (by omega), or128 l31]
  rfl
 have em := mid_conc (ν := nub L) (j := 32 * j) 31 ((byL y).take 31) (fun m hm => by
  rw [nub_get L j m (by omega), hy]
  simp [List.getD_eq_getElem?_getD, hm]) (by simp [byL_len]) _ _ e31
 rw [byL_enc x y ly]
 show concL (nub L) ((List.range 31).map (fun m => bt (32 * j + m)) ++ [.i .u8 (layE i j)]) = _
 rw [em]
 simp
def layT : List Row := [⟨77, [rw8 2], rw8 4⟩, ⟨72, [rw8 0, rw8 4], rw8 5⟩, ⟨72, [rw8 1, rw8 4], rw8 6⟩]
theorem layP_says : saysG noFacts tree layT glB [] 200 4 45 [rwP 0 1 2 3] (.ag (layC 5 6)) = true := by kernel_rfl
theorem expI_is : expInv = expI := rfl
theorem layP_core (a b c d i x y : Nat) (la : a < B4) (lb : b < B4) (lc : c < B4) (hi : c ^ expInv % prime = i) (hx : a * i % prime = x) (hy : b * i % prime = y) : PureG Tryd.prog glB 45 [ptv a b c d] (byt (y + two255 * (x % 2))) := by
 have li : i < B4 := hi ▸ prime_lt _
 have ly : y < two255 := Nat.lt_trans (hy ▸ lt_prime _) (by decide)
 have hc := layC_conc (L := [a, b, c, d, i, x, y]) (i := 5) (j := 6) rfl rfl ly
 refine pureG_of (ν := nub [a, b, c, d, i, x, y]) (args := [rwP 0 1 2 3]) (noFacts_hold _) mixed tab_ok glB_ok (fun r hr => ?_) (fun r hr => by cases hr) layP_says (by simp [concT, nubP]) (by
  show (concL (nub [a, b, c, d, i, x, y]) (layC 5 6)).map (fun vs => Value.agg vs.toArray) = _
  rw [hc]
  rfl)
 simp only [layT, List.mem_cons, List.not_mem_nil, or_false] at hr
 rcases hr with rfl | rfl | rfl
 ·exact rowInvB lc (nubR8 _ 2) (by rw [hi]; exact nubR8c _ 4)
 ·exact rowMulB la li (nubR8 _ 0) (nubR8 _ 4) (by rw [hx]; exact nubR8c _ 5)
 ·exact rowMulB lb li (nubR8 _ 1) (nubR8 _ 4) (by rw [hy]; exact nubR8c _ 6)
theorem layP_ok {a b c d : Nat} (la : a < B4) (lb : b < B4) (lc : c < B4) {P : Pt} (h : Rep (em4 a b c d) P) : PureG Tryd.prog glB 45 [ptv a b c d] (byt (enc P)) := by
 have k := layP_core a b c d _ _ _ la lb lc rfl rfl rfl
 obtain ⟨h1, h2⟩ := rep_xy h
 have ex : a * (c ^ expInv % prime) % prime = P.x.val := by
  refine of_em (lt_prime _) ?_
  rw [em_mul, expI_is, em_inv]
  exact h1
 have ey : b * (c ^ expInv % prime) % prime = P.y.val := by
  refine of_em (lt_prime _) ?_
  rw [em_mul, expI_is, em_inv]
  exact h2
 rw [ex, ey] at k
 exact k
def dNat : Nat := 37095705934669439343138083508754565189542113879843219016388785533085940283555
theorem em_dNat : em dNat = dE := rfl
def rdB : List Row := [⟨71, [.ag (plB 0)], .ag (plB 0)⟩, ⟨72, [.ag (plB 0), .ag (plB 0)], rw8 2⟩, ⟨73, [rw8 2, kB 1], rw8 3⟩, ⟨72, [kB dNat, rw8 2], rw8 4⟩, ⟨75, [rw8 4, kB 1], rw8 5⟩, ⟨77, [rw8 5], rw8 6⟩, ⟨72, [rw8 3, rw8 6], rw8 7⟩]
def rdR : List Row := rdB ++ [⟨76, [rw8 7], .tp [rw8 8, .b true]⟩]
def rdE : List Row := rdR ++ [⟨72, [rw8 8, .ag (plB 0)], rw8 9⟩]
/-! The numbers on the way. -/
structure RdN (n y yy o dy u i xx : Nat) : Prop where
 hy : pmask n = y
 hyp : y < prime
 hyy : y * y % prime = yy
 ho : (yy + (prime - 1 % prime)) % prime = o
 hdy : dNat * yy % prime = dy
 hu : (dy + 1) % prime = u
 hi : u ^ expInv % prime = i
 hxx : o * i % prime = xx
theorem rdN_field {n y yy o dy u i xx : Nat} (k : RdN n y yy o dy u i xx) : em xx = (em y * em y - 1) * inv (dE * (em y * em y) + 1) ∧ xx < prime := by
 obtain ⟨hy, hyp, hyy, ho, hdy, hu, hi, hxx⟩ := k
 refine ⟨?_, hxx ▸ lt_prime _⟩
 rw [← hxx, em_mul, ← hi, expI_is, em_inv, ← hu, em_add, ← hdy, em_mul, em_dNat, ← ho, em_sub, ← hyy, em_mul]
 rfl
theorem rdN_is (n : Nat) (h : pmask n < prime) : ∃ yy o dy u i xx, RdN n (pmask n) yy o dy u i xx := ⟨_, _, _, _, _, _, ⟨rfl, h, rfl, rfl, rfl, rfl, rfl, rfl⟩⟩
theorem tp2 {ν : Nat → Int} {a : AV} {v : Value} (b : Bool) (h : conc2 ν a = some v) : conc ν (.tp [a, .b b]) = some (.tuple #[v, .bool b]) := by
 show (concT ν [a, .b b]).map (fun vs => Value.tuple vs.toArray) = _
 have hb : conc2 ν (.b b) = some (.bool b) := rfl
 simp only [concT, h, hb]
 rfl
end Go.Proofs.YtheidgcgdkmmiaaDoor

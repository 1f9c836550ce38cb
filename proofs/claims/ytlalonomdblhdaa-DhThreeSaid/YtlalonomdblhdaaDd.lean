/-
  KEYS AND PLACES: what number, Key and the masks answer. Own work.
-/
import Derived.Test.YtlalonomdblhdaaDc
import Derived.Test.YtlalonomdblhdaaGb
namespace Go.Proofs.Ytlalonomdblhdaa
open Go.Sh
set_option maxRecDepth 100000

/-- The number of a key. -/
def kmask (k : Nat) : Nat := k % 28948022309329048855892746252171976963317496166410141009864396001978282409984 / 8 * 8 + 28948022309329048855892746252171976963317496166410141009864396001978282409984
/-- The number of a place: without the highest bit. -/
def pmask (p : Nat) : Nat := p % 57896044618658097711785492504343953926634992332820282019728792003956564819968

theorem kmask_lt (k : Nat) : kmask k < 2 ^ 255 ∧ kmask k % 4 = 0 ∧ kmask k < B4 := by
  unfold kmask B4
  refine ⟨by omega, by omega, by omega⟩
theorem pmask_lt (p : Nat) : pmask p < B4 := by
  unfold pmask B4
  omega

theorem byL_all (k : Nat) : byL k = [k % 256, k / 256 % 256, k / 65536 % 256, k / 16777216 % 256, k / 4294967296 % 256, k / 1099511627776 % 256, k / 281474976710656 % 256, k / 72057594037927936 % 256, k / 18446744073709551616 % 256, k / 4722366482869645213696 % 256, k / 1208925819614629174706176 % 256, k / 309485009821345068724781056 % 256, k / 79228162514264337593543950336 % 256, k / 20282409603651670423947251286016 % 256, k / 5192296858534827628530496329220096 % 256, k / 1329227995784915872903807060280344576 % 256, k / 340282366920938463463374607431768211456 % 256, k / 87112285931760246646623899502532662132736 % 256, k / 22300745198530623141535718272648361505980416 % 256, k / 5708990770823839524233143877797980545530986496 % 256, k / 1461501637330902918203684832716283019655932542976 % 256, k / 374144419156711147060143317175368453031918731001856 % 256, k / 95780971304118053647396689196894323976171195136475136 % 256, k / 24519928653854221733733552434404946937899825954937634816 % 256, k / 6277101735386680763835789423207666416102355444464034512896 % 256, k / 1606938044258990275541962092341162602522202993782792835301376 % 256, k / 411376139330301510538742295639337626245683966408394965837152256 % 256, k / 105312291668557186697918027683670432318895095400549111254310977536 % 256, k / 26959946667150639794667015087019630673637144422540572481103610249216 % 256, k / 6901746346790563787434755862277025452451108972170386555162524223799296 % 256, k / 1766847064778384329583297500742918515827483896875618958121606201292619776 % 256, k / 452312848583266388373324160190187140051835877600158453279131187530910662656 % 256] := by
  simp only [byL, bL, List.cons_append, List.nil_append, Sh.w0, w1, w2, w3, List.cons.injEq, and_true]
  refine ⟨by omega, by omega, by omega, by omega, by omega, by omega, by omega, by omega, by omega, by omega, by omega, by omega, by omega, by omega, by omega, by omega, by omega, by omega, by omega, by omega, by omega, by omega, by omega, by omega, by omega, by omega, by omega, by omega, by omega, by omega, by omega, by omega⟩
theorem byL_kmask (k : Nat) : byL (kmask k) = [k % 256 / 8 * 8, k / 256 % 256, k / 65536 % 256, k / 16777216 % 256, k / 4294967296 % 256, k / 1099511627776 % 256, k / 281474976710656 % 256, k / 72057594037927936 % 256, k / 18446744073709551616 % 256, k / 4722366482869645213696 % 256, k / 1208925819614629174706176 % 256, k / 309485009821345068724781056 % 256, k / 79228162514264337593543950336 % 256, k / 20282409603651670423947251286016 % 256, k / 5192296858534827628530496329220096 % 256, k / 1329227995784915872903807060280344576 % 256, k / 340282366920938463463374607431768211456 % 256, k / 87112285931760246646623899502532662132736 % 256, k / 22300745198530623141535718272648361505980416 % 256, k / 5708990770823839524233143877797980545530986496 % 256, k / 1461501637330902918203684832716283019655932542976 % 256, k / 374144419156711147060143317175368453031918731001856 % 256, k / 95780971304118053647396689196894323976171195136475136 % 256, k / 24519928653854221733733552434404946937899825954937634816 % 256, k / 6277101735386680763835789423207666416102355444464034512896 % 256, k / 1606938044258990275541962092341162602522202993782792835301376 % 256, k / 411376139330301510538742295639337626245683966408394965837152256 % 256, k / 105312291668557186697918027683670432318895095400549111254310977536 % 256, k / 26959946667150639794667015087019630673637144422540572481103610249216 % 256, k / 6901746346790563787434755862277025452451108972170386555162524223799296 % 256, k / 1766847064778384329583297500742918515827483896875618958121606201292619776 % 256, k / 452312848583266388373324160190187140051835877600158453279131187530910662656 % 64 + 64] := by
  rw [byL_all]
  unfold kmask
  simp only [List.cons.injEq, and_true]
  refine ⟨by omega, by omega, by omega, by omega, by omega, by omega, by omega, by omega, by omega, by omega, by omega, by omega, by omega, by omega, by omega, by omega, by omega, by omega, by omega, by omega, by omega, by omega, by omega, by omega, by omega, by omega, by omega, by omega, by omega, by omega, by omega, by omega⟩
theorem byL_pmask (p : Nat) : byL (pmask p) = [p % 256, p / 256 % 256, p / 65536 % 256, p / 16777216 % 256, p / 4294967296 % 256, p / 1099511627776 % 256, p / 281474976710656 % 256, p / 72057594037927936 % 256, p / 18446744073709551616 % 256, p / 4722366482869645213696 % 256, p / 1208925819614629174706176 % 256, p / 309485009821345068724781056 % 256, p / 79228162514264337593543950336 % 256, p / 20282409603651670423947251286016 % 256, p / 5192296858534827628530496329220096 % 256, p / 1329227995784915872903807060280344576 % 256, p / 340282366920938463463374607431768211456 % 256, p / 87112285931760246646623899502532662132736 % 256, p / 22300745198530623141535718272648361505980416 % 256, p / 5708990770823839524233143877797980545530986496 % 256, p / 1461501637330902918203684832716283019655932542976 % 256, p / 374144419156711147060143317175368453031918731001856 % 256, p / 95780971304118053647396689196894323976171195136475136 % 256, p / 24519928653854221733733552434404946937899825954937634816 % 256, p / 6277101735386680763835789423207666416102355444464034512896 % 256, p / 1606938044258990275541962092341162602522202993782792835301376 % 256, p / 411376139330301510538742295639337626245683966408394965837152256 % 256, p / 105312291668557186697918027683670432318895095400549111254310977536 % 256, p / 26959946667150639794667015087019630673637144422540572481103610249216 % 256, p / 6901746346790563787434755862277025452451108972170386555162524223799296 % 256, p / 1766847064778384329583297500742918515827483896875618958121606201292619776 % 256, p / 452312848583266388373324160190187140051835877600158453279131187530910662656 % 128] := by
  rw [byL_all]
  unfold pmask
  simp only [List.cons.injEq, and_true]
  refine ⟨by omega, by omega, by omega, by omega, by omega, by omega, by omega, by omega, by omega, by omega, by omega, by omega, by omega, by omega, by omega, by omega, by omega, by omega, by omega, by omega, by omega, by omega, by omega, by omega, by omega, by omega, by omega, by omega, by omega, by omega, by omega, by omega⟩

theorem m248 : (List.range 256).all (fun x => decide (x &&& 248 = x / 8 * 8)) = true := by decide +kernel
theorem m127 : (List.range 256).all (fun x => decide (x &&& 127 = x % 128)) = true := by decide +kernel
theorem m64 : (List.range 256).all (fun x => decide (x &&& 127 ||| 64 = x % 64 + 64)) = true := by decide +kernel

theorem v248 {x : Nat} (hx : x < 256) : arith .and .u8 (x : Int) ((248 : Nat) : Int) = ((x / 8 * 8 : Nat) : Int) := by
  rw [a_and8 x 248 hx (by decide)]
  have := List.all_eq_true.1 m248 x (List.mem_range.2 hx)
  rw [of_decide_eq_true this]
theorem v127 {x : Nat} (hx : x < 256) : arith .and .u8 (x : Int) ((127 : Nat) : Int) = ((x % 128 : Nat) : Int) := by
  rw [a_and8 x 127 hx (by decide)]
  have := List.all_eq_true.1 m127 x (List.mem_range.2 hx)
  rw [of_decide_eq_true this]
theorem v64 {x : Nat} (hx : x < 256) : arith .or .u8 (arith .and .u8 (x : Int) ((127 : Nat) : Int)) ((64 : Nat) : Int) = ((x % 64 + 64 : Nat) : Int) := by
  rw [a_and8 x 127 hx (by decide), a_or8 _ 64 (Nat.lt_of_le_of_lt Nat.and_le_left hx) (by decide)]
  have := List.all_eq_true.1 m64 x (List.mem_range.2 hx)
  rw [of_decide_eq_true this]

def e248 (j : Nat) : AI := .e .and .u8 (.s j) (.c (.ofNat 248))
def e127 (j : Nat) : AI := .e .and .u8 (.s j) (.c (.ofNat 127))
def e64 (j : Nat) : AI := .e .or .u8 (.e .and .u8 (.s j) (.c (.ofNat 127))) (.c (.ofNat 64))
/-- A key's bytes, masked; a place's. -/
def keyB (j : Nat) : List AV := .i .u8 (e248 j) :: ((List.range 30).map (fun i => bt (j + 1 + i)) ++ [.i .u8 (e64 (j + 31))])
def plB (j : Nat) : List AV := (List.range 31).map (fun i => bt (j + i)) ++ [.i .u8 (e127 (j + 31))]

theorem mid_conc {ν : Nat → Int} {j : Nat} : ∀ (m : Nat) (l : List Nat), (∀ i, i < m → ν (j + i) = ((l.getD i 0 : Nat) : Int)) → l.length = m → ∀ (tl : List AV) (tv : List Value), concL ν tl = some tv → concL ν ((List.range m).map (fun i => bt (j + i)) ++ tl) = some (l.map u8 ++ tv) := by
  intro m
  induction m with
  | zero =>
    intro l h hl tl tv ht
    have : l = [] := by simpa using hl
    subst this
    simpa using ht
  | succ m ih =>
    intro l h hl tl tv ht
    rw [List.range_succ, List.map_append, List.append_assoc]
    have h1 : concL ν ([m].map (fun i => bt (j + i)) ++ tl) = some (u8 (l.getD m 0) :: tv) := by
      show (match conc1 ν (bt (j + m)), concL ν tl with | some v, some l => some (v :: l) | _, _ => none) = _
      rw [ht]
      show some (Value.int .u8 (ν (j + m)) :: tv) = _
      rw [h m (by omega)]
      rfl
    have h2 := ih (l.take m) (fun i hi => by rw [h i (by omega)]; simp [List.getD_eq_getElem?_getD, hi]) (by simp; omega) _ _ h1
    rw [h2]
    have h3 : l = l.take m ++ [l.getD m 0] := by
      apply List.ext_getElem?
      intro i
      by_cases hi : i < m
      · rw [List.getElem?_append_left (by simp; omega), List.getElem?_take, if_pos hi]
      · by_cases hi2 : i = m
        · subst hi2
          rw [List.getElem?_append_right (by simp; omega)]
          simp [List.getD_eq_getElem?_getD, hl]
        · rw [List.getElem?_eq_none (by omega), List.getElem?_eq_none (by simp; omega)]
    have h4 : (l.take m).map u8 ++ u8 (l.getD m 0) :: tv = (l.take m ++ [l.getD m 0]).map u8 ++ tv := by simp
    rw [h4, ← h3]

theorem byL_len (k : Nat) : (byL k).length = 32 := rfl

theorem key_conc {ν : Nat → Int} {j k : Nat} (h : ∀ i, i < 32 → ν (j + i) = (((byL k).getD i 0 : Nat) : Int)) : concL ν (keyB j) = some ((byL (kmask k)).map u8) := by
  have h0 := h 0 (by decide)
  have h31 := h 31 (by decide)
  rw [byL_get k 0 (by decide)] at h0
  rw [byL_get k 31 (by decide)] at h31
  have e0 : conc1 ν (.i .u8 (e248 j)) = some (u8 (k % 256 / 8 * 8)) := by
    show some (Value.int .u8 (arith .and .u8 (ν (j + 0)) ((248 : Nat) : Int))) = _
    rw [h0, v248 (Nat.mod_lt _ (by decide)), Nat.mul_zero, Nat.pow_zero, Nat.div_one]
    rfl
  have e31 : concL ν [.i .u8 (e64 (j + 31))] = some [u8 (k / 452312848583266388373324160190187140051835877600158453279131187530910662656 % 64 + 64)] := by
    show some [Value.int .u8 (arith .or .u8 (arith .and .u8 (ν (j + 31)) ((127 : Nat) : Int)) ((64 : Nat) : Int))] = _
    rw [h31, v64 (Nat.mod_lt _ (by decide)), Nat.mod_mod_of_dvd _ (show 64 ∣ 256 by decide)]
    rfl
  have em := mid_conc (ν := ν) (j := j + 1) 30 (((byL k).drop 1).take 30) (fun i hi => by
    rw [show j + 1 + i = j + (i + 1) by omega, h (i + 1) (by omega)]
    simp [List.getD_eq_getElem?_getD, hi]) (by simp [byL_len]) _ _ e31
  rw [byL_kmask]
  show (match conc1 ν (.i .u8 (e248 j)), concL ν ((List.range 30).map (fun i => bt (j + 1 + i)) ++ [.i .u8 (e64 (j + 31))]) with | some v, some l => some (v :: l) | _, _ => none) = _
  rw [e0, em, byL_all]
  rfl
theorem pl_conc {ν : Nat → Int} {j p : Nat} (h : ∀ i, i < 32 → ν (j + i) = (((byL p).getD i 0 : Nat) : Int)) : concL ν (plB j) = some ((byL (pmask p)).map u8) := by
  have h31 := h 31 (by decide)
  rw [byL_get p 31 (by decide)] at h31
  have e31 : concL ν [.i .u8 (e127 (j + 31))] = some [u8 (p / 452312848583266388373324160190187140051835877600158453279131187530910662656 % 128)] := by
    show some [Value.int .u8 (arith .and .u8 (ν (j + 31)) ((127 : Nat) : Int))] = _
    rw [h31, v127 (Nat.mod_lt _ (by decide)), Nat.mod_mod_of_dvd _ (show 128 ∣ 256 by decide)]
    rfl
  have em := mid_conc (ν := ν) (j := j) 31 ((byL p).take 31) (fun i hi => by
    rw [h i (by omega)]
    simp [List.getD_eq_getElem?_getD, hi]) (by simp [byL_len]) _ _ e31
  rw [byL_pmask]
  show concL ν ((List.range 31).map (fun i => bt (j + i)) ++ [.i .u8 (e127 (j + 31))]) = _
  rw [em, byL_all]
  rfl

theorem nub_get (l : List Nat) (j : Nat) : ∀ i, i < 32 → nub l (32 * j + i) = (((byL (l.getD j 0)).getD i 0 : Nat) : Int) := by
  intro i hi
  unfold nub
  rw [show (32 * j + i) / 32 = j by omega, show (32 * j + i) % 32 = i by omega]

/-! number and Key -/

theorem number_says : says noFacts tree [] 100 3 16 [rw8 0] (heap0 [] gmax) (.ag (keyB 0)) = true := by kernel_rfl
theorem keyB_val (ν : Nat → Int) (j : Nat) (l : List Value) (h : concL ν (keyB j) = some l) : conc2 ν (.ag (keyB j)) = some (.agg l.toArray) := by
  show (concL ν (keyB j)).map (fun vs => Value.agg vs.toArray) = _
  rw [h]
  rfl
theorem plB_val (ν : Nat → Int) (j : Nat) (l : List Value) (h : concL ν (plB j) = some l) : conc2 ν (.ag (plB j)) = some (.agg l.toArray) := by
  show (concL ν (plB j)).map (fun vs => Value.agg vs.toArray) = _
  rw [h]
  rfl
theorem rw8_0 (k : Nat) (l : List Nat) : conc2 (nub (k :: l)) (rw8 0) = some (byt k) := by kernel_rfl
theorem number_ok (k : Nat) : Pure Try.prog 16 [byt k] (byt (kmask k)) :=
  pure_of (ν := nub [k]) (args := [rw8 0]) (noFacts_hold _) mixed tab_ok (fun r hr => by cases hr) number_says (by simp [concT, rw8_0]) (keyB_val _ 0 _ (key_conc (nub_get [k] 0)))

def keyT : List Row := [⟨19, [.ag (keyB 0)], ns 32⟩]
theorem key_says : says noFacts tree keyT 100 3 17 [rw8 0] (heap0 [] gmax) (ns 32) = true := by kernel_rfl
theorem rowOf {ν : Nat → Int} {p r : AV} {x : Nat} (h1 : conc2 ν p = some (byt x)) (h2 : conc ν r = some (num x)) : Row.Ok ν Try.prog ⟨19, [p], r⟩ := ⟨[byt x], num x, by simp [concT, h1], h2, Of_ok x⟩
theorem nu_get (k : Nat) (l : List Nat) : ∀ i, i < 32 → nu (byL k ++ l) (0 + i) = (((byL k).getD i 0 : Nat) : Int) := by
  intro i hi
  unfold nu
  rw [Nat.zero_add, List.getD_eq_getElem?_getD, List.getD_eq_getElem?_getD, List.getElem?_append_left (by rw [byL_len]; exact hi)]
theorem nu_num (k m : Nat) : conc (nu (byL k ++ numL m)) (ns 32) = some (num m) := by kernel_rfl
theorem nu_row (k : Nat) (l : List Nat) : conc2 (nu (byL k ++ l)) (rw8 0) = some (byt k) := by kernel_rfl
theorem Key_ok (k : Nat) : Pure Try.prog 17 [byt k] (num (kmask k)) := by
  refine pure_of (ν := nu (byL k ++ numL (kmask k))) (args := [rw8 0]) (noFacts_hold _) mixed tab_ok (fun r hr => ?_) key_says (by simp [concT, nu_row]) (nu_num k _)
  simp only [keyT, List.mem_cons, List.not_mem_nil, or_false] at hr
  subst hr
  exact rowOf (keyB_val _ 0 _ (key_conc (nu_get k _))) (nu_num k _)

end Go.Proofs.Ytlalonomdblhdaa

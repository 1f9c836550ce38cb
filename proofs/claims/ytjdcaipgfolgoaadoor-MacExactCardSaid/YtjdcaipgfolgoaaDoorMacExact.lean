/-
  MacExact: for all its arguments the law returns true, where the program's variables are laid as the program's text lays them. Conditions: none beside that one (the card ties it to the text).
-/
import Derived.Test.YtjdcaipgfolgoaaDoorXt
namespace Go.Proofs.YtjdcaipgfolgoaaDoor
open Go.Sh
open Go.ChangeShapes Go.WideShapes Go.ChangeAt Go.RowKit
set_option maxRecDepth 100000

/-- The page's Expand, as a row. -/
def rowPEx (x y : AV) (k : AI) (need : Gl) (T : Nat) : RowM := ⟨25, [x, y, .i .i64 k], need, [.new T]⟩
theorem rowPEx_T {ν : Nat → Int} {need : Gl} {x y : AV} {k : AI} {nk ni n T : Nat} {zk zi : Wd} (hx : IsText ν need x nk zk) (hy : IsText ν need y ni zi) (hbk : Bytes zk nk) (hbi : Bytes zi ni) (hk : k.val ν = (n : Int)) (h1 : nk < 1000000000) (h2 : ni < 800000000) (h0 : 0 < n) (hn : n ≤ 8160) (hT : mapTag < T ∧ T ≤ winTag) (hK : pinK T = .u8) (hL : ν (pinL T) = (n : Int)) (hB : ∀ j, j < n → ν (pinB T j) = exW (keyW nk zk) ni zi j) : (rowPEx x y k need T).Ok ν Tryd.prog gl256 := by
  refine ⟨⟨_, Tryd.func25, by kernel_rfl, by kernel_rfl⟩, fun ρ w vs hw hnd hl => ?_⟩
  have hlen : vs.size = 3 := by rw [← hl.1]; rfl
  obtain ⟨a, b, c, rfl⟩ : ∃ a b c, vs = #[a, b, c] := by
    match vs, hlen with
    | ⟨[a, b, c]⟩, _ => exact ⟨a, b, c, rfl⟩
  have ha := hl.2 0 _ a rfl rfl
  have hb := hl.2 1 _ b rfl rfl
  have hc := hl.2 2 _ c rfl rfl
  cases hc
  rw [hk]
  refine (PExpand_ok hw (hx ρ w a hnd ha) (hy ρ w b hnd hb) hbk hbi h1 h2 h0 hn).mono fun e w' ⟨r, he, ⟨cb, o, c, hr, hcc, hcb, C, ty, fz, hC, hz⟩, hBw⟩ => ⟨[r], he, ⟨⟨hT, cb, o, n, c, hr, hcc, hL, hcb, C, ty, fz, hC, fun j hj => ?_⟩, trivial⟩, hBw⟩
  have hj : (j : Int) < ν (pinL T) := hj
  rw [hL] at hj
  rw [hK, hB j (by omega)]
  exact hz j (by omega)
def hpE (s u : Hd) : Gl := s.gl 64 (tg 2) ++ u.gl 65 (tg 4)
def kvE (s : Hd) : AV := s.av 64 (tg 2)
def ivE (u : Hd) : AV := u.av 65 (tg 4)
/-- A twin of a text, and where the next block lies. -/
def twE (s : Hd) (b t : Nat) : AV := match s with
  | .c => slE b (tg t) 0
  | _ => .nsl
def twB (s : Hd) (b t : Nat) : Gl := match s with
  | .c => [(b, ⟨[], wg t, true⟩)]
  | _ => []
def upE (s : Hd) (b : Nat) : Nat := match s with
  | .c => b + 1
  | _ => b
def kxE (s : Hd) : AV := twE s 66 20
def ixE (s u : Hd) : AV := twE u (upE s 66) 22
def twG (s u : Hd) : Gl := twB s 66 20 ++ twB u (upE s 66) 22
def t0E (s u : Hd) : Nat := upE u (upE s 66)
def outE : AV := .ag (rowC .u8 (nmA 0) 32)
/-- What length is asked: 0 too short, 1 too long, 2 none, 3 up to 2000, 4 more. -/
def exRows (s u : Hd) : Nat → List RowM
  | 2 => [rowEx (kxE s) (ixE s u) (nA 0) (twG s u) (tg 8)]
  | 3 => [rowEx (kxE s) (ixE s u) (.s 302) (twG s u) (tg 8), rowPEx (kvE s) (ivE u) (.s 302) (hpE s u) (tg 12), rowEq (.sl (t0E s u + 4) 0 (.s (pinL (tg 8))) .any) (.sl (t0E s u + 5) 0 (.s (pinL (tg 12))) .any) [(t0E s u + 4, ⟨[], tg 8, true⟩), (t0E s u + 5, ⟨[], tg 12, true⟩)]]
  | 4 => [rowEx (kxE s) (ixE s u) (.s 302) (twG s u) (tg 8), rowPEx (kvE s) (ivE u) (nA 2000) (hpE s u) (tg 12)]
  | _ => []
def eqE (s : Hd) (b t : Nat) (x : AV) (g : Gl) : List RowM := match s with
  | .c => [rowEq (twE s b t) x (twB s b t ++ g)]
  | _ => []
def xaM (s u : Hd) (v : Nat) : List RowM := [⟨20, [kxE s, ixE s u], twG s u, [.v outE]⟩, ⟨21, [kvE s, ivE u], hpE s u, [.v outE]⟩, rowEq (slO (t0E s u)) (slO (t0E s u + 1)) [outB (t0E s u), outB (t0E s u + 1)], rowEq (slO (t0E s u + 3)) (slO (t0E s u + 1)) [outB (t0E s u + 3), outB (t0E s u + 1)], rowWm] ++ (eqE s 66 20 (kvE s) (s.gl 64 (tg 2)) ++ (eqE u (upE s 66) 22 (ivE u) (u.gl 65 (tg 4)) ++ exRows s u v))
def twF (s : Hd) (a b : Nat) : List Cm := match s with
  | .c => [(.gtr, .s (pinL (tg a)), .c 0, true), (.lss, .s (pinL (tg a)), .c 1099511627776, true), (.eql, pAe b, .s (pinL (tg b)), true), (.lss, .s (pinL (tg b)), .c 1099511627776, true)]
  | _ => []
def lenF : Nat → List Cm
  | 0 => [(.lss, .s 302, .c 0, true)]
  | 1 => [(.lss, .s 302, .c 0, false), (.gtr, .s 302, nA 8160, true)]
  | 2 => [(.neq, .s (pinL (tg 8)), .c 0, false), (.lss, .c 0, .s (pinL (tg 8)), false), (.eql, .s (pinL (tg 8)), .c 0, true)]
  | 3 => [(.lss, .s 302, .c 0, false), (.gtr, .s 302, nA 8160, false), (.lss, nA 2000, .s 302, false), (.leq, .s 302, nA 2000, true), (.eql, .s (pinL (tg 8)), .s 302, true)]
  | _ => [(.lss, .s 302, .c 0, false), (.gtr, .s 302, nA 8160, false), (.lss, nA 2000, .s 302, true), (.leq, .s 302, nA 2000, false), (.eql, .s (pinL (tg 8)), .s 302, true), (.neq, .s (pinL (tg 8)), .s (pinL (tg 12)), true)]
def xaF (s u : Hd) (v : Nat) : Facts := ⟨[], [(.gtr, s.len (tg 2), nA 1000, false), (.gtr, u.len (tg 4), nA 1000, false)] ++ (twF s 2 20 ++ (twF u 4 22 ++ lenF v)), [(0, [], tg 2, tg 20), (0, [], tg 4, tg 22)]⟩
noncomputable def xaGo (s u : Hd) (v : Nat) : Bool := saysB (xaF s u v) tree [] gl256 [] (xaM s u v) (hpE s u) 66 60 4 8 [kvE s, ivE u, if Nat.beq v 2 then iN 0 else sI 302] (.b true)
theorem xa_go0 : ∀ s u, xaGo s u 0 = true := by intro s u; cases s <;> cases u <;> kernel_rfl
theorem xa_go1 : ∀ s u, xaGo s u 1 = true := by intro s u; cases s <;> cases u <;> kernel_rfl
theorem xa_go2 : ∀ s u, xaGo s u 2 = true := by intro s u; cases s <;> cases u <;> kernel_rfl
theorem xa_go3 : ∀ s u, xaGo s u 3 = true := by intro s u; cases s <;> cases u <;> kernel_rfl
theorem xa_go4 : ∀ s u, xaGo s u 4 = true := by intro s u; cases s <;> cases u <;> kernel_rfl
def nuXE (nk nb : Nat) (zk zb : Wd) (m : Int) (p r : Nat) : Nat → Int := nuR (fun j => if j < 32 then hmac (keyW nk zk) nb zb j else m) (fun t => if t = 8 then p else if t = 12 then r else if t = 4 then nb else if t = 22 then nb else nk) (fun t => if t = 22 then nb else nk) (fun t => if t = 8 then exW (keyW nk zk) nb zb else if t = 12 then exW (keyW nk zk) nb zb else if t = 4 then zb else if t = 22 then zb else zk)
def lenOk (m : Int) (p r : Nat) : Nat → Prop
  | 0 => m < 0
  | 1 => 8160 < m
  | 2 => p = 0
  | 3 => m = (p : Int) ∧ 0 < p ∧ p ≤ 2000 ∧ r = p
  | 4 => m = (p : Int) ∧ 2000 < p ∧ p ≤ 8160 ∧ r = 2000
  | _ => False
theorem twF_hold {ν : Nat → Int} {s : Hd} {a b n : Nat} (hs : s.Fits n) (hn : n ≤ 1000) (hL : ν (pinL (tg a)) = (n : Int)) (hA : ν (pinA (tg b)) = (n : Int)) (hLb : ν (pinL (tg b)) = (n : Int)) : ∀ p ∈ twF s a b, compare p.1 (p.2.1.val ν) (p.2.2.1.val ν) = p.2.2.2 := by
  intro p hp
  cases s
  · exact nomatch (show p ∈ ([] : List Cm) from hp)
  · exact nomatch (show p ∈ ([] : List Cm) from hp)
  · have h0 : 0 < n := hs
    simp only [twF, List.mem_cons, List.not_mem_nil, or_false] at hp
    rcases hp with rfl | rfl | rfl | rfl
    · show decide (ν (pinL (tg a)) > 0) = true
      rw [hL]
      exact decide_eq_true (by omega)
    · show decide (ν (pinL (tg a)) < 1099511627776) = true
      rw [hL]
      exact decide_eq_true (by omega)
    · show (ν (pinA (tg b)) == ν (pinL (tg b))) = true
      rw [hA, hLb]
      exact beq_self_eq_true _
    · show decide (ν (pinL (tg b)) < 1099511627776) = true
      rw [hLb]
      exact decide_eq_true (by omega)
theorem lst_same {ν : Nat → Int} {a b n : Nat} (ha : mapTag < tg a) (hL : ν (pinL (tg a)) = (n : Int)) (hLb : ν (pinL (tg b)) = (n : Int)) (hB : ∀ j, j < n → ν (pinB (tg b) j) = ν (pinB (tg a) j)) : lst ν (tg b) = lst0 ν 0 ++ ([] : List AI).map (AI.val ν) ++ lst0 ν (tg a) := by
  rw [lst0_zero, lst0_row _ ha, List.map_nil, List.append_nil, List.nil_append]
  refine List.ext_getElem? fun j => ?_
  rw [lst_get hLb, lst_get hL]
  by_cases c : j < n
  · rw [if_pos c, if_pos c, hB j c]
  · rw [if_neg c, if_neg c]
theorem twE_text {ν : Nat → Int} {s : Hd} {b t n : Nat} {z : Wd} (hs : s.Fits n) (ht : 0 < t) (hK : pinK (tg t) = .u8) (hA : ν (pinA (tg t)) = (n : Int)) (hL : ν (pinL (tg t)) = (n : Int)) (hB : ∀ j, j < n → ν (pinB (tg t) j) = z j) : IsText ν (twB s b t) (twE s b t) n z := by
  cases s
  · have h : n = 0 := hs
    subst h
    exact isText_nsl
  · have h : n = 0 := hs
    subst h
    exact isText_nsl
  · exact isText_win (t := t) (own := true) (k := pAe t) (l := pAe t) List.mem_cons_self ht hK rfl hA (by rw [hL]; exact Int.le_refl _) hB
section
variable {nk nb p r : Nat} {zk zb : Wd} {m : Int}
theorem nuXE_S {j : Nat} (h : j < 32) : nuXE nk nb zk zb m p r j = hmac (keyW nk zk) nb zb j := (nuR_lo (by omega)).trans (if_pos h)
theorem nuXE_m : nuXE nk nb zk zb m p r 302 = m := (nuR_lo (by decide)).trans (if_neg (by decide))
theorem nuXE_L2 : nuXE nk nb zk zb m p r (pinL (tg 2)) = (nk : Int) := nuR_L (by decide)
theorem nuXE_L4 : nuXE nk nb zk zb m p r (pinL (tg 4)) = (nb : Int) := nuR_L (by decide)
theorem nuXE_L8 : nuXE nk nb zk zb m p r (pinL (tg 8)) = (p : Int) := nuR_L (by decide)
theorem nuXE_L12 : nuXE nk nb zk zb m p r (pinL (tg 12)) = (r : Int) := nuR_L (by decide)
theorem nuXE_L20 : nuXE nk nb zk zb m p r (pinL (tg 20)) = (nk : Int) := nuR_L (by decide)
theorem nuXE_L22 : nuXE nk nb zk zb m p r (pinL (tg 22)) = (nb : Int) := nuR_L (by decide)
theorem nuXE_A20 : nuXE nk nb zk zb m p r (pinA (tg 20)) = (nk : Int) := nuR_A (by decide)
theorem nuXE_A22 : nuXE nk nb zk zb m p r (pinA (tg 22)) = (nb : Int) := nuR_A (by decide)
theorem nuXE_B2 {j : Nat} (hj : j < 1099511627774) : nuXE nk nb zk zb m p r (pinB (tg 2) j) = zk j := nuR_B (by decide) hj
theorem nuXE_B4 {j : Nat} (hj : j < 1099511627774) : nuXE nk nb zk zb m p r (pinB (tg 4) j) = zb j := nuR_B (by decide) hj
theorem nuXE_B8 {j : Nat} (hj : j < 1099511627774) : nuXE nk nb zk zb m p r (pinB (tg 8) j) = exW (keyW nk zk) nb zb j := nuR_B (by decide) hj
theorem nuXE_B12 {j : Nat} (hj : j < 1099511627774) : nuXE nk nb zk zb m p r (pinB (tg 12) j) = exW (keyW nk zk) nb zb j := nuR_B (by decide) hj
theorem nuXE_B20 {j : Nat} (hj : j < 1099511627774) : nuXE nk nb zk zb m p r (pinB (tg 20) j) = zk j := nuR_B (by decide) hj
theorem nuXE_B22 {j : Nat} (hj : j < 1099511627774) : nuXE nk nb zk zb m p r (pinB (tg 22) j) = zb j := nuR_B (by decide) hj
theorem lenF_hold {v : Nat} (h : lenOk m p r v) : ∀ q ∈ lenF v, compare q.1 (q.2.1.val (nuXE nk nb zk zb m p r)) (q.2.2.1.val (nuXE nk nb zk zb m p r)) = q.2.2.2 := by
  have k1 : m < 0 → compare BinOp.lss ((AI.s 302).val (nuXE nk nb zk zb m p r)) ((AI.c 0).val (nuXE nk nb zk zb m p r)) = true := fun h => by
    show decide (nuXE nk nb zk zb m p r 302 < 0) = true
    rw [nuXE_m]
    exact decide_eq_true h
  have k2 : 0 ≤ m → compare BinOp.lss ((AI.s 302).val (nuXE nk nb zk zb m p r)) ((AI.c 0).val (nuXE nk nb zk zb m p r)) = false := fun h => by
    show decide (nuXE nk nb zk zb m p r 302 < 0) = false
    rw [nuXE_m]
    exact decide_eq_false (by omega)
  have k3 : m ≤ 8160 → compare BinOp.gtr ((AI.s 302).val (nuXE nk nb zk zb m p r)) ((nA 8160).val (nuXE nk nb zk zb m p r)) = false := fun h => by
    show decide (nuXE nk nb zk zb m p r 302 > ((8160 : Nat) : Int)) = false
    rw [nuXE_m]
    exact decide_eq_false (by omega)
  have k4 : m = (p : Int) → compare BinOp.eql ((AI.s (pinL (tg 8))).val (nuXE nk nb zk zb m p r)) ((AI.s 302).val (nuXE nk nb zk zb m p r)) = true := fun h => by
    show (nuXE nk nb zk zb m p r (pinL (tg 8)) == nuXE nk nb zk zb m p r 302) = true
    rw [nuXE_m, nuXE_L8, h]
    exact beq_self_eq_true _
  intro q hq
  match v, h with
  | 0, h =>
    have h : m < 0 := h
    simp only [lenF, List.mem_cons, List.not_mem_nil, or_false] at hq
    subst hq
    exact k1 h
  | 1, h =>
    have h : 8160 < m := h
    simp only [lenF, List.mem_cons, List.not_mem_nil, or_false] at hq
    rcases hq with rfl | rfl
    · exact k2 (by omega)
    · show decide (nuXE nk nb zk zb m p r 302 > ((8160 : Nat) : Int)) = true
      rw [nuXE_m]
      exact decide_eq_true (by omega)
  | 2, h =>
    have h : p = 0 := h
    simp only [lenF, List.mem_cons, List.not_mem_nil, or_false] at hq
    rcases hq with rfl | rfl | rfl
    · show (nuXE nk nb zk zb m p r (pinL (tg 8)) != 0) = false
      rw [nuXE_L8, h]
      rfl
    · show decide (0 < nuXE nk nb zk zb m p r (pinL (tg 8))) = false
      rw [nuXE_L8]
      exact decide_eq_false (by omega)
    · show (nuXE nk nb zk zb m p r (pinL (tg 8)) == 0) = true
      rw [nuXE_L8, h]
      rfl
  | 3, h =>
    obtain ⟨h1, h2, h3, h4⟩ := (show m = (p : Int) ∧ 0 < p ∧ p ≤ 2000 ∧ r = p from h)
    simp only [lenF, List.mem_cons, List.not_mem_nil, or_false] at hq
    rcases hq with rfl | rfl | rfl | rfl | rfl
    · exact k2 (by omega)
    · exact k3 (by omega)
    · show decide (((2000 : Nat) : Int) < nuXE nk nb zk zb m p r 302) = false
      rw [nuXE_m]
      exact decide_eq_false (by omega)
    · show decide (nuXE nk nb zk zb m p r 302 ≤ ((2000 : Nat) : Int)) = true
      rw [nuXE_m]
      exact decide_eq_true (by omega)
    · exact k4 h1
  | 4, h =>
    obtain ⟨h1, h2, h3, h4⟩ := (show m = (p : Int) ∧ 2000 < p ∧ p ≤ 8160 ∧ r = 2000 from h)
    simp only [lenF, List.mem_cons, List.not_mem_nil, or_false] at hq
    rcases hq with rfl | rfl | rfl | rfl | rfl | rfl
    · exact k2 (by omega)
    · exact k3 (by omega)
    · show decide (((2000 : Nat) : Int) < nuXE nk nb zk zb m p r 302) = true
      rw [nuXE_m]
      exact decide_eq_true (by omega)
    · show decide (nuXE nk nb zk zb m p r 302 ≤ ((2000 : Nat) : Int)) = false
      rw [nuXE_m]
      exact decide_eq_false (by omega)
    · exact k4 h1
    · show (nuXE nk nb zk zb m p r (pinL (tg 8)) != nuXE nk nb zk zb m p r (pinL (tg 12))) = true
      rw [nuXE_L8, nuXE_L12]
      simp only [bne_iff_ne, ne_eq]
      omega
theorem xaF_hold {s u : Hd} {v : Nat} (hs : s.Fits nk) (hu : u.Fits nb) (h1 : nk ≤ 1000) (h2 : nb ≤ 1000) (hv : lenOk m p r v) : (xaF s u v).Hold (nuXE nk nb zk zb m p r) := by
  refine ⟨fun q hq => (by cases hq), fun q hq => ?_, fun q hq => ?_⟩
  · rcases List.mem_append.1 hq with hq | hq
    · simp only [List.mem_cons, List.not_mem_nil, or_false] at hq
      have e1 : (s.len (tg 2)).val (nuXE nk nb zk zb m p r) = (nk : Int) := by
        cases s
        · have h : nk = 0 := hs
          subst h; rfl
        · have h : nk = 0 := hs
          subst h; rfl
        · exact nuXE_L2
      have e2 : (u.len (tg 4)).val (nuXE nk nb zk zb m p r) = (nb : Int) := by
        cases u
        · have h : nb = 0 := hu
          subst h; rfl
        · have h : nb = 0 := hu
          subst h; rfl
        · exact nuXE_L4
      rcases hq with rfl | rfl
      · show decide ((s.len (tg 2)).val (nuXE nk nb zk zb m p r) > ((1000 : Nat) : Int)) = false
        rw [e1]
        exact decide_eq_false (by omega)
      · show decide ((u.len (tg 4)).val (nuXE nk nb zk zb m p r) > ((1000 : Nat) : Int)) = false
        rw [e2]
        exact decide_eq_false (by omega)
    rcases List.mem_append.1 hq with hq | hq
    · exact twF_hold hs h1 nuXE_L2 nuXE_A20 nuXE_L20 q hq
    rcases List.mem_append.1 hq with hq | hq
    · exact twF_hold hu h2 nuXE_L4 nuXE_A22 nuXE_L22 q hq
    · exact lenF_hold hv q hq
  · have hq : q ∈ [(0, [], tg 2, tg 20), (0, [], tg 4, tg 22)] := hq
    simp only [List.mem_cons, List.not_mem_nil, or_false] at hq
    rcases hq with rfl | rfl
    · exact ⟨by show 0 ≤ nuXE nk nb zk zb m p r (pinL (tg 20)); rw [nuXE_L20]; omega, lst_same (tgT (by decide) (by decide)).1 nuXE_L2 nuXE_L20 fun j hj => by rw [nuXE_B20 (by omega), nuXE_B2 (by omega)]⟩
    · exact ⟨by show 0 ≤ nuXE nk nb zk zb m p r (pinL (tg 22)); rw [nuXE_L22]; omega, lst_same (tgT (by decide) (by decide)).1 nuXE_L4 nuXE_L22 fun j hj => by rw [nuXE_B22 (by omega), nuXE_B4 (by omega)]⟩
theorem xaM_ok {s u : Hd} {v : Nat} (hs : s.Fits nk) (hu : u.Fits nb) (hbk : Bytes zk nk) (hbb : Bytes zb nb) (h1 : nk ≤ 1000) (h2 : nb ≤ 1000) (hv : lenOk m p r v) : ∀ q ∈ xaM s u v, q.Ok (nuXE nk nb zk zb m p r) Tryd.prog gl256 := by
  have tk : IsText (nuXE nk nb zk zb m p r) (s.gl 64 (tg 2)) (kvE s) nk zk := hd_text (t := 2) hs (tgT (by decide) (by decide)) (tg_Ke (by decide)) nuXE_L2 fun j hj => nuXE_B2 (by omega)
  have tb : IsText (nuXE nk nb zk zb m p r) (u.gl 65 (tg 4)) (ivE u) nb zb := hd_text (t := 4) hu (tgT (by decide) (by decide)) (tg_Ke (by decide)) nuXE_L4 fun j hj => nuXE_B4 (by omega)
  have xk : IsText (nuXE nk nb zk zb m p r) (twB s 66 20) (kxE s) nk zk := twE_text hs (by decide) (tg_Ke (by decide)) nuXE_A20 nuXE_L20 fun j hj => nuXE_B20 (by omega)
  have xb : IsText (nuXE nk nb zk zb m p r) (twB u (upE s 66) 22) (ixE s u) nb zb := twE_text hu (by decide) (tg_Ke (by decide)) nuXE_A22 nuXE_L22 fun j hj => nuXE_B22 (by omega)
  have tk' : IsText (nuXE nk nb zk zb m p r) (hpE s u) (kvE s) nk zk := tk.mono fun q hq => List.mem_append_left _ hq
  have tb' : IsText (nuXE nk nb zk zb m p r) (hpE s u) (ivE u) nb zb := tb.mono fun q hq => List.mem_append_right _ hq
  have xk' : IsText (nuXE nk nb zk zb m p r) (twG s u) (kxE s) nk zk := xk.mono fun q hq => List.mem_append_left _ hq
  have xb' : IsText (nuXE nk nb zk zb m p r) (twG s u) (ixE s u) nb zb := xb.mono fun q hq => List.mem_append_right _ hq
  have outT : ∀ {b : Nat} {need : Gl}, outB b ∈ need → IsText (nuXE nk nb zk zb m p r) need (slO b) 32 (hmac (keyW nk zk) nb zb) := fun hm => outB_textG (fun j hj => nuXE_S hj) hm
  have res : ∀ j, j < 32 → (nmA 0 j).val (nuXE nk nb zk zb m p r) = hmac (keyW nk zk) nb zb j := fun j hj => by rw [nm_val, Nat.zero_add]; exact nuXE_S hj
  intro q hq
  rcases List.mem_append.1 hq with hq | hq
  · simp only [List.mem_cons, List.not_mem_nil, or_false] at hq
    rcases hq with rfl | rfl | rfl | rfl | rfl
    · exact rowMac_T xk' xb' (by omega) (by omega) res
    · exact rowPM_T tk' tb' hbk hbb (by omega) (by omega) res
    · exact rowEq_T (outT (by simp)) (outT (by simp)) (by decide) (by decide)
    · exact rowEq_T (outT (by simp)) (outT (by simp)) (by decide) (by decide)
    · exact rowWm_ok
  rcases List.mem_append.1 hq with hq | hq
  · cases s
    · exact nomatch (show q ∈ ([] : List RowM) from hq)
    · exact nomatch (show q ∈ ([] : List RowM) from hq)
    · have h0 : 0 < nk := hs
      simp only [eqE, List.mem_cons, List.not_mem_nil, or_false] at hq
      subst hq
      exact rowEq_T (xk.mono fun q hq => List.mem_append_left _ hq) (tk.mono fun q hq => List.mem_append_right _ hq) h0 (by omega)
  rcases List.mem_append.1 hq with hq | hq
  · cases u
    · exact nomatch (show q ∈ ([] : List RowM) from hq)
    · exact nomatch (show q ∈ ([] : List RowM) from hq)
    · have h0 : 0 < nb := hu
      simp only [eqE, List.mem_cons, List.not_mem_nil, or_false] at hq
      subst hq
      exact rowEq_T (xb.mono fun q hq => List.mem_append_left _ hq) (tb.mono fun q hq => List.mem_append_right _ hq) h0 (by omega)
  match v, hv with
  | 0, _ => exact nomatch (show q ∈ ([] : List RowM) from hq)
  | 1, _ => exact nomatch (show q ∈ ([] : List RowM) from hq)
  | 2, hv =>
    have hv : p = 0 := hv
    simp only [exRows, List.mem_cons, List.not_mem_nil, or_false] at hq
    subst hq
    exact rowEx_T (n := p) xk' xb' (by rw [hv]; rfl) (by omega) (by omega) (by omega) (tgT (by decide) (by decide)) (tg_Ke (by decide)) nuXE_L8 fun j hj => nuXE_B8 (by omega)
  | 3, hv =>
    obtain ⟨g1, g2, g3, g4⟩ := (show m = (p : Int) ∧ 0 < p ∧ p ≤ 2000 ∧ r = p from hv)
    simp only [exRows, List.mem_cons, List.not_mem_nil, or_false] at hq
    rcases hq with rfl | rfl | rfl
    · exact rowEx_T (n := p) xk' xb' (nuXE_m.trans g1) (by omega) (by omega) (by omega) (tgT (by decide) (by decide)) (tg_Ke (by decide)) nuXE_L8 fun j hj => nuXE_B8 (by omega)
    · exact rowPEx_T (n := p) tk' tb' hbk hbb (nuXE_m.trans g1) (by omega) (by omega) g2 (by omega) (tgT (by decide) (by decide)) (tg_Ke (by decide)) (nuXE_L12.trans (by rw [g4])) fun j hj => nuXE_B12 (by omega)
    · exact rowEq_T (n := p) (z := exW (keyW nk zk) nb zb) (isText_pin (own := true) (T := tg 8) (by simp) (tgT (by decide) (by decide)) (tg_Ke (by decide)) g2 nuXE_L8 fun j hj => nuXE_B8 (by omega)) (isText_pin (own := true) (T := tg 12) (by simp) (tgT (by decide) (by decide)) (tg_Ke (by decide)) g2 (nuXE_L12.trans (by rw [g4])) fun j hj => nuXE_B12 (by omega)) g2 (by omega)
  | 4, hv =>
    obtain ⟨g1, g2, g3, g4⟩ := (show m = (p : Int) ∧ 2000 < p ∧ p ≤ 8160 ∧ r = 2000 from hv)
    simp only [exRows, List.mem_cons, List.not_mem_nil, or_false] at hq
    rcases hq with rfl | rfl
    · exact rowEx_T (n := p) xk' xb' (nuXE_m.trans g1) (by omega) (by omega) (by omega) (tgT (by decide) (by decide)) (tg_Ke (by decide)) nuXE_L8 fun j hj => nuXE_B8 (by omega)
    · exact rowPEx_T (n := 2000) tk' tb' hbk hbb rfl (by omega) (by omega) (by decide) (by decide) (tgT (by decide) (by decide)) (tg_Ke (by decide)) (nuXE_L12.trans (by rw [g4])) fun j hj => nuXE_B12 (by omega)
end
/-! what is not played -/
noncomputable def xaNo (s u : Hd) (l : List Cm) : Bool := saysB ⟨[], l, []⟩ tree [] gl256 [] [] (s.gl0 64 ++ u.gl0 65) 66 60 4 8 [s.av0 64 300, u.av0 65 301, sI 302] (.b true)
theorem xa_no1 : ∀ u, xaNo .c u [(.gtr, .s 300, nA 1000, true)] = true := by intro u; cases u <;> kernel_rfl
theorem xa_no2 : ∀ s, xaNo s .c [(.gtr, .s 300, nA 1000, false), (.gtr, .s 301, nA 1000, true)] = true := by intro s; cases s <;> kernel_rfl
def nu3x (n b m : Int) : Nat → Int := fun k => if k = 300 then n else if k = 301 then b else m
theorem big_c {s : Hd} {n : Nat} (h : s.Fits n) (h0 : 0 < n) : s = .c := by
  cases s
  · have h9 : n = 0 := h
    omega
  · have h9 : n = 0 := h
    omega
  · rfl
theorem hd_need {s : Hd} {blk t n : Nat} (h : blk < n) (ht : 0 < t) : ∀ p ∈ s.gl blk (tg t), p.1 < n ∧ p.2.elem ≠ mapTag ∧ ∃ us, ∀ ν, concL ν p.2.cells = some us := fun p hp => by
  cases s
  · cases hp
  · cases hp
  · simp only [Hd.gl, List.mem_cons, List.not_mem_nil, or_false] at hp
    subst hp
    exact ⟨h, show tg t ≠ mapTag by unfold tg mapTag; omega, [], fun _ => rfl⟩
theorem macExact_law {W : World} (hL : Laid gl256 W) {vk : Value} {zs : List Int} (hvk : ReadsAs W .u8 vk zs) (hwk : ∀ z ∈ zs, (Lit.int .u8 z).wf = true) {vb : Value} {ys : List Int} (hvb : ReadsAs W .u8 vb ys) (hwb : ∀ z ∈ ys, (Lit.int .u8 z).wf = true) (m : Int) (_ : (Lit.int .i64 m).wf = true) :
    Calls Tryd.prog 8 #[vk, vb, .int .i64 m] W fun e W' => e = .returned (.bool true) ∧ Below W.heap.size W W' := by
  obtain ⟨s, nk, pk, ha, hbk⟩ := came_of hvk hwk
  obtain ⟨u, nb, pb, hb, hbb⟩ := came_of hvb hwb
  let gp : Nat → Option Pl := fun b => if b = 64 then pk else if b = 65 then pb else none
  have bad : ∀ l : List Cm, xaNo s u l = true → (∀ p ∈ l, compare p.1 (p.2.1.val (nu3x nk nb m)) (p.2.2.1.val (nu3x nk nb m)) = p.2.2.2) → Calls Tryd.prog 8 #[vk, vb, .int .i64 m] W fun e W' => e = .returned (.bool true) ∧ Below W.heap.size W W' := fun l hgo hl => by
    obtain ⟨va1, ga1⟩ := ha.here0 (ν := nu3x nk nb m) (gp := gp) (blk := 64) (k := 300) (by decide) rfl rfl
    obtain ⟨vb1, gb1⟩ := hb.here0 (ν := nu3x nk nb m) (gp := gp) (blk := 65) (k := 301) (by decide) rfl rfl
    refine yes_ofN (ν := nu3x nk nb m) (ρ := embF gp) (law_rowN gl256_ok (by decide) ⟨fun p hp => (by cases hp), hl, fun p hp => by cases hp⟩ (fun q hq => by cases hq) hgo (fun p hp => (List.mem_append.1 hp).elim (gl0_need (by decide) p) (gl0_need (by decide) p)) ?_) hL (fun p hp => (List.mem_append.1 hp).elim (ga1 p) (gb1 p)) (lr_of (vs := [vk, vb, .int .i64 m]) ⟨va1, vb1, .i .i64 (.s 302), trivial⟩)
    cases s <;> cases u <;> rfl
  by_cases c1 : 1000 < nk
  · have := big_c ha.fits (by omega)
    subst this
    refine bad _ (xa_no1 u) fun p hp => ?_
    simp only [List.mem_cons, List.not_mem_nil, or_false] at hp
    subst hp
    exact decide_eq_true (show (nk : Int) > ((1000 : Nat) : Int) by omega)
  have f1 : decide ((nk : Int) > ((1000 : Nat) : Int)) = false := decide_eq_false (by omega)
  by_cases c2 : 1000 < nb
  · have := big_c hb.fits (by omega)
    subst this
    refine bad _ (xa_no2 s) fun p hp => ?_
    simp only [List.mem_cons, List.not_mem_nil, or_false] at hp
    rcases hp with rfl | rfl
    · exact f1
    · exact decide_eq_true (show (nb : Int) > ((1000 : Nat) : Int) by omega)
  have fin : ∀ {v p r : Nat}, lenOk m p r v → (Nat.beq v 2 = true → m = 0) → xaGo s u v = true → Calls Tryd.prog 8 #[vk, vb, .int .i64 m] W fun e W' => e = .returned (.bool true) ∧ Below W.heap.size W W' := fun {v p r} hv hv2 hgo => by
    obtain ⟨va1, ga1⟩ := ha.here (ν := nuXE nk nb (fun i => zs.getD i 0) (fun i => ys.getD i 0) m p r) (gp := gp) (blk := 64) (T := tg 2) (by decide) rfl (tgT (by decide) (by decide)) (tg_Ke (by decide)) nuXE_L2 fun j hj => nuXE_B2 (by omega)
    obtain ⟨vb1, gb1⟩ := hb.here (ν := nuXE nk nb (fun i => zs.getD i 0) (fun i => ys.getD i 0) m p r) (gp := gp) (blk := 65) (T := tg 4) (by decide) rfl (tgT (by decide) (by decide)) (tg_Ke (by decide)) nuXE_L4 fun j hj => nuXE_B4 (by omega)
    have vm : VR (nuXE nk nb (fun i => zs.getD i 0) (fun i => ys.getD i 0) m p r) (embF gp) (if Nat.beq v 2 then iN 0 else sI 302) (.int .i64 m) := by
      cases c : Nat.beq v 2
      · exact vr_i nuXE_m
      · rw [hv2 c]
        exact .i .i64 (nA 0)
    refine yes_ofN (ν := nuXE nk nb (fun i => zs.getD i 0) (fun i => ys.getD i 0) m p r) (ρ := embF gp) (law_rowN gl256_ok (by decide) (xaF_hold ha.fits hb.fits (by omega) (by omega) hv) (xaM_ok ha.fits hb.fits hbk hbb (by omega) (by omega) hv) hgo (fun p hp => (List.mem_append.1 hp).elim (hd_need (by decide) (by decide) p) (hd_need (by decide) (by decide) p)) ?_) hL (fun p hp => ?_) (lr_of (vs := [vk, vb, .int .i64 m]) ⟨va1, vb1, vm, trivial⟩)
    · cases Nat.beq v 2 <;> cases s <;> cases u <;> rfl
    · rcases List.mem_append.1 hp with hp | hp
      · obtain ⟨q1, _, pl', q3, q4⟩ := ga1 p hp
        exact ⟨pl', by rw [q1]; exact (embF_other (by decide)).trans q3, q4.shut⟩
      · obtain ⟨q1, _, pl', q3, q4⟩ := gb1 p hp
        exact ⟨pl', by rw [q1]; exact (embF_other (by decide)).trans q3, q4.shut⟩
  by_cases d0 : m < 0
  · exact fin (v := 0) (p := 0) (r := 0) d0 (fun h => by cases h) (xa_go0 s u)
  by_cases d1 : 8160 < m
  · exact fin (v := 1) (p := 0) (r := 0) d1 (fun h => by cases h) (xa_go1 s u)
  by_cases d2 : m = 0
  · exact fin (v := 2) (p := 0) (r := 0) rfl (fun _ => d2) (xa_go2 s u)
  obtain ⟨k, rfl⟩ : ∃ k : Nat, m = (k : Int) := ⟨m.toNat, by omega⟩
  by_cases d3 : k ≤ 2000
  · exact fin (v := 3) (p := k) (r := k) ⟨rfl, by omega, d3, rfl⟩ (fun h => by cases h) (xa_go3 s u)
  · exact fin (v := 4) (p := k) (r := 2000) ⟨rfl, by omega, by omega, rfl⟩ (fun h => by cases h) (xa_go4 s u)

abbrev macExactLaid : List (String × DataW Unit) := Rows.macExactRow.laid
theorem macExact_met (os : Os) (args : Array Value) : laidMetH Tryd.prog macExactLaid ((World.doorLaid Tryd.prog 400 os).forCall (fun _ _ => 0) ⟨#[], args, []⟩).memory :=
  laidMetH_of_parts3 (fuel := 8) (laidMet_of_run' 8 (by kernel_rfl) (by kernel_rfl)) (by kernel_rfl) (by kernel_rfl)

theorem macExact_lifted (os : Os) (started : os.Started) (H : Type) (enc : TypeId × Value → H) :
    ReturnsInHanded {} Tryd.checked os 8 .any (fun w args => (Rows.macExactSpec.pre enc Tryd.prog Tryd.f8 [] false w args ∧ laidMetH Tryd.prog macExactLaid w) ∧ sizedMet enc Tryd.prog Tryd.f8 (OpenSpec.ofChange Rows.macExactSpec) false w args)
      (Rows.macExactSpec.post enc Tryd.prog Tryd.f8 false true false false) := by
  refine returnsInHanded_of_change_and (C := Tryd.checked) (X := fun w _ => laidMetH Tryd.prog macExactLaid w) (fun _ _ _ hh h => h.of_heap hh) own started (by kernel_rfl) Tryd.func8
    (ChangeSpec.witness_shaped (enc := enc) (C := Tryd.checked) (os := os) (X := fun w _ => laidMetH Tryd.prog macExactLaid w) false (World.doorLaid Tryd.prog 400 os) #[.slice none 0 0, .slice none 0 0, .int .i64 0] 8 rfl (World.shaped_of_RefB (by kernel_rfl) (by kernel_rfl)) (by kernel_rfl) (by kernel_rfl) (by kernel_rfl) (macExact_met os _)) ?_
  intro W base args ds gs before hval0 hW _ _ hL _
  have hval : ∀ (j : Nat) t v, Tryd.f8.params[j]? = some t → args[j]? = some v → Value.okWide Tryd.prog W .any base t v := hval0
  have hW' := hW
  obtain ⟨p, q, hA0, hV, rfl, hfz, hnd⟩ := hW
  have hA : DataW.TrodAll enc Tryd.prog W 0 (fun _ => true) true Tryd.f8.params.toList args.toList ds p := hA0
  rw [Tryd.params8] at hA hval
  obtain ⟨v0, vs0, d0, ds0, p0, q0, hargs, rfl, rfl, h0, r0⟩ := trodAll_cons hA
  obtain ⟨v1, vs1, d1, ds1, p1, q1, rfl, rfl, rfl, h1, r1⟩ := trodAll_cons r0
  obtain ⟨v2, vs2, d2, ds2, p2, q2, rfl, rfl, rfl, h2, r2⟩ := trodAll_cons r1
  obtain ⟨rfl, rfl, rfl⟩ := trodAll_nil r2
  obtain rfl : args = #[v0, v1, v2] := by cases args; simp_all
  obtain ⟨rfl, rfl⟩ := trodVars_none hV
  obtain ⟨z0, k0, w0, _⟩ := reads_open Tryd.underlying22 Tryd.underlying5 cells1 (hval 0 _ v0 rfl rfl) h0
  obtain ⟨z1, k1, w1, _⟩ := reads_open Tryd.underlying22 Tryd.underlying5 cells1 (hval 1 _ v1 rfl rfl) h1
  obtain ⟨a2, rfl, rfl, rfl, b2⟩ := open_int Tryd.underlying3 (hval 2 _ v2 rfl rfl) h2
  have s2 := plain_int (H := H) Tryd.underlying3 b2
  clear hA0 hval0
  simp only [List.append_nil, List.nil_append] at hW'
  have hlt : ∀ x ∈ p0 ++ p1, x.block < W.heap.size := fun x hx => hW'.lt x hx
  refine (macExact_law (laidT hL) k0 w0 k1 w1 a2 b2).mono fun e W' ⟨he, hg⟩ => ?_
  subst he
  exact ⟨_, rfl, post_below (pa := p0 ++ p1) (pv := []) hW' (fun _ _ _ => trodAll_cons_mk (shut_bool Tryd.underlying4 _) trodAll_mk0) (fun sp hsp => (by have hh := (trodAll_cons_mk (kept_arg laidOut (by kernel_rfl) (of_decide_eq_true (by kernel_rfl)) h0 hg (fun x hx => hlt x (by simp [hx])) (fun x hx => hsp x (by simp [hx]))) (trodAll_cons_mk (kept_arg laidOut (by kernel_rfl) (of_decide_eq_true (by kernel_rfl)) h1 hg (fun x hx => hlt x (by simp [hx])) (fun x hx => hsp x (by simp [hx]))) (trodAll_cons_mk (s2 _ _ _ _ _) trodAll_mk0))); simp only [List.append_nil] at hh; exact hh)) (fun _ _ => rfl) (by simp)
    hg (ok_one (by kernel_rfl) rfl (okWide_bool_mk Tryd.underlying4 _))⟩

theorem macExact_over : Rows.MacExactSaid :=
  OpenClaim.holds_of_wide 8 Tryd.f8 rfl rfl rfl rfl rfl rfl rfl ⟨rfl, rfl, rfl, rfl, rfl⟩ rfl rfl rfl rfl rfl (by kernel_rfl) Tryd.func8 (by kernel_rfl)
    (of_decide_eq_true (by kernel_rfl)) (by unfold Func.isWrapper; first | (rw [if_pos (by decide +kernel)]; kernel_rfl) | (rw [if_neg (by decide +kernel)]; exact ⟨rfl, rfl⟩))
    (fun os started H enc _ => macExact_lifted os started H enc)

/-- THE STATEMENT. -/
theorem macExact_holds : Rows.MacExactCardSaid :=
  Claim7.holds_tied_plain_at .later [] [.data, .data] true (true, "eacd4a9b634becba1168d16158cd96469b7c30e91a6ec0f5f91653d0d1963b9e") false
    macExact_over (fun _ h => by cases h) (by kernel_rfl) (fun _ h => by cases h) macExact_row_tie rfl ⟨rfl, rfl⟩ (by kernel_rfl) rfl
    (fun f fn hf hfn => by
      obtain rfl : f = 8 := Option.some.inj ((show Tryd.prog.funcNamed "tryst/trystlaw02.MacExact" = some 8 by kernel_rfl).symm.trans hf) |>.symm
      obtain rfl : fn = Tryd.f8 := (Option.some.inj (Tryd.func8.symm.trans hfn)).symm
      exact ⟨by kernel_rfl, fun j t ht => by
        rw [Tryd.params8] at ht
        have hm : t ∈ [22, 22, 3] := by simpa using Array.mem_of_getElem? ht
        have hall : ([22, 22, 3].all fun u => !Tryd.prog.wantsStandIn u) = true := by kernel_rfl
        exact (show Tryd.prog.wantsStandIn t = false by simpa using List.all_eq_true.1 hall t hm)⟩)
    (by kernel_rfl)
#print axioms macExact_holds
end Go.Proofs.YtjdcaipgfolgoaaDoor

/-
  ChachaBack: for all its arguments the law returns true. Conditions: none.
-/
import Derived.Test.YtakegcfpbacefaaQj
namespace Go.Proofs.Ytakegcfpbacefaa
open Go.Sh
open Go.ChangeShapes Go.WideShapes Go.ChangeAt Go.RowKit
set_option maxRecDepth 100000

abbrev Cm := BinOp × AI × AI × Bool
def lA (t : Nat) : AI := .s (pinL (tg t))
def bkArgs (x : AV) : List AV := [kyS, ctS, noS, x, .i .i64 (.s 302)]
def rX (x : AV) (need : Gl) (ct : AI) (T : Nat) : RowM := rowXor 10 (nmA 0) (nmA 32) ct x need (tg T)
/-! the end, alike for all: seventy noughts and two blocks, from block n on -/
def zoB (b : Nat) : Nat × ABlk := (b, ⟨rowC .u8 zeroA 70, eU, true⟩)
def ob (b o : Nat) : Nat × ABlk := (b, ⟨rowC .u8 (nmA o) 64, e64, true⟩)
def c1A : AI := .e .add .u32 (.s 44) (nA 1)
def endT : List Row := [⟨6, [kyS, ctS, noS], .ag (rowC .u8 (nmA 100) 64)⟩, ⟨6, [kyS, .i .u32 c1A, noS], .ag (rowC .u8 (nmA 200) 64)⟩, rowWk]
def endM (n : Nat) : List RowM := [rX (.sl n 0 (nA 70) (.ex 70)) [zoB n] (.s 44) 20, rowEq (.sl (n + 1) 0 (nA 64) .any) (.sl (n + 2) 0 (nA 64) (.ex 64)) [pn (n + 1) 20, ob (n + 2) 100], rowEq (.sl (n + 1) 64 (nA 6) .any) (.sl (n + 3) 0 (nA 6) (.ex 64)) [pn (n + 1) 20, ob (n + 3) 200]]
def endC : List Cm := [(.neq, lA 20, nA 70, false), (.leq, nA 64, lA 20, true), (.lss, nA 64, lA 20, true), (.lss, lA 20, .c 1099511627776, true)]
def endV : List (AI × Int) := [(.e .sub .i64 (lA 20) (nA 64), 6)]
/-! of nothing -/
def remA (d : AI) : AI := .e .rem .u64 (.w .u64 (.s 302)) d
def fE0 : Facts := ⟨(remA (nA 1), 0) :: endV, endC, []⟩
noncomputable def bkE (x : AV) (n : Nat) : Bool := saysB fE0 tree endT [] [] (endM n) [] 64 60 4 4 (bkArgs x) (.b true)
/-! of some -/
def divA : AI := .w .u64 (.e .add .i64 (.e .quo .i64 (lA 2) (nA 64)) (nA 1))
def base : List Cm := [(.gtr, lA 2, nA 2000, false), (.neq, lA 6, lA 2, false), (.neq, divA, .c 0, true), (.lss, lA 2, .c 1099511627776, true)]
def rowN (t : Nat) : List Cm := [(.gtr, lA t, .c 0, true), (.lss, lA t, .c 1099511627776, true)]
def endR (t : Nat) : List Cm := [(.eql, .s (pinA (tg t)), lA t, true), (.lss, lA t, .c 1099511627776, true)]
def first2 : List RowM := [rX (ps 64 2) [pn 64 2] (.s 44) 6, rX (ps 67 6) [pn 67 6] (.s 44) 8, rowEq (ps 68 8) (ps 64 2) [pn 68 8, pn 64 2]]
def ctQ (q : Nat) : AI := .e .add .u32 (.s 44) (nA q)
/-- The cut is ahead of the end. -/
def fG (q : Nat) : Facts := ⟨(remA divA, (q : Int)) :: endV, base ++ ([(.leq, nA (64 * q), lA 2, true), (.lss, nA (64 * q), lA 2, true)] ++ (rowN 10 ++ (rowN 12 ++ (endR 14 ++ (endR 16 ++ endC))))), [(0, [], tg 10, tg 14), (tg 14, [], tg 12, tg 16)]⟩
def tail (q : Nat) : AI := .e .sub .i64 (lA 2) (nA (64 * q))
def wO (b t : Nat) : Nat × ABlk := (b, ⟨[], wg t, true⟩)
def gM (q : Nat) : List RowM := first2 ++ ([rX (.sl 64 0 (nA (64 * q)) .any) [pn 64 2] (.s 44) 10, rX (.sl 64 (64 * q) (tail q) .any) [pn 64 2] (ctQ q) 12, rowEq (slE 72 (tg 16) 0) (ps 67 6) [wO 72 16, pn 67 6]] ++ endM 73)
noncomputable def bkG (q : Nat) : Bool := saysB (fG q) tree endT [] [] (gM q) [pn 64 2] 65 60 4 4 (bkArgs (ps 64 2)) (.b true)
/-- The cut is the end. -/
def fF (q : Nat) : Facts := ⟨(remA divA, (q : Int)) :: endV, base ++ ([(.leq, nA (64 * q), lA 2, true), (.lss, nA (64 * q), lA 2, false), (.eql, nA (64 * q), lA 2, true)] ++ (rowN 10 ++ (endR 14 ++ endC))), [(0, [], tg 10, tg 14)]⟩
def fM (q : Nat) : List RowM := first2 ++ ([rX (.sl 64 0 (nA (64 * q)) .any) [pn 64 2] (.s 44) 10, rowEq (slE 74 (tg 14) 0) (ps 67 6) [wO 74 14, pn 67 6]] ++ endM 75)
noncomputable def bkF (q : Nat) : Bool := saysB (fF q) tree endT [] [] (fM q) [pn 64 2] 65 60 4 4 (bkArgs (ps 64 2)) (.b true)
/-- The cut is the beginning. -/
def fZ : Facts := ⟨(remA divA, 0) :: endV, base ++ ([(.leq, .c 0, lA 2, true), (.lss, .c 0, lA 2, true)] ++ (rowN 12 ++ (endR 16 ++ endC))), [(0, [], tg 12, tg 16)]⟩
def zMz : List RowM := first2 ++ ([rX (.sl 64 0 (tail 0) .any) [pn 64 2] (ctQ 0) 12, rowEq (slE 74 (tg 16) 0) (ps 67 6) [wO 74 16, pn 67 6]] ++ endM 75)
noncomputable def bkZ0 : Bool := saysB fZ tree endT [] [] zMz [pn 64 2] 65 60 4 4 (bkArgs (ps 64 2)) (.b true)
theorem bk_E1 : bkE .nsl 82 = true := by kernel_rfl
theorem bk_E2 : bkE (.sle false) 82 = true := by kernel_rfl
theorem bk_G : (List.range 31).all (fun q => bkG (q + 1)) = true := by kernel_rfl
theorem bk_F : (List.range 31).all (fun q => bkF (q + 1)) = true := by kernel_rfl
theorem bk_Z : bkZ0 = true := by kernel_rfl
theorem bk_over : saysB ⟨[], [(.gtr, .s 301, nA 2000, true)], []⟩ tree [] [] [] [] (Hd.gl0 64 .c) 65 60 4 4 (bkArgs (Hd.av0 64 301 .c)) (.b true) = true := by kernel_rfl
/-! numbers -/
theorem of_xor (a b : Int) : BitVec.ofInt 8 (arith .xor .u8 a b) = BitVec.ofInt 8 a ^^^ BitVec.ofInt 8 b := by
  show BitVec.ofInt 8 (IntKind.u8.wrap (((BitVec.ofInt 8 a ^^^ BitVec.ofInt 8 b).toNat : Nat) : Int)) = _
  rw [w_u8, Nat.mod_eq_of_lt (BitVec.isLt _)]
  generalize BitVec.ofInt 8 a ^^^ BitVec.ofInt 8 b = v
  simp
theorem xor_twice {a : Nat} (k : Int) (ha : a < 256) : arith .xor .u8 (arith .xor .u8 (a : Int) k) k = (a : Int) := by
  show IntKind.u8.wrap (((BitVec.ofInt 8 (arith .xor .u8 (a : Int) k) ^^^ BitVec.ofInt 8 k).toNat : Nat) : Int) = _
  rw [of_xor, BitVec.xor_assoc, BitVec.xor_self, BitVec.xor_zero, w_u8]
  have : (BitVec.ofInt 8 (a : Int)).toNat = a := by simp; omega
  rw [this, Nat.mod_eq_of_lt ha]
theorem xor_nought {a : Nat} (ha : a < 256) : arith .xor .u8 0 (a : Int) = (a : Int) := by
  show IntKind.u8.wrap (((BitVec.ofInt 8 0 ^^^ BitVec.ofInt 8 (a : Int)).toNat : Nat) : Int) = _
  have h0 : BitVec.ofInt 8 0 = 0#8 := rfl
  rw [h0, BitVec.zero_xor, w_u8]
  have : (BitVec.ofInt 8 (a : Int)).toNat = a := by simp; omega
  rw [this, Nat.mod_eq_of_lt ha]
theorem wrap32 (x : Int) : IntKind.u32.wrap x = x % 4294967296 := by
  simp only [IntKind.wrap, IntKind.bits, IntKind.signed]
  simp
theorem ctI_val {c : Int} (h0 : 0 ≤ c) (h1 : c < 4294967296) : ∀ q, ctI c q = (c + (q : Int)) % 4294967296
  | 0 => by show c = _; omega
  | q + 1 => by
    show IntKind.u32.wrap (ctI c q + ((1 : Nat) : Int)) = _
    rw [wrap32, ctI_val h0 h1 q]
    omega
theorem ctI_add {c : Int} (h0 : 0 ≤ c) (h1 : c < 4294967296) (q i : Nat) : ctI (arith .add .u32 c ((q : Nat) : Int)) i = ctI c (q + i) := by
  have e : arith .add .u32 c ((q : Nat) : Int) = (c + (q : Int)) % 4294967296 := wrap32 _
  rw [e, ctI_val (by omega) (by omega), ctI_val h0 h1]
  omega
theorem xor_suffix {K Nn z : Wd} {c : Int} (h0 : 0 ≤ c) (h1 : c < 4294967296) (q j : Nat) : xorW K (arith .add .u32 c ((q : Nat) : Int)) Nn (fun j => z (64 * q + j)) j = xorW K c Nn z (64 * q + j) := by
  unfold xorW
  rw [ctI_add h0 h1, show (64 * q + j) / 64 = q + j / 64 by omega, show (64 * q + j) % 64 = j % 64 by omega]
/-! names -/
def loB (K : Wd) (c : Int) (Nn : Wd) (n : Nat) (B : Int) : Nat → Int := fun k => if k < 32 then K k else if k < 44 then Nn (k - 32) else if k = 44 then c else if k < 100 then 0 else if k < 164 then blkI K c Nn (k - 100) else if k < 200 then 0 else if k < 264 then blkI K (ctI c 1) Nn (k - 200) else if k = 301 then (n : Int) else B
def lnB (n q t : Nat) : Nat := if t = 10 ∨ t = 14 then 64 * q else if t = 12 then n - 64 * q else if t = 20 then 70 else n
def zB (K : Wd) (c : Int) (Nn z : Wd) (q t : Nat) : Wd := if t = 2 then z else if t = 8 then z else if t = 12 then fun j => xorW K c Nn z (64 * q + j) else if t = 20 then xorW K c Nn fun _ => 0 else xorW K c Nn z
def nuBk (K : Wd) (c : Int) (Nn : Wd) (n : Nat) (z : Wd) (q : Nat) (B : Int) : Nat → Int := nuR (loB K c Nn n B) (lnB n q) (lnB n q) (zB K c Nn z q)
theorem zB_x {K : Wd} {c : Int} {Nn z : Wd} {q t : Nat} (h : t ≠ 2 ∧ t ≠ 8 ∧ t ≠ 12 ∧ t ≠ 20) (j : Nat) : zB K c Nn z q t j = xorW K c Nn z j := by
  unfold zB
  rw [if_neg h.1, if_neg h.2.1, if_neg h.2.2.1, if_neg h.2.2.2]
/-- A part of a row that is but read. -/
theorem isText_pinG {ν : Nat → Int} {need : Gl} {b T n off m : Nat} {cap : Cap} {z : Wd} {own : Bool} {l : AI} (hm : (b, ⟨[], T, own⟩) ∈ need) (hT : mapTag < T ∧ T ≤ winTag) (hK : pinK T = .u8) (h0 : 0 < m) (hl : l.val ν = (m : Int)) (hle : off + m ≤ n) (hL : ν (pinL T) = (n : Int)) (hB : ∀ j, j < m → ν (pinB T (off + j)) = z j) : IsText ν need (.sl b off l cap) m z := by
  intro ρ w u hnd hu
  obtain ⟨pl, q1, q2⟩ := hnd _ hm
  have q1 : ρ b = some pl := q1
  have hp : Sh.Pinned ν w T pl := (if_pos hT.2 : (if T ≤ winTag then Sh.Pinned ν w T pl else Windowed ν w (T - mapTag) 0 pl) = _).mp (q2.pin hT.1)
  obtain ⟨C2, ty2, fz2, r1, r2⟩ := hp
  cases hu
  rename_i q m' c2 hle2 hq hnn hcap
  have hq : ρ b = some q := hq
  rw [q1] at hq
  cases hq
  rw [hl] at hnn
  have hm' : m = m' := by omega
  subst hm'
  refine .inr ⟨h0, pl.cb, pl.co + off, c2, rfl, hle2, C2, ty2, fz2, r1, fun j hj => ?_⟩
  have h9 : C2[pl.co + (off + j)]? = some (.int (pinK T) (ν (pinB T (off + j)))) := r2 (off + j) (by show ((off + j : Nat) : Int) < ν (pinL T); omega)
  rw [Nat.add_assoc, h9, hK, hB j hj]
theorem lst_same {ν : Nat → Int} {T T' n : Nat} {g : Wd} (h : ν (pinL T) = (n : Int)) (h' : ν (pinL T') = (n : Int)) (hb : ∀ j, j < n → ν (pinB T j) = g j) (hb' : ∀ j, j < n → ν (pinB T' j) = g j) : lst ν T = lst ν T' := by
  unfold lst
  rw [h, h', Int.toNat_natCast]
  exact List.map_congr_left fun j hj => by rw [hb j (List.mem_range.1 hj), hb' j (List.mem_range.1 hj)]
theorem gtr_not {x : AI} {ν : Nat → Int} {n m : Nat} (h : x.val ν = (n : Int)) (hm : n ≤ m) : compare .gtr (x.val ν) ((nA m).val ν) = false := by
  rw [h]
  exact decide_eq_false (show ¬ (n : Int) > (m : Int) by omega)
theorem neq_same {x y : AI} {ν : Nat → Int} {n : Int} (h : x.val ν = n) (h' : y.val ν = n) : compare .neq (x.val ν) (y.val ν) = false := by
  rw [h, h']
  show (n != n) = false
  simp
theorem lss_t {a b : Int} (h : a < b) : compare .lss a b = true := decide_eq_true h
theorem gtr_t {a b : Int} (h : a > b) : compare .gtr a b = true := decide_eq_true h
theorem cmp_t {op : BinOp} {x y : AI} {ν : Nat → Int} {a b : Int} {t : Bool} (h : x.val ν = a) (h' : y.val ν = b) (hc : compare op a b = t) : compare op (x.val ν) (y.val ν) = t := by
  rw [h, h']
  exact hc
section
variable {K Nn z : Wd} {c : Int} {n q : Nat} {B : Int}
theorem nuBk_K {j : Nat} (h : j < 32) : nuBk K c Nn n z q B j = K j := (nuR_lo (by omega)).trans (if_pos h)
theorem nuBk_N {j : Nat} (h : j < 12) : nuBk K c Nn n z q B (32 + j) = Nn j := by
  refine (nuR_lo (by omega)).trans ?_
  unfold loB
  rw [if_neg (by omega), if_pos (by omega), Nat.add_sub_cancel_left]
theorem nuBk_c : nuBk K c Nn n z q B 44 = c := (nuR_lo (by decide)).trans rfl
theorem nuBk_1 {j : Nat} (h : j < 64) : nuBk K c Nn n z q B (100 + j) = blkI K c Nn j := by
  refine (nuR_lo (by omega)).trans ?_
  unfold loB
  rw [if_neg (by omega), if_neg (by omega), if_neg (by omega), if_neg (by omega), if_pos (by omega), Nat.add_sub_cancel_left]
theorem nuBk_2 {j : Nat} (h : j < 64) : nuBk K c Nn n z q B (200 + j) = blkI K (ctI c 1) Nn j := by
  refine (nuR_lo (by omega)).trans ?_
  unfold loB
  rw [if_neg (by omega), if_neg (by omega), if_neg (by omega), if_neg (by omega), if_neg (by omega), if_neg (by omega), if_pos (by omega), Nat.add_sub_cancel_left]
theorem nuBk_n : nuBk K c Nn n z q B 301 = n := (nuR_lo (by decide)).trans rfl
theorem nuBk_B : nuBk K c Nn n z q B 302 = B := (nuR_lo (by decide)).trans rfl
theorem nuBk_L {t : Nat} (ht : 0 < t) : nuBk K c Nn n z q B (pinL (tg t)) = (lnB n q t : Int) := nuR_L ht
theorem nuBk_A {t : Nat} (ht : 0 < t) : nuBk K c Nn n z q B (pinA (tg t)) = (lnB n q t : Int) := nuR_A ht
theorem nuBk_R {t j : Nat} (ht : 0 < t) (hj : j < 1099511627774) : nuBk K c Nn n z q B (pinB (tg t) j) = zB K c Nn z q t j := nuR_B ht hj
theorem lA_val {t : Nat} (ht : 0 < t) : (lA t).val (nuBk K c Nn n z q B) = (lnB n q t : Int) := nuBk_L ht
/-- A call of Xor: of a text that is there. -/
theorem bx_ok {x : AV} {need : Gl} {ct : AI} {T m : Nat} {y : Wd} (hx : IsText (nuBk K c Nn n z q B) need x m y) (h0 : 0 < m) (hm : m ≤ 2000) (hT : 0 < T) (hT9 : T < 1000) (hTe : T % 2 = 0) (hl : lnB n q T = m) (hz : ∀ j, j < m → zB K c Nn z q T j = xorW K (ct.val (nuBk K c Nn n z q B)) Nn y j) : (rX x need ct T).Ok (nuBk K c Nn n z q B) Try.prog [] := by
  refine rowXor_ok xorC hx h0 (by omega) (tgT hT hT9) (tg_Ke hTe) ((nuBk_L hT).trans (by rw [hl])) fun j hj => ?_
  rw [nuBk_R hT (by omega), hz j hj]
  exact xorW_congr (fun j hj => by rw [nm_val, Nat.zero_add, nuBk_K hj]) rfl (fun j hj => by rw [nm_val, nuBk_N hj]) rfl
theorem pt {b t : Nat} {need : Gl} (hm : pn b t ∈ need) (h1 : 0 < t) (h2 : t < 1000) (h3 : t % 2 = 0) (h0 : 0 < lnB n q t) (hn : lnB n q t ≤ 2000) : IsText (nuBk K c Nn n z q B) need (ps b t) (lnB n q t) (zB K c Nn z q t) :=
  isText_pin hm (tgT h1 h2) (tg_Ke h3) h0 (nuBk_L h1) fun j hj => nuBk_R h1 (by omega)
theorem endT_ok (h0 : 0 ≤ c) : ∀ r ∈ endT, r.Ok (nuBk K c Nn n z q B) Try.prog := by
  have _ := h0
  intro r hr
  simp only [endT, List.mem_cons, List.not_mem_nil, or_false] at hr
  rcases hr with rfl | rfl | rfl
  · refine rowBlk Block_ok (ct := .s 44) (ka := nmA 0) (no := nmA 32) fun j hj => ?_
    rw [nm_val, nuBk_1 hj]
    show _ = blkI _ (nuBk K c Nn n z q B 44) _ j
    rw [nuBk_c]
    exact blkI_congr (fun j hj => by rw [nm_val, Nat.zero_add, nuBk_K hj]) (fun j hj => by rw [nm_val, nuBk_N hj]) hj
  · refine rowBlk Block_ok (ct := c1A) (ka := nmA 0) (no := nmA 32) fun j hj => ?_
    rw [nm_val, nuBk_2 hj]
    show _ = blkI _ (arith .add .u32 (nuBk K c Nn n z q B 44) ((1 : Nat) : Int)) _ j
    rw [nuBk_c]
    exact blkI_congr (fun j hj => by rw [nm_val, Nat.zero_add, nuBk_K hj]) (fun j hj => by rw [nm_val, nuBk_N hj]) hj
  · exact rowWk_ok
theorem blk_byte (K : Wd) (c : Int) (Nn : Wd) (j : Nat) : ∃ b : Nat, blkI K c Nn j = (b : Int) ∧ b < 256 := wrap_u8 _
theorem zo_val {j : Nat} : xorW K c Nn (fun _ => 0) j = blkI K (ctI c (j / 64)) Nn (j % 64) := by
  unfold xorW
  obtain ⟨b, hb, hlt⟩ := blk_byte K (ctI c (j / 64)) Nn (j % 64)
  rw [hb, xor_nought hlt]
theorem endM_ok (m : Nat) : ∀ r ∈ endM m, r.Ok (nuBk K c Nn n z q B) Try.prog [] := by
  have l20 : lnB n q 20 = 70 := rfl
  have z20 : ∀ j, zB K c Nn z q 20 j = blkI K (ctI c (j / 64)) Nn (j % 64) := fun j => (show zB K c Nn z q 20 j = xorW K c Nn (fun _ => 0) j from rfl).trans zo_val
  intro r hr
  simp only [endM, List.mem_cons, List.not_mem_nil, or_false] at hr
  rcases hr with rfl | rfl | rfl
  · refine bx_ok (y := fun _ => 0) (isText_row (off := 0) (n := 70) (f := zeroA) List.mem_cons_self (by decide) (by decide) (by decide) fun j _ => rfl) (by decide) (by decide) (by decide) (by decide) (by decide) l20 fun j _ => ?_
    show _ = xorW K (nuBk K c Nn n z q B 44) Nn _ j
    rw [nuBk_c]
    rfl
  · refine rowEq_T (n := 64) (z := blkI K c Nn) (isText_pinG (n := 70) (l := nA 64) List.mem_cons_self (tgT (by decide) (by decide)) (tg_Ke (by decide)) (by decide) rfl (by decide) (nuBk_L (by decide)) fun j hj => ?_) (isText_row (off := 0) (n := 64) (f := nmA 100) (e := e64) (own := true) (by simp [ob]) (by decide) (by decide) (by decide) fun j hj => ?_) (by decide) (by decide)
    · rw [nuBk_R (by decide) (by omega), z20, show (0 + j) / 64 = 0 by omega, show (0 + j) % 64 = j by omega]
      rfl
    · rw [Nat.zero_add, nm_val, nuBk_1 hj]
  · refine rowEq_T (n := 6) (z := blkI K (ctI c 1) Nn) (isText_pinG (n := 70) (l := nA 6) List.mem_cons_self (tgT (by decide) (by decide)) (tg_Ke (by decide)) (by decide) rfl (by decide) (nuBk_L (by decide)) fun j hj => ?_) (isText_row (off := 0) (n := 64) (f := nmA 200) (e := e64) (own := true) (by simp [ob]) (by decide) (by decide) (by decide) fun j hj => ?_) (by decide) (by decide)
    · rw [nuBk_R (by decide) (by omega), z20, show (64 + j) / 64 = 1 by omega, show (64 + j) % 64 = j by omega]
    · rw [Nat.zero_add, nm_val, nuBk_2 (by omega)]
theorem endV_hold : ∀ p ∈ endV, p.1.val (nuBk K c Nn n z q B) = p.2 := by
  intro p hp
  simp only [endV, List.mem_cons, List.not_mem_nil, or_false] at hp
  subst hp
  show IntKind.i64.wrap ((lA 20).val (nuBk K c Nn n z q B) - ((64 : Nat) : Int)) = 6
  rw [lA_val (by decide)]
  rfl
theorem endC_hold : ∀ p ∈ endC, compare p.1 (p.2.1.val (nuBk K c Nn n z q B)) (p.2.2.1.val (nuBk K c Nn n z q B)) = p.2.2.2 := by
  have e : (lA 20).val (nuBk K c Nn n z q B) = ((70 : Nat) : Int) := lA_val (by decide)
  intro p hp
  simp only [endC, List.mem_cons, List.not_mem_nil, or_false] at hp
  rcases hp with rfl | rfl | rfl | rfl
  · exact neq_same e rfl
  · exact cmp_t rfl e rfl
  · exact cmp_t rfl e rfl
  · exact cmp_t e rfl rfl
theorem first2_ok (h0 : 0 < n) (hn : n ≤ 2000) (hb : Bytes z n) : ∀ r ∈ first2, r.Ok (nuBk K c Nn n z q B) Try.prog [] := by
  intro r hr
  simp only [first2, List.mem_cons, List.not_mem_nil, or_false] at hr
  rcases hr with rfl | rfl | rfl
  · refine bx_ok (m := n) (y := z) (pt (t := 2) List.mem_cons_self (by decide) (by decide) (by decide) h0 hn) h0 hn (by decide) (by decide) (by decide) rfl fun j _ => ?_
    show _ = xorW K (nuBk K c Nn n z q B 44) Nn _ j
    rw [nuBk_c]
    rfl
  · refine bx_ok (m := n) (y := xorW K c Nn z) (pt (t := 6) List.mem_cons_self (by decide) (by decide) (by decide) h0 hn) h0 hn (by decide) (by decide) (by decide) rfl fun j hj => ?_
    show z j = xorW K (nuBk K c Nn n z q B 44) Nn _ j
    rw [nuBk_c]
    unfold xorW
    obtain ⟨b, hz, hlt⟩ := hb j hj
    rw [hz, xor_twice _ hlt]
  · exact rowEq_T (n := n) (z := z) (pt (t := 8) (by simp) (by decide) (by decide) (by decide) h0 hn) (pt (t := 2) (by simp) (by decide) (by decide) (by decide) h0 hn) h0 (by omega)
theorem div_val (hn : n ≤ 2000) : divA.val (nuBk K c Nn n z q B) = ((n / 64 + 1 : Nat) : Int) := by
  have e : (lA 2).val (nuBk K c Nn n z q B) = ((n : Nat) : Int) := lA_val (by decide)
  have e1 : (AI.e .quo .i64 (lA 2) (nA 64)).val (nuBk K c Nn n z q B) = ((n / 64 : Nat) : Int) := by
    show IntKind.i64.wrap (((lA 2).val (nuBk K c Nn n z q B)).tdiv ((64 : Nat) : Int)) = _
    rw [e, show ((n : Nat) : Int).tdiv ((64 : Nat) : Int) = ((n / 64 : Nat) : Int) from rfl]
    exact i64_small (by omega) (by omega)
  have e2 : (AI.e .add .i64 (.e .quo .i64 (lA 2) (nA 64)) (nA 1)).val (nuBk K c Nn n z q B) = ((n / 64 + 1 : Nat) : Int) := by
    show IntKind.i64.wrap ((AI.e .quo .i64 (lA 2) (nA 64)).val (nuBk K c Nn n z q B) + ((1 : Nat) : Int)) = _
    rw [e1, i64_small (by omega) (by omega)]
    omega
  show IntKind.u64.wrap ((AI.e .add .i64 (.e .quo .i64 (lA 2) (nA 64)) (nA 1)).val (nuBk K c Nn n z q B)) = _
  rw [e2]
  exact w_u64 (by omega)
theorem base_hold (h0 : 0 < n) (hn : n ≤ 2000) : ∀ p ∈ base, compare p.1 (p.2.1.val (nuBk K c Nn n z q B)) (p.2.2.1.val (nuBk K c Nn n z q B)) = p.2.2.2 := by
  have _ := h0
  have e2 : (lA 2).val (nuBk K c Nn n z q B) = ((n : Nat) : Int) := lA_val (by decide)
  have e6 : (lA 6).val (nuBk K c Nn n z q B) = ((n : Nat) : Int) := lA_val (by decide)
  intro p hp
  simp only [base, List.mem_cons, List.not_mem_nil, or_false] at hp
  rcases hp with rfl | rfl | rfl | rfl
  · exact gtr_not e2 hn
  · exact neq_same e6 e2
  · refine cmp_t (div_val hn) rfl ?_
    show (((n / 64 + 1 : Nat) : Int) != 0) = true
    exact bne_iff_ne.2 (by omega)
  · exact cmp_t (b := 1099511627776) e2 rfl (lss_t (by omega))
theorem rowN_hold {t : Nat} (ht : 0 < t) (h0 : 0 < lnB n q t) (h1 : lnB n q t ≤ 2000) : ∀ p ∈ rowN t, compare p.1 (p.2.1.val (nuBk K c Nn n z q B)) (p.2.2.1.val (nuBk K c Nn n z q B)) = p.2.2.2 := by
  have e := lA_val (K := K) (c := c) (Nn := Nn) (n := n) (z := z) (q := q) (B := B) ht
  intro p hp
  simp only [rowN, List.mem_cons, List.not_mem_nil, or_false] at hp
  rcases hp with rfl | rfl
  · exact cmp_t (b := 0) e rfl (gtr_t (by omega))
  · exact cmp_t (b := 1099511627776) e rfl (lss_t (by omega))
theorem endR_hold {t : Nat} (ht : 0 < t) (h1 : lnB n q t ≤ 2000) : ∀ p ∈ endR t, compare p.1 (p.2.1.val (nuBk K c Nn n z q B)) (p.2.2.1.val (nuBk K c Nn n z q B)) = p.2.2.2 := by
  have e := lA_val (K := K) (c := c) (Nn := Nn) (n := n) (z := z) (q := q) (B := B) ht
  have e2 : (AI.s (pinA (tg t))).val (nuBk K c Nn n z q B) = (lnB n q t : Int) := nuBk_A ht
  intro p hp
  simp only [endR, List.mem_cons, List.not_mem_nil, or_false] at hp
  rcases hp with rfl | rfl
  · refine cmp_t e2 e ?_
    show (((lnB n q t : Nat) : Int) == ((lnB n q t : Nat) : Int)) = true
    exact beq_self_eq_true _
  · exact cmp_t (b := 1099511627776) e rfl (lss_t (by omega))
theorem app_hold {A C : List Cm} {ν : Nat → Int} (ha : ∀ p ∈ A, compare p.1 (p.2.1.val ν) (p.2.2.1.val ν) = p.2.2.2) (hc : ∀ p ∈ C, compare p.1 (p.2.1.val ν) (p.2.2.1.val ν) = p.2.2.2) : ∀ p ∈ A ++ C, compare p.1 (p.2.1.val ν) (p.2.2.1.val ν) = p.2.2.2 := fun p hp => (List.mem_append.1 hp).elim (ha p) (hc p)
/-- What is left of that number. -/
theorem rem_val {d : AI} {m r : Nat} {X : Nat} (hX : IntKind.u64.wrap B = (X : Int)) (hd : d.val (nuBk K c Nn n z q B) = ((m : Nat) : Int)) (hr : X % m = r) : (remA d).val (nuBk K c Nn n z q B) = (r : Int) := by
  show (IntKind.u64.wrap (nuBk K c Nn n z q B 302)).tmod (d.val (nuBk K c Nn n z q B)) = _
  rw [nuBk_B, hX, hd, ← hr]
  rfl
theorem whole (h0 : 0 < n) (hn : n ≤ 2000) {b t : Nat} (ht : 0 < t) (ht9 : t < 1000) (hte : t % 2 = 0) (hl : lnB n q t = n) (hz : zB K c Nn z q t = xorW K c Nn z) : (rowEq (slE b (tg t) 0) (ps 67 6) [wO b t, pn 67 6]).Ok (nuBk K c Nn n z q B) Try.prog [] := by
  refine rowEq_T (n := n) (z := xorW K c Nn z) ?_ (pt (t := 6) (by simp) (by decide) (by decide) (by decide) h0 hn) h0 (by omega)
  exact isText_win (t := t) (own := true) List.mem_cons_self ht (tg_Ke hte) rfl ((nuBk_A ht).trans (by rw [hl])) (by rw [nuBk_L ht, hl]; omega) fun j hj => by rw [nuBk_R ht (by omega), hz]
theorem gM_ok (hc0 : 0 ≤ c) (hc1 : c < 4294967296) (hn : n ≤ 2000) (hb : Bytes z n) (h1 : 0 < q) (h2 : 64 * q < n) : ∀ r ∈ gM q, r.Ok (nuBk K c Nn n z q B) Try.prog [] := by
  intro r hr
  rcases List.mem_append.1 hr with hr | hr
  · exact first2_ok (by omega) hn hb r hr
  rcases List.mem_append.1 hr with hr | hr
  · simp only [List.mem_cons, List.not_mem_nil, or_false] at hr
    rcases hr with rfl | rfl | rfl
    · refine bx_ok (m := 64 * q) (y := z) (isText_pinG (n := n) (l := nA (64 * q)) List.mem_cons_self (tgT (by decide) (by decide)) (tg_Ke (by decide)) (by omega) rfl (by omega) (nuBk_L (by decide)) fun j hj => by rw [Nat.zero_add, nuBk_R (by decide) (by omega)]; rfl) (by omega) (by omega) (by decide) (by decide) (by decide) rfl fun j _ => ?_
      show _ = xorW K (nuBk K c Nn n z q B 44) Nn _ j
      rw [nuBk_c]
      rfl
    · refine bx_ok (m := n - 64 * q) (y := fun j => z (64 * q + j)) (isText_pinG (n := n) (off := 64 * q) (l := tail q) List.mem_cons_self (tgT (by decide) (by decide)) (tg_Ke (by decide)) (by omega) ?_ (by omega) (nuBk_L (by decide)) fun j hj => by rw [nuBk_R (by decide) (by omega)]; rfl) (by omega) (by omega) (by decide) (by decide) (by decide) rfl fun j _ => ?_
      · show IntKind.i64.wrap ((lA 2).val (nuBk K c Nn n z q B) - ((64 * q : Nat) : Int)) = _
        rw [lA_val (by decide), show ((lnB n q 2 : Nat) : Int) - ((64 * q : Nat) : Int) = ((n - 64 * q : Nat) : Int) by show (n : Int) - _ = _; omega]
        exact i64_small (by omega) (by omega)
      · show xorW K c Nn z (64 * q + j) = xorW K (arith .add .u32 (nuBk K c Nn n z q B 44) ((q : Nat) : Int)) Nn _ j
        rw [nuBk_c, xor_suffix hc0 hc1]
    · exact whole (by omega) hn (by decide) (by decide) (by decide) rfl rfl
  · exact endM_ok 73 r hr
theorem fG_hold {X : Nat} (hX : IntKind.u64.wrap B = (X : Int)) (hq : X % (n / 64 + 1) = q) (hn : n ≤ 2000) (h1 : 0 < q) (h2 : 64 * q < n) : (fG q).Hold (nuBk K c Nn n z q B) := by
  have e2 : (lA 2).val (nuBk K c Nn n z q B) = ((n : Nat) : Int) := lA_val (by decide)
  have l10 : lnB n q 10 = 64 * q := rfl
  have l12 : lnB n q 12 = n - 64 * q := rfl
  have l14 : lnB n q 14 = 64 * q := rfl
  have l16 : lnB n q 16 = n := rfl
  refine ⟨fun p hp => ?_, app_hold (base_hold (by omega) hn) (app_hold (fun p hp => ?_) (app_hold (rowN_hold (by decide) (by omega) (by omega)) (app_hold (rowN_hold (by decide) (by omega) (by omega)) (app_hold (endR_hold (by decide) (by omega)) (app_hold (endR_hold (by decide) (by omega)) endC_hold))))), fun p hp => ?_⟩
  · rcases List.mem_cons.1 hp with rfl | hp
    · exact rem_val hX (div_val hn) hq
    · exact endV_hold p hp
  · simp only [List.mem_cons, List.not_mem_nil, or_false] at hp
    rcases hp with rfl | rfl
    · exact cmp_t rfl e2 (decide_eq_true (show ((64 * q : Nat) : Int) ≤ (n : Int) by omega))
    · exact cmp_t rfl e2 (decide_eq_true (show ((64 * q : Nat) : Int) < (n : Int) by omega))
  · simp only [fG, List.mem_cons, List.not_mem_nil, or_false] at hp
    rcases hp with rfl | rfl
    · refine ⟨by show 0 ≤ nuBk K c Nn n z q B (pinL (tg 14)); rw [nuBk_L (by decide)]; omega, ?_⟩
      show lst _ (tg 14) = lst0 _ 0 ++ [].map _ ++ lst0 _ (tg 10)
      rw [lst0_zero, lst0_row _ (tgT (by decide) (by decide)).1]
      exact lst_same (T := tg 14) (T' := tg 10) (n := 64 * q) (g := xorW K c Nn z) ((nuBk_L (t := 14) (by decide)).trans (by rw [l14])) ((nuBk_L (t := 10) (by decide)).trans (by rw [l10])) (fun j hj => (nuBk_R (by decide) (by omega)).trans (zB_x (by decide) j)) (fun j hj => (nuBk_R (by decide) (by omega)).trans (zB_x (by decide) j))
    · refine ⟨by show 0 ≤ nuBk K c Nn n z q B (pinL (tg 16)); rw [nuBk_L (by decide)]; omega, ?_⟩
      show lst _ (tg 16) = lst0 _ (tg 14) ++ [].map _ ++ lst0 _ (tg 12)
      rw [lst0_row _ (tgT (by decide) (by decide)).1, lst0_row _ (tgT (by decide) (by decide)).1, List.map_nil, List.append_nil]
      refine lst_split (n := 64 * q) (r := n - 64 * q) ((nuBk_L (by decide)).trans ?_) (nuBk_L (by decide)) (nuBk_L (by decide)) (fun j hj => by rw [nuBk_R (by decide) (by omega), nuBk_R (by decide) (by omega)]; rfl) (fun j hj => by rw [nuBk_R (by decide) (by omega), nuBk_R (by decide) (by omega)]; rfl)
      show ((n : Nat) : Int) = _
      omega
theorem fM_ok (hn : n ≤ 2000) (hb : Bytes z n) (h1 : 0 < q) (h2 : n = 64 * q) : ∀ r ∈ fM q, r.Ok (nuBk K c Nn n z q B) Try.prog [] := by
  intro r hr
  rcases List.mem_append.1 hr with hr | hr
  · exact first2_ok (by omega) hn hb r hr
  rcases List.mem_append.1 hr with hr | hr
  · simp only [List.mem_cons, List.not_mem_nil, or_false] at hr
    rcases hr with rfl | rfl
    · refine bx_ok (m := 64 * q) (y := z) (isText_pinG (n := n) (l := nA (64 * q)) List.mem_cons_self (tgT (by decide) (by decide)) (tg_Ke (by decide)) (by omega) rfl (by omega) (nuBk_L (by decide)) fun j hj => by rw [Nat.zero_add, nuBk_R (by decide) (by omega)]; rfl) (by omega) (by omega) (by decide) (by decide) (by decide) rfl fun j _ => ?_
      show _ = xorW K (nuBk K c Nn n z q B 44) Nn _ j
      rw [nuBk_c]
      rfl
    · exact whole (by omega) hn (by decide) (by decide) (by decide) (show 64 * q = n from h2.symm) rfl
  · exact endM_ok 75 r hr
theorem fF_hold {X : Nat} (hX : IntKind.u64.wrap B = (X : Int)) (hq : X % (n / 64 + 1) = q) (hn : n ≤ 2000) (h1 : 0 < q) (h2 : n = 64 * q) : (fF q).Hold (nuBk K c Nn n z q B) := by
  have e2 : (lA 2).val (nuBk K c Nn n z q B) = ((n : Nat) : Int) := lA_val (by decide)
  have l10 : lnB n q 10 = 64 * q := rfl
  have l14 : lnB n q 14 = 64 * q := rfl
  refine ⟨fun p hp => ?_, app_hold (base_hold (by omega) hn) (app_hold (fun p hp => ?_) (app_hold (rowN_hold (by decide) (by omega) (by omega)) (app_hold (endR_hold (by decide) (by omega)) endC_hold))), fun p hp => ?_⟩
  · rcases List.mem_cons.1 hp with rfl | hp
    · exact rem_val hX (div_val hn) hq
    · exact endV_hold p hp
  · simp only [List.mem_cons, List.not_mem_nil, or_false] at hp
    rcases hp with rfl | rfl | rfl
    · exact cmp_t rfl e2 (decide_eq_true (show ((64 * q : Nat) : Int) ≤ (n : Int) by omega))
    · exact cmp_t rfl e2 (decide_eq_false (show ¬ ((64 * q : Nat) : Int) < (n : Int) by omega))
    · refine cmp_t rfl e2 ?_
      show (((64 * q : Nat) : Int) == ((n : Nat) : Int)) = true
      exact beq_iff_eq.2 (by omega)
  · simp only [fF, List.mem_cons, List.not_mem_nil, or_false] at hp
    subst hp
    refine ⟨by show 0 ≤ nuBk K c Nn n z q B (pinL (tg 14)); rw [nuBk_L (by decide)]; omega, ?_⟩
    show lst _ (tg 14) = lst0 _ 0 ++ [].map _ ++ lst0 _ (tg 10)
    rw [lst0_zero, lst0_row _ (tgT (by decide) (by decide)).1]
    exact lst_same (T := tg 14) (T' := tg 10) (n := 64 * q) (g := xorW K c Nn z) ((nuBk_L (t := 14) (by decide)).trans (by rw [l14])) ((nuBk_L (t := 10) (by decide)).trans (by rw [l10])) (fun j hj => (nuBk_R (by decide) (by omega)).trans (zB_x (by decide) j)) (fun j hj => (nuBk_R (by decide) (by omega)).trans (zB_x (by decide) j))
theorem zM_ok (hc0 : 0 ≤ c) (hc1 : c < 4294967296) (h0 : 0 < n) (hn : n ≤ 2000) (hb : Bytes z n) : ∀ r ∈ zMz, r.Ok (nuBk K c Nn n z 0 B) Try.prog [] := by
  intro r hr
  rcases List.mem_append.1 hr with hr | hr
  · exact first2_ok h0 hn hb r hr
  rcases List.mem_append.1 hr with hr | hr
  · simp only [List.mem_cons, List.not_mem_nil, or_false] at hr
    rcases hr with rfl | rfl
    · refine bx_ok (m := n) (y := fun j => z (64 * 0 + j)) (isText_pinG (n := n) (l := tail 0) List.mem_cons_self (tgT (by decide) (by decide)) (tg_Ke (by decide)) h0 ?_ (by omega) (nuBk_L (by decide)) fun j hj => by rw [nuBk_R (by decide) (by omega)]; rfl) h0 hn (by decide) (by decide) (by decide) rfl fun j _ => ?_
      · show IntKind.i64.wrap ((lA 2).val (nuBk K c Nn n z 0 B) - ((64 * 0 : Nat) : Int)) = _
        rw [lA_val (by decide), show ((lnB n 0 2 : Nat) : Int) - ((64 * 0 : Nat) : Int) = ((n : Nat) : Int) by show (n : Int) - _ = _; omega]
        exact i64_small (by omega) (by omega)
      · show xorW K c Nn z (64 * 0 + j) = xorW K (arith .add .u32 (nuBk K c Nn n z 0 B 44) ((0 : Nat) : Int)) Nn _ j
        rw [nuBk_c, xor_suffix hc0 hc1]
    · exact whole h0 hn (by decide) (by decide) (by decide) rfl rfl
  · exact endM_ok 75 r hr
theorem fZ_hold {X : Nat} (hX : IntKind.u64.wrap B = (X : Int)) (hq : X % (n / 64 + 1) = 0) (h0 : 0 < n) (hn : n ≤ 2000) : fZ.Hold (nuBk K c Nn n z 0 B) := by
  have e2 : (lA 2).val (nuBk K c Nn n z 0 B) = ((n : Nat) : Int) := lA_val (by decide)
  have l12 : lnB n 0 12 = n := rfl
  have l16 : lnB n 0 16 = n := rfl
  refine ⟨fun p hp => ?_, app_hold (base_hold h0 hn) (app_hold (fun p hp => ?_) (app_hold (rowN_hold (by decide) (by omega) (by omega)) (app_hold (endR_hold (by decide) (by omega)) endC_hold))), fun p hp => ?_⟩
  · rcases List.mem_cons.1 hp with rfl | hp
    · exact rem_val hX (div_val hn) hq
    · exact endV_hold p hp
  · simp only [List.mem_cons, List.not_mem_nil, or_false] at hp
    rcases hp with rfl | rfl
    · exact cmp_t rfl e2 (decide_eq_true (show (0 : Int) ≤ (n : Int) by omega))
    · exact cmp_t rfl e2 (decide_eq_true (show (0 : Int) < (n : Int) by omega))
  · simp only [fZ, List.mem_cons, List.not_mem_nil, or_false] at hp
    subst hp
    refine ⟨by show 0 ≤ nuBk K c Nn n z 0 B (pinL (tg 16)); rw [nuBk_L (by decide)]; omega, ?_⟩
    show lst _ (tg 16) = lst0 _ 0 ++ [].map _ ++ lst0 _ (tg 12)
    rw [lst0_zero, lst0_row _ (tgT (by decide) (by decide)).1]
    exact lst_same (T := tg 16) (T' := tg 12) (n := n) (g := xorW K c Nn z) ((nuBk_L (t := 16) (by decide)).trans (by rw [l16])) ((nuBk_L (t := 12) (by decide)).trans (by rw [l12])) (fun j hj => (nuBk_R (by decide) (by omega)).trans (zB_x (by decide) j)) (fun j hj => by rw [nuBk_R (by decide) (by omega)]; show xorW K c Nn z (64 * 0 + j) = _; rw [Nat.mul_zero, Nat.zero_add])
end
theorem pn_need : ∀ p ∈ [pn 64 2], p.1 < 65 ∧ p.2.elem ≠ mapTag ∧ ∃ us, ∀ ν, concL ν p.2.cells = some us := fun p hp => by
  simp only [List.mem_cons, List.not_mem_nil, or_false] at hp
  subst hp
  exact ⟨by decide, Nat.ne_of_gt (tgT (by decide) (by decide)).1, [], fun _ => rfl⟩
theorem chachaBack_law {W : World} {v : Value} {zs : List Int} (hv : ReadsAs W .u8 v zs) (hw : ∀ z ∈ zs, (Lit.int .u8 z).wf = true) (zk : List Int) (lk : zk.length = 32) (c : Int) (zn : List Int) (ln : zn.length = 12) (B : Int) (_ : ∀ z ∈ zk, (Lit.int .u8 z).wf = true) (hcw : (Lit.int .u32 c).wf = true) (_ : ∀ z ∈ zn, (Lit.int .u8 z).wf = true) (_ : (Lit.int .i64 B).wf = true) :
    Calls Try.prog 4 #[.agg (zk.map (Value.int .u8)).toArray, .int .u32 c, .agg (zn.map (Value.int .u8)).toArray, v, .int .i64 B] W fun e W' => e = .returned (.bool true) ∧ Below W.heap.size W W' := by
  obtain ⟨s, n, pl, hc, hb⟩ := came_of hv hw
  have hcr : 0 ≤ c ∧ c < 4294967296 := by
    have h1 : IntKind.u32.min ≤ c ∧ c ≤ IntKind.u32.max := by simpa [Lit.wf] using hcw
    rw [show IntKind.u32.min = 0 from rfl, show IntKind.u32.max = 4294967295 from rfl] at h1
    omega
  obtain ⟨X, hX⟩ : ∃ X : Nat, IntKind.u64.wrap B = (X : Int) := by
    refine ⟨(B % 18446744073709551616).toNat, ?_⟩
    simp only [IntKind.wrap, IntKind.bits, IntKind.signed]
    simp
    omega
  rw [aggI_of lk, aggI_of ln]
  generalize (fun i => zs.getD i 0) = z at hc hb
  generalize (fun j => zk.getD j 0) = K
  generalize (fun j => zn.getD j 0) = Nn
  have args : ∀ {q : Nat} {ρ : Emb} {x : AV}, VR (nuBk K c Nn n z q B) ρ x v → LR (nuBk K c Nn n z q B) ρ (bkArgs x) #[aggI .u8 32 K, .int .u32 c, aggI .u8 12 Nn, v, .int .i64 B] := fun {q ρ x} hx => by
    have hct : VR (nuBk K c Nn n z q B) ρ ctS (.int .u32 ((AI.s 44).val (nuBk K c Nn n z q B))) := .i _ _
    rw [show (AI.s 44).val (nuBk K c Nn n z q B) = c from nuBk_c] at hct
    have hbs : VR (nuBk K c Nn n z q B) ρ (.i .i64 (.s 302)) (.int .i64 ((AI.s 302).val (nuBk K c Nn n z q B))) := .i _ _
    rw [show (AI.s 302).val (nuBk K c Nn n z q B) = B from nuBk_B] at hbs
    exact lr_of (vs := [_, _, _, _, _]) ⟨(conc2_vr (keyS_val fun j hj => nuBk_K hj)).1, hct, (conc2_vr (nonS_val fun j hj => nuBk_N hj)).1, hx, hbs, trivial⟩
  by_cases hm : 2000 < n
  · cases s
    · have : n = 0 := hc.2.1
      omega
    · have : n = 0 := hc.2.1
      omega
    · obtain ⟨va, nd⟩ := hc.here0 (ν := nuBk K c Nn n z 0 B) (gp := at1' 64 pl) (blk := 64) (k := 301) (by decide) (if_pos rfl) nuBk_n
      refine yes_ofN (law_rowT (by decide) ⟨fun p hp => (by cases hp), fun p hp => ?_, fun p hp => by cases hp⟩ (fun r hr => by cases hr) (fun r hr => by cases hr) bk_over (gl0_need (by decide)) (by kernel_rfl)) (fun p hp => by cases hp) nd (args va)
      simp only [List.mem_cons, List.not_mem_nil, or_false] at hp
      subst hp
      show decide (nuBk K c Nn n z 0 B 301 > ((2000 : Nat) : Int)) = true
      rw [nuBk_n]
      exact decide_eq_true (by omega)
  have hF0 : fE0.Hold (nuBk K c Nn n z 0 B) := ⟨fun p hp => by
    rcases List.mem_cons.1 hp with rfl | hp
    · exact rem_val hX rfl (Nat.mod_one X)
    · exact endV_hold p hp, endC_hold, fun p hp => by cases hp⟩
  cases s
  · exact yes_ofN (ρ := embF fun _ => none) (law_rowT (by decide) hF0 (endT_ok hcr.1) (endM_ok 82) bk_E1 (fun p hp => by cases hp) (by kernel_rfl)) (fun p hp => by cases hp) (fun p hp => by cases hp) (args (by rw [hc.1]; exact .nsl))
  · obtain ⟨a, cp, rfl⟩ := hc.1
    exact yes_ofN (ρ := embF fun _ => none) (law_rowT (by decide) hF0 (endT_ok hcr.1) (endM_ok 82) bk_E2 (fun p hp => by cases hp) (by kernel_rfl)) (fun p hp => by cases hp) (fun p hp => by cases hp) (args (.sle _ _ _ (fun h => by cases h)))
  · have h0 : 0 < n := hc.fits
    have hn : n ≤ 2000 := by omega
    obtain ⟨q, hq⟩ : ∃ q, X % (n / 64 + 1) = q := ⟨_, rfl⟩
    have hqd : q < n / 64 + 1 := by rw [← hq]; exact Nat.mod_lt _ (by omega)
    obtain ⟨va, nd⟩ := hc.here (ν := nuBk K c Nn n z q B) (gp := at1' 64 pl) (blk := 64) (T := tg 2) (by decide) (if_pos rfl) (tgT (by decide) (by decide)) (tg_Ke (by decide)) (nuBk_L (by decide)) (fun j hj => nuBk_R (by decide) (by omega))
    have nd' : NeedOk (nuBk K c Nn n z q B) (embF (at1' 64 pl)) W [pn 64 2] := fun p hp => by
      simp only [List.mem_cons, List.not_mem_nil, or_false] at hp
      subst hp
      obtain ⟨_, _, pl', q3, q4⟩ := nd _ List.mem_cons_self
      exact ⟨pl', (embF_other (by decide)).trans q3, q4⟩
    rcases Nat.eq_zero_or_pos q with hq0 | hq0
    · subst hq0
      exact yes_ofN (law_rowT (by decide) (fZ_hold hX hq h0 hn) (endT_ok hcr.1) (zM_ok hcr.1 hcr.2 h0 hn hb) bk_Z pn_need (by kernel_rfl)) (fun p hp => by cases hp) nd' (args va)
    · have hq31 : q - 1 < 31 := by omega
      have eq1 : q - 1 + 1 = q := by omega
      rcases Nat.lt_or_ge (64 * q) n with hlt | hge
      · have hgo := List.all_eq_true.1 bk_G _ (List.mem_range.2 hq31)
        rw [eq1] at hgo
        exact yes_ofN (law_rowT (by decide) (fG_hold hX hq hn hq0 hlt) (endT_ok hcr.1) (gM_ok hcr.1 hcr.2 hn hb hq0 hlt) hgo pn_need (by kernel_rfl)) (fun p hp => by cases hp) nd' (args va)
      · have hgo := List.all_eq_true.1 bk_F _ (List.mem_range.2 hq31)
        rw [eq1] at hgo
        have hnq : n = 64 * q := by omega
        exact yes_ofN (law_rowT (by decide) (fF_hold hX hq hn hq0 hnq) (endT_ok hcr.1) (fM_ok hn hb hq0 hnq) hgo pn_need (by kernel_rfl)) (fun p hp => by cases hp) nd' (args va)

theorem chachaBack_lifted (os : Os) (started : os.Started) (H : Type) (enc : TypeId × Value → H) :
    ReturnsInHanded {} Try.checked os 4 .any (Rows.chachaBackSpec.pre6 enc Try.prog Try.f4 Rows.chachaBackRow.domain false) (Rows.chachaBackSpec.post enc Try.prog Try.f4 false true false false) := by
  refine returnsInHanded_of_change (C := Try.checked) own started (by kernel_rfl) Try.func4
    (ChangeSpec.witness6 (enc := enc) (C := Try.checked) false ⟨#[], #[(.agg (List.replicate 32 (.int .u8 0)).toArray), .int .u32 0, (.agg (List.replicate 12 (.int .u8 0)).toArray), .slice none 0 0, .int .i64 0], []⟩ 8 (by kernel_rfl) (by kernel_rfl) (by kernel_rfl) (by kernel_rfl)) ?_
  intro W base args ds gs before hval0 hW hcnd _
  have hval : ∀ (j : Nat) t v, Try.f4.params[j]? = some t → args[j]? = some v → Value.okWide Try.prog W .any base t v := hval0
  have hW' := hW
  obtain ⟨p, q, hA0, hV, rfl, hfz, hnd⟩ := hW
  have hA : DataW.TrodAll enc Try.prog W 0 (fun _ => true) true Try.f4.params.toList args.toList ds p := hA0
  rw [Try.params4] at hA hval
  obtain ⟨v0, vs0, d0, ds0, p0, q0, hargs, rfl, rfl, h0, r0⟩ := trodAll_cons hA
  obtain ⟨v1, vs1, d1, ds1, p1, q1, rfl, rfl, rfl, h1, r1⟩ := trodAll_cons r0
  obtain ⟨v2, vs2, d2, ds2, p2, q2, rfl, rfl, rfl, h2, r2⟩ := trodAll_cons r1
  obtain ⟨v3, vs3, d3, ds3, p3, q3, rfl, rfl, rfl, h3, r3⟩ := trodAll_cons r2
  obtain ⟨v4, vs4, d4, ds4, p4, q4, rfl, rfl, rfl, h4, r4⟩ := trodAll_cons r3
  obtain ⟨rfl, rfl, rfl⟩ := trodAll_nil r4
  obtain rfl : args = #[v0, v1, v2, v3, v4] := by cases args; simp_all
  obtain ⟨rfl, rfl⟩ := trodVars_none hV
  obtain ⟨z0, l0, rfl, b0, rfl, s0⟩ := open_array Try.underlying22 Try.underlying5 cells1 (by kernel_rfl) (hval 0 _ v0 rfl rfl) h0
  obtain ⟨a1, rfl, rfl, rfl, b1⟩ := open_int Try.underlying23 (hval 1 _ v1 rfl rfl) h1
  have s1 := plain_int (H := H) Try.underlying23 b1
  obtain ⟨z2, l2, rfl, b2, rfl, s2⟩ := open_array Try.underlying24 Try.underlying5 cells1 (by kernel_rfl) (hval 2 _ v2 rfl rfl) h2
  obtain ⟨z3, k3, w3, _⟩ := reads_open Try.underlying25 Try.underlying5 cells1 (hval 3 _ v3 rfl rfl) h3
  obtain ⟨a4, rfl, rfl, rfl, b4⟩ := open_int Try.underlying3 (hval 4 _ v4 rfl rfl) h4
  have s4 := plain_int (H := H) Try.underlying3 b4
  clear hA0 hval0
  simp only [List.append_nil] at hW'
  have hlt : ∀ x ∈ p3, x.block < W.heap.size := fun x hx => hW'.lt x hx
  refine (chachaBack_law k3 w3 z0 l0 a1 z2 l2 a4 b0 b1 b2 b4).mono fun e W' ⟨he, hg⟩ => ?_
  subst he
  exact ⟨_, rfl, post_below (pa := p3) (pv := []) hW' (fun _ _ _ => trodAll_cons_mk (shut_bool Try.underlying4 _) trodAll_mk0) (fun sp hsp => (by have hh := (trodAll_cons_mk (s0 _ _ _ _ _) (trodAll_cons_mk (s1 _ _ _ _ _) (trodAll_cons_mk (s2 _ _ _ _ _) (trodAll_cons_mk (kept_arg laidOut (by kernel_rfl) (of_decide_eq_true (by kernel_rfl)) h3 hg (fun x hx => hlt x (by simp [hx])) (fun x hx => hsp x (by simp [hx]))) (trodAll_cons_mk (s4 _ _ _ _ _) trodAll_mk0))))); simp only [List.append_nil] at hh; exact hh)) (fun _ _ => rfl) (by simp)
    hg (ok_one (by kernel_rfl) rfl (okWide_bool_mk Try.underlying4 _))⟩

/-- THE STATEMENT. -/
theorem chachaBack_holds : Rows.ChachaBackSaid :=
  OpenClaim.holds_of_wide 4 Try.f4 rfl rfl rfl rfl rfl rfl rfl ⟨rfl, rfl, rfl, rfl, rfl⟩ rfl rfl rfl rfl rfl (by kernel_rfl) Try.func4 (by kernel_rfl)
    (of_decide_eq_true (by kernel_rfl)) (by unfold Func.isWrapper; first | (rw [if_pos (by decide +kernel)]; kernel_rfl) | (rw [if_neg (by decide +kernel)]; exact ⟨rfl, rfl⟩))
    (fun os started H enc _ => chachaBack_lifted os started H enc)
#print axioms chachaBack_holds
end Go.Proofs.Ytakegcfpbacefaa

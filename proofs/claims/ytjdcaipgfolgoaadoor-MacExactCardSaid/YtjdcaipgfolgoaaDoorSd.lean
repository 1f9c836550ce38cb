/-
  sha.Sum256: a sum as numbers; the call of turn256 as a row; its runs. Own work.
-/
import Derived.Test.YtjdcaipgfolgoaaDoorSc
namespace Go.Proofs.YtjdcaipgfolgoaaDoor
open Go.Sh
open Go.ChangeShapes Go.WideShapes Go.RowKit
set_option maxRecDepth 100000

/-! the sum, as numbers -/
/-- The bytes of a length in bits. -/
def lenB (n i : Nat) : Int := ((8 * n / 2 ^ (8 * (7 - i)) % 256 : Nat) : Int)
/-- So many bytes with what is laid behind. -/
def tot256 (n : Nat) : Nat := 64 * ((n + 8) / 64 + 1)
def pd256 (z : Wd) (n : Nat) : Wd := fun j => if j < n then z j else if j = n then 128 else if j < tot256 n - 8 then 0 else lenB n (j - (tot256 n - 8))
def cp256 (m h : Wd) : Wd := comp p256 K256 (wst p256 (w0I m) 48) h 64
def hs256 (p : Wd) : Nat → Wd
  | 0 => H256
  | i + 1 => cp256 (fun j => p (64 * i + j)) (hs256 p i)
def byI (x : Int) (s : Nat) : Int := IntKind.u8.wrap (arith .shr .u32 x ((s : Nat) : Int))
def out256 (h : Wd) : Wd := fun j => byI (h (j / 4)) (24 - 8 * (j % 4))
def sum256 (z : Wd) (n : Nat) : Wd := out256 (hs256 (pd256 z n) (tot256 n / 64))
theorem w0I_congr {m m' : Wd} (h : ∀ j, j < 64 → m j = m' j) : w0I m = w0I m' := funext fun _ => w0A_same h
theorem cp256_congr {m m' h : Wd} (hm : ∀ j, j < 64 → m j = m' j) : cp256 m h = cp256 m' h := by
  unfold cp256
  rw [w0I_congr hm]
theorem hs256_congr {p p' : Wd} : ∀ k, (∀ j, j < 64 * k → p j = p' j) → hs256 p k = hs256 p' k
  | 0, _ => rfl
  | k + 1, h => by
    show cp256 _ _ = cp256 _ _
    rw [hs256_congr k fun j hj => h j (by omega)]
    exact cp256_congr fun j hj => h _ (by omega)
theorem vst_congr {p : Pr} {K W h h' : Wd} (hh : ∀ j, j < 8 → h j = h' j) : ∀ n j, j < 8 → vst p K W h n j = vst p K W h' n j
  | 0, j, hj => hh j hj
  | n + 1, j, hj => by
    have e := vst_congr (p := p) (K := K) (W := W) hh n
    have k1 : t1I p (K n) (W n) (vst p K W h n) = t1I p (K n) (W n) (vst p K W h' n) := by
      unfold t1I
      rw [e 4 (by decide), e 5 (by decide), e 6 (by decide), e 7 (by decide)]
    have k2 : t2I p (vst p K W h n) = t2I p (vst p K W h' n) := by
      unfold t2I
      rw [e 0 (by decide), e 1 (by decide), e 2 (by decide)]
    show rdI p (K n) (W n) (vst p K W h n) j = rdI p (K n) (W n) (vst p K W h' n) j
    match j, hj with
    | 0, _ => show adI p _ _ = adI p _ _; rw [k1, k2]
    | 1, _ => exact e 0 (by decide)
    | 2, _ => exact e 1 (by decide)
    | 3, _ => exact e 2 (by decide)
    | 4, _ => show adI p _ _ = adI p _ _; rw [k1, e 3 (by decide)]
    | 5, _ => exact e 4 (by decide)
    | 6, _ => exact e 5 (by decide)
    | 7, _ => exact e 6 (by decide)
theorem comp_congr {p : Pr} {K W h h' : Wd} (hh : ∀ j, j < 8 → h j = h' j) (n j : Nat) (hj : j < 8) : comp p K W h n j = comp p K W h' n j := by
  unfold comp
  rw [hh j hj, vst_congr hh n j hj]

/-- The call of turn256, as a row. -/
theorem rowU_turn {ν : Nat → Int} {b b2 e2 : Nat} {own : Bool} {cap : Cap} {f f' mA : Nat → AI} (he2 : e2 < mapTag) (hf : ∀ j, j < 8 → (f' j).val ν = cp256 (fun j => (mA j).val ν) (fun j => (f j).val ν) j) :
    RowU.Ok ν Tryd.prog gl256 ⟨26, [.p b 0, .sl b2 0 (nA 64) cap], [(b2, ⟨rowC .u8 mA 64, e2, own⟩)], b, rowC .u32 f 8, rowC .u32 f' 8, []⟩ := by
  refine ⟨⟨_, Tryd.func26, by kernel_rfl, by kernel_rfl⟩, fun ρ w vs pl hw hg hn hap hp hbr hl => ?_⟩
  obtain ⟨pl2, hp2, hbr2⟩ := hn (b2, ⟨rowC .u8 mA 64, e2, own⟩) List.mem_cons_self
  obtain ⟨C, t, fz, g1, g2, _⟩ := hbr2.cells (Nat.ne_of_lt he2)
  have hm : CellsAt w .u8 pl2.cb pl2.co 64 (fun j => (mA j).val ν) := ⟨C, t, fz, g1, fun j hj => by
    obtain ⟨u, u1, u2⟩ := g2 j (.i .u8 (mA j)) (by simp [ABlk.shut, rowC, hj])
    cases u2
    exact u1⟩
  have hh : OwnAt w .u32 pl.cb pl.co pl.tot 8 (fun j => (f j).val ν) := br_own hbr (by decide)
  have hlen : vs.size = 2 := by rw [← hl.1]; rfl
  obtain ⟨x, y, rfl⟩ : ∃ x y, vs = #[x, y] := by
    match vs, hlen with
    | ⟨[x, y]⟩, _ => exact ⟨x, y, rfl⟩
  have hx := hl.2 0 _ x rfl rfl
  have hy := hl.2 1 _ y rfl rfl
  cases hx
  rename_i q hq
  have hq : ρ b = some q := hq
  rw [hp] at hq
  cases hq
  cases hy
  rename_i q n c hle hq hnn hcap
  have hq : ρ b2 = some q := hq
  rw [hp2] at hq
  cases hq
  have hn64 : n = 64 := by
    have : ((64 : Nat) : Int) = (n : Int) := hnn
    omega
  subst hn64
  refine (turn256_ok hw hh hm hle (hap _ List.mem_cons_self _ hp2) hg).2.mono fun e w' ⟨he, hB, hO⟩ => ⟨[], he, trivial, hB, ?_⟩
  exact OwnAt.br hO (by decide) hf

/-! its pieces -/
def su : IC := t14.body
def suA : IC := su.sub [false]
def suB : IC := su.sub [true, false]
def suC : IC := su.sub [true, true, false]
def suD : IC := su.sub [true, true, true, false, false]
def suR : IC := su.sub [true, true, true, false, true, false, false]
def suE : IC := su.sub [true, true, true, true, false]
def suF : IC := su.sub [true, true, true, true, true, false]
def suG : IC := su.sub [true, true, true, true, true, true, false]
def suH : IC := su.sub [true, true, true, true, true, true, true]
theorem su_shape : t14 = ⟨.seq suA (.seq suB (.seq suC (.seq (.seq suD (.block 0 (.loop suR))) (.seq suE (.seq suF (.seq suG suH)))))), [.c 2 (some 32)], 46⟩ := by kernel_rfl
def eO : Nat := 24
def eB : Nat := 26
def txB (wd : Nat) : Nat × ABlk := (64, ⟨rowC .u8 (nmA 100) wd, 0, false⟩)
def reB : Nat × ABlk := (65, ⟨rowC .u8 zeroA 32, eO, true⟩)
def hsB (f : Nat → AI) : Nat × ABlk := (66, ⟨rowC .u32 f 8, eV, true⟩)
def slT (k : AI) (wd : Nat) : AV := .slw 64 1 k wd (.s 201) .any
def sI (k : Nat) : AV := .i .i64 (.s k)
def whA : AI := .e .sub .i64 (.s 201) (.e .rem .i64 (.s 201) (nA 64))
def su0 : Now := ⟨[(0, slT (nA 0) 0)], [txB 0], 65⟩
def su1 : Now := ⟨[(0, slT (nA 0) 0), (2, .p 65 0)], [txB 0, reB], 66⟩
def suN (t : AV) (wd : Nat) (f : Nat → AI) (l : List (Nat × AV)) : Now := ⟨l ++ [(0, t), (2, .p 65 0), (3, .p 66 0)], [txB wd, reB, hsB f], 67⟩
def h0A (j : Nat) : AI := nA (h256L.getD j 0)
def fL (b : Bool) : Facts := ⟨[], [(.lss, .s 200, .s 202, b)], []⟩
def fE (r : Nat) : Facts := ⟨[(.e .sub .i64 (.s 201) (.s 200), (r : Int))], [], []⟩
theorem su_goA : goesX noFacts tree [] gl256 [] [] [] 60 2 suA su0 .normal su1 = true := by kernel_rfl
theorem su_goB : goesX noFacts tree [] gl256 [] [] [] 60 2 suB su1 .normal (suN (slT (nA 0) 0) 0 h0A []) = true := by kernel_rfl
theorem su_goC : goesX noFacts tree [] gl256 [] [] [] 60 2 suC (suN (slT (nA 0) 0) 0 h0A []) .normal (suN (slT (nA 0) 0) 0 h0A [(4, .i .i64 whA)]) = true := by kernel_rfl
theorem su_goD : goesX noFacts tree [] gl256 [] [] [] 60 2 suD (suN (slT (nA 0) 0) 0 h0A [(4, .i .i64 whA)]) .normal (suN (slT (nA 0) 0) 0 h0A [(4, .i .i64 whA), (5, iN 0)]) = true := by kernel_rfl
def rowL : RowU := ⟨26, [.p 66 0, .sl 64 0 (nA 64) .any], [txB 64], 66, rowC .u32 (nmA 0) 8, rowC .u32 (nmA 300) 8, []⟩
theorem su_round : goesX (fL true) tree [] gl256 [] [] [rowL] 60 3 suR (suN (slT (.s 200) 64) 64 (nmA 0) [(4, sI 202), (5, sI 200)]) .normal (suN (slT (.s 200) 64) 64 (nmA 300) [(4, sI 202), (5, .i .i64 (.e .add .i64 (.s 200) (nA 64)))]) = true := by kernel_rfl
noncomputable def suEnd (r : Nat) : Bool := goesX (fL false) tree [] gl256 [] [] [] 60 3 suR (suN (slT (.s 200) r) r (nmA 0) [(4, sI 202), (5, sI 200)]) (.exit 0) (suN (slT (.s 200) r) r (nmA 0) [(4, sI 202)])
theorem su_ends : (List.range 64).all suEnd = true := by kernel_rfl
/-- What is laid behind, as the machine has it. -/
def lenP (x : AI) (i : Nat) : AI :=
  let hi : AI := .w .u32 (.e .shr .u64 x (nA 29))
  let lo : AI := .w .u32 (.e .shl .u64 x (nA 3))
  match i with
  | 0 => .w .u8 (.e .shr .u32 hi (nA 24)) | 1 => .w .u8 (.e .shr .u32 hi (nA 16)) | 2 => .w .u8 (.e .shr .u32 hi (nA 8)) | 3 => .w .u8 hi
  | 4 => .w .u8 (.e .shr .u32 lo (nA 24)) | 5 => .w .u8 (.e .shr .u32 lo (nA 16)) | 6 => .w .u8 (.e .shr .u32 lo (nA 8)) | _ => .w .u8 lo
def reA (r j : Nat) : AI := if Nat.blt j r then .s (100 + j) else if Nat.beq j r then nA 128 else .c 0
def endA (x : AI) (g : Nat → AI) (j : Nat) : AI := if Nat.blt j 56 then g j else lenP x (j - 56)
def rowE (o n : Nat) (g : Nat → AI) : RowU := ⟨26, [.p 66 0, .sl 67 0 (nA 64) (.ex 64)], [(67, ⟨rowC .u8 g 64, eB, true⟩)], 66, rowC .u32 (nmA o) 8, rowC .u32 (nmA n) 8, []⟩
def lnA : AI := .w .u64 (.s 201)
def rowsE (r : Nat) : List RowU := if Nat.blt r 56 then [rowE 0 308 (endA lnA (reA r))] else [rowE 0 300 (reA r), rowE 300 308 (endA lnA zeroA)]
def suZ : Now := ⟨[(2, .p 65 0), (3, .p 66 0)], [reB, hsB (nmA 308)], 68⟩
noncomputable def suEgo (r : Nat) : Bool := goesX (fE r) tree [] gl256 [] [] (rowsE r) 60 4 suE (suN (slT (.s 200) r) r (nmA 0) [(4, sI 200)]) .normal suZ
theorem su_goE0 : (List.range 20).all (fun r => suEgo r) = true := by kernel_rfl
theorem su_goE1 : (List.range 20).all (fun r => suEgo (20 + r)) = true := by kernel_rfl
theorem su_goE2 : (List.range 24).all (fun r => suEgo (40 + r)) = true := by kernel_rfl
def outA (j : Nat) : AI := match j % 4 with
  | 0 => .w .u8 (.e .shr .u32 (.s (308 + j / 4)) (nA 24)) | 1 => .w .u8 (.e .shr .u32 (.s (308 + j / 4)) (nA 16)) | 2 => .w .u8 (.e .shr .u32 (.s (308 + j / 4)) (nA 8)) | _ => .w .u8 (.s (308 + j / 4))
def suF1 : Now := ⟨[(2, .p 65 0), (3, .p 66 0), (6, .p 68 0)], [reB, hsB (nmA 308), (68, ⟨rowC .u8 zeroA 32, eO, true⟩)], 69⟩
def suG1 : Now := ⟨[(2, .p 65 0), (6, .p 68 0)], [reB, (68, ⟨rowC .u8 outA 32, eO, true⟩)], 69⟩
def suH1 : Now := ⟨[(2, .p 65 0)], [(65, ⟨rowC .u8 outA 32, eO, true⟩)], 69⟩
theorem su_goF : goesX noFacts tree [] gl256 [] [] [] 60 4 suF suZ .normal suF1 = true := by kernel_rfl
theorem su_goG : goesX noFacts tree [] gl256 [] [] [] 60 4 suG suF1 .normal suG1 = true := by kernel_rfl
theorem su_goH : goesX noFacts tree [] gl256 [] [] [] 60 4 suH suG1 .ret suH1 = true := by kernel_rfl
/-! of nothing -/
def rowE0 : RowU := ⟨26, [.p 66 0, .sl 67 0 (nA 64) (.ex 64)], [(67, ⟨rowC .u8 (reA 0) 64, eB, true⟩)], 66, rowC .u32 h0A 8, rowC .u32 (nmA 308) 8, []⟩
noncomputable def suNo (x : AV) : Bool := goesX noFacts tree [] gl256 [] [] [rowE0] 60 4 su ⟨[(0, x)], [], 65⟩ .ret suH1
theorem suNo_nsl : suNo .nsl = true := by kernel_rfl
theorem suNo_sle : suNo (.sle false) = true := by kernel_rfl
end Go.Proofs.YtjdcaipgfolgoaaDoor

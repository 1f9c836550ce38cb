/-
 sha.Sum512: a sum as numbers; the call of turn256 as a row; its runs. Own work.
-/
import Derived.Test.YtheidgcgdkmmiaaDoorTc
namespace Go.Proofs.YtheidgcgdkmmiaaDoor
open Go.Sh
open Go.ChangeShapes Go.WideShapes Go.RowKit
set_option maxRecDepth 100000
/-! the sum, as numbers -/
def lenBQ (n i : Nat) : Int := ((8 * n / 2 ^ (8 * (15 - i)) % 256 : Nat) : Int)
def qao (n : Nat) : Nat := 128 * ((n + 16) / 128 + 1)
def qaq (z : Wd) (n : Nat) : Wd := fun j => if j < n then z j else if j = n then 128 else if j < qao n - 16 then 0 else lenBQ n (j - (qao n - 16))
def qbH (m h : Wd) : Wd := comp p512 K256Q (wst p512 (w0IQ m) 64) h 80
def qaR (p : Wd) : Nat → Wd
 | 0 => H256Q
 | i + 1 => qbH (fun j => p (128 * i + j)) (qaR p i)
def byIQ (x : Int) (s : Nat) : Int := IntKind.u8.wrap (qaj .shr .u64 x ((s : Nat) : Int))
def out256Q (h : Wd) : Wd := fun j => byIQ (h (j / 8)) (56 - 8 * (j % 8))
def qbd (z : Wd) (n : Nat) : Wd := out256Q (qaR (qaq z n) (qao n / 128))
theorem w0I_congrQ {m m' : Wd} (h : ∀ j, j < 128 → m j = m' j) : w0IQ m = w0IQ m' := funext fun _ => w0A_sameQ h
theorem cp512_congrQ {m m' h : Wd} (hm : ∀ j, j < 128 → m j = m' j) : qbH m h = qbH m' h := by
 unfold qbH
 rw [w0I_congrQ hm]
theorem rowU_turnQ {ν : Nat → Int} {b b2 e2 : Nat} {own : Bool} {cap : Cap} {f f' mA : Nat → AI} (he2 : e2 < qac) (hf : ∀ j, j < 8 → (f' j).val ν = qbH (fun j => (mA j).val ν) (fun j => (f j).val ν) j) :
  RowU.Ok ν Tryd.prog qat ⟨81, [.p b 0, .sl b2 0 (nA 128) cap], [(b2, ⟨rowC .u8 mA 128, e2, own⟩)], b, rowC .u64 f 8, rowC .u64 f' 8, []⟩ := by
 refine ⟨⟨_, Tryd.func81, by kernel_rfl, by kernel_rfl⟩, fun ρ w vs pl hw hg hn hap hp hbr hl => ?_⟩
 obtain ⟨pl2, hp2, hbr2⟩ := hn (b2, ⟨rowC .u8 mA 128, e2, own⟩) List.mem_cons_self
 obtain ⟨C, t, fz, g1, g2, _⟩ := hbr2.cells (Nat.ne_of_lt he2)
 have hm : qaZ w .u8 pl2.cb pl2.co 128 (fun j => (mA j).val ν) := ⟨C, t, fz, g1, fun j hj => by
  obtain ⟨u, u1, u2⟩ := g2 j (.i .u8 (mA j)) (by simp [ABlk.shut, rowC, hj])
  cases u2
  exact u1⟩
 have hh : OwnAt w .u64 pl.cb pl.co pl.tot 8 (fun j => (f j).val ν) := br_own hbr (by decide)
 have hlen : vs.size = 2 := by rw [← hl.1]; rfl
 obtain ⟨x, y, rfl⟩ : ∃ x y, vs = #[x, y] := by
  match vs, hlen with
  | ⟨[x, y]⟩, _ => exact ⟨x, y, rfl⟩
 have hx := hl.2 0 _ x rfl rfl
 have hy := hl.2 1 _ y rfl rfl
 cases hx
 rename_i q hq
 have hq : ρ b = some q := hq
 rw [hp] at hq
 cases hq
 cases hy
 rename_i q n c hle hq hnn hcap
 have hq : ρ b2 = some q := hq
 rw [hp2] at hq
 cases hq
 have hn64 : n = 128 := by
  have : ((128 : Nat) : Int) = (n : Int) := hnn
  omega
 subst hn64
 refine (turn256_okQ hw hh hm hle (hap _ List.mem_cons_self _ hp2) hg).2.mono fun e w' ⟨he, hBQ, hO⟩ => ⟨[], he, trivial, hBQ, ?_⟩
 exact OwnAt.br hO (by decide) hf
/-! its pieces -/
def suQ : IC := t48.body
def suAQ : IC := suQ.sub [false]
def suBQ : IC := suQ.sub [true, false]
def suCQ : IC := suQ.sub [true, true, false]
def suDQ : IC := suQ.sub [true, true, true, false, false]
def suRQ : IC := suQ.sub [true, true, true, false, true, false, false]
def suEQ : IC := suQ.sub [true, true, true, true, false]
def suFQ : IC := suQ.sub [true, true, true, true, true, false]
def suGQ : IC := suQ.sub [true, true, true, true, true, true, false]
def suHQ : IC := suQ.sub [true, true, true, true, true, true, true]
theorem su_shapeQ : t48 = ⟨.seq suAQ (.seq suBQ (.seq suCQ (.seq (.seq suDQ (.block 0 (.loop suRQ))) (.seq suEQ (.seq suFQ (.seq suGQ suHQ)))))), [.c 2 (some 64)], 46⟩ := by kernel_rfl
def eOQ : Nat := 25
def eBQ : Nat := 119
def txBQ (wd : Nat) : Nat × ABlk := (64, ⟨rowC .u8 (nmA 64) wd, 0, false⟩)
def reBQ : Nat × ABlk := (65, ⟨rowC .u8 zeroA 64, eOQ, true⟩)
def hsBQ (f : Nat → AI) : Nat × ABlk := (66, ⟨rowC .u64 f 8, eVQ, true⟩)
def slTQ (k : AI) (wd : Nat) : AV := .slw 64 1 k wd (.s 201) .any
def whAQ : AI := .e .sub .i64 (.s 201) (.e .rem .i64 (.s 201) (nA 128))
def su0Q : Now := ⟨[(0, slTQ (nA 0) 0)], [txBQ 0], 65⟩
def su1Q : Now := ⟨[(0, slTQ (nA 0) 0), (2, .p 65 0)], [txBQ 0, reBQ], 66⟩
def suNQ (t : AV) (wd : Nat) (f : Nat → AI) (l : List (Nat × AV)) : Now := ⟨l ++ [(0, t), (2, .p 65 0), (3, .p 66 0)], [txBQ wd, reBQ, hsBQ f], 67⟩
def h0AQ (j : Nat) : AI := nA (h256LQ.getD j 0)
def fLQ (b : Bool) : Facts := ⟨[], [(.lss, .s 200, .s 202, b)], []⟩
def fEQ (r : Nat) : Facts := ⟨[(.e .sub .i64 (.s 201) (.s 200), (r : Int))], [], []⟩
theorem su_goAQ : qaF qae tree [] qat [] [] [] 60 2 suAQ su0Q .normal su1Q = true := by kernel_rfl
theorem su_goBQ : qaF qae tree [] qat [] [] [] 60 2 suBQ su1Q .normal (suNQ (slTQ (nA 0) 0) 0 h0AQ []) = true := by kernel_rfl
theorem su_goCQ : qaF qae tree [] qat [] [] [] 60 2 suCQ (suNQ (slTQ (nA 0) 0) 0 h0AQ []) .normal (suNQ (slTQ (nA 0) 0) 0 h0AQ [(4, .i .i64 whAQ)]) = true := by kernel_rfl
theorem su_goDQ : qaF qae tree [] qat [] [] [] 60 2 suDQ (suNQ (slTQ (nA 0) 0) 0 h0AQ [(4, .i .i64 whAQ)]) .normal (suNQ (slTQ (nA 0) 0) 0 h0AQ [(4, .i .i64 whAQ), (5, iN 0)]) = true := by kernel_rfl
def rowLQ : RowU := ⟨81, [.p 66 0, .sl 64 0 (nA 128) .any], [txBQ 128], 66, rowC .u64 (nmA 0) 8, rowC .u64 (nmA 300) 8, []⟩
theorem su_roundQ : qaF (fLQ true) tree [] qat [] [] [rowLQ] 60 3 suRQ (suNQ (slTQ (.s 200) 128) 128 (nmA 0) [(4, sI 202), (5, sI 200)]) .normal (suNQ (slTQ (.s 200) 128) 128 (nmA 300) [(4, sI 202), (5, .i .i64 (.e .add .i64 (.s 200) (nA 128)))]) = true := by kernel_rfl
noncomputable def suEndQ (r : Nat) : Bool := qaF (fLQ false) tree [] qat [] [] [] 60 3 suRQ (suNQ (slTQ (.s 200) r) r (nmA 0) [(4, sI 202), (5, sI 200)]) (.exit 0) (suNQ (slTQ (.s 200) r) r (nmA 0) [(4, sI 202)])
theorem su_endsQ : (List.range 128).all suEndQ = true := by kernel_rfl
def half (x : AI) (i : Nat) : AI := match i with
 | 0 => .w .u8 (.e .shr .u32 (.w .u32 (.e .shr .u64 x (nA 32))) (nA 24)) | 1 => .w .u8 (.e .shr .u32 (.w .u32 (.e .shr .u64 x (nA 32))) (nA 16)) | 2 => .w .u8 (.e .shr .u32 (.w .u32 (.e .shr .u64 x (nA 32))) (nA 8)) | 3 => .w .u8 (.w .u32 (.e .shr .u64 x (nA 32)))
 | 4 => .w .u8 (.e .shr .u32 (.w .u32 x) (nA 24)) | 5 => .w .u8 (.e .shr .u32 (.w .u32 x) (nA 16)) | 6 => .w .u8 (.e .shr .u32 (.w .u32 x) (nA 8)) | _ => .w .u8 (.w .u32 x)
def lenPQ (x : AI) (i : Nat) : AI := if Nat.blt i 8 then half (.e .shr .u64 x (nA 61)) i else half (.e .shl .u64 x (nA 3)) (i - 8)
def reAQ (r j : Nat) : AI := if Nat.blt j r then .s (64 + j) else if Nat.beq j r then nA 128 else .c 0
def endAQ (x : AI) (g : Nat → AI) (j : Nat) : AI := if Nat.blt j 112 then g j else lenPQ x (j - 112)
def rowEQ (o n : Nat) (g : Nat → AI) : RowU := ⟨81, [.p 66 0, .sl 67 0 (nA 128) (.ex 128)], [(67, ⟨rowC .u8 g 128, eBQ, true⟩)], 66, rowC .u64 (nmA o) 8, rowC .u64 (nmA n) 8, []⟩
def lnAQ : AI := .w .u64 (.s 201)
def rowsEQ (r : Nat) : List RowU := if Nat.blt r 112 then [rowEQ 0 308 (endAQ lnAQ (reAQ r))] else [rowEQ 0 300 (reAQ r), rowEQ 300 308 (endAQ lnAQ zeroA)]
def suZQ : Now := ⟨[(2, .p 65 0), (3, .p 66 0)], [reBQ, hsBQ (nmA 308)], 68⟩
noncomputable def suEgoQ (r : Nat) : Bool := qaF (fEQ r) tree [] qat [] [] (rowsEQ r) 60 4 suEQ (suNQ (slTQ (.s 200) r) r (nmA 0) [(4, sI 200)]) .normal suZQ
theorem su_goE0Q : (List.range 16).all (fun r => suEgoQ (0 + r)) = true := by kernel_rfl
theorem su_goE1Q : (List.range 16).all (fun r => suEgoQ (16 + r)) = true := by kernel_rfl
theorem su_goE2Q : (List.range 16).all (fun r => suEgoQ (32 + r)) = true := by kernel_rfl
theorem su_goE3Q : (List.range 16).all (fun r => suEgoQ (48 + r)) = true := by kernel_rfl
theorem su_goE4Q : (List.range 16).all (fun r => suEgoQ (64 + r)) = true := by kernel_rfl
theorem su_goE5Q : (List.range 16).all (fun r => suEgoQ (80 + r)) = true := by kernel_rfl
theorem su_goE6Q : (List.range 16).all (fun r => suEgoQ (96 + r)) = true := by kernel_rfl
theorem su_goE7Q : (List.range 16).all (fun r => suEgoQ (112 + r)) = true := by kernel_rfl
def outAQ (j : Nat) : AI := half (.s (308 + j / 8)) (j % 8)
def suF1Q : Now := ⟨[(2, .p 65 0), (3, .p 66 0), (6, .p 68 0)], [reBQ, hsBQ (nmA 308), (68, ⟨rowC .u8 zeroA 64, eOQ, true⟩)], 69⟩
def suG1Q : Now := ⟨[(2, .p 65 0), (6, .p 68 0)], [reBQ, (68, ⟨rowC .u8 outAQ 64, eOQ, true⟩)], 69⟩
def suH1Q : Now := ⟨[(2, .p 65 0)], [(65, ⟨rowC .u8 outAQ 64, eOQ, true⟩)], 69⟩
theorem su_goFQ : qaF qae tree [] qat [] [] [] 60 4 suFQ suZQ .normal suF1Q = true := by kernel_rfl
theorem su_goGQ : qaF qae tree [] qat [] [] [] 60 4 suGQ suF1Q .normal suG1Q = true := by kernel_rfl
theorem su_goHQ : qaF qae tree [] qat [] [] [] 60 4 suHQ suG1Q .ret suH1Q = true := by kernel_rfl
/-! of nothing -/
def rowE0Q : RowU := ⟨81, [.p 66 0, .sl 67 0 (nA 128) (.ex 128)], [(67, ⟨rowC .u8 (reAQ 0) 128, eBQ, true⟩)], 66, rowC .u64 h0AQ 8, rowC .u64 (nmA 308) 8, []⟩
noncomputable def suNoQ (x : AV) : Bool := qaF qae tree [] qat [] [] [rowE0Q] 60 4 suQ ⟨[(0, x)], [], 65⟩ .ret suH1Q
theorem suNo_nslQ : suNoQ .nsl = true := by kernel_rfl
theorem suNo_sleQ : suNoQ (.sle false) = true := by kernel_rfl
end Go.Proofs.YtheidgcgdkmmiaaDoor

/-
 sha.turn512: what it makes of eight words and a block. Own work.
-/
import Derived.Test.YtheidgcgdkmmiaaDoorTb
namespace Go.Proofs.YtheidgcgdkmmiaaDoor
open Go.Sh
open Go.ChangeShapes Go.WideShapes Go.RowKit
set_option maxRecDepth 100000
def k256LQ : List Nat := [4794697086780616226, 8158064640168781261, 13096744586834688815, 16840607885511220156, 4131703408338449720, 6480981068601479193, 10538285296894168987, 12329834152419229976, 15566598209576043074, 1334009975649890238, 2608012711638119052, 6128411473006802146, 8268148722764581231, 9286055187155687089, 11230858885718282805, 13951009754708518548, 16472876342353939154, 17275323862435702243, 1135362057144423861, 2597628984639134821, 3308224258029322869, 5365058923640841347, 6679025012923562964, 8573033837759648693, 10970295158949994411, 12119686244451234320, 12683024718118986047, 13788192230050041572, 14330467153632333762, 15395433587784984357, 489312712824947311, 1452737877330783856, 2861767655752347644, 3322285676063803686, 5560940570517711597, 5996557281743188959, 7280758554555802590, 8532644243296465576, 9350256976987008742, 10552545826968843579, 11727347734174303076, 12113106623233404929, 14000437183269869457, 14369950271660146224, 15101387698204529176, 15463397548674623760, 17586052441742319658, 1182934255886127544, 1847814050463011016, 2177327727835720531, 2830643537854262169, 3796741975233480872, 4115178125766777443, 5681478168544905931, 6601373596472566643, 7507060721942968483, 8399075790359081724, 8693463985226723168, 9568029438360202098, 10144078919501101548, 10430055236837252648, 11840083180663258601, 13761210420658862357, 14299343276471374635, 14566680578165727644, 15097957966210449927, 16922976911328602910, 17689382322260857208, 500013540394364858, 748580250866718886, 1242879168328830382, 1977374033974150939, 2944078676154940804, 3659926193048069267, 4368137639120453308, 4836135668995329356, 5532061633213252278, 6448918945643986474, 6902733635092675308, 7801388544844847127]
def h256LQ : List Nat := [7640891576956012808, 13503953896175478587, 4354685564936845355, 11912009170470909681, 5840696475078001361, 11170449401992604703, 2270897969802886507, 6620516959819538809]
def K256Q : Wd := fun j => ((k256LQ.getD j 0 : Nat) : Int)
def H256Q : Wd := fun j => ((h256LQ.getD j 0 : Nat) : Int)
def eVQ : Nat := 72
def qat : Gl := [(4, ⟨h256LQ.map fun n => .i .u64 (nA n), eVQ, true⟩), (6, ⟨k256LQ.map fun n => .i .u64 (nA n), eWQ, true⟩)]
theorem qa6 : GlOk qat := by
 intro p hp
 simp only [qat, List.mem_cons, List.not_mem_nil, or_false] at hp
 rcases hp with rfl | rfl
 ·exact ⟨by decide, by decide, h256LQ.map fun n => Value.int .u64 ((n : Nat) : Int), fun ν => by have := concT_map (ν := ν) .u64 (h256LQ.map nA); simpa [Function.comp_def, nA, AI.val] using this⟩
 ·exact ⟨by decide, by decide, k256LQ.map fun n => Value.int .u64 ((n : Nat) : Int), fun ν => by have := concT_map (ν := ν) .u64 (k256LQ.map nA); simpa [Function.comp_def, nA, AI.val] using this⟩
/-! its pieces -/
def tuQ : IC := t81.body
def tuAQ : IC := tuQ.sub [false]
def tuBQ : IC := tuQ.sub [true, false]
def tuCQ : IC := tuQ.sub [true, true, false, false]
def tuRQ : IC := tuQ.sub [true, true, false, true, false, false]
def tuDQ : IC := tuQ.sub [true, true, true]
theorem tu_shapeQ : t81 = ⟨.seq tuAQ (.seq tuBQ (.seq (.seq tuCQ (.block 0 (.loop tuRQ))) tuDQ)), [], 116⟩ := by kernel_rfl
def byTQ : ABlk := ⟨rowC .u8 (nmA 8) 128, 0, false⟩
def rowTQ : RowM := ⟨99, [.sl 65 0 (nA 128) .any], [(65, byTQ)], [.v (.ag (rowC .u64 (nmA 200) 80))]⟩
def hBQ (f : Nat → AI) : Nat × ABlk := (64, ⟨rowC .u64 f 8, 0, true⟩)
def wBQ : Nat × ABlk := (66, ⟨rowC .u64 (nmA 200) 80, eWQ, true⟩)
def tu0Q : Now := ⟨[(0, .p 64 0), (1, .sl 65 0 (nA 128) .any)], [hBQ (nmA 0), (65, byTQ)], 66⟩
def tu1Q : Now := ⟨[(0, .p 64 0), (4, .p 66 0)], [hBQ (nmA 0), (65, byTQ), wBQ], 67⟩
def tuNQ (f : Nat → AI) (l : List (Nat × AV)) : Now := ⟨l ++ [(0, .p 64 0), (4, .p 66 0), (5, .p 67 0)], [hBQ (nmA 0), (65, byTQ), wBQ, (67, ⟨rowC .u64 f 8, eVQ, true⟩)], 68⟩
def tuZQ : Now := ⟨[], [hBQ fun j => adA p512 (nmA 0 j) (nmA 300 j)], 68⟩
theorem tu_goAQ : qaF qae tree [] qat [] [rowTQ] [] 60 2 tuAQ tu0Q .normal tu1Q = true := by kernel_rfl
theorem tu_goBQ : qaF qae tree [] qat [] [] [] 60 2 tuBQ tu1Q .normal (tuNQ (nmA 0) []) = true := by kernel_rfl
theorem tu_goCQ : qaF qae tree [] qat [] [] [] 60 2 tuCQ (tuNQ (nmA 0) []) .normal (tuNQ (nmA 0) [(19, iN 0)]) = true := by kernel_rfl
noncomputable def tuGoQ (k : Nat) : Bool := qaF qae tree [] qat [] [] [] 60 3 tuRQ (tuNQ (nmA 300) [(19, iN k)]) .normal (tuNQ (rdAS p512 (nA (k256LQ.getD k 0)) (200 + k) 300) [(19, iN (k + 1))])
theorem tu_goesQ : (List.range 80).all tuGoQ = true := by kernel_rfl
theorem tu_endsQ : qaF qae tree [] qat [] [] [] 60 3 tuRQ (tuNQ (nmA 300) [(19, iN 80)]) (.exit 0) (tuNQ (nmA 300) []) = true := by kernel_rfl
theorem tu_goDQ : qaF qae tree [] qat [] [] [] 60 3 tuDQ (tuNQ (nmA 300) []) .normal tuZQ = true := by kernel_rfl
def nuTQ (h m W v : Wd) : Nat → Int := two (two (two h 8 fun j => if j < 128 then m j else 0) 200 W) 300 v
theorem nuT_hQ {h m W v : Wd} {j : Nat} (hj : j < 8) : nuTQ h m W v j = h j := by
 unfold nuTQ
 rw [qbq (by omega), qbq (by omega), qbq hj]
theorem nuT_mQ {h m W v : Wd} {j : Nat} (hj : j < 128) : nuTQ h m W v (8 + j) = m j := by
 unfold nuTQ
 rw [qbq (by omega), qbq (by omega), two_hi, if_pos hj]
theorem nuT_WQ {h m W v : Wd} {j : Nat} (hj : j < 100) : nuTQ h m W v (200 + j) = W j := by
 unfold nuTQ
 rw [qbq (by omega), two_hi]
theorem nuT_vQ {h m W v : Wd} (j : Nat) : nuTQ h m W v (300 + j) = v j := two_hi j
section
variable {w0 : World} {h m W : Wd} {L fx : List (Nat × Pl)} {kp : List (Nat × Obj)}
theorem tget64Q (f : Nat → AI) : (qam ((tuNQ f []).H ++ qat) 68).get 64 = some (hBQ (nmA 0)).2 := by kernel_rfl
theorem tget65Q (f : Nat → AI) : (qam ((tuNQ f []).H ++ qat) 68).get 65 = some byTQ := by kernel_rfl
theorem tget66Q (f : Nat → AI) : (qam ((tuNQ f []).H ++ qat) 68).get 66 = some wBQ.2 := by kernel_rfl
theorem tget67Q (f : Nat → AI) : (qam ((tuNQ f []).H ++ qat) 68).get 67 = some ⟨rowC .u64 f 8, eVQ, true⟩ := by kernel_rfl
theorem tu_namedQ {f : Nat → AI} {v v' : Wd} {t : Nat} {a : Act} {w : World} (hfx : ∀ p ∈ fx, p.1 < 68) (hh : HoldsX 116 w0 (nuTQ h m W v) qat L fx kp (tuNQ f [(19, iN t)]) a w) (hf : ∀ j, j < 8 → (f j).val (nuTQ h m W v) = v' j) : HoldsX 116 w0 (nuTQ h m W v') qat L fx kp (tuNQ (nmA 300) [(19, iN t)]) a w := by
 refine renumX (P := Tryd.prog) qa6 hh (by decide) hfx (fun p hp => ⟨p.2, hp, ?_⟩) fun p hp => ?_
 ·simp only [List.mem_append, List.mem_cons, List.not_mem_nil, or_false] at hp
  rcases hp with rfl | rfl | rfl | rfl
  ·exact qaT.conc (u := .int .i64 t) rfl rfl
  ·exact qaT.p _ (by decide) rfl
  ·exact qaT.p _ (by decide) rfl
  ·exact qaT.p _ (by decide) rfl
 ·simp only [List.mem_cons, List.not_mem_nil, or_false] at hp
  rcases hp with rfl | rfl | rfl | rfl
  ·exact ⟨by decide, by decide, _, tget64Q f, rfl, qaS (by decide) fun j hj => by simp only [nmA, Nat.zero_add, AI.val]; rw [nuT_hQ hj, nuT_hQ hj]⟩
  ·exact ⟨by decide, by decide, _, tget65Q f, rfl, qaS (by decide) fun j hj => (nuT_mQ hj).trans (nuT_mQ hj).symm⟩
  ·exact ⟨by decide, by decide, _, tget66Q f, rfl, qaS eW_ltQ fun j hj => (nuT_WQ (by omega)).trans (nuT_WQ (by omega)).symm⟩
  ·exact ⟨by decide, by decide, _, tget67Q f, rfl, qaS (by decide) fun j hj => (hf j hj).trans (nuT_vQ j).symm⟩
theorem rdA_valQ (kc : Nat) {v : Wd} {t : Nat} (ht : t < 100) (j : Nat) : (rdAS p512 (nA kc) (200 + t) 300 j).val (nuTQ h m W v) = rdI p512 kc (W t) v j := by
 have e := fun i => nuT_vQ (h := h) (m := m) (W := W) (v := v) i
 have ew : nuTQ h m W v (200 + t) = W t := nuT_WQ ht
 have e0 : nuTQ h m W v 300 = v 0 := e 0
 have k1 : (t1A p512 (nA kc) (200 + t) 300).val (nuTQ h m W v) = t1I p512 kc (W t) v := by
  show adI p512 (adI p512 (adI p512 (adI p512 (nuTQ h m W v (300 + 7)) (gtI p512 p512.g1 (nuTQ h m W v (300 + 4)))) (qaj .xor p512.k (qaj .and p512.k (nuTQ h m W v (300 + 4)) (nuTQ h m W v (300 + 5))) (qaj .and p512.k (qaj .xor p512.k p512.top (nuTQ h m W v (300 + 4))) (nuTQ h m W v (300 + 6))))) kc) (nuTQ h m W v (200 + t)) = _
  rw [e, e, e, e, ew]
  rfl
 have k2 : (t2A p512 300).val (nuTQ h m W v) = t2I p512 v := by
  show adI p512 (gtI p512 p512.g0 (nuTQ h m W v 300)) (qaj .xor p512.k (qaj .xor p512.k (qaj .and p512.k (nuTQ h m W v 300) (nuTQ h m W v (300 + 1))) (qaj .and p512.k (nuTQ h m W v 300) (nuTQ h m W v (300 + 2)))) (qaj .and p512.k (nuTQ h m W v (300 + 1)) (nuTQ h m W v (300 + 2)))) = _
  rw [e0, e, e]
  rfl
 match j with
 | 0 =>
   show adI p512 ((t1A p512 (nA kc) (200 + t) 300).val (nuTQ h m W v)) ((t2A p512 300).val (nuTQ h m W v)) = _
   rw [k1, k2]
   rfl
 | 1 => exact e0
 | 2 => exact e 1
 | 3 => exact e 2
 | 4 =>
   show adI p512 (nuTQ h m W v (300 + 3)) ((t1A p512 (nA kc) (200 + t) 300).val (nuTQ h m W v)) = _
   rw [k1, e]
   rfl
 | 5 => exact e 4
 | 6 => exact e 5
 | _ + 7 => exact e 6
theorem tu_loopQ (hfx : ∀ p ∈ fx, p.1 < 68) : Tri Tryd.prog 116 (.loop tuRQ) (fun a w => HoldsX 116 w0 (nuTQ h m W (vst p512 K256Q W h 0)) qat L fx kp (tuNQ (nmA 300) [(19, iN 0)]) a w) fun ex a w => ex = .exit 0 ∧ HoldsX 116 w0 (nuTQ h m W (vst p512 K256Q W h 80)) qat L fx kp (tuNQ (nmA 300) []) a w := by
 have key := Tri.loop (P := Tryd.prog) (N := 116) (x := tuRQ) (J := fun i a w => i ≤ 80 ∧ HoldsX 116 w0 (nuTQ h m W (vst p512 K256Q W h (80 - i))) qat L fx kp (tuNQ (nmA 300) [(19, iN (80 - i))]) a w) (Post := fun ex a w => ex = .exit 0 ∧ HoldsX 116 w0 (nuTQ h m W (vst p512 K256Q W h 80)) qat L fx kp (tuNQ (nmA 300) []) a w) 80 ?_ ?_
 ·exact key.weak (fun a w h => ⟨Nat.le_refl _, h⟩) (fun _ _ _ h => h)
 ·intro i c hc a w ⟨hi, hp⟩
  have e3 : 80 - i = 80 - (i + 1) + 1 := by omega
  have hg : tuGoQ (80 - (i + 1)) = true := List.all_eq_true.1 tu_goesQ _ (List.mem_range.2 (by omega))
  refine ((Tri.runX (L := L) (fx := fx) (kp := kp) (w0 := w0) (qaP _) qak qaf qa6 (fun r hr => by cases hr) (fun r hr => by cases hr) (fun r hr => by cases hr) (fun r hr => by cases hr) hg).weak (fun _ _ h => h) (fun ex a w h => ?_)) c hc a w hp
  refine .inl ⟨h.1, by omega, ?_⟩
  rw [e3]
  refine tu_namedQ hfx h.2 fun j hj => ?_
  exact rdA_valQ _ (by omega) j
 ·refine (Tri.runX (i := tuNQ (nmA 300) [(19, iN 80)]) (qaP _) qak qaf qa6 (fun r hr => by cases hr) (fun r hr => by cases hr) (fun r hr => by cases hr) (fun r hr => by cases hr) tu_endsQ).weak (fun a w h => h.2) (fun ex a w h => ⟨by rw [h.1]; simp, h.1, h.2⟩)
theorem rowT_okQ {v : Wd} (hW : ∀ j, j < 80 → W j = wst p512 (w0IQ m) 64 j) : rowTQ.Ok (nuTQ h m W v) Tryd.prog qat := by
 have z0 : qaZ default .u8 0 0 0 m ∨ True := .inr trivial
 refine ⟨?_, fun ρ w vs hw hn hl => ?_⟩
 ·exact ⟨_, Tryd.func99, by kernel_rfl, by kernel_rfl⟩
 ·obtain ⟨pl, hp, hbr⟩ := hn (65, byTQ) (by simp [rowTQ])
  obtain ⟨C, t, fz, g1, g2, _⟩ := hbr.cells (by decide)
  have hm : qaZ w .u8 pl.cb pl.co 128 m := ⟨C, t, fz, g1, fun j hj => by
   obtain ⟨u, u1, u2⟩ := g2 j (.i .u8 (nmA 8 j)) (by simp [ABlk.shut, byTQ, rowC, hj])
   cases u2
   rw [u1]
   exact congrArg (fun x => some (Value.int .u8 x)) (nuT_mQ hj)⟩
  have hlen : vs.size = 1 := by rw [← hl.1]; rfl
  obtain ⟨x, rfl⟩ : ∃ x, vs = #[x] := by
   match vs, hlen with
   | ⟨[x]⟩, _ => exact ⟨x, rfl⟩
  have hx := hl.2 0 _ x rfl rfl
  cases hx
  rename_i q n c hle hq hnn hcap
  have hq : ρ 65 = some q := hq
  rw [hp] at hq
  cases hq
  have hn64 : n = 128 := by
   have : ((128 : Nat) : Int) = (n : Int) := hnn
   omega
  subst hn64
  refine (words256_okQ hm hle).2.mono fun e w' ⟨he, hBQ⟩ => ⟨[_], he, ⟨?_, trivial⟩, hBQ⟩
  show qag _ _ = _
  rw [conc2_row]
  exact congrArg some (aggI_congr fun j hj => (nuT_WQ (by omega)).trans (hW j hj))
end
theorem turn256_okQ {w : World} {cb co tot cb2 o2 c : Nat} {h m : Wd} (hw : Laid qat w) (hh : OwnAt w .u64 cb co tot 8 h) (hb : qaZ w .u8 cb2 o2 128 m) (hc : 128 ≤ c) (hne : cb ≠ cb2) (hg : ∀ p ∈ qat, cb ≠ p.1) :
  (∃ fn, Tryd.prog.funcs[81]? = some fn ∧ fn.body.isSome = true ∧ (fn.name == "runtime.NumGoroutine") = false) ∧
  Calls Tryd.prog 81 #[.pointer (some ⟨cb, co, none⟩), .slice (some ⟨cb2, o2, none⟩) 128 c] w fun e w' => e = .returned (.tuple #[]) ∧ BelowX cb w w' ∧ OwnAt w' .u64 cb co tot 8 (comp p512 K256Q (wst p512 (w0IQ m) 64) h 80) := by
 let W := wst p512 (w0IQ m) 64
 let pl : Pl := ⟨cb, co, tot⟩
 let g : Nat → Option Pl := fun b => if b = 64 then some pl else if b = 65 then some ⟨cb2, o2, 0⟩ else none
 have g64 : g 64 = some pl := rfl
 have g65 : g 65 = some ⟨cb2, o2, 0⟩ := rfl
 have hbr1 : BR (nuTQ h m W h) (embF g) w (hBQ (nmA 0)).2 pl := OwnAt.br hh (by decide) fun j hj => by simp only [nmA, Nat.zero_add, AI.val]; rw [nuT_hQ hj]
 have hbr2 : BR (nuTQ h m W h) (embF g) w byTQ ⟨cb2, o2, 0⟩ := hb.br (by decide) fun j hj => nuT_mQ hj
 have start := qa2 (N := 116) (ν := nuTQ h m W h) (L := [(64, pl)]) (fx := [(64, pl)]) (kp := []) (vs := #[.pointer (some ⟨cb, co, none⟩), .slice (some ⟨cb2, o2, none⟩) 128 c]) (e0 := tu0Q.e) (H0 := tu0Q.H) (n0 := 66) qa6 (w := w) hw g (by show 2 ≤ 116; decide) (by decide)
  (fun b hb => by show (if b = 64 then _ else if b = 65 then _ else _) = _; rw [if_neg (by omega), if_neg (by omega)])
  (fun p hp => by
   simp only [List.mem_cons, List.not_mem_nil, or_false] at hp
   subst hp
   exact qaB (show gmax ≤ 64 by decide))
  (fun p hp => by
   simp only [tu0Q, List.mem_cons, List.not_mem_nil, or_false] at hp
   rcases hp with rfl | rfl
   ·exact ⟨_, rfl, .p 64 0 pl (qaB (by decide))⟩
   ·exact ⟨_, rfl, .sl 65 0 _ .any ⟨cb2, o2, 0⟩ 128 c (qaB (by decide)) rfl trivial hc⟩)
  (fun p hp => by
   simp only [tu0Q, List.mem_cons, List.not_mem_nil, or_false] at hp
   rcases hp with rfl | rfl
   ·refine ⟨by decide, _, g64, hbr1, fun _ => ⟨⟨_, List.mem_cons_self, rfl⟩, hg, (fun q hq => by cases hq), fun q hq hne' pl' hpl' => ?_⟩⟩
    simp only [tu0Q, List.mem_cons, List.not_mem_nil, or_false] at hq
    rcases hq with rfl | rfl
    ·exact (hne' rfl).elim
    ·rw [g65] at hpl'
     cases hpl'
     exact hne
   ·exact ⟨by decide, _, g65, hbr2, fun h => by cases h⟩)
  (fun p hp => by cases hp)
 refine And.imp id (fun h2 => h2.mono fun e w' ⟨v, he, hv, hBQ⟩ => ⟨by rw [he, hv], hBQ⟩) (callsX (L := [(64, pl)]) (gl := qat) (Q := fun v w' => v = .tuple #[] ∧ BelowX cb w w' ∧ OwnAt w' .u64 cb co tot 8 (comp p512 K256Q W h 80)) qaf (by kernel_rfl) tu_shapeQ start ?_)
 have run : ∀ {ic : IC} {i o : Now} {ex : Ex} {d : Nat} {TM : List RowM}, qaF qae tree [] qat [] TM [] 60 d ic i ex o = true → ∀ ν, (∀ r ∈ TM, r.Ok ν Tryd.prog qat) → Tri Tryd.prog 116 ic (HoldsX 116 w ν qat [(64, pl)] [(64, pl)] [] i) fun ex' a w' => ex' = ex ∧ HoldsX 116 w ν qat [(64, pl)] [(64, pl)] [] o a w' := fun h ν hTM =>
  Tri.runX (qaP _) qak qaf qa6 (fun r hr => by cases hr) (fun r hr => by cases hr) hTM (fun r hr => by cases hr) h
 have nor : ∀ ν, ∀ r ∈ ([] : List RowM), r.Ok ν Tryd.prog qat := fun ν r hr => by cases hr
 have fx68 : ∀ p ∈ [(64, pl)], p.1 < 68 := fun p hp => by
  simp only [List.mem_cons, List.not_mem_nil, or_false] at hp
  subst hp
  show 64 < 68
  decide
 refine seqN (run tu_goAQ _ fun r hr => ?_) (seqN (run tu_goBQ _ (nor _)) (seqN (Mid := HoldsX 116 w (nuTQ h m W (vst p512 K256Q W h 80)) qat [(64, pl)] [(64, pl)] [] (tuNQ (nmA 300) [])) ?_ ?_))
 ·simp only [List.mem_cons, List.not_mem_nil, or_false] at hr
  subst hr
  exact rowT_okQ fun j _ => rfl
 ·refine seqN (Mid := HoldsX 116 w (nuTQ h m W (vst p512 K256Q W h 0)) qat [(64, pl)] [(64, pl)] [] (tuNQ (nmA 300) [(19, iN 0)])) ((run tu_goCQ _ (nor _)).weak (fun _ _ h => h) fun ex a w' h => ⟨h.1, tu_namedQ fx68 h.2 fun j hj => by simp only [nmA, Nat.zero_add, AI.val]; exact nuT_hQ hj⟩) ?_
  refine Tri.block (tu_loopQ fx68) (fun a w h => by cases h.1) (fun a w h => ⟨rfl, h.2⟩) (fun j a w hj h => ?_) (fun a w h => by cases h.1)
  have := h.1
  simp only [Ex.exit.injEq] at this
  exact (hj this).elim
 ·refine (run tu_goDQ _ (nor _)).weak (fun _ _ h => h) fun ex a w' hz => ⟨.inl hz.1, _, tuZQ, .tp [], [(64, pl)], [], hz.2, by kernel_rfl, fun ρ v hfx hh _ hBel hv => ?_⟩
  refine ⟨?_, ⟨hBel.os, hBel.tape, hBel.output, hBel.size, fun k hk hk2 => hBel.block k hk fun p hp => ?_⟩, ?_⟩
  ·cases hv
   rename_i vs hs _
   have : vs = #[] := Array.eq_empty_of_size_eq_zero hs.symm
   rw [this]
  ·simp only [List.mem_cons, List.not_mem_nil, or_false] at hp
   subst hp
   exact Ne.symm hk2
  ·obtain ⟨pl', k1, k2⟩ := hh.blk 64 (hBQ fun j => adA p512 (nmA 0 j) (nmA 300 j)).2 (by kernel_rfl)
   have := hfx (64, pl) List.mem_cons_self
   rw [this] at k1
   cases k1
   have k3 := br_own k2 (by decide)
   obtain ⟨C, t, q1, q2, q3⟩ := k3
   refine ⟨C, t, q1, q2, fun j hj => ?_⟩
   rw [q3 j hj]
   have e1 : (adA p512 (nmA 0 j) (nmA 300 j)).val (nuTQ h m W (vst p512 K256Q W h 80)) = comp p512 K256Q W h 80 j := by
    show adI p512 (nuTQ h m W _ (0 + j)) (nuTQ h m W _ (300 + j)) = _
    rw [Nat.zero_add, nuT_hQ hj, nuT_vQ]
    rfl
   exact congrArg (fun x => some (Value.int .u64 x)) e1
end Go.Proofs.YtheidgcgdkmmiaaDoor

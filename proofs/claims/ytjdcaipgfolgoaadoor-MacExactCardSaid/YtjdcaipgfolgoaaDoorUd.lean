/-
  trystref01.Sum256: its words are those of the program; what is kept, seen through windows. Own work.
-/
import Derived.Test.YtjdcaipgfolgoaaDoorUc
namespace Go.Proofs.YtjdcaipgfolgoaaDoor
open Go.Sh
open Go.ChangeShapes Go.WideShapes Go.RowKit
set_option maxRecDepth 100000

/-! the words -/
def or8I (k : IntKind) (x b : Int) : Int := arith .or k (arith .shl k x ((8 : Nat) : Int)) (k.wrap b)
def wpw (m W : Wd) (t : Nat) : Int := if t < 16 then or8I .u32 (or8I .u32 (or8I .u32 (or8I .u32 (W t) (m (4 * t))) (m (4 * t + 1))) (m (4 * t + 2))) (m (4 * t + 3))
  else adI p256 (adI p256 (adI p256 (W (t - 16)) (W (t - 7))) (sgI p256 p256.s0 (W (t - 15)))) (sgI p256 p256.s1 (W (t - 2)))
def wps (m : Wd) : Nat → Wd
  | 0 => fun _ => 0
  | t + 1 => fun j => if j = t then wpw m (wps m t) t else wps m t j
/-- They are bytes. -/
def Bytes (m : Wd) (n : Nat) : Prop := ∀ j, j < n → ∃ b : Nat, m j = (b : Int) ∧ b < 256
theorem or32 (x y : Nat) (hx : x < 4294967296) (hy : y < 4294967296) : arith .or .u32 (x : Int) (y : Int) = ((x ||| y : Nat) : Int) := by
  have h : (BitVec.ofInt 32 (x : Int) ||| BitVec.ofInt 32 (y : Int)).toNat = x ||| y := by
    rw [BitVec.toNat_or]
    simp only [BitVec.ofInt_natCast, BitVec.toNat_ofNat, Nat.reducePow, Nat.mod_eq_of_lt hx, Nat.mod_eq_of_lt hy]
  have hl : (BitVec.ofInt 32 (x : Int) ||| BitVec.ofInt 32 (y : Int)).toNat < 4294967296 := (BitVec.ofInt 32 (x : Int) ||| BitVec.ofInt 32 (y : Int)).isLt
  show IntKind.u32.wrap ((BitVec.ofInt 32 (x : Int) ||| BitVec.ofInt 32 (y : Int)).toNat : Int) = _
  rw [h] at hl
  rw [h, w_u32, Nat.mod_eq_of_lt hl]
theorem shl32 (n s : Nat) (h : s ≤ 32) (hb : n * 2 ^ s < 4294967296) : arith .shl .u32 ((n : Nat) : Int) ((s : Nat) : Int) = ((n * 2 ^ s : Nat) : Int) := by
  show IntKind.u32.wrap (((n : Nat) : Int) * 2 ^ (min ((s : Nat) : Int).toNat 32)) = _
  rw [Int.toNat_natCast, Nat.min_eq_left h]
  have : ((n : Nat) : Int) * 2 ^ s = ((n * 2 ^ s : Nat) : Int) := by push_cast; rfl
  rw [this, w_u32, Nat.mod_eq_of_lt hb]
theorem orAdd (a b s : Nat) (h : b < 2 ^ s) : a * 2 ^ s ||| b = a * 2 ^ s + b := by
  rw [← Nat.shiftLeft_eq, Nat.shiftLeft_add_eq_or_of_lt h]
theorem or8I_val (x b : Nat) (hx : x < 16777216) (hb : b < 256) : or8I .u32 (x : Int) (b : Int) = ((x * 256 + b : Nat) : Int) := by
  unfold or8I
  rw [shl32 x 8 (by decide) (by omega), w_u32, Nat.mod_eq_of_lt (by omega), or32 _ _ (by omega) (by omega), orAdd x b 8 (by omega)]
theorem word_eq {m : Wd} (hm : Bytes m 64) {t : Nat} (ht : t < 16) : or8I .u32 (or8I .u32 (or8I .u32 (or8I .u32 0 (m (4 * t))) (m (4 * t + 1))) (m (4 * t + 2))) (m (4 * t + 3)) = (word4A t).val m := by
  obtain ⟨a, ha, la⟩ := hm (4 * t) (by omega)
  obtain ⟨b, hb, lb⟩ := hm (4 * t + 1) (by omega)
  obtain ⟨c, hc, lc⟩ := hm (4 * t + 2) (by omega)
  obtain ⟨d, hd, ld⟩ := hm (4 * t + 3) (by omega)
  show _ = arith .or .u32 (arith .or .u32 (arith .or .u32 (arith .shl .u32 (IntKind.u32.wrap (m (4 * t))) ((24 : Nat) : Int)) (arith .shl .u32 (IntKind.u32.wrap (m (4 * t + 1))) ((16 : Nat) : Int))) (arith .shl .u32 (IntKind.u32.wrap (m (4 * t + 2))) ((8 : Nat) : Int))) (IntKind.u32.wrap (m (4 * t + 3)))
  rw [ha, hb, hc, hd]
  have z0 : (0 : Int) = ((0 : Nat) : Int) := rfl
  rw [z0, or8I_val 0 a (by omega) la, or8I_val _ b (by omega) lb, or8I_val _ c (by omega) lc, or8I_val _ d (by omega) ld]
  rw [w_u32, w_u32, w_u32, w_u32, Nat.mod_eq_of_lt (show a < 4294967296 by omega), Nat.mod_eq_of_lt (show b < 4294967296 by omega), Nat.mod_eq_of_lt (show c < 4294967296 by omega), Nat.mod_eq_of_lt (show d < 4294967296 by omega)]
  rw [shl32 a 24 (by decide) (by simp only [Nat.reducePow]; omega), shl32 b 16 (by decide) (by simp only [Nat.reducePow]; omega), shl32 c 8 (by decide) (by simp only [Nat.reducePow]; omega)]
  rw [or32 _ _ (by simp only [Nat.reducePow]; omega) (by simp only [Nat.reducePow]; omega), orAdd a (b * 2 ^ 16) 24 (by simp only [Nat.reducePow]; omega)]
  rw [or32 _ _ (by simp only [Nat.reducePow]; omega) (by simp only [Nat.reducePow]; omega), show a * 2 ^ 24 + b * 2 ^ 16 = (a * 256 + b) * 2 ^ 16 by omega, orAdd (a * 256 + b) (c * 2 ^ 8) 16 (by simp only [Nat.reducePow]; omega)]
  rw [or32 _ _ (by simp only [Nat.reducePow]; omega) (by omega), show (a * 256 + b) * 2 ^ 16 + c * 2 ^ 8 = ((a * 256 + b) * 256 + c) * 2 ^ 8 by omega, orAdd _ d 8 (by omega)]
  refine congrArg (fun x : Nat => (x : Int)) ?_
  omega
theorem ad4 (p : Pr) (hp : p.k = .u32 ∨ p.k = .u64) (a b c d : Int) : adI p (adI p (adI p a b) c) d = adI p (adI p (adI p d b) c) a := by
  show p.k.wrap (p.k.wrap (p.k.wrap (a + b) + c) + d) = p.k.wrap (p.k.wrap (p.k.wrap (d + b) + c) + a)
  rcases hp with h | h <;> rw [h] <;> simp only [IntKind.wrap, IntKind.bits, IntKind.signed] <;> simp <;> omega
theorem wps_lo {m : Wd} (hm : Bytes m 64) : ∀ t, t ≤ 16 → ∀ j, wps m t j = if j < t then w0I m j else 0
  | 0, _, j => by rw [if_neg (by omega)]; rfl
  | t + 1, ht, j => by
    have ih := wps_lo hm t (by omega)
    show (if j = t then wpw m (wps m t) t else wps m t j) = _
    by_cases h : j = t
    · subst h
      rw [if_pos rfl, if_pos (by omega)]
      unfold wpw
      rw [if_pos (by omega), ih j, if_neg (by omega), word_eq hm (by omega)]
      show _ = (w0A j).val m
      unfold w0A
      rw [if_pos (by simp; omega)]
    · rw [if_neg h, ih j]
      by_cases h2 : j < t
      · rw [if_pos h2, if_pos (by omega)]
      · rw [if_neg h2, if_neg (by omega)]
theorem wps_hi {m : Wd} (hm : Bytes m 64) : ∀ i, wps m (16 + i) = wst p256 (w0I m) i
  | 0 => by
    funext j
    rw [wps_lo hm 16 (by omega)]
    show _ = w0I m j
    by_cases h : j < 16
    · rw [if_pos h]
    · rw [if_neg h]
      show 0 = (w0A j).val m
      unfold w0A
      rw [if_neg (by simp; omega)]
      rfl
  | i + 1 => by
    have ih := wps_hi hm i
    funext j
    show (if j = 16 + i then wpw m (wps m (16 + i)) (16 + i) else wps m (16 + i) j) = if j = 16 + i then wI p256 (wst p256 (w0I m) i) (16 + i) else wst p256 (w0I m) i j
    rw [ih]
    by_cases h : j = 16 + i
    · rw [if_pos h, if_pos h]
      unfold wpw
      rw [if_neg (by omega)]
      exact ad4 p256 (.inl rfl) _ _ _ _
    · rw [if_neg h, if_neg h]
theorem wps_all {m : Wd} (hm : Bytes m 64) : wps m 64 = wst p256 (w0I m) 48 := wps_hi hm 48

/-! what is kept -/
/-- A block that is but read is kept, where it lies. -/
theorem keepX {P : Program} {N : Nat} {w0 : World} {ν : Nat → Int} {gl : Gl} {L fx : List (Nat × Pl)} {kp : List (Nat × Obj)} {o : Now} {a : Act} {w : World} {b : Nat} {x : ABlk} (h : HoldsX N w0 ν gl L fx kp o a w) (hb : (heapL (o.H ++ gl) o.n).get b = some x) (ho : x.own = false) :
    ∃ pl ob, w.heap[pl.cb]? = some ob ∧ (mapTag < x.elem → PinB ν w x pl) ∧ HoldsX N w0 ν gl L ((b, pl) :: fx) ((pl.cb, ob) :: kp) o a w := by
  have _ := P
  obtain ⟨ρ, h0, h1, h2, h3, h4, h5, h6⟩ := h.has
  obtain ⟨pl, k1, k2⟩ := h2.blk b x hb
  obtain ⟨ob, hob⟩ : ∃ ob, w.heap[pl.cb]? = some ob := ⟨_, Array.getElem?_eq_getElem k2.lt⟩
  refine ⟨pl, ob, hob, k2.pin, h.low, h.big, ⟨ρ, fun p hp => ?_, h1, h2, h3, h4, fun p hp => ?_, h6⟩, fun p hp => ?_, h.laid, h.below, h.tmps, h.defers⟩
  · rcases List.mem_cons.1 hp with rfl | hp
    · exact k1
    · exact h0 p hp
  · rcases List.mem_cons.1 hp with rfl | hp
    · rintro ⟨b', x', pl', q1, q2, q3, q4⟩
      refine h2.apart b' b x' x pl' pl (fun e => ?_) q1 hb q2 q3 k1 q4
      subst e
      rw [hb] at q1
      cases q1
      rw [ho] at q2
      cases q2
    · exact h5 p hp
  · rcases List.mem_cons.1 hp with rfl | hp
    · exact hob
    · exact h.kept p hp
/-- A slice that is seen through a window. -/
theorem slotTo_win {ν ν' : Nat → Int} {fx : List (Nat × Pl)} {n : Nat} {vw : Nat → Option Pl} {b : Nat} {k' l l' : AI} {wd' : Nat} {pl pl' : Pl} {i' m : Nat} {cap : Cap} (hf : (b, pl) ∈ fx) (hv : vw b = some pl') (hcb : pl'.cb = pl.cb) (hk' : k'.val ν' = (i' : Int)) (hp : pl'.co = pl.co + i') (hl : l.val ν = (m : Int)) (hl' : l'.val ν' = (m : Int)) (hw : i' + wd' ≤ m) (hm : m < 4611686018427387904) :
    SlotTo ν ν' fx n vw (.sl b 0 l cap) (.slw b 1 k' wd' l' .any) := by
  intro ρ ρ' v hfx hA h
  cases h
  rename_i q n' cc h4 h1 h2 h3
  have e1 := hfx _ hf
  have e1 : ρ b = some pl := e1
  rw [h1] at e1
  cases e1
  have e3 : n' = m := by rw [hl] at h2; omega
  subst e3
  rw [← hcb]
  exact .slw b 1 k' wd' l' .any pl' (pl.co + 0) i' n' cc (hA.1 _ _ hv) hk' (by omega) hw hl' trivial h4 hm
theorem Tri.ex {P : Program} {N : Nat} {ic : IC} {ι : Type} {Pre : ι → Act → World → Prop} {Post : Ex → Act → World → Prop} (h : ∀ i, Tri P N ic (Pre i) Post) : Tri P N ic (fun a w => ∃ i, Pre i a w) Post :=
  fun c hc a w ⟨i, hp⟩ => h i c hc a w hp
end Go.Proofs.YtjdcaipgfolgoaaDoor

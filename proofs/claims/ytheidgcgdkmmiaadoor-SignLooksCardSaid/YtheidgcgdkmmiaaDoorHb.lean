/-
 THE PAGE's NUMBERS: Of, Bytes, add, sub, times. Own work.
-/
import Derived.Test.YtheidgcgdkmmiaaDoorHa
namespace Go.Proofs.YtheidgcgdkmmiaaDoor
open Go.Sh
set_option maxRecDepth 100000
/-! Of and Bytes -/
def ofE (k : Nat) : AI := .e .or .u64 (.e .or .u64 (.e .or .u64 (.e .or .u64 (.e .or .u64 (.e .or .u64 (.e .or .u64 (.e .or .u64 (.c (.ofNat 0)) (.e .shl .u64 (.w .u64 (.s k)) (.c (.ofNat 0)))) (.e .shl .u64 (.w .u64 (.s (k + 1))) (.c (.ofNat 8)))) (.e .shl .u64 (.w .u64 (.s (k + 2))) (.c (.ofNat 16)))) (.e .shl .u64 (.w .u64 (.s (k + 3))) (.c (.ofNat 24))))
 (.e .shl .u64 (.w .u64 (.s (k + 4))) (.c (.ofNat 32)))) (.e .shl .u64 (.w .u64 (.s (k + 5))) (.c (.ofNat 40)))) (.e .shl .u64 (.w .u64 (.s (k + 6))) (.c (.ofNat 48)))) (.e .shl .u64 (.w .u64 (.s (k + 7))) (.c (.ofNat 56)))
theorem ofE_val {ν : Nat → Int} {k : Nat} (b0 b1 b2 b3 b4 b5 b6 b7 : Nat) (h0 : ν k = b0) (h1 : ν (k + 1) = b1) (h2 : ν (k + 2) = b2) (h3 : ν (k + 3) = b3) (h4 : ν (k + 4) = b4) (h5 : ν (k + 5) = b5) (h6 : ν (k + 6) = b6) (h7 : ν (k + 7) = b7)
  (l0 : b0 < 256) (l1 : b1 < 256) (l2 : b2 < 256) (l3 : b3 < 256) (l4 : b4 < 256) (l5 : b5 < 256) (l6 : b6 < 256) (l7 : b7 < 256) :
  (ofE k).val ν = ((b0 + 256 * b1 + 65536 * b2 + 16777216 * b3 + 4294967296 * b4 + 1099511627776 * b5 + 281474976710656 * b6 + 72057594037927936 * b7 : Nat) : Int) := by
 show qaj .or .u64 (qaj .or .u64 (qaj .or .u64 (qaj .or .u64 (qaj .or .u64 (qaj .or .u64 (qaj .or .u64 (qaj .or .u64 ((0 : Nat) : Int) (qaj .shl .u64 (IntKind.u64.wrap (ν k)) ((0 : Nat) : Int))) (qaj .shl .u64 (IntKind.u64.wrap (ν (k + 1))) ((8 : Nat) : Int))) (qaj .shl .u64 (IntKind.u64.wrap (ν (k + 2))) ((16 : Nat) : Int))) (qaj .shl .u64 (IntKind.u64.wrap (ν (k + 3))) ((24 : Nat) : Int)))
  (qaj .shl .u64 (IntKind.u64.wrap (ν (k + 4))) ((32 : Nat) : Int))) (qaj .shl .u64 (IntKind.u64.wrap (ν (k + 5))) ((40 : Nat) : Int))) (qaj .shl .u64 (IntKind.u64.wrap (ν (k + 6))) ((48 : Nat) : Int))) (qaj .shl .u64 (IntKind.u64.wrap (ν (k + 7))) ((56 : Nat) : Int)) = _
 rw [h0, h1, h2, h3, h4, h5, h6, h7]
 rw [a_orS 0 b0 0 (by decide) (by decide) l0, a_orS _ b1 8 (by decide) (by omega) l1, a_orS _ b2 16 (by decide) (by omega) l2, a_orS _ b3 24 (by decide) (by omega) l3, a_orS _ b4 32 (by decide) (by omega) l4, a_orS _ b5 40 (by decide) (by omega) l5, a_orS _ b6 48 (by decide) (by omega) l6, a_orS _ b7 56 (by decide) (by omega) l7]
 congr 1
 omega
theorem ofE_word {ν : Nat → Int} {k y : Nat} (hy : y < 18446744073709551616) (h0 : ν k = ((y % 256 : Nat) : Int)) (h1 : ν (k + 1) = ((y / 256 % 256 : Nat) : Int)) (h2 : ν (k + 2) = ((y / 65536 % 256 : Nat) : Int)) (h3 : ν (k + 3) = ((y / 16777216 % 256 : Nat) : Int)) (h4 : ν (k + 4) = ((y / 4294967296 % 256 : Nat) : Int))
  (h5 : ν (k + 5) = ((y / 1099511627776 % 256 : Nat) : Int)) (h6 : ν (k + 6) = ((y / 281474976710656 % 256 : Nat) : Int)) (h7 : ν (k + 7) = ((y / 72057594037927936 % 256 : Nat) : Int)) : (ofE k).val ν = (y : Int) := by
 have hm : ∀ z, z % 256 < 256 := fun z => Nat.mod_lt _ (by decide)
 rw [ofE_val _ _ _ _ _ _ _ _ h0 h1 h2 h3 h4 h5 h6 h7 (hm _) (hm _) (hm _) (hm _) (hm _) (hm _) (hm _) (hm _)]
 congr 1
 omega
def bytesR : List AV := [lb 0 0, lb 0 8, lb 0 16, lb 0 24, lb 0 32, lb 0 40, lb 0 48, lb 0 56, lb 1 0, lb 1 8, lb 1 16, lb 1 24, lb 1 32, lb 1 40, lb 1 48, lb 1 56, lb 2 0, lb 2 8, lb 2 16, lb 2 24, lb 2 32, lb 2 40, lb 2 48, lb 2 56, lb 3 0, lb 3 8, lb 3 16, lb 3 24, lb 3 32, lb 3 40, lb 3 48, lb 3 56]
/-! add and sub -/
theorem sub_step (a b c s k : Nat) (ha : a < 18446744073709551616) (hb : b < 18446744073709551616) (hc : c ≤ 1) (hs : s = (a + 18446744073709551616 - b - c) % 18446744073709551616) (hk : k = if a < b + c then 1 else 0) : s + b + c = a + 18446744073709551616 * k ∧ k ≤ 1 ∧ s < 18446744073709551616 := by
 split at hk <;> omega
theorem sub_lin (a b c d a' b' c' d' s0 s1 s2 s3 k0 k1 k2 k3 x y : Nat) (h0 : s0 + a' + 0 = a + 18446744073709551616 * k0) (h1 : s1 + b' + k0 = b + 18446744073709551616 * k1) (h2 : s2 + c' + k1 = c + 18446744073709551616 * k2) (h3 : s3 + d' + k2 = d + 18446744073709551616 * k3)
  (hx : x = a + b * 18446744073709551616 + c * 340282366920938463463374607431768211456 + d * 6277101735386680763835789423207666416102355444464034512896 + 0 * B4) (hy : y = a' + b' * 18446744073709551616 + c' * 340282366920938463463374607431768211456 + d' * 6277101735386680763835789423207666416102355444464034512896 + 0 * B4) :
  s0 + s1 * 18446744073709551616 + s2 * 340282366920938463463374607431768211456 + s3 * 6277101735386680763835789423207666416102355444464034512896 + y = x + k3 * B4 := by
 unfold B4 at *
 omega
theorem radd_of {s0 s1 s2 s3 : Nat} (h0 : s0 < 18446744073709551616) (h1 : s1 < 18446744073709551616) (h2 : s2 < 18446744073709551616) (h3 : s3 < 18446744073709551616) :
  n4 s0 s1 s2 s3 = num (s0 + s1 * 18446744073709551616 + s2 * 340282366920938463463374607431768211456 + s3 * 6277101735386680763835789423207666416102355444464034512896) ∧ s0 + s1 * 18446744073709551616 + s2 * 340282366920938463463374607431768211456 + s3 * 6277101735386680763835789423207666416102355444464034512896 < B4 := by
 refine ⟨num_of (e := 0) h0 h1 h2 h3 (by omega), ?_⟩
 unfold B4
 omega
/-! Mod, Add and Sub -/
def kar (n : Nat) : AV := .i .u64 (.e .add .u64 (.e .add .u64 (.s n) (.s (n + 3))) (.s (n + 5)))
theorem kar_val {ν : Nat → Int} {n h c d C : Nat} (e1 : ν n = (h : Int)) (e2 : ν (n + 3) = (c : Int)) (e3 : ν (n + 5) = (d : Int)) (hC : C = h + c + d) (hl : C < 18446744073709551616) : (AI.e .add .u64 (.e .add .u64 (.s n) (.s (n + 3))) (.s (n + 5))).val ν = (C : Int) := by
 show qaj .add .u64 (qaj .add .u64 (ν n) (ν (n + 3))) (ν (n + 5)) = _
 rw [e1, e2, e3, a_add, a_add, Nat.mod_eq_of_lt (show h + c < 18446744073709551616 by omega), Nat.mod_eq_of_lt (show h + c + d < 18446744073709551616 by omega), hC]
theorem qaz {ν : Nat → Int} {n h c d C : Nat} (e1 : ν n = (h : Int)) (e2 : ν (n + 3) = (c : Int)) (e3 : ν (n + 5) = (d : Int)) (hC : C = h + c + d) (hl : C < 18446744073709551616) : qag ν (kar n) = some (u64 C) :=
 congrArg (fun z => some (Value.int .u64 z)) (kar_val e1 e2 e3 hC hl)
structure Step (a b o q h l s c t d C : Nat) : Prop where
 ha : a < 18446744073709551616
 hb : b < 18446744073709551616
 eh : h = a * b / 18446744073709551616
 el : l = a * b % 18446744073709551616
 es : s = (l + o + 0) % 18446744073709551616
 ec : c = (l + o + 0) / 18446744073709551616
 et : t = (s + q + 0) % 18446744073709551616
 ed : d = (s + q + 0) / 18446744073709551616
 eC : C = h + c + d
 lC : C < 18446744073709551616
 lt : t < 18446744073709551616
 all : t + 18446744073709551616 * C = a * b + o + q
theorem qaC (a b o q : Nat) (ha : a < 18446744073709551616) (hb : b < 18446744073709551616) (ho : o < 18446744073709551616) (hq : q < 18446744073709551616) : ∃ h l s c t d C, Step a b o q h l s c t d C := by
 have hp : a * b ≤ 18446744073709551615 * 18446744073709551615 := Nat.mul_le_mul (by omega) (by omega)
 obtain ⟨p, ep⟩ : ∃ p, p = a * b := ⟨_, rfl⟩
 rw [← ep] at hp
 refine ⟨_, _, _, _, _, _, _, ⟨ha, hb, rfl, rfl, rfl, rfl, rfl, rfl, rfl, ?_, ?_, ?_⟩⟩
 ·rw [← ep]; clear ep; omega
 ·exact Nat.mod_lt _ (by decide)
 ·rw [← ep]; clear ep; omega
def num8 (T : Nat) : Value := .agg #[u64 (Sh.w0 T), u64 (w1 T), u64 (w2 T), u64 (w3 T), u64 (Sh.w0 (T / B4)), u64 (w1 (T / B4)), u64 (w2 (T / B4)), u64 (w3 (T / B4))]
end Go.Proofs.YtheidgcgdkmmiaaDoor

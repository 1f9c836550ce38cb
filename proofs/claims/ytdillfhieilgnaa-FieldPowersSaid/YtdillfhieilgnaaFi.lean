/-
  THE FIELD: what Small answers; a root, by its square; evenness. Own work.
-/
import Derived.Test.YtdillfhieilgnaaFh
import Derived.Test.YtdillfhieilgnaaSh5
import Derived.Test.YtdillfhieilgnaaSh6
namespace Go.Proofs.Ytdillfhieilgnaa
open Go.Sh
set_option maxRecDepth 100000

def sb (n : Nat) : AV := .i .u8 (.w .u8 (.e .shr .u64 (.s 0) (.c (.ofNat n))))
def smallR : List AV := [sb 0, sb 8, sb 16, sb 24, sb 32, sb 40, sb 48, sb 56, z8, z8, z8, z8, z8, z8, z8, z8, z8, z8, z8, z8, z8, z8, z8, z8, z8, z8, z8, z8, z8, z8, z8, z8]
theorem small_says : says noFacts tree [] 100 5 29 [wd 0] (heap0 [] gmax) (.ag smallR) = true := by kernel_rfl

theorem sb_val {ν : Nat → Int} {y : Nat} (h : ν 0 = (y : Int)) (n : Nat) (hn : n ≤ 64) : conc1 ν (sb n) = some (u8 (y / 2 ^ n % 256)) := congrArg (fun z => some (Value.int .u8 z)) (layE_val h n hn)
theorem z8_val {ν : Nat → Int} : conc1 ν z8 = some (u8 0) := rfl

theorem Small_ok (x : Nat) (hx : x < 18446744073709551616) : Pure Try.prog 29 [u64 x] (byt x) := by
  refine pure_of (ν := nu [x]) (noFacts_hold _) mixed tab_ok (fun r hr => by cases hr) small_says rfl ?_
  have f0 : nu [x] 0 = (x : Int) := rfl
  show (concL _ smallR).map (fun vs => Value.agg vs.toArray) = _
  simp only [smallR, concL, sb_val f0 0 (by decide), sb_val f0 8 (by decide), sb_val f0 16 (by decide), sb_val f0 24 (by decide), sb_val f0 32 (by decide), sb_val f0 40 (by decide), sb_val f0 48 (by decide), sb_val f0 56 (by decide), z8_val, Option.map_some]
  have g0 : Sh.w0 x = x := Nat.mod_eq_of_lt hx
  have g1 : w1 x = 0 := by unfold w1; omega
  have g2 : w2 x = 0 := by unfold w2; omega
  have g3 : w3 x = 0 := by unfold w3; omega
  unfold byt byL
  rw [g0, g1, g2, g3]
  simp [bL]

theorem rowSmall {ν : Nat → Int} {p r : AV} {x : Nat} (hx : x < 18446744073709551616) (h1 : conc2 ν p = some (u64 x)) (h2 : conc ν r = some (byt x)) : Row.Ok ν Try.prog ⟨29, [p], r⟩ := ⟨[u64 x], byt x, by simp [concT, h1], h2, Small_ok x hx⟩

theorem rowRootY {ν : Nat → Int} {p r : AV} {x y : Nat} (hx : x < B4) (hy : rootBy e8 e4 x = some y) (h1 : conc2 ν p = some (byt x)) (h3 : conc ν (.tp [r, .b true]) = some (rootV (some y))) : Row.Ok ν Try.prog ⟨23, [p], .tp [r, .b true]⟩ :=
  ⟨[byt x], _, by simp [concT, h1], h3, hy ▸ Root_ok x hx⟩
theorem rowRootN {ν : Nat → Int} {p r : AV} {x : Nat} (hx : x < B4) (hy : rootBy e8 e4 x = none) (h1 : conc2 ν p = some (byt x)) (h3 : conc ν (.tp [r, .b false]) = some (rootV none)) : Row.Ok ν Try.prog ⟨23, [p], .tp [r, .b false]⟩ :=
  ⟨[byt x], _, by simp [concT, h1], h3, hy ▸ Root_ok x hx⟩

/-- The lowest byte of an even number is even. -/
def evenF (k : Nat) : BinOp × AI × AI × Bool := (.eql, .e .rem .u8 (.s k) (.c (.ofNat 2)), .c (.ofNat 0), true)
theorem evenF_holds {ν : Nat → Int} {k x : Nat} (h : ν k = ((Sh.w0 x % 256 : Nat) : Int)) (he : x % 2 = 0) : compare (evenF k).1 ((evenF k).2.1.val ν) ((evenF k).2.2.1.val ν) = (evenF k).2.2.2 := by
  show (Int.tmod (ν k) ((2 : Nat) : Int) == ((0 : Nat) : Int)) = true
  rw [h, ← Int.ofNat_tmod]
  have : Sh.w0 x % 256 % 2 = 0 := by unfold Sh.w0; omega
  rw [this]
  rfl

/-! What rootBy tells. -/

theorem s_sq : Eq' ((2 ^ e4 % prime) * (2 ^ e4 % prime) + 1) 0 := by
  rw [← pm_eq 256 2 e4 (by decide)]
  unfold Eq'
  decide +kernel

/-- The even one of both. -/
def evenOf (r : Nat) : Nat := if r % 2 = 1 then (prime - r) % prime else r
theorem evenOf_spec {r : Nat} (h : r < prime) : evenOf r < prime ∧ evenOf r % 2 = 0 ∧ evenOf r * evenOf r % prime = r * r % prime := by
  unfold evenOf
  split
  · rename_i ho
    have h1 : (prime - r) % prime = prime - r := Nat.mod_eq_of_lt (by have : 0 < r := (by omega); unfold prime at *; omega)
    rw [h1]
    refine ⟨by have : 0 < r := (by omega); unfold prime at *; omega, by unfold prime at *; omega, ?_⟩
    have h2 := sign_sq r
    rwa [Nat.zero_add, Nat.mod_eq_of_lt h, h1] at h2
  · rename_i ho
    exact ⟨h, by omega, rfl⟩

theorem root_some {x y : Nat} (h : rootBy e8 e4 x = some y) : y < prime ∧ y % 2 = 0 ∧ y * y % prime = x % prime := by
  unfold rootBy at h
  split at h
  · rename_i c
    simp only [Option.some.injEq] at h
    obtain ⟨s1, s2, s3⟩ := evenOf_spec (lt_prime ((x % prime) ^ e8))
    have : evenOf ((x % prime) ^ e8 % prime) = y := h
    rw [this] at s1 s2 s3
    exact ⟨s1, s2, s3.trans c⟩
  · split at h
    · rename_i c
      simp only [Option.some.injEq] at h
      obtain ⟨s1, s2, s3⟩ := evenOf_spec (lt_prime ((x % prime) ^ e8 % prime * (2 ^ e4 % prime)))
      have : evenOf ((x % prime) ^ e8 % prime * (2 ^ e4 % prime) % prime) = y := h
      rw [this] at s1 s2 s3
      exact ⟨s1, s2, s3.trans c⟩
    · cases h

theorem root_there {x : Nat} (h : x ^ half' % prime = 1) : ∃ y, rootBy e8 e4 x = some y := by
  have hq : (x % prime) ^ half' % prime = 1 := by rw [← Nat.pow_mod]; exact h
  rcases root_found e8 (2 ^ e4 % prime) (by decide) s_sq hq with h1 | h1
  · unfold rootBy
    rw [if_pos]
    · exact ⟨_, rfl⟩
    · have h2 : Eq' ((x % prime) ^ e8 % prime * ((x % prime) ^ e8 % prime)) ((x % prime) ^ e8 * (x % prime) ^ e8) := Eq'.mul (Eq'.mod _) (Eq'.mod _)
      have h3 := Eq'.trans' h2 h1
      unfold Eq' at h3
      rwa [Nat.mod_mod] at h3
  · unfold rootBy
    split
    · exact ⟨_, rfl⟩
    · rw [if_pos]
      · exact ⟨_, rfl⟩
      · have h0 : Eq' ((x % prime) ^ e8 % prime * (2 ^ e4 % prime) % prime) ((x % prime) ^ e8 * (2 ^ e4 % prime)) := Eq'.trans' (Eq'.mod _) (Eq'.mul (Eq'.mod _) (Eq'.rfl' _))
        have h3 := Eq'.trans' (Eq'.mul h0 h0) h1
        unfold Eq' at h3
        rwa [Nat.mod_mod] at h3

theorem root_zero {x : Nat} (h : x % prime = 0) : rootBy e8 e4 x = some 0 := by
  have h0 : 0 ^ e8 % prime = 0 := by rw [Nat.zero_pow (by decide)]; rfl
  unfold rootBy
  rw [h, h0]
  rfl

theorem word_of {n : Int} (h : (Lit.int .u64 n).wf = true) : ∃ m : Nat, n = (m : Int) ∧ m < 18446744073709551616 := by
  have h1 : IntKind.u64.min ≤ n ∧ n ≤ IntKind.u64.max := by simpa [Lit.wf] using h
  rw [show IntKind.u64.min = 0 from rfl, show IntKind.u64.max = 18446744073709551615 from rfl] at h1
  exact ⟨n.toNat, by omega, by omega⟩
theorem word_of8 {n : Int} (h : (Lit.int .u8 n).wf = true) : ∃ m : Nat, n = (m : Int) ∧ m < 256 := by
  have h1 : IntKind.u8.min ≤ n ∧ n ≤ IntKind.u8.max := by simpa [Lit.wf] using h
  rw [show IntKind.u8.min = 0 from rfl, show IntKind.u8.max = 255 from rfl] at h1
  exact ⟨n.toNat, by omega, by omega⟩

end Go.Proofs.Ytdillfhieilgnaa

/-
  LAYER 25: one client's log. Own work.
-/
import Derived.Test.YtgpcmblfcelijaaLXk
namespace Go.Proofs.Ytgpcmblfcelijaa
open Go.ChangeShapes Go.WideShapes Go.ChangeAt Go.RowKit Go.Maps
set_option maxRecDepth 100000
attribute [local go_sem ↓] Go.wp_at_zero Go.wp_at_succ
/-- Nothing yet, or one client's log that begins at nought. -/
def One (S : List Lg) (cl : Nat) (ys : List Int) : Prop := (∀ y ∈ ys, 0 ≤ y ∧ y ≤ 1048576) ∧ ys.length ≤ 32 ∧ ((ys = [] ∧ S = []) ∨ ∃ v, S = [⟨cl, 0, v, ys⟩])
theorem One.len {S : List Lg} {cl : Nat} {ys : List Int} (h : One S cl ys) : S.length ≤ 1 := by
  obtain ⟨_, _, ⟨_, rfl⟩ | ⟨v, rfl⟩⟩ := h <;> simp
theorem One.right {S : List Lg} {cl : Nat} {ys : List Int} (h : One S cl ys) (hc : cl < 8) : Right S := by
  obtain ⟨hy, hl, ⟨_, rfl⟩ | ⟨v, rfl⟩⟩ := h
  · exact ⟨(fun i h => absurd h (Nat.not_lt_zero _)), (fun i j h hj => absurd hj (Nat.not_lt_zero _))⟩
  · refine ⟨fun i h => ?_, fun i j h hj => by simp at hj; omega⟩
    obtain rfl : i = 0 := by simpa using h
    exact ⟨by simp, by simp; omega, by simp, by simp, by simpa using hl, by simpa using hy⟩
theorem one_at {S : List Lg} {cl : Nat} {v : Value} {ys : List Int} {a : Nat} (hS : S = [⟨cl, 0, v, ys⟩]) (h : AtL S cl a) : a = 0 ∧ foundL S cl a = true := by
  subst hS
  have h0 : a = 0 := by
    rcases Nat.eq_zero_or_pos a with h0 | h0
    · exact h0
    · have := h.lo 0 _ rfl h0
      simp at this
  subst h0
  refine ⟨rfl, ?_⟩
  simp [foundL]
theorem One.last {S : List Lg} {cl : Nat} {ys : List Int} (h : One S cl ys) : LastL S cl := by
  intro a ha hf
  obtain ⟨_, _, ⟨_, rfl⟩ | ⟨v, hS⟩⟩ := h
  · have := ha.le
    simp at this
    simp [this]
  · rw [(one_at hS ha).2] at hf
    cases hf
theorem One.had {S : List Lg} {cl : Nat} {ys : List Int} (h : One S cl ys) (hc : cl < 8) : HadIs S cl ys.length := by
  intro zs hz
  obtain ⟨_, _, ⟨rfl, rfl⟩ | ⟨v, rfl⟩⟩ := h
  · exact hz.no cl hc (fun i g hg => by simp at hg)
  · have := hz.yes 0 _ rfl (by simp)
    simpa using this
theorem appL.one {S : List Lg} {a : Nat} {x : Int} {T : List Lg} {cl : Nat} {v : Value} {ys : List Int} (h : appL S a x T) (hS : S = [⟨cl, 0, v, ys⟩]) (ha : a = 0) : ∃ v', T = [⟨cl, 0, v', ys ++ [x]⟩] := by
  subst hS ha
  obtain ⟨hl, hh⟩ := h
  match T, hl with
  | [t], _ =>
    obtain ⟨e0, e1, e2⟩ := hh 0 (by simp) (by simp)
    obtain ⟨tc, tb, tv, tx⟩ := t
    simp at e0 e1 e2
    exact ⟨tv, by rw [e0, e1, e2]⟩
theorem One.put {S : List Lg} {cl : Nat} {ys : List Int} (h : One S cl ys) {body k er : Int} {w' : World} {v : Value} (hb0 : 0 ≤ body) (hb1 : body ≤ 1048576) (hp : PutSpec S cl body w' v k er) :
    (ys.length = 32 ∧ v = .slice none 0 0 ∧ k = 0 ∧ er = 20) ∨ (ys.length < 32 ∧ k = ys.length + 1 ∧ er = 0 ∧ ∃ T, One T cl (ys ++ [body]) ∧ Logs w' v T) := by
  obtain ⟨a, ha, hp⟩ := hp
  obtain ⟨hy, hl, hS⟩ := h
  have hy' : ∀ y ∈ ys ++ [body], 0 ≤ y ∧ y ≤ 1048576 := by
    intro y hy2
    rcases List.mem_append.1 hy2 with h | h
    · exact hy y h
    · rw [List.mem_singleton.1 h]
      exact ⟨hb0, hb1⟩
  rcases hS with ⟨rfl, rfl⟩ | ⟨vv, hS⟩
  · have h0 := ha.le
    simp at h0
    subst h0
    rcases hp with ⟨hf, _⟩ | ⟨_, hk, he, T, hap, hlg⟩
    · simp [foundL] at hf
    · obtain ⟨v', rfl⟩ := hap.one (cl := cl) (v := .slice none 0 0) (ys := []) (by simp [insL, newLg]) rfl
      exact .inr ⟨by simp, by simpa using hk, he, _, ⟨hy', by simp, .inr ⟨v', rfl⟩⟩, hlg⟩
  · obtain ⟨rfl, hf'⟩ := one_at hS ha
    rcases hp with ⟨_, g, hg, ⟨h32, hv, hk, he⟩ | ⟨h32, hk, he, T, hap, hlg⟩⟩ | ⟨hf, _⟩
    · rw [hS] at hg
      simp at hg
      subst hg
      exact .inl ⟨h32, hv, hk, he⟩
    · rw [hS] at hg
      simp at hg
      subst hg
      obtain ⟨v', rfl⟩ := hap.one hS rfl
      simp only at h32 hk
      exact .inr ⟨h32, by rw [hk]; simp, he, _, ⟨hy', by simp; omega, .inr ⟨v', rfl⟩⟩, hlg⟩
    · rw [hf'] at hf
      cases hf
theorem One.alike {S T : List Lg} {cl : Nat} {ys : List Int} (h : One S cl ys) (h' : One T cl ys) (hn : ys ≠ []) : Alike S T := by
  obtain ⟨_, _, ⟨e, _⟩ | ⟨v, rfl⟩⟩ := h
  · exact absurd e hn
  · obtain ⟨_, _, ⟨e, _⟩ | ⟨v', rfl⟩⟩ := h'
    · exact absurd e hn
    · refine ⟨rfl, fun i hi hi' => ?_⟩
      obtain rfl : i = 0 := by simpa using hi
      exact ⟨rfl, rfl, rfl⟩
section
variable {v : Value} {S : List Lg} {ws : World} {cl : Nat} {ys : List Int} {b : Int}
theorem say_full (h : Logs ws v S) (ho : One S cl ys) (hc : cl < 8) (hl : ys.length = 32) (hb0 : 0 ≤ b) (hb1 : b ≤ 1048576) : Calls Try.prog 16 #[v, .int .i64 cl, .int .i64 b] ws fun e w' => e = .returned (.tuple #[.slice none 0 0, .int .i64 0, .int .i64 20]) ∧ Below ws.heap.size ws w' := by
  have := ho.len
  refine (say_ok h (by omega) (ho.right hc) (by omega) (by omega) hb0 hb1 ho.last).mono ?_
  rintro e w' ⟨v', k, er, rfl, hp, hB⟩
  rcases ho.put hb0 hb1 hp with ⟨_, rfl, rfl, rfl⟩ | ⟨h1, _⟩
  · exact ⟨rfl, hB⟩
  · omega
theorem say_more (h : Logs ws v S) (ho : One S cl ys) (hc : cl < 8) (hl : ys.length < 32) (hb0 : 0 ≤ b) (hb1 : b ≤ 1048576) : Calls Try.prog 16 #[v, .int .i64 cl, .int .i64 b] ws fun e w' => ∃ v' T, e = .returned (.tuple #[v', .int .i64 (ys.length + 1), .int .i64 0]) ∧ One T cl (ys ++ [b]) ∧ Logs w' v' T ∧ Below ws.heap.size ws w' := by
  have := ho.len
  refine (say_ok h (by omega) (ho.right hc) (by omega) (by omega) hb0 hb1 ho.last).mono ?_
  rintro e w' ⟨v', k, er, rfl, hp, hB⟩
  rcases ho.put hb0 hb1 hp with ⟨h1, _⟩ | ⟨_, rfl, rfl, T, h2, h3⟩
  · omega
  · exact ⟨v', T, rfl, h2, h3, hB⟩
theorem put_more (h : Logs ws v S) (ho : One S cl ys) (hc : cl < 8) (hl : ys.length < 32) (hb0 : 0 ≤ b) (hb1 : b ≤ 1048576) {seq : Int} (hs : seq = ys.length + 1) : Calls Try.prog 20 #[v, .agg #[.int .i64 cl, .int .i64 seq, .int .i64 b]] ws fun e w' => ∃ v' T, e = .returned (.tuple #[v', .bool true, .int .i64 0]) ∧ One T cl (ys ++ [b]) ∧ Logs w' v' T ∧ Below ws.heap.size ws w' := by
  have := ho.len
  refine (putm_next v S ws h (by omega) (ho.right hc) cl seq b ys.length hc hb0 hb1 (by omega) (ho.had hc) (by omega) (by omega) hs ho.last).mono ?_
  rintro e w' ⟨v', k, er, rfl, hp, hB⟩
  rcases ho.put hb0 hb1 hp with ⟨h1, _⟩ | ⟨_, rfl, rfl, T, h2, h3⟩
  · omega
  · exact ⟨v', T, rfl, h2, h3, hB⟩
theorem put_thirty (h : Logs ws v S) (ho : One S cl ys) (hc : cl < 8) (hl : ys.length = 32) (hb0 : 0 ≤ b) (hb1 : b ≤ 1048576) {seq : Int} (hs : seq = 33) : Calls Try.prog 20 #[v, .agg #[.int .i64 cl, .int .i64 seq, .int .i64 b]] ws fun e w' => e = .returned (.tuple #[.slice none 0 0, .bool false, .int .i64 20]) ∧ Below ws.heap.size ws w' := by
  have := ho.len
  refine (putm_next v S ws h (by omega) (ho.right hc) cl seq b ys.length hc hb0 hb1 (by omega) (ho.had hc) (by omega) (by omega) (by omega) ho.last).mono ?_
  rintro e w' ⟨v', k, er, rfl, hp, hB⟩
  rcases ho.put hb0 hb1 hp with ⟨_, rfl, rfl, rfl⟩ | ⟨h1, _⟩
  · exact ⟨rfl, hB⟩
  · omega
theorem put_late (h : Logs ws v S) (ho : One S cl ys) (hc : cl < 8) (hl : ys.length = 32) (hb0 : 0 ≤ b) (hb1 : b ≤ 1048576) {seq : Int} (hs : 33 < seq) : Calls Try.prog 20 #[v, .agg #[.int .i64 cl, .int .i64 seq, .int .i64 b]] ws fun e w' => e = .returned (.tuple #[.slice none 0 0, .bool false, .int .i64 14]) ∧ Below ws.heap.size ws w' := by
  have := ho.len
  exact putm_skip v S ws h (by omega) (ho.right hc) cl seq b ys.length hc hb0 hb1 (by omega) (ho.had hc) (by omega) (by omega) (by omega)
end
end Go.Proofs.Ytgpcmblfcelijaa

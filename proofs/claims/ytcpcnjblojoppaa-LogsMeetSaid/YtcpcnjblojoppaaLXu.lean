/-
  LAYER 25: Put and Say, their kinds. Own work.
-/
import Derived.Test.YtcpcnjblojoppaaLXt
namespace Go.Proofs.Ytcpcnjblojoppaa
open Go.ChangeShapes Go.WideShapes Go.ChangeAt Go.RowKit Go.Maps
set_option maxRecDepth 100000
/-- T is S with a body behind the client's. -/
structure FreshL (S : List Lg) (client body : Int) (T : List Lg) : Prop where
  right : Right T
  had : ∀ c h, HadOf S c h → HadOf T c (h + if c = client then 1 else 0)
  keep : ∀ (i j : Nat) (s t : Lg), S[i]? = some s → T[j]? = some t → s.c = t.c → s.b = t.b ∧ ∃ r, t.xs = s.xs ++ r
  last : ∃ (j : Nat) (t : Lg), T[j]? = some t ∧ t.c = client ∧ 0 < t.xs.length ∧ t.xs.getD (t.xs.length - 1) 0 = body
theorem getD_last (xs : List Int) (x : Int) : (xs ++ [x]).getD ((xs ++ [x]).length - 1) 0 = x := by
  rw [List.getD_eq_getElem?_getD, List.length_append]
  simp
theorem fresh_app {S B T : List Lg} {a : Nat} {client body : Int} (hRB : Right B) (ha : a < B.length) (hc : B[a].c = client) (hx : B[a].xs.length < 32) (hb0 : 0 ≤ body) (hb1 : body ≤ 1048576) (hap : appL B a body T) (hsub : ∀ g ∈ S, g ∈ B) (hhad : ∀ c h, HadOf S c h → HadOf B c h) : FreshL S client body T := by
  have hR := right_app hRB ha hx hb0 hb1 hap
  refine ⟨hR, fun c h hh => ?_, fun i j s t hs ht he => ?_, ?_⟩
  · have := (hhad c h hh).app hRB ha hap
    rw [hc] at this
    exact this
  · obtain ⟨hj, rfl⟩ := List.getElem?_eq_some_iff.1 ht
    obtain ⟨e0, e1, e2⟩ := hap.2 j (by rw [← hap.1]; exact hj) hj
    have hjB : j < B.length := by rw [← hap.1]; exact hj
    have hsB : s = B[j] := right_one hRB (hsub s (List.mem_of_getElem? hs)) (List.getElem_mem hjB) (by rw [he, e0])
    rw [hsB, e1, e2]
    refine ⟨rfl, ?_⟩
    split
    · exact ⟨[body], rfl⟩
    · exact ⟨[], by simp⟩
  · have haT : a < T.length := by rw [hap.1]; exact ha
    obtain ⟨e0, e1, e2⟩ := hap.2 a ha haT
    rw [if_pos rfl] at e2
    exact ⟨a, T[a], List.getElem?_eq_getElem haT, e0.trans hc, by rw [e2]; simp, by rw [e2]; exact getD_last _ _⟩
theorem not_found {S : List Lg} {client : Int} {a : Nat} (hR : Right S) (hA : AtL S client a) (hf : foundL S client a = false) : ∀ g ∈ S, g.c ≠ client := by
  intro g hg e
  obtain ⟨i, hi, rfl⟩ := List.getElem_of_mem hg
  have hgi := List.getElem?_eq_getElem hi
  rcases Nat.lt_trichotomy i a with h | h | h
  · have := hA.lo i _ hgi h
    omega
  · subst h
    unfold foundL at hf
    exact of_decide_eq_false hf ⟨_, hgi, e⟩
  · have h2 := List.getElem?_eq_getElem (show a < S.length by omega)
    have h3 := right_up hR h2 hgi h
    have h4 := hA.hi a _ h2 (Nat.le_refl _)
    omega
theorem put_kinds {S : List Lg} {client body k er : Int} {w' : World} {v : Value} (hR : Right S) (hc0 : 0 ≤ client) (hc8 : client < 8) (hb0 : 0 ≤ body) (hb1 : body ≤ 1048576) (hp : PutSpec S client body w' v k er) :
    (er = 20 ∧ v = .slice none 0 0 ∧ k = 0) ∨ (er = 0 ∧ HadOf S client (k - 1) ∧ ∃ T, FreshL S client body T ∧ Logs w' v T) := by
  obtain ⟨a, hA, ⟨hf, g, hg, ⟨h32, hv, hk, he⟩ | ⟨h32, hk, he, T, hap, hl⟩⟩ | ⟨hf, hk, he, T, hap, hl⟩⟩ := hp
  · exact .inl ⟨he, hv, hk⟩
  · obtain ⟨ha, hge⟩ := List.getElem?_eq_some_iff.1 hg
    have hgc : g.c = client := by
      have hf' := hf
      unfold foundL at hf'
      obtain ⟨g', hg', e⟩ := of_decide_eq_true hf'
      rw [hg] at hg'
      cases hg'
      exact e
    refine .inr ⟨he, .inl ⟨g, List.mem_of_getElem? hg, hgc, by omega⟩, T, ?_, hl⟩
    exact fresh_app hR ha (by rw [hge]; exact hgc) (by rw [hge]; exact h32) hb0 hb1 hap (fun _ h => h) (fun _ _ h => h)
  · have hnf := not_found hR hA hf
    have hRB := right_ins hR hA hf hc0 hc8
    have hlen := ins_len (x := newLg client) hA.le
    have hale := hA.le
    have haB : a < (insL S a (newLg client)).length := by omega
    have hat := ins_at (x := newLg client) hA.le haB
    refine .inr ⟨he, .inr ⟨hnf, by omega⟩, T, ?_, hl⟩
    refine fresh_app hRB haB (by rw [hat]; rfl) (by rw [hat]; simp [newLg]) hb0 hb1 hap (fun g hg => ?_) (fun c h hh => hh.ins hale hnf)
    unfold insL
    rw [← List.take_append_drop a S, List.mem_append] at hg
    rcases hg with h | h
    · exact List.mem_append.2 (.inl h)
    · exact List.mem_append.2 (.inr (List.mem_cons_of_mem _ h))
/-- What Put answers, of anything. -/
def PutmSpec (S : List Lg) (c seq body : Int) (w' : World) (e : Ending) : Prop :=
  ∃ v f er, e = .returned (.tuple #[v, .bool f, .int .i64 er]) ∧ ((f = false ∧ v = .slice none 0 0 ∧ (er = 1 ∨ er = 14 ∨ er = 20)) ∨ (f = false ∧ er = 0 ∧ ∃ T, Alike S T ∧ Logs w' v T) ∨ (f = true ∧ er = 0 ∧ MayC c body ∧ HadOf S c (seq - 1) ∧ ∃ T, FreshL S c body T ∧ Logs w' v T))
theorem had_exists (S : List Lg) (c : Int) : ∃ h, HadOf S c h := by
  by_cases hex : ∃ g, g ∈ S ∧ g.c = c
  · obtain ⟨g, hg, e⟩ := hex
    exact ⟨_, .inl ⟨g, hg, e, rfl⟩⟩
  · exact ⟨0, .inr ⟨fun g hg e => hex ⟨g, hg, e⟩, rfl⟩⟩
theorem HadOf.bounds {S : List Lg} (hR : Right S) {c h : Int} (hh : HadOf S c h) : 0 ≤ h ∧ h ≤ 2000000000 := by
  rcases hh with ⟨g, hg, _, rfl⟩ | ⟨_, rfl⟩
  · obtain ⟨i, hi, rfl⟩ := List.getElem_of_mem hg
    obtain ⟨_, _, h2, h3, h4, _⟩ := hR.1 i hi
    omega
  · omega
theorem putm_all {v : Value} {S : List Lg} {ws : World} (h : Logs ws v S) (h4 : S.length ≤ 900) (hR : Right S) (c seq body : Int) : Calls Try.prog 20 #[v, .agg #[.int .i64 c, .int .i64 seq, .int .i64 body]] ws fun e w' => PutmSpec S c seq body w' e ∧ Below ws.heap.size ws w' := by
  by_cases hm : MayC c body
  · by_cases hs : seq < 1
    · refine (putm_bad v S ws h h4 hR c seq body (.inr hs)).mono ?_
      rintro e w' ⟨rfl, hB⟩
      exact ⟨⟨_, _, _, rfl, .inl ⟨rfl, rfl, .inl rfl⟩⟩, hB⟩
    · obtain ⟨c0, c8, b0, b1⟩ := hm
      obtain ⟨k, rfl⟩ : ∃ k : Nat, c = k := ⟨c.toNat, by omega⟩
      obtain ⟨had, hh⟩ := had_exists S k
      obtain ⟨hh0, hh1⟩ := hh.bounds hR
      have hk8 : k < 8 := by omega
      have hI := hh.is hR hk8
      by_cases h1 : seq ≤ had
      · refine (putm_old v S ws h h4 hR k seq body had hk8 b0 b1 (by omega) hI hh0 hh1 h1).mono ?_
        rintro e w' ⟨v', T, rfl, hA, hl, hB⟩
        exact ⟨⟨_, _, _, rfl, .inr (.inl ⟨rfl, rfl, T, hA, hl⟩)⟩, hB⟩
      · by_cases h2 : seq = had + 1
        · refine (putm_nexta v S ws h h4 hR k seq body had hk8 b0 b1 (by omega) hI hh0 hh1 h2).mono ?_
          rintro e w' ⟨v', q, er, rfl, hp, hB⟩
          rcases put_kinds hR c0 c8 b0 b1 hp with ⟨rfl, rfl, _⟩ | ⟨rfl, _, T, hF, hl⟩
          · exact ⟨⟨_, _, _, rfl, .inl ⟨rfl, rfl, .inr (.inr rfl)⟩⟩, hB⟩
          · exact ⟨⟨_, _, _, rfl, .inr (.inr ⟨rfl, rfl, ⟨c0, c8, b0, b1⟩, by rw [h2]; simpa using hh, T, hF, hl⟩)⟩, hB⟩
        · refine (putm_skip v S ws h h4 hR k seq body had hk8 b0 b1 (by omega) hI hh0 hh1 (by omega)).mono ?_
          rintro e w' ⟨rfl, hB⟩
          exact ⟨⟨_, _, _, rfl, .inl ⟨rfl, rfl, .inr (.inl rfl)⟩⟩, hB⟩
  · refine (putm_bad v S ws h h4 hR c seq body (.inl hm)).mono ?_
    rintro e w' ⟨rfl, hB⟩
    exact ⟨⟨_, _, _, rfl, .inl ⟨rfl, rfl, .inl rfl⟩⟩, hB⟩
/-- What Say answers, of anything. -/
def SaySpec (S : List Lg) (c body : Int) (w' : World) (e : Ending) : Prop :=
  ∃ v k er, e = .returned (.tuple #[v, .int .i64 k, .int .i64 er]) ∧ ((v = .slice none 0 0 ∧ (er = 1 ∨ er = 20)) ∨ (er = 0 ∧ MayC c body ∧ HadOf S c (k - 1) ∧ ∃ T, FreshL S c body T ∧ Logs w' v T))
theorem say_all {v : Value} {S : List Lg} {ws : World} (h : Logs ws v S) (h4 : S.length ≤ 900) (hR : Right S) (c body : Int) : Calls Try.prog 16 #[v, .int .i64 c, .int .i64 body] ws fun e w' => SaySpec S c body w' e ∧ Below ws.heap.size ws w' := by
  by_cases hm : MayC c body
  · obtain ⟨c0, c8, b0, b1⟩ := hm
    refine (say_any h h4 hR c0 c8 b0 b1).mono ?_
    rintro e w' ⟨v', q, er, rfl, hp, hB⟩
    rcases put_kinds hR c0 c8 b0 b1 hp with ⟨rfl, rfl, _⟩ | ⟨rfl, hh, T, hF, hl⟩
    · exact ⟨⟨_, _, _, rfl, .inl ⟨rfl, .inr rfl⟩⟩, hB⟩
    · exact ⟨⟨_, _, _, rfl, .inr ⟨rfl, ⟨c0, c8, b0, b1⟩, hh, T, hF, hl⟩⟩, hB⟩
  · refine (say_bad v S ws h h4 hR c body hm).mono ?_
    rintro e w' ⟨rfl, hB⟩
    exact ⟨⟨_, _, _, rfl, .inl ⟨rfl, .inl rfl⟩⟩, hB⟩
end Go.Proofs.Ytcpcnjblojoppaa

/-
  LAYER 25: LogsMeet: what stands in logs, client by client. Own work.
-/
import Derived.Test.YtcpcnjblojoppaaLXw
namespace Go.Proofs.Ytcpcnjblojoppaa
open Go.ChangeShapes Go.WideShapes Go.ChangeAt Go.RowKit Go.Maps
set_option maxRecDepth 100000
/-- Logs hold of each of three clients what F says, from the beginning on. -/
structure IsF (S : List Lg) (F : Nat → List Int) : Prop where
  right : Right S
  con : ∀ s ∈ S, s.b = 0 ∧ s.xs ≠ [] ∧ ∃ k : Nat, k < 3 ∧ s.c = k ∧ s.xs = F k
  all : ∀ k : Nat, k < 3 → F k ≠ [] → ∃ s ∈ S, s.c = k
def upd (F : Nat → List Int) (k : Nat) (x : Int) : Nat → List Int := fun q => if q = k then F q ++ [x] else F q
theorem upd_self (F : Nat → List Int) (k : Nat) (x : Int) : upd F k x k = F k ++ [x] := if_pos rfl
theorem upd_ne (F : Nat → List Int) {k q : Nat} (x : Int) (h : q ≠ k) : upd F k x q = F q := if_neg h
theorem asc_eq : ∀ (xs ys : List Int), xs.Pairwise (· < ·) → ys.Pairwise (· < ·) → (∀ z, z ∈ xs ↔ z ∈ ys) → xs = ys := by
  intro xs
  induction xs with
  | nil =>
    intro ys _ _ h
    cases ys with
    | nil => rfl
    | cons y ys => exact absurd ((h y).2 List.mem_cons_self) (by simp)
  | cons x xs ih =>
    intro ys hx hy h
    cases ys with
    | nil => exact absurd ((h x).1 List.mem_cons_self) (by simp)
    | cons y ys =>
      obtain ⟨hx1, hx2⟩ := List.pairwise_cons.1 hx
      obtain ⟨hy1, hy2⟩ := List.pairwise_cons.1 hy
      have hxy : x = y := by
        rcases List.mem_cons.1 ((h x).1 List.mem_cons_self) with e | e
        · exact e
        · rcases List.mem_cons.1 ((h y).2 List.mem_cons_self) with e' | e'
          · exact e'.symm
          · have := hy1 x e
            have := hx1 y e'
            omega
      subst hxy
      rw [ih ys hx2 hy2 (fun z => ?_)]
      constructor
      · intro hz
        rcases List.mem_cons.1 ((h z).1 (List.mem_cons_of_mem _ hz)) with e | e
        · have := hx1 z hz
          omega
        · exact e
      · intro hz
        rcases List.mem_cons.1 ((h z).2 (List.mem_cons_of_mem _ hz)) with e | e
        · have := hy1 z hz
          omega
        · exact e
theorem Right.asc {S : List Lg} (h : Right S) : (S.map Lg.c).Pairwise (· < ·) := by
  rw [List.pairwise_iff_getElem]
  intro i j hi hj hij
  simp only [List.length_map] at hi hj
  simp only [List.getElem_map]
  exact h.2 i j hij hj
theorem IsF.clients {S : List Lg} {F : Nat → List Int} (h : IsF S F) (z : Int) : z ∈ S.map Lg.c ↔ ∃ k : Nat, k < 3 ∧ z = k ∧ F k ≠ [] := by
  constructor
  · intro hz
    obtain ⟨s, hs, rfl⟩ := List.mem_map.1 hz
    obtain ⟨_, hx, k, hk, hc, he⟩ := h.con s hs
    exact ⟨k, hk, hc, by rw [← he]; exact hx⟩
  · rintro ⟨k, hk, rfl, hne⟩
    obtain ⟨s, hs, hc⟩ := h.all k hk hne
    exact List.mem_map.2 ⟨s, hs, hc⟩
theorem IsF.alike {S T : List Lg} {F : Nat → List Int} (h : IsF S F) (h' : IsF T F) : Alike S T := by
  have he : S.map Lg.c = T.map Lg.c := asc_eq _ _ h.right.asc h'.right.asc (fun z => (h.clients z).trans (h'.clients z).symm)
  have hl : T.length = S.length := by
    have := congrArg List.length he
    simpa using this.symm
  refine ⟨hl, fun i hi hi' => ?_⟩
  have hc : T[i].c = S[i].c := by
    have h1 : (T.map Lg.c)[i]'(by simpa using hi') = (S.map Lg.c)[i]'(by simpa using hi) := by simp only [he]
    simpa using h1
  obtain ⟨b1, _, k1, _, c1, x1⟩ := h.con S[i] (List.getElem_mem _)
  obtain ⟨b2, _, k2, _, c2, x2⟩ := h'.con T[i] (List.getElem_mem _)
  have hk : k1 = k2 := by omega
  subst hk
  exact ⟨hc, by rw [b1, b2], by rw [x1, x2]⟩
theorem IsF.congr {S : List Lg} {F G : Nat → List Int} (h : IsF S F) (he : ∀ k, k < 3 → F k = G k) : IsF S G :=
  ⟨h.right, fun s hs => by
    obtain ⟨hb, hx, k, hk, hc, hf⟩ := h.con s hs
    exact ⟨hb, hx, k, hk, hc, hf.trans (he k hk)⟩, fun k hk hne => h.all k hk (by rw [he k hk]; exact hne)⟩
theorem IsF.had {S : List Lg} {F : Nat → List Int} (h : IsF S F) {k : Nat} (hk : k < 3) : HadOf S k (F k).length := by
  by_cases hne : F k = []
  · refine .inr ⟨fun g hg hc => ?_, by rw [hne]; rfl⟩
    obtain ⟨_, hx, k', _, hc', hf⟩ := h.con g hg
    have : k' = k := by omega
    subst this
    exact hx (hf.trans hne)
  · obtain ⟨s, hs, hc⟩ := h.all k hk hne
    obtain ⟨hb, _, k', _, hc', hf⟩ := h.con s hs
    have : k' = k := by omega
    subst this
    exact .inl ⟨s, hs, hc, by rw [hb, hf]; simp⟩
theorem IsF.had0 {S : List Lg} {F : Nat → List Int} (h : IsF S F) {k : Nat} (hk : ¬ k < 3) : HadOf S k 0 := by
  refine .inr ⟨fun g hg hc => ?_, rfl⟩
  obtain ⟨_, _, k', hk', hc', _⟩ := h.con g hg
  omega
theorem IsF.len {S : List Lg} {F : Nat → List Int} (h : IsF S F) {k : Nat} (hk : k < 3) : (F k).length ≤ 32 ∧ ∀ x ∈ F k, 0 ≤ x ∧ x ≤ 1048576 := by
  by_cases hne : F k = []
  · rw [hne]
    exact ⟨by simp, fun x hx => by cases hx⟩
  · obtain ⟨s, hs, hc⟩ := h.all k hk hne
    obtain ⟨_, _, k', _, hc', hf⟩ := h.con s hs
    have : k' = k := by omega
    subst this
    obtain ⟨i, hi, rfl⟩ := List.getElem_of_mem hs
    obtain ⟨_, _, _, _, h4, h5⟩ := h.right.1 i hi
    rw [← hf]
    exact ⟨h4, h5⟩
theorem isF_nil : IsF [] (fun _ => []) := ⟨⟨fun i h => absurd h (Nat.not_lt_zero _), fun i j _ h => absurd h (Nat.not_lt_zero _)⟩, fun s h => (by cases h), fun k _ h => absurd rfl h⟩
theorem IsF.app {S B T : List Lg} {F : Nat → List Int} {a k : Nat} {body : Int} (h : IsF S F) (hk : k < 3) (hRB : Right B) (ha : a < B.length) (hc : B[a].c = k) (hb : B[a].b = 0) (hx : B[a].xs = F k) (h32 : (F k).length < 32) (hb0 : 0 ≤ body) (hb1 : body ≤ 1048576) (hB : ∀ s ∈ B, s.c = k ∨ s ∈ S) (hS : ∀ s ∈ S, s ∈ B) (hap : appL B a body T) : IsF T (upd F k body) := by
  have hR := right_app hRB ha (by rw [hx]; exact h32) hb0 hb1 hap
  obtain ⟨hl, hh⟩ := hap
  refine ⟨hR, fun t ht => ?_, fun q hq hne => ?_⟩
  · obtain ⟨i, hi, rfl⟩ := List.getElem_of_mem ht
    have hiB : i < B.length := by omega
    obtain ⟨e0, e1, e2⟩ := hh i hiB hi
    by_cases hia : i = a
    · subst hia
      rw [if_pos rfl] at e2
      refine ⟨by rw [e1, hb], by rw [e2]; simp, k, hk, e0.trans hc, ?_⟩
      rw [e2, upd_self, hx]
    · rw [if_neg hia] at e2
      have hne : B[i].c ≠ k := fun he => by
        rcases Nat.lt_trichotomy i a with h1 | h1 | h1
        · have := hRB.2 i a h1 ha; omega
        · exact hia h1
        · have := hRB.2 a i h1 hiB; omega
      rcases hB _ (List.getElem_mem hiB) with h1 | h1
      · exact absurd h1 hne
      · obtain ⟨b1, x1, k1, hk1, c1, f1⟩ := h.con _ h1
        refine ⟨by rw [e1, b1], by rw [e2]; exact x1, k1, hk1, e0.trans c1, ?_⟩
        rw [e2, f1, upd_ne]
        intro he
        subst he
        exact hne c1
  · by_cases hqk : q = k
    · subst hqk
      exact ⟨T[a]'(by omega), List.getElem_mem _, (hh a ha (by omega)).1.trans hc⟩
    · rw [upd_ne F body hqk] at hne
      obtain ⟨s, hs, hsc⟩ := h.all q hq hne
      obtain ⟨i, hi, rfl⟩ := List.getElem_of_mem (hS s hs)
      exact ⟨T[i]'(by omega), List.getElem_mem _, (hh i hi (by omega)).1.trans hsc⟩
theorem ins_mem {S : List Lg} {a : Nat} {x g : Lg} : g ∈ insL S a x ↔ g = x ∨ g ∈ S := by
  unfold insL
  rw [List.mem_append, List.mem_cons]
  constructor
  · rintro (h | h | h)
    · exact .inr (List.mem_of_mem_take h)
    · exact .inl h
    · exact .inr (List.mem_of_mem_drop h)
  · rintro (h | h)
    · exact .inr (.inl h)
    · rw [← List.take_append_drop a S, List.mem_append] at h
      rcases h with h | h
      · exact .inl h
      · exact .inr (.inr h)
theorem IsF.put {S : List Lg} {F : Nat → List Int} {k b0 : Nat} {body q er : Int} {w' : World} {v : Value} (h : IsF S F) (hk : k < 3) (hb0 : 0 ≤ body) (hb1 : body ≤ 1048576) (hp : PutSpecF b0 S k body w' v q er) :
    (er = 20 ∧ (F k).length = 32 ∧ v = .slice none 0 0 ∧ q = 0) ∨ (er = 0 ∧ q = ((F k).length + 1 : Nat) ∧ ∃ T, IsF T (upd F k body) ∧ Logs w' v T ∧ Fr b0 v T) := by
  obtain ⟨a, hA, ⟨hf, g, hg, h1⟩ | ⟨hf, hq, he, T, hap, hl, hfr⟩⟩ := hp
  · obtain ⟨ha, hge⟩ := List.getElem?_eq_some_iff.1 hg
    have hgc : g.c = k := by
      have hf' := hf
      unfold foundL at hf'
      obtain ⟨g', hg', e⟩ := of_decide_eq_true hf'
      rw [hg] at hg'
      cases hg'
      exact e
    obtain ⟨gb, _, k', _, gc, gx⟩ := h.con g (List.mem_of_getElem? hg)
    obtain rfl : k' = k := by omega
    rcases h1 with ⟨h32, hv, hq, he⟩ | ⟨h32, hq, he, T, hap, hl, hfr⟩
    · exact .inl ⟨he, by rw [← gx]; exact h32, hv, hq⟩
    · refine .inr ⟨he, by rw [hq, gb, gx]; simp, T, ?_, hl, hfr⟩
      exact h.app hk h.right ha (by rw [hge]; exact hgc) (by rw [hge]; exact gb) (by rw [hge]; exact gx) (by rw [← gx]; exact h32) hb0 hb1 (fun s hs => .inr hs) (fun s hs => hs) hap
  · have hnf := not_found h.right hA hf
    have hF : F k = [] := by
      by_cases hne : F k = []
      · exact hne
      · obtain ⟨s, hs, hc⟩ := h.all k hk hne
        exact absurd hc (hnf s hs)
    have hRB := right_ins h.right hA hf (by omega) (by omega)
    have hlen := ins_len (x := newLg k) hA.le
    have hale := hA.le
    have haB : a < (insL S a (newLg k)).length := by omega
    have hat := ins_at (x := newLg k) hA.le haB
    refine .inr ⟨he, by rw [hq, hF]; rfl, T, ?_, hl, hfr⟩
    refine h.app hk hRB haB (by rw [hat]; rfl) (by rw [hat]; rfl) (by rw [hat, hF]; rfl) (by rw [hF]; simp) hb0 hb1 (fun s hs => ?_) (fun s hs => ins_mem.2 (.inr hs)) hap
    rcases ins_mem.1 hs with rfl | hs
    · exact .inl rfl
    · exact .inr hs
theorem fr_zero (v : Value) (T : List Lg) : Fr 0 v T := ⟨fun _ _ => Nat.zero_le _, fun _ _ _ _ => Nat.zero_le _⟩
theorem PutSpec.toF {S : List Lg} {client body : Int} {w' : World} {v : Value} {k er : Int} (h : PutSpec S client body w' v k er) : PutSpecF 0 S client body w' v k er := by
  obtain ⟨a, hA, ⟨hf, g, hg, h1 | ⟨h32, hk, he, T, hap, hl⟩⟩ | ⟨hf, hk, he, T, hap, hl⟩⟩ := h
  · exact ⟨a, hA, .inl ⟨hf, g, hg, .inl h1⟩⟩
  · exact ⟨a, hA, .inl ⟨hf, g, hg, .inr ⟨h32, hk, he, T, hap, hl, fr_zero _ _⟩⟩⟩
  · exact ⟨a, hA, .inr ⟨hf, hk, he, T, hap, hl, fr_zero _ _⟩⟩
/-! the messages that were said -/
structure Ms where
  c : Nat
  n : Int
  b : Int
def fm : List Ms → Nat → List Int := fun M => M.foldl (fun F m => upd F m.c m.b) (fun _ => [])
theorem fm_snoc (M : List Ms) (m : Ms) : fm (M ++ [m]) = upd (fm M) m.c m.b := by
  unfold fm
  rw [List.foldl_append]
  rfl
def msC (m : Ms) : List Value := [.int .i64 m.c, .int .i64 m.n, .int .i64 m.b]
def flatM (M : List Ms) : List Value := M.flatMap msC
structure GoodM (M : List Ms) : Prop where
  at' : ∀ i (h : i < M.length), M[i].c < 3 ∧ M[i].n = ((fm (M.take i) M[i].c).length + 1 : Nat) ∧ 0 ≤ M[i].b ∧ M[i].b ≤ 1048576
theorem goodM_nil : GoodM [] := ⟨fun i h => absurd h (Nat.not_lt_zero _)⟩
theorem GoodM.snoc {M : List Ms} (h : GoodM M) (m : Ms) (hc : m.c < 3) (hn : m.n = ((fm M m.c).length + 1 : Nat)) (hb0 : 0 ≤ m.b) (hb1 : m.b ≤ 1048576) : GoodM (M ++ [m]) := by
  refine ⟨fun i hi => ?_⟩
  rw [List.length_append] at hi
  simp only [List.length_cons, List.length_nil] at hi
  by_cases hl : i < M.length
  · rw [List.getElem_append_left hl, List.take_append_of_le_length (by omega)]
    exact h.at' i hl
  · obtain rfl : i = M.length := by omega
    rw [List.getElem_append_right (Nat.le_refl _), List.take_append_of_le_length (Nat.le_refl _), List.take_length]
    simp only [Nat.sub_self, List.getElem_cons_zero]
    exact ⟨hc, hn, hb0, hb1⟩
theorem fm_take (M : List Ms) (i : Nat) (h : i < M.length) : fm (M.take (i + 1)) = upd (fm (M.take i)) M[i].c M[i].b := by
  rw [← fm_snoc, List.take_add_one, List.getElem?_eq_getElem h]
  rfl
theorem upd_pre (F : Nat → List Int) (k : Nat) (x : Int) (q : Nat) : F q <+: upd F k x q := by
  by_cases h : q = k
  · subst h
    rw [upd_self]
    exact List.prefix_append _ _
  · rw [upd_ne F x h]
    exact List.prefix_refl _
theorem fm_mono (M : List Ms) (k : Nat) : ∀ i, i ≤ M.length → fm (M.take i) k <+: fm M k := by
  intro i hi
  have key : ∀ d, ∀ i, i + d = M.length → fm (M.take i) k <+: fm M k := by
    intro d
    induction d with
    | zero =>
      intro i h
      rw [List.take_of_length_le (by omega)]
      exact List.prefix_refl _
    | succ d ih =>
      intro i h
      refine List.IsPrefix.trans ?_ (ih (i + 1) (by omega))
      rw [fm_take M i (by omega)]
      exact upd_pre _ _ _ _
  exact key (M.length - i) i (by omega)
def tot (F : Nat → List Int) : Nat := (F 0).length + (F 1).length + (F 2).length
theorem tot_upd (F : Nat → List Int) {k : Nat} (hk : k < 3) (x : Int) : tot (upd F k x) = tot F + 1 := by
  unfold tot upd
  match k, hk with
  | 0, _ => simp; omega
  | 1, _ => simp; omega
  | 2, _ => simp; omega
theorem fm_tot {M : List Ms} (h : GoodM M) : ∀ i, i ≤ M.length → tot (fm (M.take i)) = i := by
  intro i
  induction i with
  | zero => intro _; rfl
  | succ i ih =>
    intro hi
    rw [fm_take M i (by omega), tot_upd _ (h.at' i (by omega)).1, ih (by omega)]
def Begs (G F : Nat → List Int) : Prop := ∀ k, k < 3 → G k <+: F k
theorem Begs.tot {G F : Nat → List Int} (h : Begs G F) : tot G ≤ tot F := by
  unfold Go.Proofs.Ytcpcnjblojoppaa.tot
  have h0 := (h 0 (by omega)).length_le
  have h1 := (h 1 (by omega)).length_le
  have h2 := (h 2 (by omega)).length_le
  omega
theorem pre_eq {a b : List Int} (h : a <+: b) (hl : b.length ≤ a.length) : a = b := h.eq_of_length_le hl
theorem Begs.upd {G F : Nat → List Int} (h : Begs G F) {k : Nat} {x : Int} (hx : G k ++ [x] <+: F k) : Begs (Go.Proofs.Ytcpcnjblojoppaa.upd G k x) F := by
  intro q hq
  by_cases he : q = k
  · subst he
    rw [upd_self]
    exact hx
  · rw [upd_ne G x he]
    exact h q hq
theorem pre_next {a b : List Int} (h : a <+: b) (hl : a.length < b.length) : a ++ [b.getD a.length 0] <+: b := by
  obtain ⟨r, rfl⟩ := h
  cases r with
  | nil => simp at hl
  | cons x r =>
    refine ⟨r, ?_⟩
    rw [List.getD_eq_getElem?_getD]
    simp
end Go.Proofs.Ytcpcnjblojoppaa

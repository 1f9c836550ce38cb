/-
  KNOW: what is known of what is known, as a search over lists: learn, open, use; and that the search finds just what can be known. Own work.
-/
import Derived.Test.YtikbeagcflofhaaSQa
namespace Go.Proofs.Ytikbeagcflofhaa
set_option maxRecDepth 100000
/-! terms, by place -/
def tmAt (L : List Tm) (i : Nat) : Tm := L.getD i (0, 0, [])
def kd (L : List Tm) (i : Nat) : Int := (tmAt L i).1
def ar (L : List Tm) (i : Nat) : List Nat := (tmAt L i).2.2.map Int.toNat
def bt (l : List Bool) (i : Nat) : Bool := l.getD i false
theorem bt_set (l : List Bool) (i j : Nat) : bt (l.set i true) j = (decide (i = j ∧ i < l.length) || bt l j) := by
  unfold bt
  rw [List.getD_eq_getElem?_getD, List.getD_eq_getElem?_getD, List.getElem?_set]
  by_cases h : i = j
  · subst h
    by_cases hl : i < l.length
    · simp [hl]
    · simp [hl]
  · simp [h]
theorem bt_lt {l : List Bool} {i : Nat} (h : bt l i = true) : i < l.length := by
  unfold bt at h
  rcases Nat.lt_or_ge i l.length with h1 | h1
  · exact h1
  · rw [List.getD_eq_getElem?_getD, List.getElem?_eq_none h1] at h
    cases h
/-- What can be known. -/
inductive Kn (L : List Tm) (S : Nat → Prop) : Nat → Prop
  | given (i : Nat) : S i → i < L.length → Kn L S i
  | make (i : Nat) : i < L.length → kd L i ≠ 1 → (∀ x ∈ ar L i, Kn L S x) → Kn L S i
  | list (i x : Nat) : Kn L S i → kd L i = 9 → x ∈ ar L i → Kn L S x
  | sig (i x : Nat) : Kn L S i → kd L i = 8 → x ∈ (ar L i).drop 1 → Kn L S x
  | sealed (i x : Nat) : Kn L S i → kd L i = 6 → Kn L S ((ar L i).getD 0 0) → x ∈ (ar L i).drop 1 → Kn L S x
  | box1 (i x : Nat) : Kn L S i → kd L i = 7 → Kn L S ((ar L i).getD 1 0) → x ∈ (ar L i).drop 2 → Kn L S x
  | box2 (i x : Nat) : Kn L S i → kd L i = 7 → kd L ((ar L i).getD 0 0) = 5 → Kn L S ((ar L ((ar L i).getD 0 0)).getD 0 0) → x ∈ (ar L i).drop 2 → Kn L S x
/-! the search -/
structure Sk where
  kn : List Bool
  op : List Bool
  ms : List Int
  wk : List Nat
def lrn (s : Sk) (i : Nat) : Sk := if bt s.kn i then s else { s with kn := s.kn.set i true, wk := s.wk ++ [i] }
def owns (L : List Tm) (kn : List Bool) (i : Nat) : Bool := decide (kd L i = 5) && bt kn ((ar L i).getD 0 0)
def frm (L : List Tm) (kn : List Bool) (i : Nat) : Option Nat :=
  if kd L i = 9 then some 0 else if kd L i = 8 then some 1 else if kd L i = 6 then (if bt kn ((ar L i).getD 0 0) then some 1 else none) else if kd L i = 7 then (if bt kn ((ar L i).getD 1 0) || owns L kn ((ar L i).getD 0 0) then some 2 else none) else none
def opn (L : List Tm) (s : Sk) (i : Nat) : Sk := if !bt s.kn i || bt s.op i then s else match frm L s.kn i with
  | none => s
  | some f => ((ar L i).drop f).foldl lrn { s with op := s.op.set i true }
def bxs (L : List Tm) (U : Nat → List Nat) (s : Sk) (i : Nat) : Sk := if kd L i = 5 then (U i).foldl (opn L) s else s
def dec (s : Sk) (u : Nat) : Sk := { s with ms := s.ms.set u (s.ms.getD u 0 - 1) }
def mkd (s : Sk) (u : Nat) : Sk := if s.ms.getD u 0 = 0 then lrn s u else s
def use (L : List Tm) (U : Nat → List Nat) (s : Sk) (u : Nat) : Sk := bxs L U (opn L (mkd (dec s u) u) u) u
def stp (L : List Tm) (U : Nat → List Nat) (s : Sk) (i : Nat) : Sk := (U i).foldl (use L U) (opn L s i)
/-! it only grows -/
structure Le (s t : Sk) : Prop where
  kn : ∀ i, bt s.kn i = true → bt t.kn i = true
  op : ∀ i, bt s.op i = true → bt t.op i = true
  lk : t.kn.length = s.kn.length
  lo : t.op.length = s.op.length
  lm : t.ms.length = s.ms.length
theorem Le.refl (s : Sk) : Le s s := ⟨fun _ h => h, fun _ h => h, rfl, rfl, rfl⟩
theorem Le.trans {a b c : Sk} (h : Le a b) (h' : Le b c) : Le a c := ⟨fun i hi => h'.kn i (h.kn i hi), fun i hi => h'.op i (h.op i hi), h'.lk.trans h.lk, h'.lo.trans h.lo, h'.lm.trans h.lm⟩
theorem lrn_le (s : Sk) (i : Nat) : Le s (lrn s i) := by
  unfold lrn
  split
  · exact Le.refl s
  · exact ⟨fun j hj => by rw [bt_set, hj, Bool.or_true], fun _ h => h, by simp, rfl, rfl⟩
theorem lrn_self (s : Sk) (i : Nat) (h : i < s.kn.length) : bt (lrn s i).kn i = true := by
  unfold lrn
  split
  · assumption
  · rw [bt_set, decide_eq_true ⟨rfl, h⟩, Bool.true_or]
theorem fold_le {α : Type} {f : Sk → α → Sk} (hf : ∀ s a, Le s (f s a)) : ∀ (l : List α) (s : Sk), Le s (l.foldl f s) := by
  intro l
  induction l with
  | nil => exact fun s => Le.refl s
  | cons a l ih => exact fun s => (hf s a).trans (ih (f s a))
theorem fold_hit {α : Type} {f : Sk → α → Sk} (hf : ∀ s a, Le s (f s a)) : ∀ (l : List α) (s : Sk) (a : α), a ∈ l → ∃ t, Le s t ∧ Le (f t a) (l.foldl f s) := by
  intro l
  induction l with
  | nil => intro s a h; cases h
  | cons b l ih =>
    intro s a h
    rcases List.mem_cons.1 h with rfl | h
    · exact ⟨s, Le.refl s, fold_le hf l _⟩
    · obtain ⟨t, h1, h2⟩ := ih (f s b) a h
      exact ⟨t, (hf s b).trans h1, h2⟩
theorem op_le (s : Sk) (i : Nat) : Le s { s with op := s.op.set i true } := ⟨fun _ h => h, fun j hj => by rw [bt_set, hj, Bool.or_true], rfl, by simp, rfl⟩
theorem opn_le (L : List Tm) (s : Sk) (i : Nat) : Le s (opn L s i) := by
  unfold opn
  split
  · exact Le.refl s
  · split
    · exact Le.refl s
    · exact (op_le s i).trans (fold_le lrn_le _ _)
theorem bxs_le (L : List Tm) (U : Nat → List Nat) (s : Sk) (i : Nat) : Le s (bxs L U s i) := by
  unfold bxs
  split
  · exact fold_le (opn_le L) _ _
  · exact Le.refl s
theorem dec_le (s : Sk) (u : Nat) : Le s (dec s u) := ⟨fun _ h => h, fun _ h => h, rfl, rfl, by simp [dec]⟩
theorem mkd_le (s : Sk) (u : Nat) : Le s (mkd s u) := by
  unfold mkd
  split
  · exact lrn_le s u
  · exact Le.refl s
theorem use_le (L : List Tm) (U : Nat → List Nat) (s : Sk) (u : Nat) : Le s (use L U s u) := (((dec_le s u).trans (mkd_le _ u)).trans (opn_le L _ u)).trans (bxs_le L U _ u)
theorem stp_le (L : List Tm) (U : Nat → List Nat) (s : Sk) (i : Nat) : Le s (stp L U s i) := (opn_le L s i).trans (fold_le (use_le L U) _ _)
theorem owns_mono {L : List Tm} {s t : Sk} (h : Le s t) {i : Nat} (ho : owns L s.kn i = true) : owns L t.kn i = true := by
  unfold owns at ho ⊢
  simp only [Bool.and_eq_true] at ho ⊢
  exact ⟨ho.1, h.kn _ ho.2⟩
theorem frm_mono {L : List Tm} {s t : Sk} (h : Le s t) {i : Nat} (hf : (frm L s.kn i).isSome = true) : (frm L t.kn i).isSome = true := by
  unfold frm at hf ⊢
  by_cases h9 : kd L i = 9
  · rw [if_pos h9]; rfl
  rw [if_neg h9] at hf ⊢
  by_cases h8 : kd L i = 8
  · rw [if_pos h8]; rfl
  rw [if_neg h8] at hf ⊢
  by_cases h6 : kd L i = 6
  · rw [if_pos h6] at hf ⊢
    by_cases hk : bt s.kn ((ar L i).getD 0 0) = true
    · rw [if_pos (h.kn _ hk)]; rfl
    · rw [if_neg hk] at hf; cases hf
  rw [if_neg h6] at hf ⊢
  by_cases h7 : kd L i = 7
  · rw [if_pos h7] at hf ⊢
    by_cases hk : (bt s.kn ((ar L i).getD 1 0) || owns L s.kn ((ar L i).getD 0 0)) = true
    · rw [if_pos ?_]
      · rfl
      · rw [Bool.or_eq_true] at hk ⊢
        rcases hk with hk | hk
        · exact .inl (h.kn _ hk)
        · exact .inr (owns_mono h hk)
    · rw [if_neg hk] at hf; cases hf
  · rw [if_neg h7] at hf; cases hf
theorem opn_hit {L : List Tm} {s : Sk} {i : Nat} (hl : i < s.op.length) (hk : bt s.kn i = true) (hf : (frm L s.kn i).isSome = true) : bt (opn L s i).op i = true := by
  unfold opn
  rw [hk]
  by_cases ho : bt s.op i = true
  · rw [ho]
    exact ho
  · rw [Bool.not_eq_true] at ho
    rw [ho]
    simp only [Bool.not_true, Bool.or_self, Bool.false_eq_true, if_false]
    cases hfr : frm L s.kn i with
    | none => rw [hfr] at hf; cases hf
    | some f => exact (fold_le lrn_le _ _).op i (by show bt (s.op.set i true) i = true; rw [bt_set, decide_eq_true ⟨rfl, hl⟩, Bool.true_or])
/-! what holds all the way -/
/-- Terms as they should be; U: of what each is an argument, as often as it is. -/
structure Net (L : List Tm) (U : Nat → List Nat) : Prop where
  lt : ∀ i, i < L.length → ∀ x ∈ ar L i, x < L.length
  atom : ∀ i, kd L i = 1 → ar L i = []
  l5 : ∀ i, i < L.length → kd L i = 5 → 1 ≤ (ar L i).length
  l6 : ∀ i, i < L.length → kd L i = 6 → 1 ≤ (ar L i).length
  l7 : ∀ i, i < L.length → kd L i = 7 → 2 ≤ (ar L i).length
  cnt : ∀ i u, i < L.length → (U i).count u = if u < L.length then (ar L u).count i else 0
theorem Net.mem {L : List Tm} {U : Nat → List Nat} (h : Net L U) {i u : Nat} (hi : i < L.length) (hu : u < L.length) (hx : i ∈ ar L u) : u ∈ U i := by
  rw [← List.count_pos_iff, h.cnt i u hi, if_pos hu, List.count_pos_iff]
  exact hx
theorem Net.mem' {L : List Tm} {U : Nat → List Nat} (h : Net L U) {i u : Nat} (hi : i < L.length) (hx : u ∈ U i) : u < L.length ∧ i ∈ ar L u := by
  rw [← List.count_pos_iff, h.cnt i u hi] at hx
  split at hx
  · exact ⟨by assumption, List.count_pos_iff.1 hx⟩
  · omega
def drOf (k : Int) : Nat := if k = 9 then 0 else if k = 7 then 2 else 1
theorem frm_dr {L : List Tm} {kn : List Bool} {i f : Nat} (h : frm L kn i = some f) : f = drOf (kd L i) := by
  unfold frm at h
  unfold drOf
  repeat' split at h
  all_goals first | (cases h; done) | (cases h; simp_all)
/-- What is opened can be known. -/
theorem frm_kn {L : List Tm} {S : Nat → Prop} {s : Sk} {i f x : Nat} (hs : ∀ j, bt s.kn j = true → Kn L S j) (hk : Kn L S i) (h : frm L s.kn i = some f) (hx : x ∈ (ar L i).drop f) : Kn L S x := by
  unfold frm at h
  split at h
  · rename_i h9
    cases h
    exact .list i x hk h9 (by simpa using hx)
  · split at h
    · rename_i h8
      cases h
      exact .sig i x hk h8 hx
    · split at h
      · rename_i h6
        split at h
        · rename_i hb
          cases h
          exact .sealed i x hk h6 (hs _ hb) hx
        · cases h
      · split at h
        · rename_i h7
          split at h
          · rename_i hb
            cases h
            rw [Bool.or_eq_true] at hb
            rcases hb with hb | hb
            · exact .box1 i x hk h7 (hs _ hb) hx
            · unfold owns at hb
              rw [Bool.and_eq_true, decide_eq_true_eq] at hb
              exact .box2 i x hk h7 hb.1 (hs _ hb.2) hx
          · cases h
        · cases h
structure Srch (L : List Tm) (S : Nat → Prop) (s : Sk) (D P : List Nat) : Prop where
  lk : s.kn.length = L.length
  lo : s.op.length = L.length
  lm : s.ms.length = L.length
  snd : ∀ i, bt s.kn i = true → Kn L S i
  work : ∀ i, bt s.kn i = true ↔ i ∈ D ∨ i ∈ s.wk
  nod : (D ++ s.wk).Nodup
  ops : ∀ i, bt s.op i = true → ∀ x ∈ (ar L i).drop (drOf (kd L i)), bt s.kn x = true
  mis : ∀ u, u < L.length → s.ms.getD u 0 = (ar L u).length - P.count u
  mkn : ∀ u, u < L.length → ar L u ≠ [] → P.count u = (ar L u).length → bt s.kn u = true
theorem Srch.lrn {L : List Tm} {S : Nat → Prop} {s : Sk} {D P : List Nat} (h : Srch L S s D P) {i : Nat} (hi : i < L.length) (hk : Kn L S i) : Srch L S (lrn s i) D P := by
  have hle := lrn_le s i
  unfold Proofs.Ytikbeagcflofhaa.lrn at hle ⊢
  split
  · exact h
  · rename_i hb
    rw [if_neg hb] at hle
    have hnew : ∀ j, bt (s.kn.set i true) j = true ↔ j = i ∨ bt s.kn j = true := fun j => by
      rw [bt_set, Bool.or_eq_true, decide_eq_true_eq]
      constructor
      · rintro (⟨rfl, _⟩ | h1)
        · exact .inl rfl
        · exact .inr h1
      · rintro (rfl | h1)
        · exact .inl ⟨rfl, by rw [h.lk]; exact hi⟩
        · exact .inr h1
    have hnot : ¬ (i ∈ D ∨ i ∈ s.wk) := fun hh => hb ((h.work i).2 hh)
    refine ⟨by simp [h.lk], h.lo, h.lm, fun j hj => ?_, fun j => ?_, ?_, fun j hj x hx => hle.kn x (h.ops j hj x hx), h.mis, fun u hu hne hc => hle.kn u (h.mkn u hu hne hc)⟩
    · rcases (hnew j).1 hj with rfl | h1
      · exact hk
      · exact h.snd j h1
    · show bt (s.kn.set i true) j = true ↔ j ∈ D ∨ j ∈ s.wk ++ [i]
      rw [hnew j, h.work j, List.mem_append, List.mem_singleton]
      constructor
      · rintro (rfl | h1 | h1)
        · exact .inr (.inr rfl)
        · exact .inl h1
        · exact .inr (.inl h1)
      · rintro (h1 | h1 | rfl)
        · exact .inr (.inl h1)
        · exact .inr (.inr h1)
        · exact .inl rfl
    · show (D ++ (s.wk ++ [i])).Nodup
      rw [← List.append_assoc]
      refine List.nodup_append.2 ⟨h.nod, by simp, fun a ha b hb' e => ?_⟩
      rw [List.mem_singleton.1 hb'] at e
      rw [e, List.mem_append] at ha
      exact hnot ha
theorem Srch.lrns {L : List Tm} {S : Nat → Prop} {D P : List Nat} : ∀ (l : List Nat) (s : Sk), Srch L S s D P → (∀ x ∈ l, x < L.length ∧ Kn L S x) → Srch L S (l.foldl Proofs.Ytikbeagcflofhaa.lrn s) D P ∧ ∀ x ∈ l, bt (l.foldl Proofs.Ytikbeagcflofhaa.lrn s).kn x = true := by
  intro l
  induction l with
  | nil => exact fun s h _ => ⟨h, fun x hx => by cases hx⟩
  | cons a l ih =>
    intro s h hl
    obtain ⟨ha, hka⟩ := hl a List.mem_cons_self
    obtain ⟨h1, h2⟩ := ih _ (h.lrn ha hka) (fun x hx => hl x (List.mem_cons_of_mem _ hx))
    refine ⟨h1, fun x hx => ?_⟩
    rcases List.mem_cons.1 hx with rfl | hx
    · exact (fold_le lrn_le l _).kn _ (lrn_self s _ (by rw [h.lk]; exact ha))
    · exact h2 x hx
theorem Srch.opn {L : List Tm} {U : Nat → List Nat} {S : Nat → Prop} {s : Sk} {D P : List Nat} (N : Net L U) (h : Srch L S s D P) (i : Nat) : Srch L S (opn L s i) D P := by
  unfold Proofs.Ytikbeagcflofhaa.opn
  split
  · exact h
  · rename_i hb
    simp only [Bool.or_eq_true, Bool.not_eq_true', not_or, Bool.not_eq_false, Bool.not_eq_true] at hb
    obtain ⟨hk, ho⟩ := hb
    have hi : i < L.length := by rw [← h.lk]; exact bt_lt hk
    cases hf : frm L s.kn i with
    | none => exact h
    | some f =>
      have hall : ∀ x ∈ (ar L i).drop f, x < L.length ∧ Kn L S x := fun x hx => ⟨N.lt i hi x (List.mem_of_mem_drop hx), frm_kn h.snd (h.snd i hk) hf hx⟩
      obtain ⟨s', hs'⟩ : ∃ s', s' = ((ar L i).drop f).foldl Proofs.Ytikbeagcflofhaa.lrn s := ⟨_, rfl⟩
      obtain ⟨h1, h2⟩ := Srch.lrns ((ar L i).drop f) s h hall
      have hcomm : ∀ (l : List Nat) (t : Sk), l.foldl Proofs.Ytikbeagcflofhaa.lrn { t with op := t.op.set i true } = { l.foldl Proofs.Ytikbeagcflofhaa.lrn t with op := t.op.set i true } ∧ (l.foldl Proofs.Ytikbeagcflofhaa.lrn t).op = t.op := by
        intro l
        induction l with
        | nil => exact fun t => ⟨rfl, rfl⟩
        | cons a l ih =>
          intro t
          have e1 : Proofs.Ytikbeagcflofhaa.lrn { t with op := t.op.set i true } a = { Proofs.Ytikbeagcflofhaa.lrn t a with op := (Proofs.Ytikbeagcflofhaa.lrn t a).op.set i true } := by
            unfold Proofs.Ytikbeagcflofhaa.lrn
            simp only
            split <;> rfl
          have e2 : (Proofs.Ytikbeagcflofhaa.lrn t a).op = t.op := by
            unfold Proofs.Ytikbeagcflofhaa.lrn
            split <;> rfl
          obtain ⟨h3, h4⟩ := ih (Proofs.Ytikbeagcflofhaa.lrn t a)
          refine ⟨?_, h4.trans e2⟩
          rw [List.foldl_cons, e1, h3, e2]
          rfl
      obtain ⟨h3, h4⟩ := hcomm ((ar L i).drop f) s
      show Srch L S (((ar L i).drop f).foldl Proofs.Ytikbeagcflofhaa.lrn { s with op := s.op.set i true }) D P
      rw [h3]
      refine ⟨h1.lk, by simp [h.lo], h1.lm, h1.snd, h1.work, h1.nod, fun j hj x hx => ?_, h1.mis, h1.mkn⟩
      have hj' : bt (s.op.set i true) j = true := hj
      rw [bt_set, Bool.or_eq_true, decide_eq_true_eq] at hj'
      rcases hj' with ⟨rfl, _⟩ | hj'
      · rw [← frm_dr hf] at hx
        exact h2 x hx
      · exact (fold_le lrn_le _ s).kn x (h.ops j hj' x hx)
theorem Srch.opns {L : List Tm} {U : Nat → List Nat} {S : Nat → Prop} {D P : List Nat} (N : Net L U) : ∀ (l : List Nat) (s : Sk), Srch L S s D P → Srch L S (l.foldl (Proofs.Ytikbeagcflofhaa.opn L) s) D P := by
  intro l
  induction l with
  | nil => exact fun s h => h
  | cons a l ih => exact fun s h => ih _ (h.opn N a)
theorem Srch.bxs {L : List Tm} {U : Nat → List Nat} {S : Nat → Prop} {s : Sk} {D P : List Nat} (N : Net L U) (h : Srch L S s D P) (i : Nat) : Srch L S (bxs L U s i) D P := by
  unfold Proofs.Ytikbeagcflofhaa.bxs
  split
  · exact Srch.opns N _ _ h
  · exact h
/-- Among the processed ones: how often. -/
theorem sum_count (D : List Nat) (A : List Nat) (hD : D.Nodup) : (D.map (fun x => A.count x)).sum = (A.filter (fun x => decide (x ∈ D))).length := by
  induction D with
  | nil =>
    have h0 : A.filter (fun x => decide (x ∈ ([] : List Nat))) = [] := List.filter_eq_nil_iff.2 (fun a _ => by simp)
    rw [h0]
    rfl
  | cons d D ih =>
    obtain ⟨hd, hD'⟩ := List.nodup_cons.1 hD
    rw [List.map_cons, List.sum_cons, ih hD']
    clear ih hD
    induction A with
    | nil => simp
    | cons a A ih =>
      rw [List.count_cons]
      by_cases ha : a = d
      · subst ha
        simp [hd] at ih ⊢
        omega
      · by_cases hm : a ∈ D
        · simp [ha, hm] at ih ⊢
          omega
        · simp [ha, hm] at ih ⊢
          omega
theorem flat_count (U : Nat → List Nat) (u : Nat) : ∀ D : List Nat, (D.flatMap U).count u = (D.map (fun x => (U x).count u)).sum := by
  intro D
  induction D with
  | nil => simp
  | cons d D ih => rw [List.flatMap_cons, List.count_append, ih, List.map_cons, List.sum_cons]
theorem Net.total {L : List Tm} {U : Nat → List Nat} (N : Net L U) {D : List Nat} (hD : D.Nodup) (hl : ∀ x ∈ D, x < L.length) {u : Nat} (hu : u < L.length) : (D.flatMap U).count u = ((ar L u).filter (fun x => decide (x ∈ D))).length := by
  rw [flat_count, ← sum_count D _ hD]
  congr 1
  refine List.map_congr_left fun x hx => ?_
  rw [N.cnt x u (hl x hx), if_pos hu]
theorem all_in {A D : List Nat} (h : (A.filter (fun x => decide (x ∈ D))).length = A.length) : ∀ x ∈ A, x ∈ D := by
  have h2 := List.filter_eq_self.1 ((List.filter_sublist (p := fun x => decide (x ∈ D)) (l := A)).eq_of_length h)
  exact fun x hx => by simpa using h2 x hx
theorem Srch.use {L : List Tm} {U : Nat → List Nat} {S : Nat → Prop} {s : Sk} {D P : List Nat} (N : Net L U) (h : Srch L S s D P) {u : Nat} (hu : u < L.length) (hne : ar L u ≠ []) (hc : (P ++ [u]).count u ≤ (D.flatMap U).count u) : Srch L S (use L U s u) D (P ++ [u]) := by
  have hD : D.Nodup := (List.nodup_append.1 h.nod).1
  have hDk : ∀ x ∈ D, bt s.kn x = true := fun x hx => (h.work x).2 (.inl hx)
  have hDl : ∀ x ∈ D, x < L.length := fun x hx => by rw [← h.lk]; exact bt_lt (hDk x hx)
  have hcnt : ∀ v, (P ++ [u]).count v = P.count v + if u = v then 1 else 0 := fun v => by
    rw [List.count_append, List.count_singleton]
    by_cases e : u = v
    · simp [e]
    · simp [e]
  have hms : ∀ v, v < L.length → (dec s u).ms.getD v 0 = (ar L v).length - (P ++ [u]).count v := fun v hv => by
    have h0 := h.mis v hv
    show (s.ms.set u (s.ms.getD u 0 - 1)).getD v 0 = _
    rw [List.getD_eq_getElem?_getD, List.getElem?_set, hcnt v]
    by_cases e : u = v
    · subst e
      rw [if_pos rfl, if_pos rfl, if_pos (by rw [h.lm]; exact hu)]
      simp only [Option.getD_some]
      rw [h0]
      omega
    · rw [if_neg e, if_neg e, ← List.getD_eq_getElem?_getD, h0]
      omega
  refine Srch.bxs N (Srch.opn N ?_ u) u
  unfold mkd
  split
  · rename_i hz
    have hz' := hms u hu
    rw [hz] at hz'
    have htot := N.total hD hDl hu
    have hle : ((ar L u).filter (fun x => decide (x ∈ D))).length ≤ (ar L u).length := List.length_filter_le _ _
    have hall := all_in (A := ar L u) (D := D) (by omega)
    have hk : Kn L S u := .make u hu (fun h1 => hne (N.atom u h1)) (fun x hx => h.snd x (hDk x (hall x hx)))
    have hself := lrn_self (dec s u) u (by show u < s.kn.length; rw [h.lk]; exact hu)
    have hle2 := lrn_le (dec s u) u
    have hI := h.lrn hu hk
    have hlrn : Proofs.Ytikbeagcflofhaa.lrn (dec s u) u = { Proofs.Ytikbeagcflofhaa.lrn s u with ms := (dec s u).ms } := by
      unfold Proofs.Ytikbeagcflofhaa.lrn dec
      simp only
      split <;> rfl
    rw [hlrn] at hself hle2 ⊢
    refine ⟨hI.lk, hI.lo, by simp [dec, h.lm], hI.snd, hI.work, hI.nod, hI.ops, hms, fun v hv hvn hvc => ?_⟩
    by_cases e : u = v
    · subst e
      exact hself
    · rw [hcnt v, if_neg e] at hvc
      exact hle2.kn v (h.mkn v hv hvn hvc)
  · rename_i hz
    refine ⟨h.lk, h.lo, by simp [dec, h.lm], h.snd, h.work, h.nod, h.ops, hms, fun v hv hvn hvc => ?_⟩
    by_cases e : u = v
    · subst e
      have h1 := hms u hu
      exact absurd (by rw [h1]; omega) hz
    · rw [hcnt v, if_neg e] at hvc
      exact h.mkn v hv hvn hvc
/-- What can be opened by the processed ones. -/
def Can (L : List Tm) (D : List Nat) (j : Nat) : Prop :=
  kd L j = 9 ∨ kd L j = 8 ∨ (kd L j = 6 ∧ (ar L j).getD 0 0 ∈ D) ∨ (kd L j = 7 ∧ ((ar L j).getD 1 0 ∈ D ∨ (kd L ((ar L j).getD 0 0) = 5 ∧ (ar L ((ar L j).getD 0 0)).getD 0 0 ∈ D)))
def Obl (L : List Tm) (s : Sk) (D : List Nat) : Prop := ∀ j ∈ D, Can L D j → bt s.op j = true
theorem can_frm {L : List Tm} {D : List Nat} {s : Sk} (hD : ∀ x ∈ D, bt s.kn x = true) {j : Nat} (h : Can L D j) : (frm L s.kn j).isSome = true := by
  unfold frm
  rcases h with h | h | ⟨h, h1⟩ | ⟨h, h1⟩
  · rw [if_pos h]; rfl
  · rw [if_neg (by omega), if_pos h]; rfl
  · rw [if_neg (by omega), if_neg (by omega), if_pos h, if_pos (hD _ h1)]; rfl
  · rw [if_neg (by omega), if_neg (by omega), if_neg (by omega), if_pos h, if_pos ?_]
    · rfl
    · rw [Bool.or_eq_true]
      rcases h1 with h1 | ⟨h1, h2⟩
      · exact .inl (hD _ h1)
      · refine .inr ?_
        unfold owns
        rw [Bool.and_eq_true, decide_eq_true_eq]
        exact ⟨h1, hD _ h2⟩
theorem getD_mem {A : List Nat} {k : Nat} (h : k < A.length) : A.getD k 0 ∈ A := by
  rw [List.getD_eq_getElem?_getD, List.getElem?_eq_getElem h]
  exact List.getElem_mem h
theorem obl_step {L : List Tm} {U : Nat → List Nat} {S : Nat → Prop} {s : Sk} {i : Nat} {D P : List Nat} (N : Net L U) (h : Srch L S s (i :: D) P) (ho : Obl L s D) : Obl L (stp L U s i) (i :: D) := by
  intro j hj hc
  have hkn : ∀ x ∈ i :: D, bt s.kn x = true := fun x hx => (h.work x).2 (.inl hx)
  have hlt : ∀ x ∈ i :: D, x < L.length := fun x hx => by rw [← h.lk]; exact bt_lt (hkn x hx)
  have hj1 := hlt j hj
  have hi1 := hlt i List.mem_cons_self
  have hle0 := opn_le L s i
  have hle1 : Le (opn L s i) (stp L U s i) := fold_le (use_le L U) (U i) _
  have hle : Le s (stp L U s i) := hle0.trans hle1
  -- what is opened in the fold
  have inU : ∀ t, Le s t → ∀ u ∈ i :: D, Can L (i :: D) u → bt (opn L t u).op u = true := fun t ht u hu hcu =>
    opn_hit (by rw [ht.lo, h.lo]; exact hlt u hu) (ht.kn u (hkn u hu)) (can_frm (fun x hx => ht.kn x (hkn x hx)) hcu)
  have hitU : ∀ u, u ∈ U i → u ∈ i :: D → Can L (i :: D) u → bt (stp L U s i).op u = true := fun u hu hud hcu => by
    obtain ⟨t, h1, h2⟩ := fold_hit (use_le L U) (U i) (opn L s i) u hu
    have h3 : Le s (mkd (dec t u) u) := ((hle0.trans h1).trans (dec_le t u)).trans (mkd_le _ u)
    exact h2.op u ((bxs_le L U _ u).op u (inU _ h3 u hud hcu))
  have hitB : ∀ p, p ∈ U i → kd L p = 5 → ∀ u ∈ U p, u ∈ i :: D → Can L (i :: D) u → bt (stp L U s i).op u = true := fun p hp h5 u hu hud hcu => by
    obtain ⟨t, h1, h2⟩ := fold_hit (use_le L U) (U i) (opn L s i) p hp
    have h3 : Le s (opn L (mkd (dec t p) p) p) := (((hle0.trans h1).trans (dec_le t p)).trans (mkd_le _ p)).trans (opn_le L _ p)
    have h4 : use L U t p = (U p).foldl (opn L) (opn L (mkd (dec t p) p) p) := by
      unfold use bxs
      rw [if_pos h5]
    obtain ⟨t', h5', h6⟩ := fold_hit (opn_le L) (U p) (opn L (mkd (dec t p) p) p) u hu
    rw [h4] at h2
    exact h2.op u (h6.op u (inU _ (h3.trans h5') u hud hcu))
  rcases List.mem_cons.1 hj with rfl | hjD
  · exact hle1.op _ (inU s (Le.refl s) _ hj hc)
  · rcases hc with h9 | h8 | ⟨h6, h0⟩ | ⟨h7, h0⟩
    · exact hle.op j (ho j hjD (.inl h9))
    · exact hle.op j (ho j hjD (.inr (.inl h8)))
    · rcases List.mem_cons.1 h0 with he | h0
      · refine hitU j ?_ hj (.inr (.inr (.inl ⟨h6, by rw [he]; exact List.mem_cons_self⟩)))
        refine N.mem hi1 hj1 ?_
        rw [← he]
        exact getD_mem (N.l6 j hj1 h6)
      · exact hle.op j (ho j hjD (.inr (.inr (.inl ⟨h6, h0⟩))))
    · have h72 := N.l7 j hj1 h7
      rcases h0 with h0 | ⟨h5, h0⟩
      · rcases List.mem_cons.1 h0 with he | h0
        · refine hitU j ?_ hj (.inr (.inr (.inr ⟨h7, .inl (by rw [he]; exact List.mem_cons_self)⟩)))
          refine N.mem hi1 hj1 ?_
          rw [← he]
          exact getD_mem (by omega)
        · exact hle.op j (ho j hjD (.inr (.inr (.inr ⟨h7, .inl h0⟩))))
      · rcases List.mem_cons.1 h0 with he | h0
        · have hp : (ar L j).getD 0 0 ∈ ar L j := getD_mem (by omega)
          have hp1 := N.lt j hj1 _ hp
          refine hitB _ (N.mem hi1 hp1 ?_) h5 j (N.mem hp1 hj1 hp) hj (.inr (.inr (.inr ⟨h7, .inr ⟨h5, by rw [he]; exact List.mem_cons_self⟩⟩)))
          rw [← he]
          exact getD_mem (N.l5 _ hp1 h5)
        · exact hle.op j (ho j hjD (.inr (.inr (.inr ⟨h7, .inr ⟨h5, h0⟩⟩))))
/-- At the end just that is known which can be. -/
theorem srch_done {L : List Tm} {U : Nat → List Nat} {S : Nat → Prop} {s : Sk} {D P : List Nat} (N : Net L U) (h : Srch L S s D P) (hP : ∀ u, P.count u = (D.flatMap U).count u) (ho : Obl L s D) (hw : s.wk = []) (hg : ∀ i, S i → i < L.length → bt s.kn i = true) (h0 : ∀ i, i < L.length → kd L i ≠ 1 → ar L i = [] → bt s.kn i = true) : ∀ i, bt s.kn i = true ↔ Kn L S i := by
  have hD : ∀ i, bt s.kn i = true ↔ i ∈ D := fun i => by
    rw [h.work i, hw]
    simp
  have hDl : ∀ x ∈ D, x < L.length := fun x hx => by rw [← h.lk]; exact bt_lt ((hD x).2 hx)
  have hDn : D.Nodup := (List.nodup_append.1 h.nod).1
  have opened : ∀ i x, bt s.kn i = true → Can L D i → x ∈ (ar L i).drop (drOf (kd L i)) → bt s.kn x = true := fun i x hi hc hx => h.ops i (ho i ((hD i).1 hi) hc) x hx
  intro i
  constructor
  · exact h.snd i
  · intro hk
    induction hk with
    | given i hs hi => exact hg i hs hi
    | make i hi hka _ ih =>
      by_cases hne : ar L i = []
      · exact h0 i hi hka hne
      · refine h.mkn i hi hne ?_
        rw [hP, N.total hDn hDl hi]
        congr 1
        exact List.filter_eq_self.2 (fun x hx => by simpa using (hD x).1 (ih x hx))
    | list i x _ h9 hx ih => exact opened i x ih (.inl h9) (by rw [h9]; exact hx)
    | sig i x _ h8 hx ih => exact opened i x ih (.inr (.inl h8)) (by rw [h8]; exact hx)
    | sealed i x _ h6 _ hx ih ih2 => exact opened i x ih (.inr (.inr (.inl ⟨h6, (hD _).1 ih2⟩))) (by rw [h6]; exact hx)
    | box1 i x _ h7 _ hx ih ih2 => exact opened i x ih (.inr (.inr (.inr ⟨h7, .inl ((hD _).1 ih2)⟩))) (by rw [h7]; exact hx)
    | box2 i x _ h7 h5 _ hx ih ih2 => exact opened i x ih (.inr (.inr (.inr ⟨h7, .inr ⟨h5, (hD _).1 ih2⟩⟩))) (by rw [h7]; exact hx)
end Go.Proofs.Ytikbeagcflofhaa

/-
  LAYER 25: LogsMeet: what Say, Put, Want answer, client by client; pairs that came in. Own work.
-/
import Derived.Test.YtcpcnjblojoppaaLMa
import Derived.Test.YtcpcnjblojoppaaLXy
namespace Go.Proofs.Ytcpcnjblojoppaa
open Go.ChangeShapes Go.WideShapes Go.ChangeAt Go.RowKit Go.Maps
set_option maxRecDepth 100000
theorem Logs.keeps {F : Nat → Prop} {w w' : World} {v : Value} {S : List Lg} (h : Logs w v S) (hK : Keeps F w w') (hv : ∀ k, v.ownBlock = some k → ¬ F k) (hS : ∀ i (h : i < S.length) (k : Nat), S[i].v.ownBlock = some k → ¬ F k) : Logs w' v S := by
  obtain ⟨p, c, rfl, h | ⟨b, o, rfl, hb, hc⟩⟩ := h
  · exact ⟨p, c, rfl, .inl h⟩
  · have hb' : ¬ F b := hv b rfl
    refine ⟨_, c, rfl, .inr ⟨b, o, rfl, Nat.lt_of_lt_of_le hb hK.size, fun i hi => ?_⟩⟩
    obtain ⟨h0, h1, h2, h3, h4, h5, h6, h7⟩ := hc i hi
    exact ⟨(hK.cell (p := ⟨b, o + i * 3, none⟩) hb hb').trans h0, (hK.cell (p := ⟨b, o + i * 3 + 1, none⟩) hb hb').trans h1, (hK.cell (p := ⟨b, o + i * 3 + 2, none⟩) hb hb').trans h2, h3.keeps hK (hS i hi), h4, h5, h6, h7⟩
/-- Behind a row of one's own that grew and lies lower. -/
theorem Logs.grownF {w w' : World} {v u : Value} {S : List Lg} {B : Nat} (h : Logs w v S) (hG : w.grownBy w' u.ownBlock) (hF : Fr B v S) (hu : ∀ k, u.ownBlock = some k → k < B) : Logs w' v S :=
  h.keeps (Keeps.of_grown (F := fun k => u.ownBlock = some k) hG (fun _ hk => hk)) (fun k hk hf => by have := hF.1 k hk; have := hu k hf; omega) (fun i hi k hk hf => by have := hF.2 i hi k hk; have := hu k hf; omega)
/-- What Say answers, client by client. -/
def SayF (F : Nat → List Int) (k : Nat) (body : Int) (b0 : Nat) (w' : World) (v : Value) (q er : Int) : Prop :=
  (er = 20 ∧ v = .slice none 0 0 ∧ q = 0) ∨ (er = 0 ∧ q = ((F k).length + 1 : Nat) ∧ ∃ T, IsF T (upd F k body) ∧ Logs w' v T ∧ Fr b0 v T)
theorem say_is {v : Value} {S : List Lg} {F : Nat → List Int} {ws : World} (h : Logs ws v S) (hI : IsF S F) {k : Nat} (hk : k < 3) {body : Int} (hb0 : 0 ≤ body) (hb1 : body ≤ 1048576) : Calls Try.prog 16 #[v, .int .i64 k, .int .i64 body] ws fun e w' => ∃ v' q er, e = .returned (.tuple #[v', .int .i64 q, .int .i64 er]) ∧ SayF F k body ws.heap.size w' v' q er ∧ Below ws.heap.size ws w' := by
  refine (say_anyf h (by have := hI.right.len; omega) hI.right (by omega) (by omega) hb0 hb1).mono ?_
  rintro e w' ⟨v', q, er, rfl, hp, hB⟩
  rcases hI.put hk hb0 hb1 hp with ⟨rfl, _, rfl, rfl⟩ | ⟨rfl, rfl, T, hT, hl, hf⟩
  · exact ⟨_, _, _, rfl, .inl ⟨rfl, rfl, rfl⟩, hB⟩
  · exact ⟨_, _, _, rfl, .inr ⟨rfl, rfl, T, hT, hl, hf⟩, hB⟩
theorem put_next_is {v : Value} {S : List Lg} {F : Nat → List Int} {ws : World} (h : Logs ws v S) (hI : IsF S F) {k : Nat} (hk : k < 3) {body seq : Int} (hb0 : 0 ≤ body) (hb1 : body ≤ 1048576) (h32 : (F k).length < 32) (hs : seq = ((F k).length + 1 : Nat)) : Calls Try.prog 20 #[v, .agg #[.int .i64 k, .int .i64 seq, .int .i64 body]] ws fun e w' => ∃ v' T, e = .returned (.tuple #[v', .bool true, .int .i64 0]) ∧ IsF T (upd F k body) ∧ Logs w' v' T ∧ Below ws.heap.size ws w' := by
  refine (putm_nexta v S ws h (by have := hI.right.len; omega) hI.right k seq body (F k).length (by omega) hb0 hb1 (by omega) ((hI.had hk).is hI.right (by omega)) (by omega) (by omega) (by omega)).mono ?_
  rintro e w' ⟨v', q, er, rfl, hp, hB⟩
  rcases hI.put hk hb0 hb1 hp.toF with ⟨_, h3, _⟩ | ⟨rfl, _, T, hT, hl, _⟩
  · omega
  · exact ⟨v', T, rfl, hT, hl, hB⟩
theorem put_skip_is {v : Value} {S : List Lg} {F : Nat → List Int} {ws : World} (h : Logs ws v S) (hI : IsF S F) {k : Nat} (hk : k < 3) {body seq : Int} (hb0 : 0 ≤ body) (hb1 : body ≤ 1048576) (hs : ((F k).length + 1 : Nat) < seq) : Calls Try.prog 20 #[v, .agg #[.int .i64 k, .int .i64 seq, .int .i64 body]] ws fun e w' => e = .returned (.tuple #[.slice none 0 0, .bool false, .int .i64 14]) ∧ Below ws.heap.size ws w' := by
  have h32 := (hI.len hk).1
  exact putm_skip v S ws h (by have := hI.right.len; omega) hI.right k seq body (F k).length (by omega) hb0 hb1 (by omega) ((hI.had hk).is hI.right (by omega)) (by omega) (by omega) (by omega)
theorem put_old_is {v : Value} {S : List Lg} {F : Nat → List Int} {ws : World} (h : Logs ws v S) (hI : IsF S F) {k : Nat} (hk : k < 3) {body seq : Int} (hb0 : 0 ≤ body) (hb1 : body ≤ 1048576) (h1 : 1 ≤ seq) (hs : seq ≤ (F k).length) : Calls Try.prog 20 #[v, .agg #[.int .i64 k, .int .i64 seq, .int .i64 body]] ws fun e w' => ∃ v' T, e = .returned (.tuple #[v', .bool false, .int .i64 0]) ∧ Alike S T ∧ Logs w' v' T ∧ Below ws.heap.size ws w' := by
  have h32 := (hI.len hk).1
  exact putm_old v S ws h (by have := hI.right.len; omega) hI.right k seq body (F k).length (by omega) hb0 hb1 h1 ((hI.had hk).is hI.right (by omega)) (by omega) (by omega) hs
theorem IsF.zs {T : List Lg} {G : Nat → List Int} (h : IsF T G) {zs : List Int} (hz : HaveR T T.length zs) {k : Nat} (hk : k < 3) : zs.getD k 0 = (G k).length := (hz.of (by omega)).same h.right (h.had hk)
theorem IsF.zs0 {T : List Lg} {G : Nat → List Int} (h : IsF T G) {zs : List Int} (hz : HaveR T T.length zs) {k : Nat} (hk : ¬ k < 3) (h8 : k < 8) : zs.getD k 0 = 0 := (hz.of h8).same h.right (h.had0 hk)
theorem IsF.same_have {S T : List Lg} {G : Nat → List Int} (h : IsF S G) (h' : IsF T G) {ys zs : List Int} (hy : HaveR S S.length ys) (hz : HaveR T T.length zs) : ys = zs := by
  have e1 := hy.len
  have e2 := hz.len
  refine getD_ext (by omega) fun k hk => ?_
  by_cases h3 : k < 3
  · rw [h.zs hy h3, h'.zs hz h3]
  · rw [h.zs0 hy h3 (by omega), h'.zs0 hz h3 (by omega)]
/-- What Want answers, client by client. -/
def WantF (F G : Nat → List Int) (e : Ending) : Prop :=
  ((∀ k, k < 3 → (F k).length ≤ (G k).length) ∧ e = .returned (.tuple #[.agg #[.int .i64 0, .int .i64 0, .int .i64 0], .bool false])) ∨
    ∃ k : Nat, k < 3 ∧ (G k).length < (F k).length ∧ e = .returned (.tuple #[.agg #[.int .i64 k, .int .i64 ((G k).length + 1 : Nat), .int .i64 ((F k).getD (G k).length 0)], .bool true])
theorem want_is {v u : Value} {S T : List Lg} {F G : Nat → List Int} {zs : List Int} {w : World} (h : Logs w v S) (hI : IsF S F) (hJ : IsF T G) (hz : HaveR T T.length zs) (hu : RdW w u zs) : Calls Try.prog 22 #[v, u] w fun e w' => WantF F G e ∧ Below w.heap.size w w' := by
  have h8 := hz.len
  have h4 := hI.right.len
  have had : ∀ g ∈ S, ∃ k : Nat, k < 3 ∧ g.c = k ∧ g.b = 0 ∧ g.xs = F k ∧ hadOf g zs = (G k).length := fun g hg => by
    obtain ⟨hb, _, k, hk, hc, hx⟩ := hI.con g hg
    refine ⟨k, hk, hc, hb, hx, ?_⟩
    unfold hadOf
    rw [hc, Int.toNat_natCast, hJ.zs hz hk]
  rcases first_hit S zs with ⟨i, g, hg, hh, hno⟩ | hno
  · refine (want_hit h (by omega) hI.right hu h8 hg hh hno).mono ?_
    rintro e w' ⟨rfl, hB⟩
    obtain ⟨k, hk, hc, hb, hx, he⟩ := had g (List.mem_of_getElem? hg)
    unfold hitL at hh
    rw [hb, hx, he] at hh
    refine ⟨.inr ⟨k, hk, by omega, ?_⟩, hB⟩
    rw [he, hc, hb, hx]
    have e1 : (((G k).length : Int) - 0).toNat = (G k).length := by omega
    rw [e1]
    rfl
  · refine (want_none h (by omega) hI.right hu h8 hno).mono ?_
    rintro e w' ⟨rfl, hB⟩
    refine ⟨.inl ⟨fun k hk => ?_, rfl⟩, hB⟩
    by_cases hne : F k = []
    · rw [hne]
      exact Nat.zero_le _
    · obtain ⟨s, hs, hc⟩ := hI.all k hk hne
      obtain ⟨i, hi, rfl⟩ := List.getElem_of_mem hs
      have h1 := hno i _ (List.getElem?_eq_getElem hi)
      obtain ⟨k', _, hc', hb, hx, he⟩ := had _ hs
      obtain rfl : k' = k := by omega
      unfold hitL at h1
      rw [hb, hx, he] at h1
      omega
/-- Pairs that came in. -/
def Says (w : World) (v : Value) (n : Nat) : Prop :=
  ∃ p c, v = .slice p n c ∧ (n = 0 ∨ ∃ b o, p = some ⟨b, o, none⟩ ∧ b < w.heap.size ∧ ∀ i, i < n → ∃ x y : Int, w.cell? ⟨b, o + i * 2, none⟩ = some (.int .i64 x) ∧ w.cell? ⟨b, o + i * 2 + 1, none⟩ = some (.int .i64 y))
section
variable {H : Type} {enc : TypeId × Value → H} {w : World} {base : Nat} {sp : Nat → Bool} {held : Bool}
theorem open_pair {fuel : Nat} {cs : List Value} {x : DataW H × List MemPlace} (h : DataW.trod enc Try.prog w base sp held fuel 49 cs = some x) : ∃ k n : Int, cs = [.int .i64 k, .int .i64 n] := by
  obtain ⟨ys, m, _, _, hl, hlen, hf⟩ := DataW.trod_array Try.underlying49 h
  have hl3 : cs.length = 2 := by rw [hl]; kernel_rfl
  match cs, hl3 with
  | [c0, c1], _ =>
    match ys, hlen with
    | [y0, y1], _ =>
      have h0 := hf 0 (by omega)
      have h1 := hf 1 (by omega)
      have e3 : Try.prog.cellsOf 3 = 1 := by kernel_rfl
      rw [e3] at h0 h1
      simp only [List.drop, List.take] at h0 h1
      obtain ⟨k, hk, _, _⟩ := DataW.trod_int Try.underlying3 h0
      obtain ⟨n, hn, _, _⟩ := DataW.trod_int Try.underlying3 h1
      cases hk
      cases hn
      exact ⟨k, n, rfl⟩
theorem open_pairs {r : Reach} {b0 : Nat} {v : Value} {d : DataW H} {ps : List MemPlace} (hval : Value.okWide Try.prog w r b0 46 v) (h : DataW.Trod enc Try.prog w base sp held 46 v d ps) : ∃ n, Says w v n := by
  obtain ⟨fuel, hf⟩ := h
  obtain ⟨a0, len0, cap0, rfl⟩ := okWide_slice Try.underlying46 hval
  rcases DataW.trod_slice Try.underlying46 hf with ⟨hcs, _⟩ | ⟨a, len, cap, elems, rest, n, _, hcs, _, _, _, _, hlen, hel, _⟩
  · simp [Value.cells] at hcs
    obtain ⟨rfl, rfl, rfl⟩ := hcs
    exact ⟨0, none, 0, rfl, .inl rfl⟩
  · simp [Value.cells] at hcs
    obtain ⟨rfl, rfl, rfl⟩ := hcs
    by_cases h0 : len0 = 0
    · subst h0
      exact ⟨0, _, cap0, rfl, .inl rfl⟩
    · have e3 : Try.prog.cellsOf 49 = 2 := by kernel_rfl
      rw [e3] at hel
      have each : ∀ i, i < len0 → ∃ x y : Int, w.cell? ((a.add (i * 2)).add 0) = some (.int .i64 x) ∧ w.cell? ((a.add (i * 2)).add 1) = some (.int .i64 y) := by
        intro i hi
        have h1 := hel i hi
        rw [List.getElem?_eq_getElem (by omega)] at h1
        obtain ⟨cs, hcs, ht⟩ := Option.bind_eq_some_iff.1 h1
        obtain ⟨_, _, hc⟩ := World.cells?_some hcs
        obtain ⟨k, m, rfl⟩ := open_pair ht
        exact ⟨k, m, hc 0 (by omega), hc 1 (by omega)⟩
      obtain ⟨b, off, spot⟩ := a
      have hspot : spot = none := by
        obtain ⟨x, y, hs, _⟩ := each 0 (by omega)
        simpa [Addr.add] using World.cell?_spot hs
      subst hspot
      have hb : b < w.heap.size := by
        obtain ⟨x, y, hs, _⟩ := each 0 (by omega)
        have := World.block_lt_of_cell? w _ hs
        simpa [Addr.add] using this
      refine ⟨len0, _, cap0, rfl, .inr ⟨b, off, rfl, hb, fun i hi => ?_⟩⟩
      obtain ⟨x, y, h1, h2⟩ := each i hi
      simp only [add_plain, Nat.add_zero] at h1 h2
      exact ⟨x, y, h1, h2⟩
end
theorem flatM_get : ∀ (T : List Ms) (i : Nat) (h : i < T.length), (flatM T)[i * 3]? = some (.int .i64 T[i].c) ∧ (flatM T)[i * 3 + 1]? = some (.int .i64 T[i].n) ∧ (flatM T)[i * 3 + 2]? = some (.int .i64 T[i].b) := by
  unfold flatM
  intro T
  induction T with
  | nil => intro i h; cases h
  | cons a T ih =>
    intro i h
    cases i with
    | zero => simp [List.flatMap_cons, msC]
    | succ i =>
      have h' := ih i (by simpa using h)
      have e0 : (i + 1) * 3 = (msC a).length + i * 3 := by simp [msC]; omega
      have e1 : (i + 1) * 3 + 1 = (msC a).length + (i * 3 + 1) := by simp [msC]; omega
      have e2 : (i + 1) * 3 + 2 = (msC a).length + (i * 3 + 2) := by simp [msC]; omega
      rw [List.flatMap_cons, e2, e1, e0]
      simp only [List.getElem?_append_right (Nat.le_add_right _ _), Nat.add_sub_cancel_left]
      exact h'
theorem flatM_snoc (M : List Ms) (c : Nat) (n b : Int) : flatM M ++ [.int .i64 c, .int .i64 n, .int .i64 b] = flatM (M ++ [⟨c, n, b⟩]) := by
  unfold flatM
  rw [List.flatMap_append]
  simp [msC]
theorem u64_pos' (c : Int) : 0 ≤ IntKind.u64.wrap c := Int.emod_nonneg _ (by decide)
theorem conv3 (c : Int) : ∃ k : Nat, k < 3 ∧ IntKind.i64.wrap ((IntKind.u64.wrap c).tmod 3) = k := by
  have h := u64_pos' c
  generalize IntKind.u64.wrap c = u at h
  rw [Int.tmod_eq_emod_of_nonneg h]
  refine ⟨(u % 3).toNat, by omega, ?_⟩
  rw [IntWalk.i64_in _ (by omega)]
  omega
theorem conv1000 (c : Int) : 0 ≤ IntKind.i64.wrap ((IntKind.u64.wrap c).tmod 1000) ∧ IntKind.i64.wrap ((IntKind.u64.wrap c).tmod 1000) ≤ 999 := by
  have h := u64_pos' c
  generalize IntKind.u64.wrap c = u at h
  rw [Int.tmod_eq_emod_of_nonneg h]
  rw [IntWalk.i64_in _ (by omega)]
  omega
theorem begs_step {M : List Ms} {G : Nat → List Int} {q : Nat} (hq : q < M.length) (h : Begs G (fm (M.take q))) : Begs G (fm (M.take (q + 1))) := fun k hk => (h k hk).trans (by rw [fm_take M q hq]; exact upd_pre _ _ _ _)
theorem begs_put {M : List Ms} {G : Nat → List Int} {q : Nat} (hM : GoodM M) (hq : q < M.length) (h : Begs G (fm (M.take q))) (he : (G M[q].c).length = (fm (M.take q) M[q].c).length) : Begs (upd G M[q].c M[q].b) (fm (M.take (q + 1))) := by
  have hs := begs_step hq h
  refine hs.upd ?_
  rw [fm_take M q hq, upd_self, pre_eq (h _ (hM.at' q hq).1) (by omega)]
  exact List.prefix_refl _
theorem msg_len {M : List Ms} {S : List Lg} {q : Nat} (hM : GoodM M) (hI : IsF S (fm M)) (hq : q < M.length) : (fm (M.take q) M[q].c).length < 32 := by
  have h1 := (hI.len (hM.at' q hq).1).1
  have h2 := (fm_mono M M[q].c (q + 1) (by omega)).length_le
  rw [fm_take M q hq, upd_self, List.length_append] at h2
  simp at h2
  omega
theorem begs_all {M : List Ms} {G : Nat → List Int} {q : Nat} (hq : q ≤ M.length) (h : Begs G (fm (M.take q))) : Begs G (fm M) := fun k hk => (h k hk).trans (fm_mono M k q hq)
theorem begs_eq {F G : Nat → List Int} (h : Begs G F) (hl : ∀ k, k < 3 → (F k).length ≤ (G k).length) : ∀ k, k < 3 → G k = F k := fun k hk => pre_eq (h k hk) (hl k hk)
theorem fm_all {M : List Ms} (h : GoodM M) : tot (fm M) = M.length := by
  have := fm_tot h M.length (Nat.le_refl _)
  rwa [List.take_length] at this
theorem nth_in {S : List Lg} {F : Nat → List Int} (hI : IsF S F) {k i : Nat} (hk : k < 3) (hi : i < (F k).length) : 0 ≤ (F k).getD i 0 ∧ (F k).getD i 0 ≤ 1048576 := by
  rw [List.getD_eq_getElem?_getD, List.getElem?_eq_getElem hi]
  exact (hI.len hk).2 _ (List.getElem_mem hi)
/-- The first loop: what was said, and all messages. -/
def Lp1 (ws : World) (v u : Value) (j : Nat) (wr : World) : Prop := ∃ S M, IsF S (fm M) ∧ GoodM M ∧ Logs wr v S ∧ M.length ≤ j ∧ wr.ownsRow ws.heap.size 24 3 u M.length (flatM M) ∧ Below ws.heap.size ws wr
/-- The second and the third loop: what the other one has. -/
def Lp2 (ws : World) (M : List Ms) (v : Value) (j : Nat) (wr : World) : Prop := ∃ T G, IsF T G ∧ Begs G (fm (M.take j)) ∧ Logs wr v T ∧ Below ws.heap.size ws wr
def Lp3 (ws : World) (M : List Ms) (v : Value) (j : Nat) (wr : World) : Prop := ∃ T G, IsF T G ∧ Begs G (fm M) ∧ j ≤ tot G ∧ Logs wr v T ∧ Below ws.heap.size ws wr
end Go.Proofs.Ytcpcnjblojoppaa

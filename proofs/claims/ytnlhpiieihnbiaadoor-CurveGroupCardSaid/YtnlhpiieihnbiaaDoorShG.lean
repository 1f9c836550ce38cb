/-
  THE SHADOW MACHINE: how the heap is read, written and grown. Own work.
-/
import Derived.Test.YtnlhpiieihnbiaaDoorShF
namespace Go.Sh

section
variable {ν : Nat → Int} {ρ : Emb} {F : Facts} {P : Program} {w : World} {H : AH}

theorem HR.find {b : Nat} {x : ABlk} {pl : Pl} (hh : HR ν ρ H w) (hx : H.get b = some x) (hp : ρ b = some pl) : BR ν ρ w x pl := by
  obtain ⟨pl', h1, h2⟩ := hh.blk b x hx
  rw [hp] at h1
  cases h1
  exact h2

theorem beq_no {a b : Nat} (h : ¬ Nat.beq a b = true) : a ≠ b := fun e => h (by rw [e]; exact Nat.beq_refl b)

theorem BR.read {x : ABlk} {pl : Pl} (h : BR ν ρ w x pl) (hm : x.elem ≠ mapTag) {j : Nat} {c : AV} (hc : x.cells[j]? = some c) : ∃ v, w.cell? ⟨pl.cb, pl.co + j, none⟩ = some v ∧ VR ν ρ c v := by
  obtain ⟨C, e, fz, h1, h2, _⟩ := h.cells hm
  obtain ⟨v, h3, h4⟩ := h2 j c hc
  exact ⟨v, by simp [World.cell?, h1, h3], h4⟩

theorem BR.row {x : ABlk} {pl : Pl} (h : BR ν ρ w x pl) (hm : x.elem ≠ mapTag) {off n : Nat} (hn : off + n ≤ x.cells.length) :
    ∃ vs : List Value, vs.length = n ∧ LR ν ρ ((x.cells.drop off).take n) vs.toArray ∧ (∀ (j : Nat) v, vs[j]? = some v → w.cell? ((⟨pl.cb, pl.co + off, none⟩ : Addr).add j) = some v) := by
  have hj : ∀ j, j < n → ∃ v, w.cell? ⟨pl.cb, pl.co + (off + j), none⟩ = some v ∧ VR ν ρ (x.cells.getD (off + j) .u) v := by
    intro j hj
    have hlt : off + j < x.cells.length := by omega
    obtain ⟨v, h1, h2⟩ := h.read hm (List.getElem?_eq_getElem hlt)
    refine ⟨v, h1, ?_⟩
    rw [List.getD_eq_getElem?_getD, List.getElem?_eq_getElem hlt]
    exact h2
  refine ⟨(List.range n).map fun j => (w.cell? ⟨pl.cb, pl.co + (off + j), none⟩).getD undef, by simp, ⟨by simp; omega, fun j c v hc hv => ?_⟩, fun j v hv => ?_⟩
  · simp only [List.getElem?_take, List.getElem?_drop] at hc
    split at hc
    · rename_i hlt
      obtain ⟨v', h1, h2⟩ := hj j hlt
      simp [List.getElem?_range hlt, h1] at hv
      subst hv
      rw [List.getD_eq_getElem?_getD, hc] at h2
      exact h2
    · cases hc
  · simp only [List.getElem?_map, Option.map_eq_some_iff] at hv
    obtain ⟨k, hk, rfl⟩ := hv
    obtain ⟨hlt, rfl⟩ := List.getElem?_eq_some_iff.1 hk
    simp only [List.length_range] at hlt
    obtain ⟨v', h1, h2⟩ := hj j hlt
    rw [Addr.add_off, Nat.add_assoc]
    simp [h1]

theorem AH.row_sim {b off n : Nat} {cs : List AV} {pl : Pl} (hh : HR ν ρ H w) (hp : ρ b = some pl) (h : H.row b off n = some cs) :
    ∃ vs : List Value, vs.length = n ∧ LR ν ρ cs vs.toArray ∧ (∀ (j : Nat) v, vs[j]? = some v → w.cell? ((⟨pl.cb, pl.co + off, none⟩ : Addr).add j) = some v) := by
  unfold AH.row at h
  split at h
  · rename_i x hx
    split at h
    · cases h
    · rename_i hm
      split at h
      · rename_i hb
        simp only [Option.some.injEq] at h
        subst h
        exact (hh.find hx hp).row (beq_no hm) (by simpa using hb)
      · cases h
  · cases h

/-- A new block of the abstract heap, where it lies. -/
def Emb.at (ρ : Emb) (b : Nat) (pl : Pl) : Emb where
  f := fun j => if j = b then some ((ρ j).getD pl) else ρ j
  glob := fun g hg => by
    obtain ⟨tot, ht⟩ := ρ.glob g hg
    refine ⟨tot, ?_⟩
    split
    · rw [ht]; rfl
    · exact ht

theorem Emb.at_same {b : Nat} {pl : Pl} (h : ρ b = none) : (ρ.at b pl) b = some pl := by
  show (if b = b then some ((ρ b).getD pl) else ρ b) = _
  rw [if_pos rfl, h]
  rfl

theorem Emb.at_ne {b j : Nat} {pl : Pl} (h : j ≠ b) : (ρ.at b pl) j = ρ j := by
  show (if j = b then some ((ρ j).getD pl) else ρ j) = _
  rw [if_neg h]

theorem Emb.le_at {b : Nat} {pl : Pl} (h : ρ b = none) : Emb.le ρ (ρ.at b pl) := by
  intro j x hx
  by_cases e : j = b
  · subst e; rw [h] at hx; cases hx
  · rw [Emb.at_ne e]; exact hx

theorem HR.bring {H1 H' : AH} {w' : World} {cs : List AV} {t b : Nat} {pl : Pl} (hh : HR ν ρ H1 w) (hal : H1.alloc ⟨cs, t, true⟩ = some (b, H')) (hfr : ρ b = none)
    (hbr : BR ν (ρ.at b pl) w' ⟨cs, t, true⟩ pl)
    (hoth : ∀ k, k ≠ pl.cb → k < w.heap.size → w'.heap[k]? = w.heap[k]?) (hap : ∀ b'' x'' pl'', H1.get b'' = some x'' → ρ b'' = some pl'' → pl''.cb ≠ pl.cb) : HR ν (ρ.at b pl) H' w' := by
  have hle := Emb.le_at (pl := pl) hfr
  refine ⟨fun j x hx => ?_, fun j j' x x' q q' hne hx hx' ho hq hq' => ?_⟩
  · rw [AH.alloc_get hal j] at hx
    by_cases e : j = b
    · rw [if_pos e] at hx
      cases hx
      subst e
      exact ⟨pl, Emb.at_same hfr, hbr⟩
    · rw [if_neg e] at hx
      obtain ⟨q, h1, h2⟩ := hh.blk j x hx
      exact ⟨q, hle _ _ h1, h2.keep hle (hoth q.cb (hap j x q hx h1) h2.lt)⟩
  · rw [AH.alloc_get hal j] at hx
    rw [AH.alloc_get hal j'] at hx'
    by_cases e : j = b
    · have e' : j' ≠ b := fun h => hne (e.trans h.symm)
      rw [if_neg e'] at hx'
      rw [e, Emb.at_same hfr] at hq
      rw [Emb.at_ne e'] at hq'
      cases hq
      exact fun h => hap j' x' q' hx' hq' h.symm
    · rw [if_neg e] at hx
      rw [Emb.at_ne e] at hq
      by_cases e' : j' = b
      · rw [e', Emb.at_same hfr] at hq'
        cases hq'
        exact hap j x q hx hq
      · rw [if_neg e'] at hx'
        rw [Emb.at_ne e'] at hq'
        exact hh.apart j j' x x' q q' hne hx hx' ho hq hq'

/-- A new block of cells says what they say. -/
theorem BR.ofCells {w' : World} {cs : List AV} {t b : Nat} {pl : Pl} {C : Array Value} {e : TypeId} (hfr : ρ b = none) (ht : t ≠ mapTag) (hw : w'.heap[pl.cb]? = some (.cells C e (0, 0))) (hsz : C.size = pl.tot)
    (hcs : ∀ (j : Nat) c, cs[j]? = some c → ∃ v, C[pl.co + j]? = some v ∧ VR ν ρ c v) : BR ν (ρ.at b pl) w' ⟨cs, t, true⟩ pl :=
  ⟨fun _ => ⟨C, e, (0, 0), hw, fun k c hc => (let ⟨v, h1, h2⟩ := hcs k c hc; ⟨v, h1, h2.mono (Emb.le_at hfr)⟩), fun _ => ⟨rfl, hsz⟩⟩, fun h => (ht h).elim⟩

/-- A new object of the world. -/
theorem HR.freshO {H' : AH} {cs : List AV} {t b tot : Nat} {ob : Obj} (hh : HR ν ρ H w) (hal : H.alloc ⟨cs, t, true⟩ = some (b, H')) (hfr : ρ b = none)
    (hbr : BR ν (ρ.at b ⟨w.heap.size, 0, tot⟩) (w.alloc ob) ⟨cs, t, true⟩ ⟨w.heap.size, 0, tot⟩) :
    HR ν (ρ.at b ⟨w.heap.size, 0, tot⟩) H' (w.alloc ob) ∧ Stp ρ H w (ρ.at b ⟨w.heap.size, 0, tot⟩) H' (w.alloc ob) := by
  have hlt : ∀ j x q, H.get j = some x → ρ j = some q → q.cb < w.heap.size := fun j x q hx hq => (hh.find hx hq).lt
  have hold : ∀ k, k < w.heap.size → (w.alloc ob).heap[k]? = w.heap[k]? := fun k hk => by
    show (w.heap.push _)[k]? = _
    rw [Array.getElem?_push, if_neg (by omega)]
  obtain ⟨a1, a2, a3, a4, a5, a6⟩ := AH.alloc_spec hal
  refine ⟨HR.bring hh hal hfr hbr (fun k _ hk => hold k hk) (fun j x q hx hq => ?_), ⟨Emb.le_at hfr, fun j hj hj' => ?_, ?_, rfl, rfl, rfl, fun k hk _ => hold k hk, fun cb hcb ho => ?_, fun j q hj hj' => ?_⟩⟩
  · have := hlt j x q hx hq
    show q.cb ≠ w.heap.size
    omega
  · by_cases e : j = b
    · subst e; omega
    · exact (hj' (by rw [Emb.at_ne e]; exact hj)).elim
  · show w.heap.size ≤ (w.heap.push _).size
    simp
  · obtain ⟨j, x, q, h1, h2, h3, h4⟩ := ho
    rw [AH.alloc_get hal j] at h1
    by_cases e : j = b
    · rw [e, Emb.at_same hfr] at h3
      cases h3
      simp at h4
      omega
    · rw [if_neg e] at h1
      rw [Emb.at_ne e] at h3
      exact ⟨j, x, q, h1, h2, h3, h4⟩
  · by_cases e : j = b
    · rw [e, Emb.at_same hfr] at hj'
      cases hj'
      exact .inl (Nat.le_refl _)
    · rw [Emb.at_ne e, hj] at hj'
      cases hj'

/-- A new block of the world. -/
theorem HR.fresh {H' : AH} {cs : List AV} {t b : Nat} {C : Array Value} {e : TypeId} (hh : HR ν ρ H w) (hal : H.alloc ⟨cs, t, true⟩ = some (b, H')) (hfr : ρ b = none) (ht : t ≠ mapTag)
    (hcs : ∀ (j : Nat) c, cs[j]? = some c → ∃ v, C[j]? = some v ∧ VR ν ρ c v) :
    HR ν (ρ.at b ⟨w.heap.size, 0, C.size⟩) H' (w.alloc (.cells C e)) ∧ Stp ρ H w (ρ.at b ⟨w.heap.size, 0, C.size⟩) H' (w.alloc (.cells C e)) :=
  HR.freshO hh hal hfr (BR.ofCells hfr ht (C := C) (e := e) (by show (w.heap.push _)[w.heap.size]? = _; simp) rfl (fun j c hc => (let ⟨v, h1, h2⟩ := hcs j c hc; ⟨v, by simpa using h1, h2⟩)))

theorem AH.wr_sim {b off : Nat} {cs : List AV} {vs : List Value} {pl : Pl} {H' : AH} (hh : HR ν ρ H w) (hp : ρ b = some pl) (h : H.wr b off cs = some H') (hl : LR ν ρ cs vs.toArray) :
    ∃ w', (storeCells ⟨pl.cb, pl.co + off, none⟩ vs).run P w = .ok () w' ∧ HR ν ρ H' w' ∧ Stp ρ H w ρ H' w' := by
  unfold AH.wr at h
  split at h
  · rename_i x hx
    split at h
    · cases h
    rename_i hmb
    have hm := beq_no hmb
    split at h
    · rename_i hb
      simp only [Bool.and_eq_true, Nat.ble_eq, List.all_eq_true] at hb
      obtain ⟨y, hy, ho, n1, n2, n3, n4⟩ := AH.lay_spec h
      rw [hx] at hy
      cases hy
      have hget := AH.lay_get h
      obtain ⟨C, e, fz, g1, g2, g3⟩ := (hh.find hx hp).cells hm
      obtain ⟨rfl, g5⟩ := g3 ho
      have hlen : cs.length = vs.length := by simpa using hl.1
      have hown : ∀ cb, Owned ρ H' cb → Owned ρ H cb := by
        rintro cb ⟨j, z, q, h1, h2, h3, h4⟩
        rw [hget j] at h1
        split at h1
        · rename_i e; subst e; exact ⟨j, x, q, hx, ho, h3, h4⟩
        · exact ⟨j, z, q, h1, h2, h3, h4⟩
      have hb1 : ∀ v ∈ vs, v.oneCell' = true := LR.one hl (fun c hc => hb.2 c hc)
      have hend : vs = [] ∨ pl.co + off + vs.length ≤ C.size := by
        cases hv : vs with
        | nil => exact .inl rfl
        | cons v0 vr =>
          right
          have hpos : 0 < vs.length := by rw [hv]; simp
          rw [← hv]
          have hlt : off + vs.length - 1 < x.cells.length := by omega
          obtain ⟨v, h1, _⟩ := g2 (off + vs.length - 1) (x.cells[off + vs.length - 1]) (by simp [hlt])
          have := (Array.getElem?_eq_some_iff.1 h1).1
          omega
      have hsp : ∀ (j : Nat) c, (splice x.cells off cs)[j]? = some c → (off ≤ j ∧ j < off + cs.length ∧ cs[j - off]? = some c) ∨ (¬ (off ≤ j ∧ j < off + cs.length) ∧ x.cells[j]? = some c) := by
        intro j c hc
        rw [splice_get _ _ _ _ hb.1] at hc
        split at hc
        · rename_i hj; exact .inl ⟨hj.1, hj.2, hc⟩
        · rename_i hj; exact .inr ⟨hj, hc⟩
      rcases hend with rfl | hend
      · have hc0 : cs = [] := List.eq_nil_of_length_eq_zero (by simpa using hlen)
        subst hc0
        refine ⟨w, rfl, ⟨fun j z hz => ?_, fun j j' z z' q q' hne hz hz' hzo hq hq' => ?_⟩, ⟨Emb.le_refl _, fun _ p q => (q p).elim, Nat.le_refl _, rfl, rfl, rfl, fun _ _ _ => rfl, fun cb _ o => hown cb o, fun _ _ h k => by rw [h] at k; cases k⟩⟩
        · rw [hget j] at hz
          split at hz
          · rename_i ej
            subst ej
            cases hz
            refine ⟨pl, hp, ⟨fun _ => ⟨C, e, (0, 0), g1, fun k c hc => ?_, fun _ => ⟨rfl, g5⟩⟩, fun h => (hm h).elim⟩⟩
            rcases hsp k c hc with ⟨_, q, _⟩ | ⟨_, q⟩
            · simp at q; omega
            · exact g2 k c q
          · exact hh.blk j z hz
        · have tr : ∀ j z, H'.get j = some z → ∃ z0, H.get j = some z0 ∧ (z.own = true → z0.own = true) := by
            intro j z hz
            rw [hget j] at hz
            split at hz
            · rename_i ej; subst ej; exact ⟨x, hx, fun _ => ho⟩
            · exact ⟨z, hz, id⟩
          obtain ⟨y0, hy0, hyo⟩ := tr j z hz
          obtain ⟨y1, hy1, _⟩ := tr j' z' hz'
          exact hh.apart j j' y0 y1 q q' hne hy0 hy1 (hyo hzo) hq hq'
      · have hst := run_storeCells_at P pl.cb (pl.co + off) e vs 0 C w g1 (by simpa using hend) hb1
        simp only [Nat.add_zero] at hst
        have hrow : ∀ k, k ≠ pl.cb → (w.setRow pl.cb (C.toList.take (pl.co + off) ++ vs ++ C.toList.drop (pl.co + off + vs.length)).toArray).heap[k]? = w.heap[k]? := fun k hk => setRow_other w pl.cb k _ hk
        have hsame := setRow_heap w pl.cb C (C.toList.take (pl.co + off) ++ vs ++ C.toList.drop (pl.co + off + vs.length)).toArray e (0, 0) g1
        have hnew : ∀ (i : Nat), (C.toList.take (pl.co + off) ++ vs ++ C.toList.drop (pl.co + off + vs.length)).toArray[i]? = if pl.co + off ≤ i ∧ i < pl.co + off + vs.length then vs[i - (pl.co + off)]? else C[i]? := by
          intro i
          simp only [List.getElem?_toArray]
          by_cases h1 : i < pl.co + off
          · rw [if_neg (by omega), List.append_assoc, List.getElem?_append_left (by simp; omega), List.getElem?_take, if_pos h1]
            simp
          · rw [List.append_assoc, List.getElem?_append_right (by simp; omega)]
            have el : (C.toList.take (pl.co + off)).length = pl.co + off := by simp; omega
            rw [el]
            by_cases h2 : i < pl.co + off + vs.length
            · rw [if_pos (by omega), List.getElem?_append_left (by omega)]
            · rw [if_neg (by omega), List.getElem?_append_right (by omega), List.getElem?_drop]
              simp only [Array.getElem?_toList]
              congr 1
              omega
        have hC' : (C.toList.take (pl.co + off) ++ vs ++ C.toList.drop (pl.co + off + vs.length)).toArray.size = C.size := by simp; omega
        generalize (C.toList.take (pl.co + off) ++ vs ++ C.toList.drop (pl.co + off + vs.length)).toArray = C' at hst hrow hsame hnew hC'
        refine ⟨_, hst, ⟨fun j z hz => ?_, fun j j' z z' q q' hne hz hz' hzo hq hq' => ?_⟩, ⟨Emb.le_refl _, fun _ p q => (q p).elim, by simp [World.setRow], rfl, rfl, rfl, fun cb _ hno => hrow cb (fun ecb => hno ⟨b, x, pl, hx, ho, hp, ecb.symm⟩), fun cb _ o => hown cb o, fun _ _ h k => by rw [h] at k; cases k⟩⟩
        · rw [hget j] at hz
          split at hz
          · rename_i ej
            subst ej
            cases hz
            refine ⟨pl, hp, ⟨fun _ => ⟨C', e, (0, 0), hsame, fun k c hc => ?_, fun _ => ⟨rfl, hC'.trans g5⟩⟩, fun h => (hm h).elim⟩⟩
            rw [hnew (pl.co + k)]
            rcases hsp k c hc with ⟨q1, q2, q3⟩ | ⟨q1, q3⟩
            · rw [if_pos (by omega)]
              have e2 : pl.co + k - (pl.co + off) = k - off := by omega
              rw [e2]
              have hlt : k - off < vs.length := by omega
              exact ⟨vs[k - off], by simp [hlt], hl.2 (k - off) c _ q3 (by simp [hlt])⟩
            · rw [if_neg (by omega)]
              exact g2 k c q3
          · rename_i ej
            obtain ⟨q, h1, h2⟩ := hh.blk j z hz
            exact ⟨q, h1, h2.keep (Emb.le_refl _) (hrow q.cb (fun ecb => hh.apart b j x z pl q (fun hq => ej hq.symm) hx hz ho hp h1 ecb.symm))⟩
        · have tr : ∀ j z, H'.get j = some z → ∃ z0, H.get j = some z0 ∧ (z.own = true → z0.own = true) := by
            intro j z hz
            rw [hget j] at hz
            split at hz
            · rename_i ej; subst ej; exact ⟨x, hx, fun _ => ho⟩
            · exact ⟨z, hz, id⟩
          obtain ⟨y0, hy0, hyo⟩ := tr j z hz
          obtain ⟨y1, hy1, _⟩ := tr j' z' hz'
          exact hh.apart j j' y0 y1 q q' hne hy0 hy1 (hyo hzo) hq hq'
    · cases h
  · cases h

end
end Go.Sh

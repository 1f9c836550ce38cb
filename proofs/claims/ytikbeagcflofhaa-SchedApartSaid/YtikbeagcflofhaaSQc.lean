/-
  SCHED: an epoch's keys over an arena of a list. Own work.
-/
import Derived.Test.YtikbeagcflofhaaSQb
namespace Go.Proofs.Ytikbeagcflofhaa
open Go.RowKit Go.Maps
set_option maxRecDepth 100000
theorem sh_word (n : Int) (h : 0 ≤ n) : shape (2, n, []) = 0 := by
  unfold shape rightOf leastOf mostOf
  simp
  omega
theorem sh_kdf (n x : Int) (h : 0 ≤ n) : shape (4, n, [x]) = 0 := by
  unfold shape rightOf leastOf mostOf
  simp
  omega
theorem sh_hash (xs : List Int) (h : xs.length ≤ 400) : shape (3, 0, xs) = 0 := by
  unfold shape rightOf leastOf mostOf
  simp
  omega
theorem fits1 {L : List Tm} {k n : Int} {x : Nat} (h : x < L.length) : fitsIn L.length (k, n, [(x : Int)]) := fun z hz => by
  simp at hz
  omega
def wordsL : List Tm → List Int → List Tm
  | L, [] => L
  | L, n :: ns => wordsL (ext L (2, n, [])) ns
def wordsA : List Tm → List Int → List Int
  | _, [] => []
  | L, n :: ns => ((plc L (2, n, []) : Nat) : Int) :: wordsA (ext L (2, n, [])) ns
theorem wordsL_snoc : ∀ (ns : List Int) (L : List Tm) (j : Nat), j < ns.length → wordsL L (ns.take (j + 1)) = ext (wordsL L (ns.take j)) (2, ns.getD j 0, [])
  | n :: ns, L, 0, _ => by simp [wordsL]
  | n :: ns, L, j + 1, h => by
    simp only [List.take_succ_cons, wordsL, List.getD_cons_succ]
    exact wordsL_snoc ns _ j (by simpa using h)
  | [], _, _, h => by cases h
theorem wordsA_snoc : ∀ (ns : List Int) (L : List Tm) (j : Nat), j < ns.length → wordsA L (ns.take (j + 1)) = wordsA L (ns.take j) ++ [((plc (wordsL L (ns.take j)) (2, ns.getD j 0, []) : Nat) : Int)]
  | n :: ns, L, 0, _ => by simp [wordsA, wordsL]
  | n :: ns, L, j + 1, h => by
    simp only [List.take_succ_cons, wordsA, wordsL, List.getD_cons_succ, List.cons_append]
    rw [wordsA_snoc ns _ j (by simpa using h)]
  | [], _, _, h => by cases h
theorem wordsA_len : ∀ (ns : List Int) (L : List Tm), (wordsA L ns).length = ns.length
  | [], _ => rfl
  | n :: ns, L => by simp [wordsA, wordsA_len ns]
theorem wordsL_len : ∀ (ns : List Int) (L : List Tm), L.length ≤ (wordsL L ns).length ∧ (wordsL L ns).length ≤ L.length + ns.length
  | [], L => by simp [wordsL]
  | n :: ns, L => by
    have h := wordsL_len ns (ext L (2, n, []))
    have := ext_le L (2, n, [])
    have := ext_le1 L (2, n, [])
    simp only [wordsL, List.length_cons]
    omega
theorem wordsA_lt : ∀ (ns : List Int) (L : List Tm) (z : Int), z ∈ wordsA L ns → 0 ≤ z ∧ z < ((wordsL L ns).length : Int)
  | [], _, _, h => by cases h
  | n :: ns, L, z, h => by
    simp only [wordsA, List.mem_cons] at h
    rcases h with rfl | h
    · have := plc_lt L (2, n, [])
      have := (wordsL_len ns (ext L (2, n, []))).1
      simp only [wordsL]
      omega
    · exact wordsA_lt ns _ z h
theorem rdw_at {w : World} {p : Option Addr} {n c t : Nat} {xs : List Int} (h : RdW w (.slice p n c) xs) (ht : t < xs.length) : ∃ b o, p = some ⟨b, o, none⟩ ∧ b < w.heap.size ∧ w.cell? ⟨b, o + t, none⟩ = some (.int .i64 (xs.getD t 0)) := by
  obtain ⟨p', c', e, h⟩ := h
  cases e
  rcases h with rfl | ⟨b, o, rfl, hb, hc⟩
  · cases ht
  · exact ⟨b, o, rfl, hb, hc t ht⟩
/-- The Hash of a key and words. -/
def boundT (L : List Tm) (x c : Nat) (ns : List Int) : Tm := (3, 0, ((plc L (4, c, [(x : Int)]) : Nat) : Int) :: wordsA (ext L (4, c, [(x : Int)])) ns)
def boundL (L : List Tm) (x c : Nat) (ns : List Int) : List Tm := wordsL (ext L (4, c, [(x : Int)])) ns
section
variable {w wr w' : World} {aa bb : Nat} {L L' L1 : List Tm} {G G' : Nat → Prop}
theorem boundT_ok {x c : Nat} {ns : List Int} (h10 : ns.length ≤ 10) (hr : L.length + 20 < 1048576) : put (boundL L x c ns) (boundT L x c ns) = (((plc (boundL L x c ns) (boundT L x c ns) : Nat) : Int), 0, ext (boundL L x c ns) (boundT L x c ns)) := by
  have h1 := wordsL_len ns (ext L (4, c, [(x : Int)]))
  have h2 := ext_le1 L (4, c, [(x : Int)])
  refine put_good (sh_hash _ (by simp [wordsA_len]; omega)) (fun z hz => ?_) (by unfold boundL; omega)
  simp only [boundT, List.mem_cons] at hz
  rcases hz with rfl | hz
  · have := plc_lt L (4, c, [(x : Int)])
    unfold boundL
    omega
  · exact wordsA_lt _ _ _ hz
attribute [local go_sem ↓] Go.wp_at_zero Go.wp_at_succ
set_option maxHeartbeats 4000000 in
theorem bound_on (T : On w wr aa L G) (x c : Nat) (hx : x < L.length) (hc : c ≤ 100) (p : Option Addr) (n cap : Nat) (ns : List Int) (hn : ns.length = n) (h10 : n ≤ 10) (hr : L.length + 20 < 1048576) (hns : Hid (∀ z ∈ ns, 0 ≤ z ∧ z < 9223372036854775808)) (HU : Hid (RdW wr (.slice p n cap) ns)) (hu : Hid (∀ k, (Value.slice p n cap).ownBlock = some k → ns ≠ [] → G k)) : Calls Try.prog 71 #[.pointer (some ⟨aa, 0, none⟩), .int .i64 x, .int .i64 c, .slice p n cap] wr fun e w' => e = .returned (.tuple #[.int .i64 (plc (boundL L x c ns) (boundT L x c ns)), .int .i64 0]) ∧ On w w' aa (ext (boundL L x c ns) (boundT L x c ns)) G ∧ Stay G wr w' := by
  have hp1 := put_good (L := L) (t := (4, c, [(x : Int)])) (sh_kdf _ _ (by omega)) (fits1 hx) (by omega)
  have HP1 := (show Hid _ from hp1)
  have HT := (show Hid (On w wr aa L G) from T)
  clear hp1 T
  obtain ⟨i0, hi', hz0, hz1, hz2⟩ := info_parts (P := Try.prog) (e := 3) (z := .int .i64 0) (size := 1) (bytes := 8) (by kernel_rfl)
  go_enter Try.func71, Try.ntmps71
  go_wp2_with (go_at_call 14; refine (make_on (HT.out.alloc _) 4 c (reads_lit [(x : Int)] rfl rfl _) (by omega) HP1.out).mono ?_; rintro ev w1 ⟨rfl, T1, K1⟩; clear HT)
  have hplc := plc_lt L (4, c, [(x : Int)])
  have hlen1 := ext_le1 L (4, c, [(x : Int)])
  have K0 : Stay G wr w1 := (stay_below ((Below.refl _ wr).alloc (Nat.le_refl _) _)).trans K1
  have R0 : OnRow w w1 (w1.alloc (.cells #[.int .i64 (plc L (4, c, [(x : Int)]))] 3)) aa (ext L (4, c, [(x : Int)])) G (.slice (some ⟨w1.heap.size, 0, none⟩) 1 1) [((plc L (4, c, [(x : Int)]) : Nat) : Int)] :=
    T1.withRow ((Below.refl _ w1).alloc (Nat.le_refl _) _) (World.ownsRow_lit w1 #[.int .i64 (plc L (4, c, [(x : Int)]))] 1 (Nat.le_refl _) (by unfold maxLen; omega) rfl)
  have HR0 := (show Hid _ from R0)
  have hw1 := T1.below.size
  clear R0 T1 K1
  go_loopw [12, 32] (fun v i wq => ∃ (j : Nat) (p' : Option Addr) (c' : Nat), i = .int .i64 j ∧ j ≤ n ∧ v = .slice p' (j + 1) c' ∧ OnRow w w1 wq aa (wordsL (ext L (4, c, [(x : Int)])) (ns.take j)) G (.slice p' (j + 1) c') (((plc L (4, c, [(x : Int)]) : Nat) : Int) :: wordsA (ext L (4, c, [(x : Int)])) (ns.take j))) (fun _ i _ => n - (intOf i).toNat)
  case atStart => exact ⟨0, _, _, rfl, by omega, rfl, HR0.out⟩
  case round =>
    obtain ⟨j, p', c', rfl, hj, rfl, R⟩ := hrel
    have hlenA : (((plc L (4, c, [(x : Int)]) : Nat) : Int) :: wordsA (ext L (4, c, [(x : Int)])) (ns.take j)).length = j + 1 := by
      rw [List.length_cons, wordsA_len, List.length_take]
      omega
    have hll := wordsL_len (ns.take j) (ext L (4, c, [(x : Int)]))
    have hlt5 : (ns.take j).length ≤ 10 := by rw [List.length_take]; omega
    have hwb := R.on.below.size
    by_cases hlt : j < n
    · have hrd := rdw_keeps HU.out (K0.trans R.stay) (fun k hk hne hnG => hnG (hu.out k hk hne))
      obtain ⟨bq, oq, rfl, hbq, hcq⟩ := rdw_at hrd (t := j) (by omega)
      have hz := hns.out (ns.getD j 0) (by rw [List.getD_eq_getElem?_getD, List.getElem?_eq_getElem (by omega)]; exact List.getElem_mem _)
      have HS1 := (show Hid _ from wordsL_snoc ns (ext L (4, c, [(x : Int)])) j (by omega))
      have HS2 := (show Hid _ from wordsA_snoc ns (ext L (4, c, [(x : Int)])) j (by omega))
      generalize hzz : ns.getD j 0 = z at *
      clear hzz
      obtain ⟨hza, hzb⟩ := hz
      generalize wordsL (ext L (4, c, [(x : Int)])) (ns.take j) = Lj at *
      generalize wordsA (ext L (4, c, [(x : Int)])) (ns.take j) = Aj at *
      have hpz := put_good (L := Lj) (t := (2, z, [])) (sh_word _ hza) (fun _ h => by cases h) (by omega)
      have HPZ := (show Hid _ from hpz)
      have HR := (show Hid _ from R)
      clear hpz hrd R
      go_wp2_with (first
        | (go_at_call 14; refine (HR.out.calls (fun G' _ O => make_on O 2 z (v := .slice none 0 0) (xs := []) (.inl ⟨rfl, rfl⟩) hzb HPZ.out)).mono ?_; rintro ev w3 ⟨rfl, R3⟩; have hrow3 := R3.row; rw [hlenA] at hrow3; have hw3 := R3.on.below.size; clear HR)
        | (at_builtin; refine wpList_append_own_at _ rfl (.tmp 45) (.tmp 47) 22 rfl w.heap.size 3 i0 (.int .i64 0) 1 8 Try.underlying22 hi' hz0 hz1 hz2 rfl (by decide) (.slice p' (j + 1) c') (j + 1) _ rfl (World.ownsRow.alloc hrow3 _) ⟨w3.heap.size, 0, none⟩ 1 1 [.int .i64 (plc Lj (2, z, []))] rfl rfl (news1 _ _ _) (fun u hu => by simp at hu; subst hu; rfl) (by unfold maxLen; omega) (by omega) (by simp; omega) ?_; intro v7 w7 hown7 hgrow7 _ hat7))
      rw [← hlenA] at hown7
      obtain ⟨p8, c8, rfl, R8⟩ := R3.append hown7 hgrow7 hat7
      rw [hlenA]
      refine ⟨⟨j + 1, p8, c8, by simp, by omega, rfl, ?_⟩, by simp [intOf]; omega⟩
      rw [HS1.out, HS2.out]
      have hl2 : ((((plc L (4, c, [(x : Int)]) : Nat) : Int) :: Aj) ++ [((plc Lj (2, z, []) : Nat) : Int)]).length = j + 1 + 1 := by rw [List.length_append, hlenA]; rfl
      rw [hl2] at R8
      exact R8
    · obtain rfl : j = n := by omega
      have htk : ns.take j = ns := List.take_of_length_le (by omega)
      rw [htk] at R
      have HR := (show Hid _ from R)
      have hbt := boundT_ok (L := L) (x := x) (c := c) (ns := ns) (by omega) hr
      have HB := (show Hid _ from hbt)
      clear R hbt
      go_wp2_with (go_at_call 14; refine (make_on HR.out.on 3 0 HR.out.reads (by omega) HB.out).mono ?_; rintro ev w5 ⟨rfl, T5, K5⟩)
      go_ret2
      exact ⟨rfl, T5, K0.trans (HR.out.stay.trans K5)⟩
end
end Go.Proofs.Ytikbeagcflofhaa

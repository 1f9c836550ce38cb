/-
  NodesShared: what the machine answers, place by place. Own work.
-/
import Derived.Test.YtcmkpldfgkpbbabDoorTab
namespace Go.Proofs.YtcmkpldfgkpbbabDoor
open Go.Sh
set_option maxRecDepth 100000
def deb : List Int := [0, 1, 56, 2, 57, 49, 28, 3, 61, 58, 42, 50, 38, 29, 17, 4, 62, 47, 59, 36, 45, 43, 51, 22, 53, 39, 33, 30, 24, 18, 12, 5, 63, 55, 48, 27, 60, 41, 37, 16, 46, 35, 44, 21, 52, 32, 23, 11, 54, 26, 40, 15, 34, 20, 31, 10, 25, 14, 19, 9, 13, 8, 7, 6]
def debA : List AV := deb.map fun z => .i .u8 (.c z)
def h0 : AH := ⟨(.n .l (.some ⟨[.i .u8 (.c (.ofNat 0)), .i .u8 (.c (.ofNat 1)), .i .u8 (.c (.ofNat 56)), .i .u8 (.c (.ofNat 2)), .i .u8 (.c (.ofNat 57)), .i .u8 (.c (.ofNat 49)), .i .u8 (.c (.ofNat 28)), .i .u8 (.c (.ofNat 3)), .i .u8 (.c (.ofNat 61)), .i .u8 (.c (.ofNat 58)), .i .u8 (.c (.ofNat 42)), .i .u8 (.c (.ofNat 50)), .i .u8 (.c (.ofNat 38)), .i .u8 (.c (.ofNat 29)), .i .u8 (.c (.ofNat 17)), .i .u8 (.c (.ofNat 4)), .i .u8 (.c (.ofNat 62)), .i .u8 (.c (.ofNat 47)), .i .u8 (.c (.ofNat 59)), .i .u8 (.c (.ofNat 36)), .i .u8 (.c (.ofNat 45)), .i .u8 (.c (.ofNat 43)), .i .u8 (.c (.ofNat 51)), .i .u8 (.c (.ofNat 22)), .i .u8 (.c (.ofNat 53)), .i .u8 (.c (.ofNat 39)), .i .u8 (.c (.ofNat 33)), .i .u8 (.c (.ofNat 30)), .i .u8 (.c (.ofNat 24)), .i .u8 (.c (.ofNat 18)), .i .u8 (.c (.ofNat 12)), .i .u8 (.c (.ofNat 5)), .i .u8 (.c (.ofNat 63)), .i .u8 (.c (.ofNat 55)), .i .u8 (.c (.ofNat 48)), .i .u8 (.c (.ofNat 27)), .i .u8 (.c (.ofNat 60)), .i .u8 (.c (.ofNat 41)), .i .u8 (.c (.ofNat 37)), .i .u8 (.c (.ofNat 16)), .i .u8 (.c (.ofNat 46)), .i .u8 (.c (.ofNat 35)), .i .u8 (.c (.ofNat 44)), .i .u8 (.c (.ofNat 21)), .i .u8 (.c (.ofNat 52)), .i .u8 (.c (.ofNat 32)), .i .u8 (.c (.ofNat 23)), .i .u8 (.c (.ofNat 11)), .i .u8 (.c (.ofNat 54)), .i .u8 (.c (.ofNat 26)), .i .u8 (.c (.ofNat 40)), .i .u8 (.c (.ofNat 15)), .i .u8 (.c (.ofNat 34)), .i .u8 (.c (.ofNat 20)), .i .u8 (.c (.ofNat 31)), .i .u8 (.c (.ofNat 10)), .i .u8 (.c (.ofNat 25)), .i .u8 (.c (.ofNat 14)), .i .u8 (.c (.ofNat 19)), .i .u8 (.c (.ofNat 9)), .i .u8 (.c (.ofNat 13)), .i .u8 (.c (.ofNat 8)), .i .u8 (.c (.ofNat 7)), .i .u8 (.c (.ofNat 6))], 5, true⟩) .l), 64, 64, []⟩
theorem h0_eq : h0 = heap0 [(0, ⟨debA, 5, true⟩)] 64 := by kernel_rfl
def facts (a n b c : Nat) : Facts := ⟨[(.e .rem .u64 (.w .u64 (.s 0)) (.c (.ofNat 4)), .ofNat a), (.e .rem .u64 (.w .u64 (.s 1)) (.c (.ofNat n)), .ofNat b), (.e .rem .u64 (.w .u64 (.s 2)) (.c (.ofNat n)), .ofNat c)], []⟩
noncomputable def runT (a n b c : Nat) : Bool := trueK (facts a n b c) tree 10000 30 3 [.i .i64 (.s 0), .i .i64 (.s 1), .i .i64 (.s 2)] h0
theorem c0_0_0 : runT 0 1 0 0 = true := by kernel_rfl
theorem c1_0_0 : runT 1 2 0 0 = true := by kernel_rfl
theorem c1_0_1 : runT 1 2 0 1 = true := by kernel_rfl
theorem c1_1_0 : runT 1 2 1 0 = true := by kernel_rfl
theorem c1_1_1 : runT 1 2 1 1 = true := by kernel_rfl
theorem c2_0_0 : runT 2 4 0 0 = true := by kernel_rfl
theorem c2_0_1 : runT 2 4 0 1 = true := by kernel_rfl
theorem c2_0_2 : runT 2 4 0 2 = true := by kernel_rfl
theorem c2_0_3 : runT 2 4 0 3 = true := by kernel_rfl
theorem c2_1_0 : runT 2 4 1 0 = true := by kernel_rfl
theorem c2_1_1 : runT 2 4 1 1 = true := by kernel_rfl
theorem c2_1_2 : runT 2 4 1 2 = true := by kernel_rfl
theorem c2_1_3 : runT 2 4 1 3 = true := by kernel_rfl
theorem c2_2_0 : runT 2 4 2 0 = true := by kernel_rfl
theorem c2_2_1 : runT 2 4 2 1 = true := by kernel_rfl
theorem c2_2_2 : runT 2 4 2 2 = true := by kernel_rfl
theorem c2_2_3 : runT 2 4 2 3 = true := by kernel_rfl
theorem c2_3_0 : runT 2 4 3 0 = true := by kernel_rfl
theorem c2_3_1 : runT 2 4 3 1 = true := by kernel_rfl
theorem c2_3_2 : runT 2 4 3 2 = true := by kernel_rfl
theorem c2_3_3 : runT 2 4 3 3 = true := by kernel_rfl
theorem c3_0_0 : runT 3 8 0 0 = true := by kernel_rfl
theorem c3_0_1 : runT 3 8 0 1 = true := by kernel_rfl
theorem c3_0_2 : runT 3 8 0 2 = true := by kernel_rfl
theorem c3_0_3 : runT 3 8 0 3 = true := by kernel_rfl
theorem c3_0_4 : runT 3 8 0 4 = true := by kernel_rfl
theorem c3_0_5 : runT 3 8 0 5 = true := by kernel_rfl
theorem c3_0_6 : runT 3 8 0 6 = true := by kernel_rfl
theorem c3_0_7 : runT 3 8 0 7 = true := by kernel_rfl
theorem c3_1_0 : runT 3 8 1 0 = true := by kernel_rfl
theorem c3_1_1 : runT 3 8 1 1 = true := by kernel_rfl
theorem c3_1_2 : runT 3 8 1 2 = true := by kernel_rfl
theorem c3_1_3 : runT 3 8 1 3 = true := by kernel_rfl
theorem c3_1_4 : runT 3 8 1 4 = true := by kernel_rfl
theorem c3_1_5 : runT 3 8 1 5 = true := by kernel_rfl
theorem c3_1_6 : runT 3 8 1 6 = true := by kernel_rfl
theorem c3_1_7 : runT 3 8 1 7 = true := by kernel_rfl
theorem c3_2_0 : runT 3 8 2 0 = true := by kernel_rfl
theorem c3_2_1 : runT 3 8 2 1 = true := by kernel_rfl
theorem c3_2_2 : runT 3 8 2 2 = true := by kernel_rfl
theorem c3_2_3 : runT 3 8 2 3 = true := by kernel_rfl
theorem c3_2_4 : runT 3 8 2 4 = true := by kernel_rfl
theorem c3_2_5 : runT 3 8 2 5 = true := by kernel_rfl
theorem c3_2_6 : runT 3 8 2 6 = true := by kernel_rfl
theorem c3_2_7 : runT 3 8 2 7 = true := by kernel_rfl
theorem c3_3_0 : runT 3 8 3 0 = true := by kernel_rfl
theorem c3_3_1 : runT 3 8 3 1 = true := by kernel_rfl
theorem c3_3_2 : runT 3 8 3 2 = true := by kernel_rfl
theorem c3_3_3 : runT 3 8 3 3 = true := by kernel_rfl
theorem c3_3_4 : runT 3 8 3 4 = true := by kernel_rfl
theorem c3_3_5 : runT 3 8 3 5 = true := by kernel_rfl
theorem c3_3_6 : runT 3 8 3 6 = true := by kernel_rfl
theorem c3_3_7 : runT 3 8 3 7 = true := by kernel_rfl
theorem c3_4_0 : runT 3 8 4 0 = true := by kernel_rfl
theorem c3_4_1 : runT 3 8 4 1 = true := by kernel_rfl
theorem c3_4_2 : runT 3 8 4 2 = true := by kernel_rfl
theorem c3_4_3 : runT 3 8 4 3 = true := by kernel_rfl
theorem c3_4_4 : runT 3 8 4 4 = true := by kernel_rfl
theorem c3_4_5 : runT 3 8 4 5 = true := by kernel_rfl
theorem c3_4_6 : runT 3 8 4 6 = true := by kernel_rfl
theorem c3_4_7 : runT 3 8 4 7 = true := by kernel_rfl
theorem c3_5_0 : runT 3 8 5 0 = true := by kernel_rfl
theorem c3_5_1 : runT 3 8 5 1 = true := by kernel_rfl
theorem c3_5_2 : runT 3 8 5 2 = true := by kernel_rfl
theorem c3_5_3 : runT 3 8 5 3 = true := by kernel_rfl
theorem c3_5_4 : runT 3 8 5 4 = true := by kernel_rfl
theorem c3_5_5 : runT 3 8 5 5 = true := by kernel_rfl
theorem c3_5_6 : runT 3 8 5 6 = true := by kernel_rfl
theorem c3_5_7 : runT 3 8 5 7 = true := by kernel_rfl
theorem c3_6_0 : runT 3 8 6 0 = true := by kernel_rfl
theorem c3_6_1 : runT 3 8 6 1 = true := by kernel_rfl
theorem c3_6_2 : runT 3 8 6 2 = true := by kernel_rfl
theorem c3_6_3 : runT 3 8 6 3 = true := by kernel_rfl
theorem c3_6_4 : runT 3 8 6 4 = true := by kernel_rfl
theorem c3_6_5 : runT 3 8 6 5 = true := by kernel_rfl
theorem c3_6_6 : runT 3 8 6 6 = true := by kernel_rfl
theorem c3_6_7 : runT 3 8 6 7 = true := by kernel_rfl
theorem c3_7_0 : runT 3 8 7 0 = true := by kernel_rfl
theorem c3_7_1 : runT 3 8 7 1 = true := by kernel_rfl
theorem c3_7_2 : runT 3 8 7 2 = true := by kernel_rfl
theorem c3_7_3 : runT 3 8 7 3 = true := by kernel_rfl
theorem c3_7_4 : runT 3 8 7 4 = true := by kernel_rfl
theorem c3_7_5 : runT 3 8 7 5 = true := by kernel_rfl
theorem c3_7_6 : runT 3 8 7 6 = true := by kernel_rfl
theorem c3_7_7 : runT 3 8 7 7 = true := by kernel_rfl
theorem all_c (a b c n : Nat) (ha : a < 4) (hn : n = 2 ^ a) (hb : b < n) (hc : c < n) : runT a n b c = true := by
  match a, ha with
  | 0, _ =>
    obtain rfl : n = 1 := hn
    match b, hb with
    | 0, _ =>
      match c, hc with
      | 0, _ => exact c0_0_0
      | c + 1, hc => omega
    | b + 1, hb => omega
  | 1, _ =>
    obtain rfl : n = 2 := hn
    match b, hb with
    | 0, _ =>
      match c, hc with
      | 0, _ => exact c1_0_0
      | 1, _ => exact c1_0_1
      | c + 2, hc => omega
    | 1, _ =>
      match c, hc with
      | 0, _ => exact c1_1_0
      | 1, _ => exact c1_1_1
      | c + 2, hc => omega
    | b + 2, hb => omega
  | 2, _ =>
    obtain rfl : n = 4 := hn
    match b, hb with
    | 0, _ =>
      match c, hc with
      | 0, _ => exact c2_0_0
      | 1, _ => exact c2_0_1
      | 2, _ => exact c2_0_2
      | 3, _ => exact c2_0_3
      | c + 4, hc => omega
    | 1, _ =>
      match c, hc with
      | 0, _ => exact c2_1_0
      | 1, _ => exact c2_1_1
      | 2, _ => exact c2_1_2
      | 3, _ => exact c2_1_3
      | c + 4, hc => omega
    | 2, _ =>
      match c, hc with
      | 0, _ => exact c2_2_0
      | 1, _ => exact c2_2_1
      | 2, _ => exact c2_2_2
      | 3, _ => exact c2_2_3
      | c + 4, hc => omega
    | 3, _ =>
      match c, hc with
      | 0, _ => exact c2_3_0
      | 1, _ => exact c2_3_1
      | 2, _ => exact c2_3_2
      | 3, _ => exact c2_3_3
      | c + 4, hc => omega
    | b + 4, hb => omega
  | 3, _ =>
    obtain rfl : n = 8 := hn
    match b, hb with
    | 0, _ =>
      match c, hc with
      | 0, _ => exact c3_0_0
      | 1, _ => exact c3_0_1
      | 2, _ => exact c3_0_2
      | 3, _ => exact c3_0_3
      | 4, _ => exact c3_0_4
      | 5, _ => exact c3_0_5
      | 6, _ => exact c3_0_6
      | 7, _ => exact c3_0_7
      | c + 8, hc => omega
    | 1, _ =>
      match c, hc with
      | 0, _ => exact c3_1_0
      | 1, _ => exact c3_1_1
      | 2, _ => exact c3_1_2
      | 3, _ => exact c3_1_3
      | 4, _ => exact c3_1_4
      | 5, _ => exact c3_1_5
      | 6, _ => exact c3_1_6
      | 7, _ => exact c3_1_7
      | c + 8, hc => omega
    | 2, _ =>
      match c, hc with
      | 0, _ => exact c3_2_0
      | 1, _ => exact c3_2_1
      | 2, _ => exact c3_2_2
      | 3, _ => exact c3_2_3
      | 4, _ => exact c3_2_4
      | 5, _ => exact c3_2_5
      | 6, _ => exact c3_2_6
      | 7, _ => exact c3_2_7
      | c + 8, hc => omega
    | 3, _ =>
      match c, hc with
      | 0, _ => exact c3_3_0
      | 1, _ => exact c3_3_1
      | 2, _ => exact c3_3_2
      | 3, _ => exact c3_3_3
      | 4, _ => exact c3_3_4
      | 5, _ => exact c3_3_5
      | 6, _ => exact c3_3_6
      | 7, _ => exact c3_3_7
      | c + 8, hc => omega
    | 4, _ =>
      match c, hc with
      | 0, _ => exact c3_4_0
      | 1, _ => exact c3_4_1
      | 2, _ => exact c3_4_2
      | 3, _ => exact c3_4_3
      | 4, _ => exact c3_4_4
      | 5, _ => exact c3_4_5
      | 6, _ => exact c3_4_6
      | 7, _ => exact c3_4_7
      | c + 8, hc => omega
    | 5, _ =>
      match c, hc with
      | 0, _ => exact c3_5_0
      | 1, _ => exact c3_5_1
      | 2, _ => exact c3_5_2
      | 3, _ => exact c3_5_3
      | 4, _ => exact c3_5_4
      | 5, _ => exact c3_5_5
      | 6, _ => exact c3_5_6
      | 7, _ => exact c3_5_7
      | c + 8, hc => omega
    | 6, _ =>
      match c, hc with
      | 0, _ => exact c3_6_0
      | 1, _ => exact c3_6_1
      | 2, _ => exact c3_6_2
      | 3, _ => exact c3_6_3
      | 4, _ => exact c3_6_4
      | 5, _ => exact c3_6_5
      | 6, _ => exact c3_6_6
      | 7, _ => exact c3_6_7
      | c + 8, hc => omega
    | 7, _ =>
      match c, hc with
      | 0, _ => exact c3_7_0
      | 1, _ => exact c3_7_1
      | 2, _ => exact c3_7_2
      | 3, _ => exact c3_7_3
      | 4, _ => exact c3_7_4
      | 5, _ => exact c3_7_5
      | 6, _ => exact c3_7_6
      | 7, _ => exact c3_7_7
      | c + 8, hc => omega
    | b + 8, hb => omega
  | a + 4, ha => omega
end Go.Proofs.YtcmkpldfgkpbbabDoor

/-
  NodesTree: what the machine answers, place by place. Own work.
-/
import Derived.Test.YtcmkpldfgkpbbaaDoorTab
namespace Go.Proofs.YtcmkpldfgkpbbaaDoor
open Go.Sh
set_option maxRecDepth 100000
def deb : List Int := [0, 1, 56, 2, 57, 49, 28, 3, 61, 58, 42, 50, 38, 29, 17, 4, 62, 47, 59, 36, 45, 43, 51, 22, 53, 39, 33, 30, 24, 18, 12, 5, 63, 55, 48, 27, 60, 41, 37, 16, 46, 35, 44, 21, 52, 32, 23, 11, 54, 26, 40, 15, 34, 20, 31, 10, 25, 14, 19, 9, 13, 8, 7, 6]
def debA : List AV := deb.map fun z => .i .u8 (.c z)
def h0 : AH := heap0 [(0, ⟨[.i .u8 (.c (.ofNat 0)), .i .u8 (.c (.ofNat 1)), .i .u8 (.c (.ofNat 56)), .i .u8 (.c (.ofNat 2)), .i .u8 (.c (.ofNat 57)), .i .u8 (.c (.ofNat 49)), .i .u8 (.c (.ofNat 28)), .i .u8 (.c (.ofNat 3)), .i .u8 (.c (.ofNat 61)), .i .u8 (.c (.ofNat 58)), .i .u8 (.c (.ofNat 42)), .i .u8 (.c (.ofNat 50)), .i .u8 (.c (.ofNat 38)), .i .u8 (.c (.ofNat 29)), .i .u8 (.c (.ofNat 17)), .i .u8 (.c (.ofNat 4)), .i .u8 (.c (.ofNat 62)), .i .u8 (.c (.ofNat 47)), .i .u8 (.c (.ofNat 59)), .i .u8 (.c (.ofNat 36)), .i .u8 (.c (.ofNat 45)), .i .u8 (.c (.ofNat 43)), .i .u8 (.c (.ofNat 51)), .i .u8 (.c (.ofNat 22)), .i .u8 (.c (.ofNat 53)), .i .u8 (.c (.ofNat 39)), .i .u8 (.c (.ofNat 33)), .i .u8 (.c (.ofNat 30)), .i .u8 (.c (.ofNat 24)), .i .u8 (.c (.ofNat 18)), .i .u8 (.c (.ofNat 12)), .i .u8 (.c (.ofNat 5)), .i .u8 (.c (.ofNat 63)), .i .u8 (.c (.ofNat 55)), .i .u8 (.c (.ofNat 48)), .i .u8 (.c (.ofNat 27)), .i .u8 (.c (.ofNat 60)), .i .u8 (.c (.ofNat 41)), .i .u8 (.c (.ofNat 37)), .i .u8 (.c (.ofNat 16)), .i .u8 (.c (.ofNat 46)), .i .u8 (.c (.ofNat 35)), .i .u8 (.c (.ofNat 44)), .i .u8 (.c (.ofNat 21)), .i .u8 (.c (.ofNat 52)), .i .u8 (.c (.ofNat 32)), .i .u8 (.c (.ofNat 23)), .i .u8 (.c (.ofNat 11)), .i .u8 (.c (.ofNat 54)), .i .u8 (.c (.ofNat 26)), .i .u8 (.c (.ofNat 40)), .i .u8 (.c (.ofNat 15)), .i .u8 (.c (.ofNat 34)), .i .u8 (.c (.ofNat 20)), .i .u8 (.c (.ofNat 31)), .i .u8 (.c (.ofNat 10)), .i .u8 (.c (.ofNat 25)), .i .u8 (.c (.ofNat 14)), .i .u8 (.c (.ofNat 19)), .i .u8 (.c (.ofNat 9)), .i .u8 (.c (.ofNat 13)), .i .u8 (.c (.ofNat 8)), .i .u8 (.c (.ofNat 7)), .i .u8 (.c (.ofNat 6))], 5, true⟩)] 64
def factsT (m a b : Nat) : Facts := ⟨[(.e .rem .u64 (.w .u64 (.s 0)) (.c (.ofNat 4)), .ofNat a), (.e .rem .u64 (.w .u64 (.s 1)) (.c (.ofNat m)), .ofNat b)], []⟩
def runT (m a b : Nat) : Bool := saysTrue (callA (factsT m a b) tab 10000 30 4 [.i .i64 (.s 0), .i .i64 (.s 1)] h0)
theorem c0_0 : runT 1 0 0 = true := by kernel_rfl
theorem c1_0 : runT 3 1 0 = true := by kernel_rfl
theorem c1_1 : runT 3 1 1 = true := by kernel_rfl
theorem c1_2 : runT 3 1 2 = true := by kernel_rfl
theorem c2_0 : runT 7 2 0 = true := by kernel_rfl
theorem c2_1 : runT 7 2 1 = true := by kernel_rfl
theorem c2_2 : runT 7 2 2 = true := by kernel_rfl
theorem c2_3 : runT 7 2 3 = true := by kernel_rfl
theorem c2_4 : runT 7 2 4 = true := by kernel_rfl
theorem c2_5 : runT 7 2 5 = true := by kernel_rfl
theorem c2_6 : runT 7 2 6 = true := by kernel_rfl
theorem c3_0 : runT 15 3 0 = true := by kernel_rfl
theorem c3_1 : runT 15 3 1 = true := by kernel_rfl
theorem c3_2 : runT 15 3 2 = true := by kernel_rfl
theorem c3_3 : runT 15 3 3 = true := by kernel_rfl
theorem c3_4 : runT 15 3 4 = true := by kernel_rfl
theorem c3_5 : runT 15 3 5 = true := by kernel_rfl
theorem c3_6 : runT 15 3 6 = true := by kernel_rfl
theorem c3_7 : runT 15 3 7 = true := by kernel_rfl
theorem c3_8 : runT 15 3 8 = true := by kernel_rfl
theorem c3_9 : runT 15 3 9 = true := by kernel_rfl
theorem c3_10 : runT 15 3 10 = true := by kernel_rfl
theorem c3_11 : runT 15 3 11 = true := by kernel_rfl
theorem c3_12 : runT 15 3 12 = true := by kernel_rfl
theorem c3_13 : runT 15 3 13 = true := by kernel_rfl
theorem c3_14 : runT 15 3 14 = true := by kernel_rfl
theorem all_c (a b m : Nat) (ha : a < 4) (hm : m = 2 ^ (a + 1) - 1) (hb : b < m) : runT m a b = true := by
  match a, ha with
  | 0, _ =>
    obtain rfl : m = 1 := hm
    match b, hb with
    | 0, _ => exact c0_0
    | b + 1, hb => omega
  | 1, _ =>
    obtain rfl : m = 3 := hm
    match b, hb with
    | 0, _ => exact c1_0
    | 1, _ => exact c1_1
    | 2, _ => exact c1_2
    | b + 3, hb => omega
  | 2, _ =>
    obtain rfl : m = 7 := hm
    match b, hb with
    | 0, _ => exact c2_0
    | 1, _ => exact c2_1
    | 2, _ => exact c2_2
    | 3, _ => exact c2_3
    | 4, _ => exact c2_4
    | 5, _ => exact c2_5
    | 6, _ => exact c2_6
    | b + 7, hb => omega
  | 3, _ =>
    obtain rfl : m = 15 := hm
    match b, hb with
    | 0, _ => exact c3_0
    | 1, _ => exact c3_1
    | 2, _ => exact c3_2
    | 3, _ => exact c3_3
    | 4, _ => exact c3_4
    | 5, _ => exact c3_5
    | 6, _ => exact c3_6
    | 7, _ => exact c3_7
    | 8, _ => exact c3_8
    | 9, _ => exact c3_9
    | 10, _ => exact c3_10
    | 11, _ => exact c3_11
    | 12, _ => exact c3_12
    | 13, _ => exact c3_13
    | 14, _ => exact c3_14
    | b + 15, hb => omega
  | a + 4, ha => omega
end Go.Proofs.YtcmkpldfgkpbbaaDoor

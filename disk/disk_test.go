package disk

import (
	"bytes"
	"math/rand"
	"testing"

	"tryst/api"
)

// full is a sector of one byte, over and over.
func full(b byte) []byte { return bytes.Repeat([]byte{b}, api.SectorSize) }

// made is a new disk of n sectors.
func made(t *testing.T, n int) *Disk {
	t.Helper()
	d, e := New(n)
	if e != api.OK {
		t.Fatal(e)
	}
	return d
}

// holds tells what the sector i holds: its first byte, -1 if it is torn.
func holds(t *testing.T, d *Disk, i int) int {
	t.Helper()
	b, e := d.Read(i)
	if e == api.ErrTorn && len(b) == 0 {
		return -1
	}
	if e != api.OK || !bytes.Equal(b, full(b[0])) {
		t.Fatal(i, e, b)
	}
	return int(b[0])
}

func TestP13_1Plain(t *testing.T) {
	for _, n := range []int{0, -1, api.MaxSectors + 1, 1 << 62} {
		if d, e := New(n); e != api.ErrArg || d != nil {
			t.Error(n, e)
		}
	}
	if made(t, api.MaxSectors).Sectors() != api.MaxSectors || made(t, 1).Sectors() != 1 {
		t.Error("Sectors")
	}
	d := made(t, 4)
	b := full(5)
	if d.Write(3, b) != api.OK || holds(t, d, 3) != 5 || holds(t, d, 0) != 0 {
		t.Error("Write")
	}
	b[0] = 9
	got, _ := d.Read(3)
	got[1] = 9
	if holds(t, d, 3) != 5 {
		t.Error("memory is shared")
	}
	for _, i := range []int{-1, 4, 1 << 62} {
		if l, e := d.Read(i); e != api.ErrArg || len(l) != 0 {
			t.Error(i, e)
		}
		if d.Write(i, nil) != api.ErrArg {
			t.Error(i)
		}
	}
	if d.Write(0, full(1)[1:]) != api.ErrLen || d.Write(0, append(full(1), 1)) != api.ErrLen || d.Write(0, nil) != api.ErrLen || holds(t, d, 0) != 0 {
		t.Error("length")
	}
	d.Crash(nil, -1)
	if _, e := d.Read(9); e != api.ErrOff || d.Write(9, nil) != api.ErrOff || d.Sync() != api.ErrOff || !d.Off() || d.Sectors() != 4 {
		t.Error("off")
	}
}

func TestP13_2Crash(t *testing.T) {
	d := made(t, 4)
	d.Write(0, full(1))
	d.Write(1, full(2))
	d.Crash([]bool{false, true}, -1)
	d.Crash([]bool{true}, 0)
	d.Start()
	if d.Off() || holds(t, d, 0) != 0 || holds(t, d, 1) != 2 {
		t.Error("the second is there, the first is not")
	}
	d.Write(0, full(1))
	d.Sync()
	d.Write(0, full(2))
	d.Write(0, full(3))
	d.Write(2, full(4))
	d.Write(3, full(5))
	d.Crash([]bool{true, false, true, true, true}, 2)
	d.Start()
	for i, want := range []int{2, 2, -1, 5} {
		if got := holds(t, d, i); got != want {
			t.Error(i, got)
		}
	}
	// torn stays, till it is written; a write that is lost leaves it torn
	d.Write(2, full(6))
	if holds(t, d, 2) != 6 {
		t.Error("torn no more")
	}
	d.Crash(nil, 7)
	d.Start()
	if holds(t, d, 2) != -1 {
		t.Error("torn as it was")
	}
	d.Write(2, full(6))
	d.Write(0, full(7))
	d.Crash([]bool{true}, 1)
	d.Start()
	if holds(t, d, 2) != 6 || holds(t, d, 0) != -1 {
		t.Error("kept over torn, torn over kept")
	}
	d.Write(0, full(1))
	d.Write(0, full(2))
	d.Crash([]bool{false, true}, 0)
	d.Start()
	if holds(t, d, 0) != 2 {
		t.Error("torn, and then written")
	}
	d.Crash([]bool{true, true}, 0)
	d.Start()
	if holds(t, d, 0) != 2 {
		t.Error("no write was left")
	}
}

func TestP13_3Trip(t *testing.T) {
	d := made(t, 3)
	keep := []bool{true, true}
	d.Trip(2, keep, -1)
	keep[1] = false
	if d.Write(0, full(1)) != api.OK || d.Write(7, full(1)) != api.ErrArg || d.Write(1, nil) != api.ErrLen || d.Off() {
		t.Error("what has an error counts")
	}
	if d.Write(1, full(2)) != api.ErrOff || !d.Off() {
		t.Error("no crash")
	}
	d.Start()
	if holds(t, d, 0) != 1 || holds(t, d, 1) != 2 {
		t.Error("what was kept")
	}
	d.Write(0, full(3))
	d.Trip(1, []bool{false, true}, -1)
	if d.Write(1, full(4)) != api.ErrOff {
		t.Error("no crash")
	}
	d.Start()
	if holds(t, d, 0) != 1 || holds(t, d, 1) != 4 {
		t.Error("the write that trips is the last one")
	}
	d.Write(0, full(5))
	d.Trip(1, nil, 0)
	if d.Sync() != api.ErrOff {
		t.Error("no crash")
	}
	d.Start()
	if holds(t, d, 0) != -1 {
		t.Error("a sync that trips has made something safe")
	}
	// a later Trip takes the place of an earlier one; of a number below 1 nothing is armed
	d.Trip(1, nil, -1)
	d.Trip(0, nil, -1)
	if d.Sync() != api.OK {
		t.Error("armed by 0")
	}
	d.Trip(1, nil, -1)
	d.Trip(-5, nil, -1)
	if d.Sync() != api.OK {
		t.Error("armed by -5")
	}
	d.Trip(1, nil, -1)
	d.Trip(2, nil, -1)
	if d.Sync() != api.OK || d.Sync() != api.ErrOff {
		t.Error("not in place")
	}
	// a crash disarms; what is called without power does not count
	d.Start()
	d.Trip(3, nil, -1)
	d.Sync()
	d.Crash(nil, -1)
	d.Start()
	for range 5 {
		if d.Sync() != api.OK {
			t.Error("still armed")
		}
	}
	d.Crash(nil, -1)
	d.Trip(2, nil, -1)
	d.Sync()
	d.Write(0, full(1))
	d.Start()
	if d.Sync() != api.OK || d.Write(0, full(1)) != api.ErrOff {
		t.Error("armed without power")
	}
	d.Trip(1, nil, -1)
	d.Crash(nil, -1)
	d.Start()
	if d.Sync() != api.ErrOff {
		t.Error("a crash without power disarms")
	}
}

func TestP13_4Safe(t *testing.T) {
	r := rand.New(rand.NewSource(13))
	for range 300 {
		d := made(t, 6)
		var safe, last [6]int
		var touched [6]bool // written, and not made safe since
		for !d.Off() {
			switch i := r.Intn(6); r.Intn(6) {
			case 0, 1, 2:
				last[i], touched[i] = r.Intn(200)+1, true
				d.Write(i, full(byte(last[i])))
			case 3:
				if d.Sync() == api.OK {
					safe, touched = last, [6]bool{}
				}
			case 4:
				d.Trip(1+r.Intn(4), []bool{r.Intn(2) == 0, r.Intn(2) == 0, true}, r.Intn(5)-1)
			case 5:
				if r.Intn(8) == 0 {
					d.Crash([]bool{true, false, true}, r.Intn(4))
				}
			}
		}
		d.Start()
		for i := range 6 {
			if !touched[i] && holds(t, d, i) != safe[i] {
				t.Fatal(i)
			}
		}
	}
}

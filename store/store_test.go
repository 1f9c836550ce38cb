package store

import (
	"bytes"
	"math/rand"
	"testing"

	"tryst/api"
	"tryst/disk"
)

// text is n bytes that hang on seed.
func text(n, seed int) []byte {
	b := make([]byte, n)
	rand.New(rand.NewSource(int64(seed))).Read(b)
	return b
}

func newDisk(t *testing.T) *disk.Disk {
	t.Helper()
	d, e := disk.New(300)
	if e != api.OK {
		t.Fatal(e)
	}
	return d
}

// opened opens the store on d, which must work.
func opened(t *testing.T, d *disk.Disk) *Store {
	t.Helper()
	s, e := Open(d)
	if e != api.OK {
		t.Fatal(e)
	}
	return s
}

func TestP14_1Open(t *testing.T) {
	few, _ := disk.New(299)
	if s, e := Open(few); e != api.ErrFull || s != nil {
		t.Error(e)
	}
	few.Crash(nil, -1)
	if s, e := Open(few); e != api.ErrOff || s != nil {
		t.Error(e)
	}
	d := newDisk(t)
	if s := opened(t, d); len(s.State()) != 0 {
		t.Error("a new disk has a state")
	}
	for i, n := range []int{5, 0, 64, 63, 65, api.MaxState, 1, 7999} {
		s := opened(t, d)
		b := append(text(n, i), 9)[:n]
		if s.Save(b) != api.OK || !bytes.Equal(s.State(), b) {
			t.Fatal(n)
		}
		if n > 0 {
			b[0]++
			s.State()[0]++
		}
		if !bytes.Equal(s.State(), text(n, i)) || !bytes.Equal(opened(t, d).State(), text(n, i)) {
			t.Fatal(n)
		}
	}
}

func TestP14_2Errors(t *testing.T) {
	d := newDisk(t)
	s := opened(t, d)
	if s.Save(text(10, 1)) != api.OK {
		t.Fatal("Save")
	}
	if s.Save(text(api.MaxState+1, 2)) != api.ErrLen || !bytes.Equal(s.State(), text(10, 1)) {
		t.Error("too long")
	}
	d.Crash(nil, -1)
	if s.Save(text(api.MaxState+1, 2)) != api.ErrOff || s.Save(nil) != api.ErrOff || !bytes.Equal(s.State(), text(10, 1)) {
		t.Error("off")
	}
	d.Start()
	if !bytes.Equal(opened(t, d).State(), text(10, 1)) {
		t.Error("what was saved is lost")
	}
}

// keeps are some ways in which writes are kept.
func keeps(r *rand.Rand, n int) []bool {
	l := make([]bool, n)
	way := r.Intn(3)
	for i := range l {
		l[i] = way == 0 || way == 1 && r.Intn(2) == 0
	}
	return l
}

// TestP14_2EachWrite lets the power go at each write and sync of a Save, with all kept, none, or one torn.
func TestP14_2EachWrite(t *testing.T) {
	for _, n := range []int{0, 1, 64, 200} {
		for _, keep := range [][]bool{nil, {true}, {true, true, true, true, true, true}, {false, true}, {false, false, false, true}} {
			for torn := -1; torn < 6; torn++ {
				for trip := 1; ; trip++ {
					d := newDisk(t)
					s := opened(t, d)
					s.Save(text(100, 1))
					s.Save(text(150, 2))
					d.Trip(trip, keep, torn)
					e := s.Save(text(n, 3))
					if e == api.OK {
						break
					}
					if e != api.ErrOff || !bytes.Equal(s.State(), text(150, 2)) {
						t.Fatal(e)
					}
					d.Start()
					got := opened(t, d).State()
					if !bytes.Equal(got, text(150, 2)) && !bytes.Equal(got, text(n, 3)) {
						t.Fatal(n, keep, torn, trip)
					}
				}
			}
		}
	}
}

// TestP14_2First is the same of the first Save of all.
func TestP14_2First(t *testing.T) {
	for torn := -1; torn < 4; torn++ {
		for trip := 1; trip < 6; trip++ {
			d := newDisk(t)
			s := opened(t, d)
			d.Trip(trip, []bool{true, false, true}, torn)
			e := s.Save(text(100, 3))
			d.Crash(nil, -1)
			d.Start()
			got := opened(t, d).State()
			if e == api.OK && len(got) != 100 || len(got) != 0 && !bytes.Equal(got, text(100, 3)) {
				t.Fatal(torn, trip)
			}
		}
	}
}

// TestP14_3Often lets the power go again and again, in opens too, with stores that are used further and ones opened anew.
func TestP14_3Often(t *testing.T) {
	r := rand.New(rand.NewSource(14))
	for round := range 60 {
		d := newDisk(t)
		s := opened(t, d)
		may := [][]byte{nil} // what may be there, the last one saved first
		for i := range 120 {
			if r.Intn(2) == 0 {
				d.Trip(1+r.Intn(8), keeps(r, 12), r.Intn(10)-3)
			}
			b := text(r.Intn(400), round*1000+i)
			if r.Intn(10) == 0 {
				b = text(api.MaxState, i)
			}
			if e := s.Save(b); e == api.OK {
				may = [][]byte{b}
			} else {
				may = append(may, b)
			}
			if r.Intn(3) == 0 {
				d.Trip(1, nil, -1)
			}
			if !d.Off() && r.Intn(3) > 0 {
				continue
			}
			d.Crash(keeps(r, 12), r.Intn(10)-3)
			d.Start()
			d.Trip(1+r.Intn(2), keeps(r, 3), -1)
			again, e := Open(d)
			if e != api.OK {
				d.Start()
				again = opened(t, d)
			}
			d.Trip(0, nil, -1)
			found := false
			for _, m := range may {
				found = found || bytes.Equal(m, again.State())
			}
			if !found {
				t.Fatal(round, i)
			}
			if r.Intn(4) > 0 {
				s, may = again, [][]byte{again.State()}
			}
		}
	}
}

func TestP14_3TwoStores(t *testing.T) {
	d := newDisk(t)
	one, two := opened(t, d), opened(t, d)
	one.Save(text(90, 1))
	d.Trip(2, []bool{true, true}, -1)
	if two.Save(text(90, 2)) != api.ErrOff {
		t.Error("no crash")
	}
	d.Start()
	if !bytes.Equal(opened(t, d).State(), text(90, 1)) {
		t.Error("another store's Save is lost")
	}
}

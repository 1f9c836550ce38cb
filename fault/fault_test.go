package fault

import (
	"errors"
	"testing"

	"tryst/api"
)

func TestNumber(t *testing.T) {
	err := Wrap("outer", Wrap("inner", Of("sector", api.ErrTorn)))
	if Number(err) != api.ErrTorn || !errors.Is(err, api.ErrTorn) || errors.Is(err, api.ErrOff) {
		t.Error(err)
	}
	if err.Error() != "outer: inner: sector: torn" {
		t.Error(err)
	}
	if Of("x", api.OK) != nil || Wrap("x", nil) != nil || Number(nil) != api.OK {
		t.Error("nothing is no fault")
	}
}

package fault

import (
	"errors"
	"testing"

	"tryst/api"
)

func TestNumber(t *testing.T) {
	err := Wrap("outer", Wrap("inner", Of("sector", api.ErrTorn)))
	if Number(err) != api.ErrTorn || !errors.Is(err, api.ErrTorn) || errors.Is(err, api.ErrOff) {
		t.Error(err)
	}
	if err.Error() != "outer: inner: sector: torn" {
		t.Error(err)
	}
	if Of("x", api.OK) != nil || Wrap("x", nil) != nil || Number(nil) != api.OK {
		t.Error("nothing is no fault")
	}
}

func TestUnfit(t *testing.T) {
	if Unfit("x", nil, api.ErrPath) != nil || Number(Unfit("x", Of("y", api.ErrOpen), api.ErrPath)) != api.ErrPath || Number(Unfit("x", Of("y", api.ErrFull), api.ErrPath)) != api.ErrFull {
		t.Error("Unfit")
	}
}

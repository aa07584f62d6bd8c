package faults

import (
	"testing"

	"muslin/api"
)

func TestCaughtAnswersWhatIsDone(t *testing.T) {
	got, err := Caught(func() string {
		Demand(true, api.ErrLong)
		return "done"
	})
	if got != "done" || err != api.OK {
		t.Errorf("what was done answers %q, %d", got, err)
	}
}

func TestCaughtAnswersTheFirstFault(t *testing.T) {
	deep := func() {
		Demand(true, api.ErrLong)
		Demand(false, api.ErrState)
		Demand(false, api.ErrRange)
	}
	list, err := Caught(func() []int {
		deep()
		return []int{1}
	})
	if list != nil || err != api.ErrState {
		t.Errorf("a fault answers %v, %d, not nothing and %d", list, err, api.ErrState)
	}
}

func TestCaughtWithinAnother(t *testing.T) {
	got, err := Caught(func() int {
		n, inner := Caught(func() int {
			Demand(false, api.ErrFuel)
			return 1
		})
		if n != 0 || inner != api.ErrFuel {
			t.Errorf("the inner fault answers %d, %d", n, inner)
		}
		return 2
	})
	if got != 2 || err != api.OK {
		t.Errorf("around a fault that was caught stands %d, %d", got, err)
	}
}

func TestOtherPanicsGoOn(t *testing.T) {
	for _, with := range []any{"other", api.ErrState, 1} {
		func() {
			defer func() {
				if got := recover(); got != with {
					t.Errorf("a panic with %v comes as %v", with, got)
				}
			}()
			Caught(func() int { panic(with) })
			t.Errorf("a panic with %v was answered", with)
		}()
	}
}

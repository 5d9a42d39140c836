package fan

import (
	"sync"

	"payoff/api"
	"payoff/table"
	"payoff/verify"
)

// refusal keeps the first error that it is told, and none behind it.
type refusal struct {
	once  sync.Once
	first api.Errno
}

func (r *refusal) tell(e api.Errno) {
	if e != api.OK {
		r.once.Do(func() { r.first = e })
	}
}

// refused tells the first that speaks against running a program over scenarios.
func refused(p api.Program, scenarios []api.Table, workers int) api.Errno {
	var told refusal
	if workers < 1 || workers > api.MaxWorkers {
		told.tell(api.ErrArg)
	}
	if len(scenarios) > api.MaxScen {
		told.tell(api.ErrLong)
	}
	// Too many scenarios are not gone through.
	if told.first == api.OK {
		_, _, _, e := verify.Verify(p)
		told.tell(e)
		for _, scenario := range scenarios {
			told.tell(table.Valid(scenario))
		}
	}
	return told.first
}

package build

import (
	"errors"

	"payoff/api"
	"payoff/check"
	"payoff/legs"
	"payoff/tree"
)

// work: what has been made of a text so far. Each stage leaves there what those behind it ask for.
type work struct {
	text    string
	deal    api.Deal
	size    api.Measure
	actions []api.Action
	cells   int
}

// stage does one thing of the work, and reports.
type stage func() api.Report

// through goes through stages until one of them reports an error; if none does, the deal's measure is reported.
func (w *work) through(stages []stage) api.Report {
	for _, next := range stages {
		if report := next(); !errors.Is(report.Err, api.OK) {
			return report
		}
	}
	return api.Report{Size: w.size}
}

// toActions: the stages from a text to its deal's actions. Whatever may be wrong with a text, one of these reports it.
func (w *work) toActions() []stage {
	return []stage{w.length, w.read, w.fit, w.measure, w.unroll}
}

func (w *work) length() api.Report {
	if len(w.text) > api.MaxSource {
		return api.Report{Err: api.ErrLong}
	}
	return api.Report{}
}

func (w *work) read() api.Report {
	deal, place, e := tree.Parse(w.text)
	if e != api.OK {
		return api.Report{Err: api.ErrSyntax, At: place}
	}
	w.deal = deal
	return api.Report{}
}

func (w *work) fit() api.Report {
	path, e := check.Check(w.deal)
	if e != api.OK {
		return api.Report{Err: api.ErrType, Path: path}
	}
	return api.Report{}
}

func (w *work) measure() api.Report {
	size, e := check.Measure(w.deal)
	if e != api.OK {
		return api.Report{Err: e}
	}
	if check.Within(size) != api.OK {
		return api.Report{Err: api.ErrLimit, Size: size}
	}
	w.size = size
	return api.Report{}
}

func (w *work) unroll() (r api.Report) {
	w.actions, w.cells, r.Err = legs.Unroll(w.deal)
	return r
}

package desk

import (
	"strconv"

	"payoff/api"
)

// faultWords: by the fault.
var faultWords = [...]string{
	api.NoFault:  "",
	api.Overflow: "overflow",
	api.DivZero:  "zero",
	api.NoObs:    "missing",
}

// each tells a line for each part of a list.
func each[T any](list []T, line func(T) string) []string {
	lines := make([]string, len(list))
	for n, part := range list {
		lines[n] = line(part)
	}
	return lines
}

// withNumbers puts numbers behind words, each behind a blank.
func withNumbers(words string, numbers ...int) string {
	for _, n := range numbers {
		words += " " + strconv.Itoa(n)
	}
	return words
}

func refused(e api.Errno) string { return withNumbers("refused", int(e)) }

func refusedAt(place int, e api.Errno) string {
	return withNumbers("place", place) + " " + refused(e)
}

// sized tells how many bytes something has.
func sized(name string, b []byte) string { return withNumbers(name, len(b)) + " bytes" }

// reported tells what is wrong with a deal's text.
func reported(name string, r api.Report) ([]string, api.Errno) {
	switch r.Err {
	case api.ErrLong:
		return []string{name + " too long"}, api.OK
	case api.ErrSyntax:
		return []string{withNumbers(name+" syntax", r.At)}, api.OK
	case api.ErrType:
		return []string{withNumbers(name+" type", r.Path...)}, api.OK
	case api.ErrLimit:
		return []string{measured(name+" limit", r.Size)}, api.OK
	}
	return nil, r.Err
}

func measured(words string, m api.Measure) string {
	return withNumbers(words, m.Depth, m.Horizon, m.Actions, m.Nodes, m.Cells, m.Names, m.Bytes)
}

func flowLine(f api.Flow) string { return withNumbers(strconv.Itoa(f.Day)+" "+f.Cur, f.Amount) }

func totalLine(t api.Total) string { return withNumbers(t.Cur, t.Amount) }

// totalLines tells sums, or that one of them has left the range.
func totalLines(totals []api.Total, fault api.Fault) []string {
	if fault != api.NoFault {
		return []string{faultWords[fault]}
	}
	return each(totals, totalLine)
}

func entryLine(entry api.Entry) string {
	return withNumbers(strconv.Itoa(entry.Day)+" "+entry.Name+" "+entry.Cur, entry.Amount)
}

func needLine(p api.Pair) string { return strconv.Itoa(p.V) + " " + p.Name }

func proofLine(p api.Proof) string {
	return withNumbers(withNumbers(withNumbers("stack", p.Stack)+" fuel", p.Fuel)+" back", p.Back)
}

func positionLine(p api.Position) string {
	line := withNumbers(p.Name+" since", p.Since)
	switch p.State {
	case api.Ended:
		return withNumbers(line+" ended on", p.Day)
	case api.Faulted:
		return withNumbers(line+" "+faultLine(p.Fault)+" on", p.Day)
	}
	return line + " running"
}

func outcomeLines(out api.Outcome) []string {
	return append(each(out.Flows, flowLine), endLine(out.Fault, out.Day))
}

// endLine tells how a run has ended.
func endLine(fault api.Fault, day int) string {
	if fault == api.NoFault {
		return "done"
	}
	return withNumbers(faultLine(fault)+" on day", day)
}

func faultLine(fault api.Fault) string { return "fault " + faultWords[fault] }

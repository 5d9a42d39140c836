package check_test

import (
	"math/rand"
	"testing"

	"payoff/api"
	"payoff/check"
	"payoff/legs"
)

// P811: what a deal's measure says of its actions.
func TestMeasuresForetellTheActions(t *testing.T) {
	t.Parallel()
	chance := rand.New(rand.NewSource(84))
	within := 0
	for within < 3000 {
		d := madeDeal(chance, 0, false)
		m, e := check.Measure(d)
		if e != api.OK || check.Within(m) != api.OK || m.Actions < 2 {
			continue
		}
		within++
		actions, cells, e := legs.Unroll(d)
		count, last := 0, 0
		for _, a := range actions {
			count += 2 + legs.Nodes(a.E)
			last = max(last, a.Day)
			for _, s := range a.Steps {
				count++
				if s.Kind != api.StepGive {
					count += legs.Nodes(s.E)
				}
			}
		}
		if e != api.OK || len(actions) != m.Actions || cells != m.Cells || count != m.Nodes || last > m.Horizon {
			t.Fatalf("%d actions, %d cells, %d nodes, last day %d, %d: %+v of %s", len(actions), cells, count, last, e, m, told(d))
		}
	}
}

package check_test

import (
	"math/rand"
	"reflect"
	"slices"
	"testing"

	"payoff/api"
	"payoff/check"
	"payoff/tree"
)

// told is a deal's text, for what a test says of it.
func told(d api.Deal) string {
	text, e := tree.Print(d)
	if e != api.OK {
		return "no deal"
	}
	return text
}

// hold holds the calls at a deal against the plain reading of the chapter.
func hold(t *testing.T, d api.Deal) bool {
	t.Helper()
	path, e := check.Check(d)
	wantPath, wantE := plainCheck(d)
	if !slices.Equal(path, wantPath) || e != wantE {
		t.Errorf("Check: %v, %d, want %v, %d of %s", path, e, wantPath, wantE, told(d))
		return false
	}
	measure, e := check.Measure(d)
	wantMeasure, wantE := plainMeasure(d)
	if measure != wantMeasure || e != wantE {
		t.Errorf("Measure: %+v, %d, want %+v, %d of %s", measure, e, wantMeasure, wantE, told(d))
		return false
	}
	return holdDays(t, d, wantE)
}

// holdDays asks for the days of each contract, and of paths about it that are no contract's.
func holdDays(t *testing.T, d api.Deal, wantE api.Errno) bool {
	t.Helper()
	if wantE != api.OK {
		return wantDays(t, d, []int{2}, 0, 0, wantE) && wantDays(t, d, nil, 0, 0, wantE)
	}
	content := wantDays(t, d, nil, 0, 0, api.ErrRange) && wantDays(t, d, []int{0}, 0, 0, api.ErrRange) &&
		wantDays(t, d, []int{1, 0}, 0, 0, api.ErrRange)
	plainDeal{d}.eachCon(func(path []int, first, last int) {
		c, _ := tree.At(d, path[1:])
		content = content && wantDays(t, d, path, first, last, api.OK) &&
			wantDays(t, d, under(path, -1), 0, 0, api.ErrRange) &&
			wantDays(t, d, under(path, len(c.Exprs)+len(c.Kids)), 0, 0, api.ErrRange)
		for i := range c.Exprs {
			content = content && wantDays(t, d, under(path, i), 0, 0, api.ErrRange) &&
				wantDays(t, d, append(under(path, i), 0), 0, 0, api.ErrRange)
		}
	})
	return content
}

func wantDays(t *testing.T, d api.Deal, path []int, first, last int, e api.Errno) bool {
	t.Helper()
	from, to, got := check.Days(d, path)
	if from != first || to != last || got != e {
		t.Errorf("Days(%v): %d, %d, %d, want %d, %d, %d of %s", path, from, to, got, first, last, e, told(d))
		return false
	}
	return true
}

// P801 to P807, P809: deals that fit, and deals of which most do not.
func TestDealsByChance(t *testing.T) {
	t.Parallel()
	chance := rand.New(rand.NewSource(81))
	for _, huge := range []bool{false, true} {
		for _, errs := range []int{0, 30, 100} {
			fits := 0
			for range 1000 {
				d := madeDeal(chance, errs, huge)
				if !hold(t, d) {
					return
				}
				if _, e := check.Check(d); e == api.OK {
					fits++
				}
			}
			if errs == 0 && fits < 1000 || fits < 150 || errs > 0 && fits > 850 {
				t.Errorf("%d deals fit, where the maker errs once in %d", fits, errs)
			}
		}
	}
}

// change sets one number, text or list of a value to something else, by chance.
func change(chance *rand.Rand, v reflect.Value) {
	switch v.Kind() {
	case reflect.Int:
		others := []int{-1, 0, 1, 2, 3, 4, 5, 7, 12, 13, 29, 30, 31, 99, 2024, 3660, stop, 1 << 40}
		v.SetInt(int64(others[chance.Intn(len(others))]))
	case reflect.String:
		others := []string{"", "a", "b", "f", "A", "B", "EUR", "deal", "x y"}
		v.SetString(others[chance.Intn(len(others))])
	case reflect.Struct:
		change(chance, v.Field(chance.Intn(v.NumField())))
	case reflect.Slice:
		list := reflect.MakeSlice(v.Type(), v.Len(), v.Len()+1)
		reflect.Copy(list, v)
		at := chance.Intn(v.Len() + 1)
		switch {
		case at < v.Len() && chance.Intn(8) > 0:
			change(chance, list.Index(at))
		case at < v.Len():
			list = reflect.AppendSlice(list.Slice3(0, at, at), list.Slice(at+1, v.Len()))
		case chance.Intn(2) == 0 && v.Len() > 0:
			list = reflect.Append(list, list.Index(chance.Intn(v.Len())))
		default:
			list = reflect.Append(list, reflect.Zero(v.Type().Elem()))
		}
		v.Set(list)
	}
}

// P801 to P807, P809, P812: deals of which something was changed; most are no deals then.
func TestChangedDeals(t *testing.T) {
	t.Parallel()
	chance := rand.New(rand.NewSource(82))
	count := map[api.Errno]int{}
	for range 12000 {
		d := madeDeal(chance, 0, chance.Intn(2) == 0)
		for range 1 + chance.Intn(2) {
			change(chance, reflect.ValueOf(&d).Elem())
		}
		if !hold(t, d) {
			return
		}
		_, e := check.Check(d)
		count[e]++
	}
	if count[api.OK] < 500 || count[api.ErrType] < 500 || count[api.ErrArg] < 500 {
		t.Errorf("%v", count)
	}
}

package check_test

import (
	"math/rand"
	"reflect"
	"slices"
	"testing"

	"payoff/api"
	"payoff/check"
)

// roomy copies a value; all of its lists have spare room then, with nothing in it.
func roomy(v reflect.Value) reflect.Value {
	copied := reflect.New(v.Type()).Elem()
	copied.Set(v)
	switch v.Kind() {
	case reflect.Struct:
		for i := range v.NumField() {
			copied.Field(i).Set(roomy(v.Field(i)))
		}
	case reflect.Slice:
		list := reflect.MakeSlice(v.Type(), 0, v.Len()+3)
		for i := range v.Len() {
			list = reflect.Append(list, roomy(v.Index(i)))
		}
		copied.Set(list)
	}
	return copied
}

// whole copies a value with its lists' spare room as a part of them.
func whole(v reflect.Value) reflect.Value {
	copied := reflect.New(v.Type()).Elem()
	copied.Set(v)
	switch v.Kind() {
	case reflect.Struct:
		for i := range v.NumField() {
			copied.Field(i).Set(whole(v.Field(i)))
		}
	case reflect.Slice:
		list := reflect.MakeSlice(v.Type(), 0, v.Cap())
		for i := range v.Cap() {
			list = reflect.Append(list, whole(v.Slice(0, v.Cap()).Index(i)))
		}
		copied.Set(list)
	}
	return copied
}

// P812, DOC.md: what is handed in is not changed, nor what lies in its spare room.
func TestWhatIsHandedInStaysAsItIs(t *testing.T) {
	chance := rand.New(rand.NewSource(85))
	for range 500 {
		made := reflect.ValueOf(madeDeal(chance, chance.Intn(2)*40, false))
		d := roomy(made).Interface().(api.Deal)
		path := roomy(reflect.ValueOf([]int{2, 0})).Interface().([]int)
		before, pathBefore := whole(reflect.ValueOf(d)).Interface(), whole(reflect.ValueOf(path)).Interface()
		check.Check(d)
		check.Measure(d)
		check.Days(d, path)
		check.Offsets(d, days(0, 3, 1), 1)
		check.Offsets(d, dates(d.Start, date(2199, 12, 31), 1, api.UnitDay, api.Following), 0)
		check.Offsets(d, dates(d.Start, d.Start, 1, api.UnitDay, api.Following), 0)
		after, pathAfter := whole(reflect.ValueOf(d)).Interface(), whole(reflect.ValueOf(path)).Interface()
		if !reflect.DeepEqual(before, after) || !reflect.DeepEqual(pathBefore, pathAfter) {
			t.Fatalf("%s has changed", told(d))
		}
	}
}

// P801, DOC.md: a path is new memory, and is the same whatever was asked ahead of it.
func TestPathsAreNewMemory(t *testing.T) {
	d := deal(t, "contract give give give give give give give pay(EUR, 1 + (2 + (3 + true)));")
	want := []int{2, 0, 0, 0, 0, 0, 0, 0, 0, 1, 1, 1}
	one, _ := check.Check(d)
	for i := range one[:cap(one)] {
		one[:cap(one)][i] = -1
	}
	check.Check(deal(t, "contract pay(EUR, true);"))
	two, e := check.Check(d)
	three, _ := check.Check(d)
	for i := range three[:cap(three)] {
		three[:cap(three)][i] = -1
	}
	if !slices.Equal(two, want) || e != api.ErrType {
		t.Errorf("%v, %d", two, e)
	}
}

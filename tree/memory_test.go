package tree_test

import (
	"math/rand"
	"reflect"
	"slices"
	"testing"

	"payoff/api"
	"payoff/tree"
)

// roomy gives a copy of a value all of whose lists have spare room, with marks in it.
func roomy[T any](v T) T {
	copied := reflect.New(reflect.TypeOf(v)).Elem()
	copied.Set(reflect.ValueOf(v))
	makeRoomy(copied)
	return copied.Interface().(T)
}

func makeRoomy(v reflect.Value) {
	switch v.Kind() {
	case reflect.Struct:
		for i := range v.NumField() {
			makeRoomy(v.Field(i))
		}
	case reflect.Slice:
		list := reflect.MakeSlice(v.Type(), v.Len(), v.Len()+3)
		reflect.Copy(list, v)
		for i := range v.Len() {
			makeRoomy(list.Index(i))
		}
		for i := v.Len(); i < list.Cap(); i++ {
			mark(list.Slice(0, list.Cap()).Index(i))
		}
		v.Set(list)
	}
}

func mark(v reflect.Value) {
	switch v.Kind() {
	case reflect.Struct:
		mark(v.Field(0))
	case reflect.Int:
		v.SetInt(77)
	case reflect.String:
		v.SetString("mark")
	}
}

// withRoom lengthens all lists of a value by their spare room.
func withRoom[T any](v T) T {
	copied := reflect.New(reflect.TypeOf(v)).Elem()
	copied.Set(reflect.ValueOf(v))
	lengthen(copied)
	return copied.Interface().(T)
}

func lengthen(v reflect.Value) {
	switch v.Kind() {
	case reflect.Struct:
		for i := range v.NumField() {
			lengthen(v.Field(i))
		}
	case reflect.Slice:
		list := reflect.MakeSlice(v.Type(), v.Cap(), v.Cap())
		reflect.Copy(list, v.Slice(0, v.Cap()))
		for i := range v.Cap() {
			lengthen(list.Index(i))
		}
		v.Set(list)
	}
}

// stretch is the memory of a list, spare room included.
type stretch struct{ from, to uintptr }

func stretches(v reflect.Value) []stretch {
	var all []stretch
	switch v.Kind() {
	case reflect.Struct:
		for i := range v.NumField() {
			all = append(all, stretches(v.Field(i))...)
		}
	case reflect.Slice:
		if v.Cap() > 0 {
			all = append(all, stretch{v.Pointer(), v.Pointer() + uintptr(v.Cap())*v.Type().Elem().Size()})
		}
		for i := range v.Len() {
			all = append(all, stretches(v.Index(i))...)
		}
	}
	return all
}

// wantApart: no two lists of these values share memory.
func wantApart(t *testing.T, values ...any) {
	t.Helper()
	var all []stretch
	for _, v := range values {
		all = append(all, stretches(reflect.ValueOf(v))...)
	}
	slices.SortFunc(all, func(a, b stretch) int { return int(int64(a.from) - int64(b.from)) })
	for i := 1; i < len(all); i++ {
		if all[i].from < all[i-1].to {
			t.Errorf("two lists share memory")
			return
		}
	}
}

// P709
func TestWhatIsHandedInStaysAsItIs(t *testing.T) {
	m := maker{rand.New(rand.NewSource(75))}
	for round := range 300 {
		given := m.deal()
		if round%2 == 1 {
			given.Body = con(m.Intn(14), given.Body, api.Con{Exprs: m.exprs(2, 2)}) // most are not valid
		}
		d, before := roomy(given), withRoom(roomy(given))
		path := roomy([]int{len(d.Body.Exprs), 0})
		tree.Print(d)
		tree.Valid(d)
		tree.Equal(d, roomy(given))
		tree.Equal(roomy(given), d)
		tree.Equal(d, d)
		tree.At(d, nil)
		tree.At(d, path)
		tree.PrintExpr(api.Expr{Op: api.XAdd, Kids: d.Body.Exprs})
		if !same(withRoom(d), before) || !same(withRoom(path), withRoom(roomy(path))) {
			t.Fatalf("%v has changed", given)
		}
	}
}

// P708, P709
func TestAnswersAreNewMemory(t *testing.T) {
	m := maker{rand.New(rand.NewSource(76))}
	for range 300 {
		d := roomy(m.deal())
		text, _ := tree.Print(d)
		one, _, _ := tree.Parse(text)
		two, _, _ := tree.Parse(text)
		all, _ := tree.At(d, nil)
		again, _ := tree.At(d, nil)
		values := []any{d, one, two, all, again}
		for child := range len(d.Body.Exprs) + len(d.Body.Kids) {
			c, _ := tree.At(d, []int{child})
			values = append(values, c)
		}
		x := m.expr(4)
		text, _ = tree.PrintExpr(x)
		first, _, _ := tree.ParseExpr(text)
		second, _, _ := tree.ParseExpr(text)
		wantApart(t, append(values, x, first, second)...)
		if !same(all, d.Body) || !same(one, d) || !same(first, x) {
			t.Fatal("not what was asked for")
		}
	}
}

// P708: lists that a deal made by hand has twice are not shared in what is answered.
func TestAtOfSharedLists(t *testing.T) {
	exprs := []api.Expr{x(api.XAdd, num(1), num(2))}
	exprs[0].Kids = append(exprs[0].Kids, exprs[0].Kids...)
	exprs = append(exprs, exprs[0])
	kid := api.Con{Exprs: exprs, Kids: []api.Con{{Exprs: exprs[:1]}}}
	kids := []api.Con{kid, kid, {Kids: []api.Con{kid, kid}}}
	d := dealOf(con(0, append(kids, con(0, kids...))...))
	c, e := tree.At(d, nil)
	if !same(c, d.Body) || e != api.OK {
		t.Fatal("not what was asked for")
	}
	wantApart(t, c)
}

package tests

import (
	"math"
	"reflect"
	"testing"
)

// The guard of promise 11 calls a function with arguments of all kinds, valid
// or not, and checks what the conventions say of every call: it does not
// panic, it changes no argument and reads nothing behind one, its results are
// new memory, and they are zero values if it fails.

const (
	firstFiller  = 987654321
	secondFiller = 0
	spareRoom    = 3
)

// roomy returns a deep copy of v in which each slice has spare capacity that
// holds the filler. Nil slices stay nil.
func roomy(v reflect.Value, filler int) reflect.Value {
	out := reflect.New(v.Type()).Elem()
	switch v.Kind() {
	case reflect.Slice:
		if v.IsNil() {
			return out
		}
		all := reflect.MakeSlice(v.Type(), v.Len()+spareRoom, v.Len()+spareRoom)
		for i := range v.Len() {
			all.Index(i).Set(roomy(v.Index(i), filler))
		}
		if v.Type().Elem().Kind() == reflect.Int {
			for i := v.Len(); i < all.Len(); i++ {
				all.Index(i).SetInt(int64(filler))
			}
		}
		out.Set(all.Slice(0, v.Len()))
	case reflect.Struct:
		for i := range v.NumField() {
			out.Field(i).Set(roomy(v.Field(i), filler))
		}
	default:
		out.Set(v)
	}
	return out
}

// spread returns v with the spare capacity of its slices as a part of them.
func spread(v reflect.Value) reflect.Value {
	out := reflect.New(v.Type()).Elem()
	switch v.Kind() {
	case reflect.Slice:
		if v.IsNil() {
			return out
		}
		all := v.Slice(0, v.Cap())
		out.Set(reflect.MakeSlice(v.Type(), all.Len(), all.Len()))
		for i := range all.Len() {
			out.Index(i).Set(spread(all.Index(i)))
		}
	case reflect.Struct:
		for i := range v.NumField() {
			out.Field(i).Set(spread(v.Field(i)))
		}
	default:
		out.Set(v)
	}
	return out
}

// memory is the room of one slice, with its spare capacity.
type memory struct{ from, to uintptr }

func (m memory) overlaps(o memory) bool { return m.from < o.to && o.from < m.to }

// memoryOf returns the rooms of all slices in v that have any.
func memoryOf(v reflect.Value) []memory {
	var rooms []memory
	switch v.Kind() {
	case reflect.Slice:
		if v.Cap() > 0 {
			from := v.Pointer()
			rooms = append(rooms, memory{from, from + uintptr(v.Cap())*v.Type().Elem().Size()})
		}
		for i := range v.Len() {
			rooms = append(rooms, memoryOf(v.Index(i))...)
		}
	case reflect.Struct:
		for i := range v.NumField() {
			rooms = append(rooms, memoryOf(v.Field(i))...)
		}
	}
	return rooms
}

func memoryOfAll(values []reflect.Value) []memory {
	var rooms []memory
	for _, v := range values {
		rooms = append(rooms, memoryOf(v)...)
	}
	return rooms
}

// alike compares deeply; a nil slice and an empty one are the same.
func alike(a, b reflect.Value) bool {
	switch a.Kind() {
	case reflect.Slice:
		if a.Len() != b.Len() {
			return false
		}
		for i := range a.Len() {
			if !alike(a.Index(i), b.Index(i)) {
				return false
			}
		}
		return true
	case reflect.Struct:
		for i := range a.NumField() {
			if !alike(a.Field(i), b.Field(i)) {
				return false
			}
		}
		return true
	}
	return a.Equal(b)
}

func allAlike(a, b []reflect.Value) bool {
	for i := range a {
		if !alike(a[i], b[i]) {
			return false
		}
	}
	return true
}

func isZero(v reflect.Value) bool { return alike(v, reflect.Zero(v.Type())) }

func shown(values []reflect.Value) []any {
	out := make([]any, len(values))
	for i, v := range values {
		out[i] = v.Interface()
	}
	return out
}

// callOnce calls f with copies of the arguments and checks that it changes
// none of them and that its results share no memory.
func callOnce(t *testing.T, name string, f reflect.Value, args []reflect.Value, filler int) []reflect.Value {
	t.Helper()
	own := make([]reflect.Value, len(args))
	before := make([]reflect.Value, len(args))
	for i, a := range args {
		own[i] = roomy(a, filler)
		before[i] = spread(own[i])
	}
	defer func() {
		if r := recover(); r != nil {
			t.Fatalf("%s%v panics: %v", name, shown(args), r)
		}
	}()
	results := f.Call(own)
	for i := range own {
		if !alike(spread(own[i]), before[i]) {
			t.Fatalf("%s%v changes argument %d", name, shown(args), i)
		}
	}
	given, made := memoryOfAll(own), memoryOfAll(results)
	for i, m := range made {
		for _, g := range given {
			if m.overlaps(g) {
				t.Fatalf("%s%v: a result shares memory with an argument", name, shown(args))
			}
		}
		for _, o := range made[:i] {
			if m.overlaps(o) {
				t.Fatalf("%s%v: two results share memory", name, shown(args))
			}
		}
	}
	return results
}

// guarded calls f, whose last result is a bool, twice and returns its results.
func guarded(t *testing.T, name string, f any, args []reflect.Value) []reflect.Value {
	t.Helper()
	v := reflect.ValueOf(f)
	first := callOnce(t, name, v, args, firstFiller)
	second := callOnce(t, name, v, args, secondFiller)
	if !allAlike(first, second) {
		t.Fatalf("%s%v: %v and then %v", name, shown(args), shown(first), shown(second))
	}
	last := len(first) - 1
	if first[last].Bool() {
		return first
	}
	for _, r := range first[:last] {
		if !isZero(r) {
			t.Fatalf("%s%v fails with %v", name, shown(args), shown(first))
		}
	}
	return first
}

func valuesOf(args []any) []reflect.Value {
	out := make([]reflect.Value, len(args))
	for i, a := range args {
		out[i] = reflect.ValueOf(a)
	}
	return out
}

// fails checks that a call with these arguments fails, with zero values.
func fails(t *testing.T, name string, f any, args ...any) {
	t.Helper()
	results := guarded(t, name, f, valuesOf(args))
	if results[len(results)-1].Bool() {
		t.Errorf("%s%v succeeds with %v", name, args, shown(results))
	}
}

// succeeds checks that a call with these arguments succeeds.
func succeeds(t *testing.T, name string, f any, args ...any) {
	t.Helper()
	results := guarded(t, name, f, valuesOf(args))
	if !results[len(results)-1].Bool() {
		t.Errorf("%s%v fails", name, args)
	}
}

// sweep calls f with all arguments that the pools of its types make.
func sweep(t *testing.T, name string, f any, pools map[reflect.Type][]reflect.Value) {
	t.Helper()
	kind := reflect.TypeOf(f)
	args := make([]reflect.Value, kind.NumIn())
	var fill func(i int)
	fill = func(i int) {
		if i == len(args) {
			guarded(t, name, f, args)
			return
		}
		pool := pools[kind.In(i)]
		if len(pool) == 0 {
			t.Fatalf("%s: no arguments of the type %v", name, kind.In(i))
		}
		for _, a := range pool {
			args[i] = a
			fill(i + 1)
		}
	}
	fill(0)
}

// pool adds values of one type to the pools.
func pool[T any](pools map[reflect.Type][]reflect.Value, values ...T) {
	for _, v := range values {
		r := reflect.ValueOf(v)
		pools[r.Type()] = append(pools[r.Type()], r)
	}
}

// anyInts are numbers at and beyond all bounds of chapter 1.
func anyInts() []int {
	return []int{math.MinInt, math.MinInt + 1, -61, -1, 0, 1, 2, 3, 6, 7, 8, 9, 59, 60, 61, 62, 1 << 32, math.MaxInt - 1, math.MaxInt}
}

// TestGuardFindsFaults checks the guard itself: without this, a guard that
// sees nothing would let everything pass.
func TestGuardFindsFaults(t *testing.T) {
	ints := func(n ...int) reflect.Value { return roomy(reflect.ValueOf(n), firstFiller) }
	a := ints(1, 2)
	before := spread(a)
	a.Slice(0, 3).Index(2).SetInt(5)
	if alike(spread(a), before) {
		t.Error("a write to spare capacity is not seen")
	}
	b := ints(1, 2)
	if m, n := memoryOf(b), memoryOf(b.Slice(2, 2)); len(m) != 1 || len(n) != 1 || !m[0].overlaps(n[0]) {
		t.Error("spare capacity that is handed out is not seen")
	}
	if m := memoryOf(reflect.ValueOf([][]int{{1}, {2}})); len(m) != 3 || m[1].overlaps(m[2]) {
		t.Error("separate slices overlap", m)
	}
	if isZero(ints(0)) || !isZero(ints()) || !isZero(reflect.ValueOf([]int(nil))) {
		t.Error("zero values are not told")
	}
}

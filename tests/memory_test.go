package tests

import (
	"reflect"
	"testing"
)

// span is the memory of a slice, with its spare capacity.
type span struct {
	start uintptr
	end   uintptr
}

func (s span) overlaps(other span) bool {
	return s.start < other.end && other.start < s.end
}

// spansOf returns the memory of all slices of a value.
func spansOf(v reflect.Value) []span {
	var spans []span
	switch v.Kind() {
	case reflect.Slice:
		whole := v.Slice(0, v.Cap())
		size := uintptr(v.Cap()) * v.Type().Elem().Size()
		if size > 0 {
			spans = append(spans, span{v.Pointer(), v.Pointer() + size})
		}
		for i := range whole.Len() {
			spans = append(spans, spansOf(whole.Index(i))...)
		}
	case reflect.Struct:
		for i := range v.NumField() {
			spans = append(spans, spansOf(v.Field(i))...)
		}
	}
	return spans
}

// withSpare returns a slice with the same elements and with spare capacity.
func withSpare(v reflect.Value) reflect.Value {
	slice := reflect.MakeSlice(v.Type(), v.Len(), v.Len()+3)
	reflect.Copy(slice, v)
	return slice
}

// upToCapacity returns a slice with the elements up to the capacity.
func upToCapacity(v reflect.Value) reflect.Value {
	slice := reflect.MakeSlice(v.Type(), v.Cap(), v.Cap())
	reflect.Copy(slice, v.Slice(0, v.Cap()))
	return slice
}

// copyOf copies a value and all its slices, each of them by a function.
func copyOf(v reflect.Value, copySlice func(v reflect.Value) reflect.Value) reflect.Value {
	copied := reflect.New(v.Type()).Elem()
	switch v.Kind() {
	case reflect.Slice:
		slice := copySlice(v)
		for i := range slice.Len() {
			slice.Index(i).Set(copyOf(slice.Index(i), copySlice))
		}
		copied.Set(slice)
	case reflect.Struct:
		for i := range v.NumField() {
			copied.Field(i).Set(copyOf(v.Field(i), copySlice))
		}
	default:
		copied.Set(v)
	}
	return copied
}

// expectUnchanged calls a function with arguments whose slices have spare capacity, and expects that the call changes
// none of them. It returns the results and the memory of the arguments.
func expectUnchanged(t *testing.T, what string, function any, args ...any) (results []reflect.Value, used []span) {
	t.Helper()
	f := reflect.ValueOf(function)
	var given, before []reflect.Value
	for i, arg := range args {
		v := reflect.Zero(f.Type().In(i))
		if arg != nil {
			v = reflect.ValueOf(arg)
		}
		v = copyOf(v, withSpare)
		given = append(given, v)
		before = append(before, copyOf(v, upToCapacity))
		used = append(used, spansOf(v)...)
	}
	results = f.Call(given)
	for i, v := range given {
		if !reflect.DeepEqual(copyOf(v, upToCapacity).Interface(), before[i].Interface()) {
			t.Errorf("%s changes its argument %d", what, i)
		}
	}
	return results, used
}

// expectFresh calls a function as expectUnchanged does. It also expects that no slice of the results shares memory
// with an argument or with another slice of the results.
func expectFresh(t *testing.T, what string, function any, args ...any) {
	t.Helper()
	results, used := expectUnchanged(t, what, function, args...)
	shown := 0
	for _, result := range results {
		for _, s := range spansOf(result) {
			shown++
			for _, other := range used {
				if s.overlaps(other) {
					t.Errorf("%s: a slice of the result shares memory with an argument or with another slice", what)
				}
			}
			used = append(used, s)
		}
	}
	if shown == 0 {
		t.Errorf("%s has an empty result, which shows nothing about memory", what)
	}
}

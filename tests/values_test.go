package tests

import (
	"reflect"
)

// The functions here take values of all the program's types: numbers, texts,
// bools, and structs and lists of these.

// filled answers a value of that type whose numbers are all 77.
func filled(kind reflect.Type) reflect.Value {
	v := reflect.New(kind).Elem()
	switch kind.Kind() {
	case reflect.Int64:
		v.SetInt(77)
	case reflect.Bool:
		v.SetBool(true)
	case reflect.String:
		v.SetString("77")
	case reflect.Struct:
		for i := range kind.NumField() {
			v.Field(i).Set(filled(kind.Field(i).Type))
		}
	case reflect.Slice:
		v = reflect.Append(v, filled(kind.Elem()))
	}
	return v
}

// remade goes through a value and makes each list of it anew.
func remade(v reflect.Value, list func(v reflect.Value) reflect.Value) reflect.Value {
	out := reflect.New(v.Type()).Elem()
	out.Set(v)
	switch v.Kind() {
	case reflect.Struct:
		for i := range v.NumField() {
			out.Field(i).Set(remade(v.Field(i), list))
		}
	case reflect.Slice:
		out.Set(list(v))
	}
	return out
}

// withRoom has filled spare room behind each list, also behind empty ones.
func withRoom(v reflect.Value) reflect.Value {
	return remade(v, func(l reflect.Value) reflect.Value {
		out := reflect.MakeSlice(l.Type(), 0, l.Len()+3)
		for i := range l.Len() {
			out = reflect.Append(out, withRoom(l.Index(i)))
		}
		for range 3 {
			out = reflect.Append(out, filled(l.Type().Elem()))
		}
		return out.Slice(0, l.Len())
	})
}

// withItsRoom answers a copy in which each list reaches over its spare room.
func withItsRoom(v reflect.Value) reflect.Value {
	return remade(v, func(l reflect.Value) reflect.Value {
		out := reflect.MakeSlice(l.Type(), 0, l.Cap())
		for i := range l.Cap() {
			out = reflect.Append(out, withItsRoom(l.Slice(0, l.Cap()).Index(i)))
		}
		return out
	})
}

// kept answers a copy in which empty lists are all nil.
func kept(v reflect.Value) reflect.Value {
	return remade(v, func(l reflect.Value) reflect.Value {
		out := reflect.Zero(l.Type())
		for i := range l.Len() {
			out = reflect.Append(out, kept(l.Index(i)))
		}
		return out
	})
}

// spoiled writes over all memory of a value's lists.
func spoiled(v reflect.Value) {
	remade(v, func(l reflect.Value) reflect.Value {
		l = l.Slice(0, l.Cap())
		for i := range l.Len() {
			spoiled(l.Index(i))
			l.Index(i).Set(filled(l.Type().Elem()))
		}
		return l
	})
}

// areasIn tells where the lists of a value lie.
func areasIn(v reflect.Value) []area {
	var areas []area
	remade(v, func(l reflect.Value) reflect.Value {
		if l.Cap() > 0 {
			from := l.Pointer()
			areas = append(areas, area{from: from, to: from + uintptr(l.Cap())*l.Type().Elem().Size()})
		}
		for i := range l.Len() {
			areas = append(areas, areasIn(l.Index(i))...)
		}
		return l
	})
	return areas
}

func each(l []reflect.Value, change func(v reflect.Value) reflect.Value) []reflect.Value {
	var out []reflect.Value
	for _, v := range l {
		out = append(out, change(v))
	}
	return out
}

func sameValues(a []reflect.Value, b []reflect.Value) bool {
	if len(a) != len(b) {
		return false
	}
	for i := range a {
		if !reflect.DeepEqual(a[i].Interface(), b[i].Interface()) {
			return false
		}
	}
	return true
}

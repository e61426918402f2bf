package tests

import (
	"reflect"
	"testing"

	"loop.example/g00644/impl"
)

type namedCall struct {
	name string
	call func() []any
}

func codeCalls() []namedCall {
	var list []namedCall
	for _, n := range anyNumbers() {
		list = append(list,
			namedCall{"CodeWord", func() []any { return []any{impl.CodeWord(n)} }},
			namedCall{"Parity", func() []any { return []any{impl.Parity(n)} }})
	}
	for _, s := range anyTexts() {
		list = append(list,
			namedCall{"NameOK", func() []any { return []any{impl.NameOK(s)} }},
			namedCall{"CodeOf", func() []any { return []any{impl.CodeOf(s)} }})
	}
	return list
}

func textCalls() []namedCall {
	var list []namedCall
	for _, s := range anyTexts() {
		list = append(list,
			namedCall{"XorOf", func() []any { return []any{impl.XorOf(s)} }},
			namedCall{"HexOf", func() []any { return []any{impl.HexOf(s)} }},
			namedCall{"BytesOf", func() []any { t, code := impl.BytesOf(s); return []any{t, code} }})
		for _, n := range anyNumbers() {
			list = append(list, namedCall{"PutWord", func() []any { t, code := impl.PutWord(s, n); return []any{t, code} }})
		}
	}
	return list
}

func cursorCalls() []namedCall {
	var list []namedCall
	for _, c := range anyCursors() {
		list = append(list,
			namedCall{"TakeByte", func() []any { x, n, code := impl.TakeByte(c); return []any{x, n, code} }},
			namedCall{"TakeWord", func() []any { x, n, code := impl.TakeWord(c); return []any{x, n, code} }})
		for _, n := range anyNumbers() {
			list = append(list, namedCall{"TakeBytes", func() []any { x, t, code := impl.TakeBytes(c, n); return []any{x, t, code} }})
		}
	}
	return list
}

// Each call is made twice, the second time in the other order, so that all calls lie between the first two, and other ones ahead of each.
func TestPromise1(t *testing.T) {
	calls := append(append(codeCalls(), textCalls()...), cursorCalls()...)
	first := make([][]any, len(calls))
	for i, c := range calls {
		answers, panicked := caught(c.call)
		if panicked {
			t.Fatal(c.name, "panics:", answers)
		}
		first[i] = answers
	}
	for i := len(calls) - 1; i >= 0; i-- {
		answers, panicked := caught(calls[i].call)
		if panicked || !reflect.DeepEqual(answers, first[i]) {
			t.Fatal(calls[i].name, "answers", short(answers), "after", short(first[i]))
		}
	}
}

package events

import (
	"fmt"
	"testing"

	"casement/markup"
	"casement/tree"
)

// read a markup.
func read(t *testing.T, text string) *tree.Tree {
	t.Helper()
	d, err := markup.Read(text)
	if err != nil {
		t.Fatal(err)
	}
	return d
}

// click hears clicks, if nothing else is said.
func click(x Ear) Ear {
	if x.Name == "" {
		x.Name = "click"
	}
	return x
}

// earsOf a list, each of which hears clicks, if nothing else is said.
func earsOf(t *testing.T, list ...Ear) *Ears {
	t.Helper()
	e := New()
	for k, x := range list {
		if got := e.Add(click(x)); got != k {
			t.Fatalf("the number of %+v: %d, want %d", x, got, k)
		}
	}
	return e
}

// sent: what a sending of a click answers, as a text.
func sent(e *Ears, d *tree.Tree, id int, rises bool) string {
	return fmt.Sprint(e.Send(d, id, "click", rises))
}

// holdSent: what a sending of a click answers.
func holdSent(t *testing.T, e *Ears, d *tree.Tree, id int, rises bool, want string) {
	t.Helper()
	if got := sent(e, d, id, rises); got != want {
		t.Errorf("to %d, rises %v: %s, want %s", id, rises, got, want)
	}
}

package message_test

import (
	"math"
	"testing"

	"turnpike/message"
)

// 12.1: the reasons of the list, and none of every other number.
func TestReason(t *testing.T) {
	known := reasons()
	if len(known) != 39 {
		t.Fatal("the list has", len(known))
	}
	for status := -1100; status <= 1100; status++ {
		if s := message.Reason(status); s != known[status] {
			t.Errorf("Reason(%d): %q; want %q", status, s, known[status])
		}
	}
	for _, status := range []int{math.MinInt, math.MaxInt, 1<<32 + 200, 1<<16 + 404, 200 - 1<<32} {
		if s := message.Reason(status); s != "" {
			t.Errorf("Reason(%d): %q", status, s)
		}
	}
}

// 12.1.
func TestBodyless(t *testing.T) {
	numbers := []int{math.MinInt, math.MaxInt, 1<<32 + 204}
	for status := -700; status <= 700; status++ {
		numbers = append(numbers, status)
	}
	for _, method := range []string{"", "GET", "HEAD", "head", "Head", "HEAD ", "CONNECT", "connect", "CONNECTS", "POST", "OPTIONS"} {
		for _, status := range numbers {
			if got := message.Bodyless(method, status); got != modelBodyless(method, status) {
				t.Errorf("Bodyless(%q, %d): %v", method, status, got)
			}
		}
	}
}

// 12.1.
func TestInterim(t *testing.T) {
	for status := -700; status <= 700; status++ {
		want := status >= 100 && status < 200 && status != 101
		if got := message.Interim(status); got != want {
			t.Errorf("Interim(%d): %v", status, got)
		}
	}
	for _, status := range []int{math.MinInt, math.MaxInt, 1<<32 + 100} {
		if message.Interim(status) {
			t.Errorf("Interim(%d)", status)
		}
	}
}

package ratio_test

import (
	"testing"

	"nacelle/api"
	"nacelle/ratio"
)

func TestOf(t *testing.T) {
	for n := -30; n <= 30; n++ {
		for divisor := -30; divisor <= 30; divisor++ {
			if divisor == 0 {
				continue
			}
			got := ratio.Of(n, divisor)
			if got.Den <= 0 || got.Num*divisor != n*got.Den {
				t.Errorf("Of %v and %v: got %v", n, divisor, got)
			}
			for common := 2; common <= got.Den; common++ {
				if got.Num%common == 0 && got.Den%common == 0 {
					t.Errorf("Of %v and %v: got %v, not in lowest terms", n, divisor, got)
				}
			}
		}
	}
	if got := ratio.Of(6000000000, 4000000000); got != (api.Ratio{Num: 3, Den: 2}) {
		t.Errorf("Of great numbers: got %v", got)
	}
}

func TestFloor(t *testing.T) {
	for n := -30; n <= 30; n++ {
		for d := 1; d <= 30; d++ {
			got := ratio.Floor(ratio.Of(n, d))
			if got*d > n || (got+1)*d <= n {
				t.Errorf("Floor of %v and %v: got %v", n, d, got)
			}
		}
	}
}

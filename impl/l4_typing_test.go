package impl

import (
	"errors"
	"testing"
)

// The place where types do not fit is in no result, so that this test, unlike those in the folder tests, looks into the package.
func TestPlaceWhereTypesDoNotFit(t *testing.T) {
	for text, place := range map[string]int{
		"1 call":                         1,
		"dup call":                       1,
		"1 2 3 [ ] +":                    5,
		"[ 1 call ]":                     2,
		"[ ] [ 2 1 call ]":               5,
		"7 [ ] [ 8 [ [ ] 9 call ] ] 1":   9,
		"[ 1 ] [ 2 3 ] if":               7,
		"[ [ ] [ ] dip 1 + ] [ 1 call ]": 7,
	} {
		p, ok := ReadProg(text)
		if !ok {
			t.Fatal(text)
		}
		_, err := effectOfParts(p)
		var m misfit
		if !errors.As(err, &m) || m.place != place {
			t.Fatalf("%s: %v, not at word %d", text, err, place)
		}
	}
	if _, err := effectOfParts(nil); err != nil {
		t.Fatal(err)
	}
}

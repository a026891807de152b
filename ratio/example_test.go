package ratio_test

import (
	"fmt"

	"evergreen/ratio"
)

// Example is the example of README.md.
func Example() {
	a, e := ratio.Parse("1/6")
	b, e := ratio.Make(4, -12)
	sum, e := ratio.Add(a, b)
	text, e := ratio.Print(sum)
	fmt.Println(text, e)
	rounded, e := ratio.Round(sum, 10)
	fmt.Println(rounded, ratio.Compare(rounded, sum), ratio.Floor(sum), e)
	_, e = ratio.Parse("2/4")
	fmt.Println(e)
	// Output:
	// -1/6 0
	// {-1 5} -1 -1 0
	// 30
}

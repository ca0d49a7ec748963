"""Promise 7, its first sentence: li_even."""

import unittest

from evenlight.light import li_even


def even_by_words(value, behind):
    if behind == 0:
        return 255
    quotient = (255 * value + behind // 2) // behind
    return 255 if quotient > 255 else quotient


class EvenTest(unittest.TestCase):
    def test_shares_of_what_lies_behind(self):
        self.assertEqual(li_even([0, 50, 100, 150, 200], [200] * 5), [0, 0, 64, 128, 191, 255])

    def test_each_with_its_own(self):
        self.assertEqual(li_even([10, 10, 10], [10, 20, 40]), [0, 255, 128, 64])

    def test_x_and_b_are_not_mixed_up(self):
        self.assertEqual(li_even([100], [200]), [0, 128])
        self.assertEqual(li_even([200], [100]), [0, 255])

    def test_rounding_by_half_of_b_rounded_down(self):
        # 255 / 2 is 127 and a half, 255 / 3 is 85, 255 / 7 is 36 and three sevenths, 510 / 7 is 72 and six sevenths.
        self.assertEqual(li_even([1, 1, 1, 2], [2, 3, 7, 7]), [0, 128, 85, 36, 73])
        # 255 * 13 + 77 is 22 * 154 + 4; 255 * 1 + 127 is less than 2 * 255.
        self.assertEqual(li_even([13, 1], [154, 255]), [0, 22, 1])

    def test_b_of_0_is_white(self):
        self.assertEqual(li_even([0, 1, 128, 255], [0] * 4), [0] + [255] * 4)

    def test_b_of_1(self):
        self.assertEqual(li_even([0, 1, 2, 255], [1] * 4), [0, 0, 255, 255, 255])

    def test_b_of_255_changes_nothing(self):
        every = list(range(256))
        self.assertEqual(li_even(every, [255] * 256), [0] + every)

    def test_lighter_than_what_lies_behind_is_white(self):
        self.assertEqual(li_even([101, 102, 255, 2, 255], [100, 100, 100, 1, 254]), [0] + [255] * 5)

    def test_alike_is_white_and_black_is_black(self):
        every = list(range(1, 256))
        self.assertEqual(li_even(every, every), [0] + [255] * 255)
        self.assertEqual(li_even([0] * 255, every), [0] + [0] * 255)

    def test_each_pair_of_bytes_as_the_words_tell(self):
        x = [place // 256 for place in range(65536)]
        b = [place % 256 for place in range(65536)]
        self.assertEqual(li_even(x, b), [0] + [even_by_words(value, behind) for value, behind in zip(x, b)])


class NumberTest(unittest.TestCase):
    def test_none(self):
        self.assertEqual(li_even([], []), [0])

    def test_most_are_answered(self):
        self.assertEqual(li_even([3] * 65536, [6] * 65536), [0] + [128] * 65536)

    def test_more_are_refused(self):
        for n in (65537, 70000):
            self.assertEqual(li_even([3] * n, [6] * n), [-2])
            self.assertEqual(li_even([3] * n, []), [-2])


if __name__ == "__main__":
    unittest.main()

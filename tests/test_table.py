"""Promise 8, its second sentence: li_table."""

import random
import unittest

from evenlight.light import li_table

EVERY = list(range(256))


class TableTest(unittest.TestCase):
    def test_numbers_of_the_table(self):
        table = [(value * 3 + 1) % 256 for value in EVERY]
        self.assertEqual(li_table([0, 1, 2, 85, 254, 255], table), [0, 1, 4, 7, 0, 251, 254])

    def test_first_and_last_of_the_table(self):
        table = [9] + [7] * 254 + [8]
        self.assertEqual(li_table([255, 0, 1, 254], table), [0, 8, 9, 7, 7])

    def test_table_of_each_byte_by_itself_changes_nothing(self):
        x = [200, 3, 3, 255, 0]
        self.assertEqual(li_table(x, EVERY), [0] + x)

    def test_light_turned_about(self):
        self.assertEqual(li_table([0, 1, 100, 255], EVERY[::-1]), [0, 255, 254, 155, 0])

    def test_table_of_one_value(self):
        for value in (0, 128, 255):
            self.assertEqual(li_table(EVERY, [value] * 256), [0] + [value] * 256)

    def test_x_and_t_are_not_mixed_up(self):
        # Both have 256 numbers here: x draws from t, not t from x.
        x = [5] * 255 + [6]
        t = [(value * 11 + 40) % 256 for value in EVERY]
        self.assertEqual(li_table(x, t), [0] + [95] * 255 + [106])

    def test_drawn_from_the_table_once(self):
        # A number of the table is not looked up again.
        self.assertEqual(li_table([0, 1, 2], [1, 2, 3] + [4] * 253), [0, 1, 2, 3])

    def test_one_list_as_both(self):
        both = EVERY[1:] + [0]
        self.assertEqual(li_table(both, both), [0] + EVERY[2:] + [0, 1])

    def test_lists_as_the_words_tell(self):
        rng = random.Random(20)
        for n in (1, 2, 255, 256, 257, 5000):
            x = [rng.randrange(256) for place in range(n)]
            t = [rng.randrange(256) for place in range(256)]
            told = [0]
            for value in x:
                told.append(t[value])
            self.assertEqual(li_table(x, t), told)


class NumberTest(unittest.TestCase):
    def test_none(self):
        self.assertEqual(li_table([], EVERY), [0])

    def test_most_are_answered(self):
        self.assertEqual(li_table([3] * 65536, EVERY[::-1]), [0] + [252] * 65536)
        self.assertEqual(li_table(EVERY * 256, EVERY[::-1]), [0] + EVERY[::-1] * 256)

    def test_more_are_refused(self):
        for n in (65537, 65538, 70000):
            self.assertEqual(li_table([3] * n, EVERY), [-2])
            self.assertEqual(li_table([3] * n, []), [-2])


if __name__ == "__main__":
    unittest.main()
